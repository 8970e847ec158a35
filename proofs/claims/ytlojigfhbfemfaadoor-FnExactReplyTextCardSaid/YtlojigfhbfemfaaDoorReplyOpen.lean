/-
  Replies that were handed in, opened.
-/
import Derived.Test.YtlojigfhbfemfaaDoorDeepOpen
import Derived.Test.YtlojigfhbfemfaaDoorRowReply
namespace Go.Proofs.YtlojigfhbfemfaaDoor.repo
open Go.RowKit Go.Deep
open Go.Proofs.YtlojigfhbfemfaaDoor.deep
set_option linter.unusedVariables false

theorem len3 {l : List Value} (h : l.length = 3) : ∃ v0 v1 v2, l = [v0, v1, v2] := by
  match l, h with
  | [v0, v1, v2], _ => exact ⟨v0, v1, v2, rfl⟩
theorem len6 {l : List Value} (h : l.length = 6) : ∃ v0 v1 v2 v3 v4 v5, l = [v0, v1, v2, v3, v4, v5] := by
  match l, h with
  | [v0, v1, v2, v3, v4, v5], _ => exact ⟨v0, v1, v2, v3, v4, v5, rfl⟩
theorem cells64 : Tryd.prog.cellsOf 2 = 1 := by kernel_rfl
theorem cells_hd : Tryd.prog.cellsOf 41 = 3 := by kernel_rfl
theorem cells_sh : Tryd.prog.cellsOf 42 = 1 := by kernel_rfl
theorem cells_rp : Tryd.prog.cellsOf 44 = 6 := by kernel_rfl
set_option maxRecDepth 100000 in
theorem open_hd {H : Type} {enc : TypeId × Value → H} {W : World} (m : Nat) (cs : List Value) (z : DataW H × List MemPlace) (hl : cs.length = 3) (h : DataW.trod enc Tryd.prog W 0 (fun _ => true) true m 41 cs = some z) : ∃ x, Plain chd 0 W cs x := by
  obtain ⟨_, q, hf⟩ := open_struct Tryd.underlying41 h
  obtain ⟨v0, v1, v2, rfl⟩ := len3 hl
  obtain ⟨z0, g0⟩ := hf 0 _ rfl
  obtain ⟨a0, e0, _, _⟩ := DataW.trod_int Tryd.underlying2 g0
  have e0' : List.take 1 (List.drop 0 [v0, v1, v2]) = [.int .i64 a0] := by rw [← cells64]; exact e0
  obtain ⟨z1, g1⟩ := hf 1 _ rfl
  obtain ⟨a1, e1, _, _⟩ := DataW.trod_int Tryd.underlying2 g1
  have e1' : List.take 1 (List.drop 1 [v0, v1, v2]) = [.int .i64 a1] := by rw [← cells64]; exact e1
  obtain ⟨z2, g2⟩ := hf 2 _ rfl
  obtain ⟨a2, e2, _, _⟩ := DataW.trod_int Tryd.underlying2 g2
  have e2' : List.take 1 (List.drop 2 [v0, v1, v2]) = [.int .i64 a2] := by rw [← cells64]; exact e2
  simp at e0' e1' e2'
  subst e0' e1' e2'
  exact ⟨(a0, a1, a2), rfl⟩
set_option maxRecDepth 100000 in
theorem open_rp {H : Type} {enc : TypeId × Value → H} {W : World} (m : Nat) (cs : List Value) (z : DataW H × List MemPlace) (hl : cs.length = 6) (h : DataW.trod enc Tryd.prog W 0 (fun _ => true) true m 44 cs = some z) : ∃ x, RepE 0 W cs x := by
  obtain ⟨_, q, hf⟩ := open_struct Tryd.underlying44 h
  obtain ⟨v0, v1, v2, v3, v4, v5, rfl⟩ := len6 hl
  obtain ⟨z0, g0⟩ := hf 0 _ rfl
  obtain ⟨z1, g1⟩ := hf 1 _ rfl
  obtain ⟨z2, g2⟩ := hf 2 _ rfl
  obtain ⟨z3, g3⟩ := hf 3 _ rfl
  have g0' : DataW.trod enc Tryd.prog W 0 (fun _ => true) true q 2 (List.take 1 (List.drop 0 [v0, v1, v2, v3, v4, v5])) = some z0 := by rw [← cells64]; exact g0
  have g1' : DataW.trod enc Tryd.prog W 0 (fun _ => true) true q 2 (List.take 1 (List.drop 1 [v0, v1, v2, v3, v4, v5])) = some z1 := by rw [← cells64]; exact g1
  have g2' : DataW.trod enc Tryd.prog W 0 (fun _ => true) true q 41 (List.take 3 (List.drop 2 [v0, v1, v2, v3, v4, v5])) = some z2 := by rw [← cells_hd]; exact g2
  have g3' : DataW.trod enc Tryd.prog W 0 (fun _ => true) true q 42 (List.take 1 (List.drop 5 [v0, v1, v2, v3, v4, v5])) = some z3 := by rw [← cells_sh]; exact g3
  obtain ⟨a0, e0, _, _⟩ := DataW.trod_int Tryd.underlying2 g0'
  obtain ⟨a1, e1, _, _⟩ := DataW.trod_int Tryd.underlying2 g1'
  obtain ⟨x2, e2⟩ := open_hd (H := H) _ _ _ rfl g2'
  simp at e0 e1 g3'
  have e2' : [v2, v3, v4] = chd x2 := e2
  simp [chd] at e2'
  obtain ⟨s2, s3, s4⟩ := e2'
  obtain ⟨hs, hr⟩ := open_row (E := Plain chd) Tryd.underlying42 cells_hd (by decide) (fun m cs z hl hz => open_hd m cs z hl hz) g3'
  subst e0 e1 s2 s3 s4
  exact ⟨⟨a0, a1, x2.1, x2.2.1, x2.2.2, hs⟩, v5, rfl, hr⟩
end Go.Proofs.YtlojigfhbfemfaaDoor.repo
