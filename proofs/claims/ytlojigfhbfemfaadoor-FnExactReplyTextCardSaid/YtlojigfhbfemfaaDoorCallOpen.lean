/-
  Calls that were handed in, opened.
-/
import Derived.Test.YtlojigfhbfemfaaDoorDeepOpen
namespace Go.Proofs.YtlojigfhbfemfaaDoor.call
open Go.RowKit Go.Deep
open Go.Proofs.YtlojigfhbfemfaaDoor.deep
set_option linter.unusedVariables false

/-- a call's nine numbers -/
structure CallD where
  q0 : Int
  q1 : Int
  q2 : Int
  q3 : Int
  q4 : Int
  q5 : Int
  q6 : Int
  q7 : Int
  q8 : Int
def ccall (c : CallD) : List Value := [.int .i64 c.q0, .int .i64 c.q1, .int .i64 c.q2, .int .i64 c.q3, .int .i64 c.q4, .int .i64 c.q5, .int .i64 c.q6, .int .i64 c.q7, .int .i64 c.q8]
theorem lenr2 {l : List Value} (h : l.length = 2) : ∃ v0 v1, l = [v0, v1] := by
  match l, h with
  | [v0, v1], _ => exact ⟨v0, v1, rfl⟩
theorem len9 {l : List Value} (h : l.length = 9) : ∃ v0 v1 v2 v3 v4 v5 v6 v7 v8, l = [v0, v1, v2, v3, v4, v5, v6, v7, v8] := by
  match l, h with
  | [v0, v1, v2, v3, v4, v5, v6, v7, v8], _ => exact ⟨v0, v1, v2, v3, v4, v5, v6, v7, v8, rfl⟩
theorem cells64 : Tryd.prog.cellsOf 2 = 1 := by kernel_rfl
theorem cells_rf : Tryd.prog.cellsOf 23 = 2 := by kernel_rfl
theorem cells_cl : Tryd.prog.cellsOf 29 = 9 := by kernel_rfl
set_option maxRecDepth 100000 in
theorem open_rf {H : Type} {enc : TypeId × Value → H} {W : World} (m : Nat) (cs : List Value) (z : DataW H × List MemPlace) (hl : cs.length = 2) (h : DataW.trod enc Tryd.prog W 0 (fun _ => true) true m 23 cs = some z) : ∃ a b, cs = [.int .i64 a, .int .i64 b] := by
  obtain ⟨_, q, hf⟩ := open_struct Tryd.underlying23 h
  obtain ⟨v0, v1, rfl⟩ := lenr2 hl
  obtain ⟨z0, g0⟩ := hf 0 _ rfl
  obtain ⟨a0, e0, _, _⟩ := DataW.trod_int Tryd.underlying2 g0
  have e0' : List.take 1 (List.drop 0 [v0, v1]) = [.int .i64 a0] := by rw [← cells64]; exact e0
  obtain ⟨z1, g1⟩ := hf 1 _ rfl
  obtain ⟨a1, e1, _, _⟩ := DataW.trod_int Tryd.underlying2 g1
  have e1' : List.take 1 (List.drop 1 [v0, v1]) = [.int .i64 a1] := by rw [← cells64]; exact e1
  simp at e0' e1'
  subst e0' e1'
  exact ⟨a0, a1, rfl⟩
set_option maxRecDepth 100000 in
theorem open_cl {H : Type} {enc : TypeId × Value → H} {W : World} (m : Nat) (cs : List Value) (z : DataW H × List MemPlace) (hl : cs.length = 9) (h : DataW.trod enc Tryd.prog W 0 (fun _ => true) true m 29 cs = some z) : ∃ x, Plain ccall 0 W cs x := by
  obtain ⟨_, q, hf⟩ := open_struct Tryd.underlying29 h
  obtain ⟨v0, v1, v2, v3, v4, v5, v6, v7, v8, rfl⟩ := len9 hl
  obtain ⟨z0, g0⟩ := hf 0 _ rfl
  obtain ⟨z1, g1⟩ := hf 1 _ rfl
  obtain ⟨z2, g2⟩ := hf 2 _ rfl
  obtain ⟨z3, g3⟩ := hf 3 _ rfl
  obtain ⟨z4, g4⟩ := hf 4 _ rfl
  obtain ⟨z5, g5⟩ := hf 5 _ rfl
  obtain ⟨z6, g6⟩ := hf 6 _ rfl
  have g0' : DataW.trod enc Tryd.prog W 0 (fun _ => true) true q 2 (List.take 1 (List.drop 0 [v0, v1, v2, v3, v4, v5, v6, v7, v8])) = some z0 := by rw [← cells64]; exact g0
  have g1' : DataW.trod enc Tryd.prog W 0 (fun _ => true) true q 2 (List.take 1 (List.drop 1 [v0, v1, v2, v3, v4, v5, v6, v7, v8])) = some z1 := by rw [← cells64]; exact g1
  have g2' : DataW.trod enc Tryd.prog W 0 (fun _ => true) true q 23 (List.take 2 (List.drop 2 [v0, v1, v2, v3, v4, v5, v6, v7, v8])) = some z2 := by rw [← cells_rf]; exact g2
  have g3' : DataW.trod enc Tryd.prog W 0 (fun _ => true) true q 23 (List.take 2 (List.drop 4 [v0, v1, v2, v3, v4, v5, v6, v7, v8])) = some z3 := by rw [← cells_rf]; exact g3
  have g4' : DataW.trod enc Tryd.prog W 0 (fun _ => true) true q 2 (List.take 1 (List.drop 6 [v0, v1, v2, v3, v4, v5, v6, v7, v8])) = some z4 := by rw [← cells64]; exact g4
  have g5' : DataW.trod enc Tryd.prog W 0 (fun _ => true) true q 2 (List.take 1 (List.drop 7 [v0, v1, v2, v3, v4, v5, v6, v7, v8])) = some z5 := by rw [← cells64]; exact g5
  have g6' : DataW.trod enc Tryd.prog W 0 (fun _ => true) true q 2 (List.take 1 (List.drop 8 [v0, v1, v2, v3, v4, v5, v6, v7, v8])) = some z6 := by rw [← cells64]; exact g6
  obtain ⟨a0, e0, _, _⟩ := DataW.trod_int Tryd.underlying2 g0'
  obtain ⟨a1, e1, _, _⟩ := DataW.trod_int Tryd.underlying2 g1'
  obtain ⟨a2, a3, e2⟩ := open_rf (H := H) _ _ _ rfl g2'
  obtain ⟨a4, a5, e3⟩ := open_rf (H := H) _ _ _ rfl g3'
  obtain ⟨a6, e4, _, _⟩ := DataW.trod_int Tryd.underlying2 g4'
  obtain ⟨a7, e5, _, _⟩ := DataW.trod_int Tryd.underlying2 g5'
  obtain ⟨a8, e6, _, _⟩ := DataW.trod_int Tryd.underlying2 g6'
  simp at e0 e1 e2 e3 e4 e5 e6
  obtain ⟨s2, s3⟩ := e2
  obtain ⟨s4, s5⟩ := e3
  subst e0 e1 s2 s3 s4 s5 e4 e5 e6
  exact ⟨⟨a0, a1, a2, a3, a4, a5, a6, a7, a8⟩, rfl⟩
end Go.Proofs.YtlojigfhbfemfaaDoor.call
