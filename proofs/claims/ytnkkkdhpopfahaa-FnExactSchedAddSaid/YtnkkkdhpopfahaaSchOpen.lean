/-
  A Sched, and a row of numbers, that were handed in, opened.
-/
import Derived.Test.YtnkkkdhpopfahaaSchEq
import Derived.Test.YtnkkkdhpopfahaaDeepOpen
namespace Go.Proofs.Ytnkkkdhpopfahaa.sch
open Go.RowKit Go.Deep
open Go.Proofs.Ytnkkkdhpopfahaa
open Go.Proofs.Ytnkkkdhpopfahaa.deep
set_option linter.unusedVariables false
set_option maxRecDepth 100000

theorem leno1 {l : List Value} (h : l.length = 1) : ∃ v0, l = [v0] := by
  match l, h with
  | [v0], _ => exact ⟨v0, rfl⟩
theorem leno3 {l : List Value} (h : l.length = 3) : ∃ v0 v1 v2, l = [v0, v1, v2] := by
  match l, h with
  | [v0, v1, v2], _ => exact ⟨v0, v1, v2, rfl⟩
theorem cells_in : Try.prog.cellsOf 2 = 1 := by kernel_rfl
theorem cells_tk : Try.prog.cellsOf 84 = 3 := by kernel_rfl
theorem cells_si : Try.prog.cellsOf 22 = 1 := by kernel_rfl
theorem cells_st : Try.prog.cellsOf 23 = 1 := by kernel_rfl
theorem cells_sc : Try.prog.cellsOf 25 = 3 := by kernel_rfl
theorem open_in {H : Type} {enc : TypeId × Value → H} {W : World} (m : Nat) (cs : List Value) (z : DataW H × List MemPlace) (hl : cs.length = 1) (h : DataW.trod enc Try.prog W 0 (fun _ => true) true m 2 cs = some z) : ∃ x, Plain cint 0 W cs x := by
  obtain ⟨a0, e0, _, _⟩ := DataW.trod_int Try.underlying2 h
  obtain ⟨v0, rfl⟩ := leno1 hl
  refine ⟨a0, ?_⟩
  show [v0] = [.int .i64 a0]
  simpa using e0
theorem open_tk {H : Type} {enc : TypeId × Value → H} {W : World} (m : Nat) (cs : List Value) (z : DataW H × List MemPlace) (hl : cs.length = 3) (h : DataW.trod enc Try.prog W 0 (fun _ => true) true m 84 cs = some z) : ∃ x, Plain ctk 0 W cs x := by
  obtain ⟨_, q, hf⟩ := open_struct Try.underlying84 h
  obtain ⟨v0, v1, v2, rfl⟩ := leno3 hl
  obtain ⟨z0, g0⟩ := hf 0 _ rfl
  obtain ⟨a0, e0, _, _⟩ := DataW.trod_int Try.underlying2 g0
  have e0' : List.take 1 (List.drop 0 [v0, v1, v2]) = [.int .i64 a0] := by rw [← cells_in]; exact e0
  obtain ⟨z1, g1⟩ := hf 1 _ rfl
  obtain ⟨a1, e1, _, _⟩ := DataW.trod_int Try.underlying2 g1
  have e1' : List.take 1 (List.drop 1 [v0, v1, v2]) = [.int .i64 a1] := by rw [← cells_in]; exact e1
  obtain ⟨z2, g2⟩ := hf 2 _ rfl
  obtain ⟨a2, e2, _, _⟩ := DataW.trod_int Try.underlying2 g2
  have e2' : List.take 1 (List.drop 2 [v0, v1, v2]) = [.int .i64 a2] := by rw [← cells_in]; exact e2
  simp at e0' e1' e2'
  subst e0' e1' e2'
  exact ⟨(a0, a1, a2), rfl⟩
theorem open_sc {H : Type} {enc : TypeId × Value → H} {W : World} (m : Nat) (cs : List Value) (z : DataW H × List MemPlace) (hl : cs.length = 3) (h : DataW.trod enc Try.prog W 0 (fun _ => true) true m 25 cs = some z) : ∃ (x : SchedD) (vo vt : Value), cs = [vo, .int .i64 x.now, vt] ∧ SF 0 W vo vt x := by
  obtain ⟨_, q, hf⟩ := open_struct Try.underlying25 h
  obtain ⟨v0, v1, v2, rfl⟩ := leno3 hl
  obtain ⟨z0, g0⟩ := hf 0 _ rfl
  have g0' : DataW.trod enc Try.prog W 0 (fun _ => true) true q 22 [v0] = some z0 := by
    have : List.take (Try.prog.cellsOf 22) (List.drop 0 [v0, v1, v2]) = [v0] := by rw [cells_si]; rfl
    rw [← this]; exact g0
  obtain ⟨xs, hx⟩ := open_row (E := Plain cint) Try.underlying22 cells_in (by decide) (fun m cs z hl hz => open_in m cs z hl hz) g0'
  obtain ⟨z1, g1⟩ := hf 1 _ rfl
  obtain ⟨a1, e1, _, _⟩ := DataW.trod_int Try.underlying2 g1
  have e1' : List.take 1 (List.drop 1 [v0, v1, v2]) = [.int .i64 a1] := by rw [← cells_in]; exact e1
  obtain ⟨z2, g2⟩ := hf 2 _ rfl
  have g2' : DataW.trod enc Try.prog W 0 (fun _ => true) true q 23 [v2] = some z2 := by
    have : List.take (Try.prog.cellsOf 23) (List.drop 2 [v0, v1, v2]) = [v2] := by rw [cells_st]; rfl
    rw [← this]; exact g2
  obtain ⟨ts, ht⟩ := open_row (E := Plain ctk) Try.underlying23 cells_tk (by decide) (fun m cs z hl hz => open_tk m cs z hl hz) g2'
  simp at e1'
  subst e1'
  exact ⟨⟨xs, a1, ts⟩, v0, v2, rfl, hx, ht⟩
/-- a value of that struct type is its cells -/
theorem agg_sc {W : World} {base : Nat} {v : Value} {cs : List Value} (h : Value.okWide Try.prog W .any base 25 v) (hc : v.cells.toList = cs) : v = .agg cs.toArray := by
  cases v with
  | agg c =>
    have e : c.toList = cs := hc
    rw [← e]
  | _ => simp [Value.okWide, Try.underlying25] at h
theorem laidOutS : laidOutB Try.prog = true := by kernel_rfl
end Go.Proofs.Ytnkkkdhpopfahaa.sch
