/-
  A turn, in plain words: on tasks, and on the line of all with their places. No condition.
-/
import Derived.Test.YtnkkkdhpopfahaaSchTa
import Derived.Test.YtnkkkdhpopfahaaSchWo
namespace Go.Proofs.Ytnkkkdhpopfahaa.sch
open Go.RowKit Go.Deep Go.Sort
open Go.Proofs.Ytnkkkdhpopfahaa
open Go.Proofs.Ytnkkkdhpopfahaa.deep
set_option linter.unusedVariables false
set_option maxRecDepth 100000

/-- what is put back of a task that ran -/
def backT (l : Int) (t : Tt) : List Tt := if 1 < t.2.2 then [(l, t.2.1, t.2.2 - 1)] else []
/-- the tasks behind a turn of a label, and what ran -/
def leftT (ts : List Tt) (l : Int) : List Tt := match ts.find? (mine l) with | none => ts | some t => ts.eraseP (mine l) ++ backT l t
def ranT (ts : List Tt) (l : Int) : Tt := (ts.find? (mine l)).getD (0, 0, 0)
def labOf (x : SchedD) : Int := x.order.getD (x.now % (x.order.length : Int)).toNat 0
def tickX (x : SchedD) : SchedD := ⟨x.order, x.now + 1, leftT x.tasks (labOf x)⟩
def tickD (x : SchedD) : SoD := ⟨tickX x, ranT x.tasks (labOf x), 0⟩
/-- the line of all behind a turn -/
def leftW (ws : List Wt) (l : Nat) (last : Int) : List Wt := match ws.find? (isL l) with | none => ws | some y => ws.eraseP (isL l) ++ (if 1 < y.1.2.2 then [(((l : Int), y.1.2.1, y.1.2.2 - 1), last)] else [])
def lastW (ws : List Wt) (l : Nat) (last : Int) : Int := match ws.find? (isL l) with | none => last | some y => if 1 < y.1.2.2 then last + 1 else last
theorem isL_mine (l : Nat) (y : Wt) : isL l y = mine (l : Int) y.1 := rfl
theorem find_map (l : Nat) : ∀ ws : List Wt, (ws.map (·.1)).find? (mine (l : Int)) = (ws.find? (isL l)).map (·.1)
  | [] => rfl
  | y :: ws => by
    rw [List.map_cons, List.find?_cons, List.find?_cons, isL_mine, find_map l ws]
    cases mine (l : Int) y.1 <;> rfl
theorem erase_map (l : Nat) : ∀ ws : List Wt, (ws.eraseP (isL l)).map (·.1) = (ws.map (·.1)).eraseP (mine (l : Int))
  | [] => rfl
  | y :: ws => by
    rw [List.map_cons, List.eraseP_cons, List.eraseP_cons, isL_mine]
    cases mine (l : Int) y.1 with
    | true => rfl
    | false => simp [erase_map l ws]
theorem left_map (ws : List Wt) (l : Nat) (last : Int) : (leftW ws l last).map (·.1) = leftT (ws.map (·.1)) l := by
  unfold leftW leftT
  rw [find_map]
  cases ws.find? (isL l) with
  | none => rfl
  | some y =>
    simp only [Option.map_some]
    rw [List.map_append, erase_map]
    congr 1
    unfold backT
    split <;> rfl
/-- a line as it may be: labels, needs, places that rise -/
structure LineOk (ws : List Wt) (last : Int) : Prop where
  len : ws.length ≤ 41
  lab : ∀ y ∈ ws, 0 ≤ y.1.1 ∧ y.1.1 ≤ 15
  need : ∀ y ∈ ws, 1 ≤ y.1.2.2 ∧ y.1.2.2 ≤ 99
  place : ∀ y ∈ ws, 0 ≤ y.2 ∧ y.2 < last
  rise : ws.Pairwise fun a b => a.2 < b.2
theorem eraseP_sub (p : Wt → Bool) (ws : List Wt) : (ws.eraseP p).Sublist ws := List.eraseP_sublist
theorem LineOk.left {ws : List Wt} {last : Int} (h : LineOk ws last) (h0 : 0 ≤ last) {l : Nat} (hl : l < 16) : LineOk (leftW ws l last) (lastW ws l last) := by
  unfold leftW lastW
  cases hf : ws.find? (isL l) with
  | none => exact h
  | some y =>
    have hy := List.mem_of_find?_eq_some hf
    have hp := List.find?_some hf
    have hs := eraseP_sub (isL l) ws
    have hlen : (ws.eraseP (isL l)).length = ws.length - 1 := List.length_eraseP_of_mem hy hp
    have hpos : 0 < ws.length := List.length_pos_of_mem hy
    have hn := h.need y hy
    have hlen2 := h.len
    simp only
    by_cases h1 : 1 < y.1.2.2
    · rw [if_pos h1, if_pos h1]
      refine ⟨by simp; omega, fun z hz => ?_, fun z hz => ?_, fun z hz => ?_, ?_⟩
      · rcases List.mem_append.1 hz with hz | hz
        · exact h.lab z (hs.subset hz)
        · rw [List.mem_singleton.1 hz]; simp only; omega
      · rcases List.mem_append.1 hz with hz | hz
        · exact h.need z (hs.subset hz)
        · rw [List.mem_singleton.1 hz]; simp only; omega
      · rcases List.mem_append.1 hz with hz | hz
        · have := h.place z (hs.subset hz); omega
        · rw [List.mem_singleton.1 hz]; simp only; omega
      · rw [List.pairwise_append]
        refine ⟨h.rise.sublist hs, List.pairwise_singleton _ _, fun a ha b hb => ?_⟩
        rw [List.mem_singleton.1 hb]
        exact (h.place a (hs.subset ha)).2
    · rw [if_neg h1, if_neg h1, List.append_nil]
      exact ⟨by omega, fun z hz => h.lab z (hs.subset hz), fun z hz => h.need z (hs.subset hz), fun z hz => h.place z (hs.subset hz), h.rise.sublist hs⟩
theorem last_bound (ws : List Wt) (l : Nat) (last : Int) : last ≤ lastW ws l last ∧ lastW ws l last ≤ last + 1 := by
  unfold lastW
  cases ws.find? (isL l) with
  | none => simp only; omega
  | some y => simp only; split <;> omega
theorem find_filter (p : Wt → Bool) : ∀ ws : List Wt, ws.find? p = (ws.filter p).head?
  | [] => rfl
  | y :: ws => by
    cases h : p y with
    | true => rw [List.find?_cons_of_pos h, List.filter_cons_of_pos h]; rfl
    | false => rw [List.find?_cons_of_neg (by rw [h]; exact Bool.false_ne_true), List.filter_cons_of_neg (by rw [h]; exact Bool.false_ne_true), find_filter p ws]
end Go.Proofs.Ytnkkkdhpopfahaa.sch
