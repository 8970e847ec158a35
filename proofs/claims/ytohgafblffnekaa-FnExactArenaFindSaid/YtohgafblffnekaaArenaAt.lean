/-
  What stands on the shelf after so many slots, in plain words.
-/
import Derived.Test.YtohgafblffnekaaArenaHas
import Derived.Test.YtohgafblffnekaaArenaNone
namespace Go.Proofs.Ytohgafblffnekaa.deep
open Go.RowKit
open Go.Proofs.Ytohgafblffnekaa
set_option linter.unusedVariables false

/-- the place of the Live slot of that full name among the first j -/
def findAt (lb : Int) (xs : List SlotD) : Nat → Thd → Option Nat
  | 0, _ => none
  | j + 1, y => match xs[j]? with
    | some s => if s.live = true ∧ y = (lb, s.id, s.gen) then some j else findAt lb xs j y
    | none => findAt lb xs j y
theorem find_live {lb : Int} {xs : List SlotD} {j : Nat} (h : j < xs.length) (hl : xs[j].live = true) (y : Thd) : findAt lb xs (j + 1) y = if y = (lb, xs[j].id, xs[j].gen) then some j else findAt lb xs j y := by
  simp [findAt, h, hl]
theorem find_dead {lb : Int} {xs : List SlotD} {j : Nat} (h : j < xs.length) (hl : xs[j].live = false) (y : Thd) : findAt lb xs (j + 1) y = findAt lb xs j y := by
  simp [findAt, h, hl]
/-- the shelf holds just what is Live among the first j slots -/
def Holds (f : Thd → Option Std) (lb : Int) (xs : List SlotD) (j : Nat) : Prop := ∀ y, (f y).map (·.1) = (findAt lb xs j y).map fun i : Nat => (i : Int)
theorem holds_zero (lb : Int) (xs : List SlotD) : Holds (fun _ => none) lb xs 0 := fun y => rfl
theorem holds_dead {f : Thd → Option Std} {lb : Int} {xs : List SlotD} {j : Nat} (h : Holds f lb xs j) (hj : j < xs.length) (hl : xs[j].live = false) : Holds f lb xs (j + 1) := fun y => by rw [find_dead hj hl]; exact h y
theorem holds_live {f : Thd → Option Std} {lb : Int} {xs : List SlotD} {j : Nat} {ty : TypeId} {v : Value} (h : Holds f lb xs j) (hj : j < xs.length) (hl : xs[j].live = true) : Holds (fun y => if y = (lb, xs[j].id, xs[j].gen) then some ((j : Int), ty, v) else f y) lb xs (j + 1) := fun y => by
  rw [find_live hj hl]
  by_cases e : y = (lb, xs[j].id, xs[j].gen)
  · simp [e]
  · simp only [if_neg e]; exact h y
theorem Holds.some {f : Thd → Option Std} {lb : Int} {xs : List SlotD} {j : Nat} (h : Holds f lb xs j) (y : Thd) : (f y).isSome = (findAt lb xs j y).isSome := by
  have := congrArg Option.isSome (h y)
  simpa using this
theorem good_gens {xs : List SlotD} {j : Nat} (hj : j < xs.length) (hg : goodI xs j = true) (hl : xs[j].live = true) : 0 ≤ xs[j].gen ∧ xs[j].gen < 3 ∧ pm.keyB xs[j].id = true := by
  rw [goodI_at xs j hj] at hg
  simp only [goodAt, SlotD.right, hl, if_true, Bool.and_eq_true, decide_eq_true_eq] at hg
  exact ⟨hg.1.1.1, hg.1.1.2, hg.1.2⟩
theorem find_has (lb id : Int) (xs : List SlotD) : ∀ j, j ≤ xs.length → (∀ i, i < j → goodI xs i = true) → ((findAt lb xs j (lb, id, 0)).isSome || (findAt lb xs j (lb, id, 1)).isSome || (findAt lb xs j (lb, id, 2)).isSome) = hasId (xs.take j) id
  | 0, _, _ => by simp [findAt, hasId]
  | j + 1, hj, hg => by
    have ih := find_has lb id xs j (by omega) (fun i hi => hg i (by omega))
    have hjx : j < xs.length := by omega
    rw [has_step xs id j hjx, ← ih]
    cases hl : xs[j].live with
    | false => rw [find_dead hjx hl, find_dead hjx hl, find_dead hjx hl]; simp
    | true =>
      obtain ⟨h0, h1, _⟩ := good_gens hjx (hg j (by omega)) hl
      rw [find_live hjx hl, find_live hjx hl, find_live hjx hl]
      by_cases e : xs[j].id = id
      · subst e
        have hcase : xs[j].gen = 0 ∨ xs[j].gen = 1 ∨ xs[j].gen = 2 := by omega
        rcases hcase with e | e | e <;> simp [e]
      · have n0 : ∀ g : Int, ¬ ((lb, id, g) = ((lb, xs[j].id, xs[j].gen) : Thd)) := fun g h => e (by simp at h; exact h.1.symm)
        simp only [if_neg (n0 _), decide_eq_false e]; simp
theorem holds_has {f : Thd → Option Std} {lb : Int} {xs : List SlotD} {j : Nat} (h : Holds f lb xs j) (hj : j ≤ xs.length) (hg : ∀ i, i < j → goodI xs i = true) (id : Int) : has3 f lb id = hasId (xs.take j) id := by
  rw [has3, h.some, h.some, h.some]; exact find_has lb id xs j hj hg
theorem slot_right (s : SlotD) : s.right = slotC s.gen s.live s.id s.obj.kind s.obj.lab s.obj.order s.obj.place s.obj.up.1 s.obj.up.2.1 s.obj.up.2.2 s.obj.room s.obj.free.length s.obj.kids.length s.obj.maps.length s.obj.fasts.length := by
  obtain ⟨gn, lv, id, ⟨kd, lb, od, pl, ⟨u1, u2, u3⟩, rm, fr, ks, ms, ss⟩⟩ := s
  rfl
theorem wf_name {lb id : Int} (hl : label.rightB lb = true) (hk : pm.keyB id = true) (g : Int) (h0 : 0 ≤ g) (h3 : g < 3) : Wf3 (lb, id, g) := by
  obtain ⟨l0, l1⟩ := label.right_yes lb hl
  obtain ⟨k, hk', rfl⟩ := pm.key_nat id hk
  exact ⟨WalkArith.wf_i64 (by simp only; omega), WalkArith.wf_i64 (by simp only; omega), WalkArith.wf_i64 (by simp only; omega)⟩
end Go.Proofs.Ytohgafblffnekaa.deep
