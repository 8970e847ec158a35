/-
  Where a full name stands in an arena, in plain words.
-/
import Derived.Test.YtohgafblffnekaaArenaAt
namespace Go.Proofs.Ytohgafblffnekaa.deep
open Go.RowKit
open Go.Proofs.Ytohgafblffnekaa
set_option linter.unusedVariables false

/-- a Live slot of that full name -/
def hit (lb : Int) (s : SlotD) (y : Thd) : Bool := s.live && decide (y = (lb, s.id, s.gen))
theorem find_step (lb : Int) (xs : List SlotD) (j : Nat) (h : j < xs.length) (y : Thd) : findAt lb xs (j + 1) y = if hit lb xs[j] y = true then some j else findAt lb xs j y := by
  cases hl : xs[j].live with
  | false => rw [find_dead h hl]; simp [hit, hl]
  | true =>
    rw [find_live h hl]
    by_cases e : y = (lb, xs[j].id, xs[j].gen)
    · rw [if_pos e, if_pos (by simp only [hit, hl, decide_eq_true e]; rfl)]
    · rw [if_neg e, if_neg (by simp only [hit, decide_eq_false e]; simp)]
theorem find_none {lb : Int} {xs : List SlotD} {y : Thd} : ∀ j, j ≤ xs.length → (∀ i (hi : i < xs.length), i < j → hit lb xs[i] y = false) → findAt lb xs j y = none
  | 0, _, _ => rfl
  | j + 1, hj, h => by
    rw [find_step lb xs j (by omega) y, h j (by omega) (by omega), if_neg (by decide)]
    exact find_none j (by omega) (fun i hi hij => h i hi (by omega))
theorem good_all {xs : List SlotD} (hg : goodS xs = true) (i : Nat) (hi : i < xs.length) : goodAt (xs.take i) xs[i] = true := by
  simp only [goodS, List.all_eq_true, List.mem_range] at hg
  rw [← goodI_at xs i hi]; exact hg i hi
theorem good_uniq {xs : List SlotD} (hg : goodS xs = true) {i k : Nat} (hi : i < k) (hk : k < xs.length) (li : (xs[i]'(by omega)).live = true) (lk : xs[k].live = true) : (xs[i]'(by omega)).id ≠ xs[k].id := by
  intro e
  have h := good_all hg k hk
  have hh : hasId (xs.take k) xs[k].id = true := by
    have h1 := has_step xs xs[k].id i (by omega)
    rw [li, decide_eq_true e] at h1
    have h2 : hasId (xs.take (i + 1)) xs[k].id = true := by rw [h1]; simp
    have h3 := has_more xs xs[k].id (k - (i + 1)) (i + 1) (by omega) h2
    rw [show i + 1 + (k - (i + 1)) = k by omega] at h3
    exact h3
  simp [goodAt, lk, hh] at h
theorem hit_live {lb : Int} {s : SlotD} {y : Thd} (h : hit lb s y = true) : s.live = true ∧ y = (lb, s.id, s.gen) := by
  simp only [hit, Bool.and_eq_true, decide_eq_true_eq] at h; exact h
theorem find_hit {lb : Int} {xs : List SlotD} {y : Thd} (hg : goodS xs = true) {j : Nat} (hj : j < xs.length) (h : hit lb xs[j] y = true) : ∀ n, j < n → n ≤ xs.length → findAt lb xs n y = some j
  | 0, h0, _ => absurd h0 (Nat.not_lt_zero _)
  | n + 1, h0, hn => by
    rw [find_step lb xs n (by omega) y]
    by_cases e : n = j
    · subst e; rw [if_pos h]
    · have hlt : j < n := by omega
      have hne : ¬ hit lb (xs[n]'(by omega)) y = true := fun hh => by
        obtain ⟨l1, e1⟩ := hit_live h
        obtain ⟨l2, e2⟩ := hit_live hh
        refine good_uniq hg hlt (by omega) l1 l2 ?_
        rw [e1] at e2
        simp at e2
        exact e2.1
      rw [if_neg hne]
      exact find_hit hg hj h n hlt (by omega)
/-- the place of a full name, -1 if there is none -/
def placeI (lb : Int) (xs : List SlotD) (y : Thd) : Int := match findAt lb xs xs.length y with | some i => (i : Int) | none => -1
theorem place_hit {lb : Int} {xs : List SlotD} {y : Thd} (hg : goodS xs = true) {j : Nat} (hj : j < xs.length) (h : hit lb xs[j] y = true) : placeI lb xs y = j := by
  simp only [placeI]; rw [find_hit hg hj h xs.length hj (Nat.le_refl _)]
theorem place_none {lb : Int} {xs : List SlotD} {y : Thd} (h : ∀ i (hi : i < xs.length), hit lb xs[i] y = false) : placeI lb xs y = -1 := by
  simp only [placeI]; rw [find_none xs.length (Nat.le_refl _) (fun i hi _ => h i hi)]
theorem hit_by {lb : Int} {s : SlotD} {y : Thd} (h : ¬ y.1 = lb) : hit lb s y = false := by
  have : ¬ y = (lb, s.id, s.gen) := fun e => h (by rw [e])
  simp only [hit, decide_eq_false this]; simp
/-- what the map holds under a full name tells its place -/
theorem holds_place {f : Thd → Option Std} {lb : Int} {xs : List SlotD} (h : Holds f lb xs xs.length) (y : Thd) : (f y = none → placeI lb xs y = -1) ∧ ∀ s, f y = some s → s.1 = placeI lb xs y := by
  have hy := h y
  refine ⟨fun e => ?_, fun s e => ?_⟩
  · rw [e] at hy
    simp only [placeI]
    cases hf : findAt lb xs xs.length y with
    | none => rfl
    | some i => rw [hf] at hy; simp at hy
  · rw [e] at hy
    simp only [placeI]
    cases hf : findAt lb xs xs.length y with
    | none => rw [hf] at hy; simp at hy
    | some i => rw [hf] at hy; simp at hy; exact hy
end Go.Proofs.Ytohgafblffnekaa.deep
