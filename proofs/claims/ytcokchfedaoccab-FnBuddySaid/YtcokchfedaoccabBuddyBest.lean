/-
  The walk of the specification's l04Best: the place of the free block that is taken for an order, or -1.
-/
import Derived.Test.YtcokchfedaoccabBuddyRightW
namespace Go.Proofs.Ytcokchfedaoccab.bspec
open Go.RowKit Go.Deep Go.Sort
open Go.Proofs.Ytcokchfedaoccab
open Go.Proofs.Ytcokchfedaoccab.brows
open Go.Proofs.Ytcokchfedaoccab.bd (Blk)
set_option linter.unusedVariables false

/-- the best of the first k -/
def Best (xs : List Pr) (o : Int) (k : Nat) (r : Int) : Prop :=
  (r = -1 ∧ ∀ j x, j < k → xs[j]? = some x → x.2 < o) ∨
  ∃ (i : Nat) (y : Pr), i < k ∧ r = (i : Int) ∧ xs[i]? = some y ∧ o ≤ y.2 ∧ ∀ j x, j < k → xs[j]? = some x → o ≤ x.2 → y.2 ≤ x.2 ∧ (j < i → y.2 < x.2)
theorem best_zero (xs : List Pr) (o : Int) : Best xs o 0 (-1) := Or.inl ⟨rfl, fun j x h => by omega⟩
theorem best_less {xs : List Pr} {o : Int} {k : Nat} {r : Int} {y : Pr} (h : Best xs o k r) (hy : xs[k]? = some y) (hlt : y.2 < o) : Best xs o (k + 1) r := by
  rcases h with ⟨h1, h2⟩ | ⟨i, x, h1, h2, h3, h4, h5⟩
  · refine Or.inl ⟨h1, fun j x hj hx => ?_⟩
    by_cases e : j = k
    · subst e; rw [hy] at hx; injection hx with hx; subst hx; exact hlt
    · exact h2 j x (by omega) hx
  · refine Or.inr ⟨i, x, by omega, h2, h3, h4, fun j z hj hz hoz => ?_⟩
    by_cases e : j = k
    · subst e; rw [hy] at hz; injection hz with hz; subst hz; omega
    · exact h5 j z (by omega) hz hoz
theorem best_first {xs : List Pr} {o : Int} {k : Nat} {y : Pr} (h : Best xs o k (-1)) (hy : xs[k]? = some y) (hle : o ≤ y.2) : Best xs o (k + 1) (k : Int) := by
  rcases h with ⟨h1, h2⟩ | ⟨i, x, h1, h2, _⟩
  · refine Or.inr ⟨k, y, by omega, rfl, hy, hle, fun j x hj hx hox => ?_⟩
    by_cases e : j = k
    · subst e; rw [hy] at hx; injection hx with hx; subst hx; exact ⟨Int.le_refl _, fun h => by omega⟩
    · have := h2 j x (by omega) hx; omega
  · omega
theorem best_next {xs : List Pr} {o : Int} {k i : Nat} {x y : Pr} (h : Best xs o k (i : Int)) (hx : xs[i]? = some x) (hy : xs[k]? = some y) (hle : o ≤ y.2) (hlt : y.2 < x.2) : Best xs o (k + 1) (k : Int) := by
  rcases h with ⟨h1, h2⟩ | ⟨i', x', h1, h2, h3, h4, h5⟩
  · omega
  · obtain rfl : i = i' := by omega
    rw [hx] at h3; injection h3 with h3; subst h3
    refine Or.inr ⟨k, y, by omega, rfl, hy, hle, fun j z hj hz hoz => ?_⟩
    by_cases e : j = k
    · subst e; rw [hy] at hz; injection hz with hz; subst hz; exact ⟨Int.le_refl _, fun h => by omega⟩
    · have := (h5 j z (by omega) hz hoz).1; omega
theorem best_stay {xs : List Pr} {o : Int} {k i : Nat} {x y : Pr} (h : Best xs o k (i : Int)) (hx : xs[i]? = some x) (hy : xs[k]? = some y) (hge : ¬ y.2 < x.2) : Best xs o (k + 1) (i : Int) := by
  rcases h with ⟨h1, h2⟩ | ⟨i', x', h1, h2, h3, h4, h5⟩
  · omega
  · obtain rfl : i = i' := by omega
    rw [hx] at h3; injection h3 with h3; subst h3
    refine Or.inr ⟨i, x, by omega, rfl, hx, h4, fun j z hj hz hoz => ?_⟩
    by_cases e : j = k
    · subst e; rw [hy] at hz; injection hz with hz; subst hz; exact ⟨by omega, fun h => by omega⟩
    · exact h5 j z (by omega) hz hoz
theorem best_at {xs : List Pr} {o : Int} {k : Nat} {r : Int} (h : Best xs o k r) : r = -1 ∨ ∃ i : Nat, i < k ∧ r = (i : Int) := by
  rcases h with ⟨h1, _⟩ | ⟨i, x, h1, h2, _⟩
  · exact Or.inl h1
  · exact Or.inr ⟨i, h1, h2⟩
theorem best_unique {xs : List Pr} {o : Int} {k : Nat} {r r' : Int} (h : Best xs o k r) (h' : Best xs o k r') : r = r' := by
  rcases h with ⟨h1, h2⟩ | ⟨i, x, h1, h2, h3, h4, h5⟩ <;> rcases h' with ⟨g1, g2⟩ | ⟨j, y, g1, g2, g3, g4, g5⟩
  · rw [h1, g1]
  · have := h2 j y g1 g3; omega
  · have := g2 i x h1 h3; omega
  · have a := h5 j y g1 g3 g4
    have b := g5 i x h1 h3 h4
    rcases Nat.lt_trichotomy i j with hij | hij | hij
    · have := b.2 hij; omega
    · subst hij; rw [h2, g2]
    · have := a.2 hij; omega
noncomputable def bestI (xs : List Pr) (o : Int) : Int := Classical.epsilon (fun r => Best xs o xs.length r)
theorem bestI_of {xs : List Pr} {o r : Int} (h : Best xs o xs.length r) : r = bestI xs o := best_unique h (Classical.epsilon_spec (p := fun r => Best xs o xs.length r) ⟨r, h⟩)

set_option maxHeartbeats 2000000 in
theorem spec_best (m o : Int) (v : Value) (xs : List Pr) (w : World) (h : Rd w v xs) (hn : xs.length ≤ 1000000) :
    Calls Try.prog 30 #[.agg #[.int .i64 m, v], .int .i64 o] w fun e w' => e = .returned (.int .i64 (bestI xs o)) ∧ Below w.heap.size w w' := by
  by_cases h0 : xs.length = 0
  · have e : xs = [] := List.eq_nil_of_length_eq_zero h0
    subst e
    have HF : Hid ((-1 : Int) = bestI [] o) := bestI_of (best_zero _ _)
    obtain ⟨a, c, rfl, _⟩ := h.form
    clear h h0 hn
    simp only [List.length_nil]
    go_enter Try.func30, Try.ntmps30
    go_wp2
    go_loop [5, 6] (fun b i => i = .int .i64 0 ∧ b = .int .i64 (-1)) (fun _ _ => 0)
    case atStart => exact ⟨rfl, rfl⟩
    case round =>
      obtain ⟨rfl, rfl⟩ := hrel
      go_wp2
      go_ret
      exact ⟨ret_int HF.out, (Below.refl _ _).alloc (Nat.le_refl _) _⟩
  obtain ⟨g, c, rfl, _, _, hg, hc⟩ := h.at (by omega)
  have HC : Hid _ := hc
  clear hc h h0
  go_enter Try.func30, Try.ntmps30
  go_wp2
  go_loopw [5, 6] (fun b i wr => ∃ (k : Nat) (r : Int), k ≤ xs.length ∧ i = .int .i64 k ∧ b = .int .i64 r ∧ Hid (Best xs o k r) ∧ Below (w.alloc (.cells #[.int .i64 m, .slice (some ⟨g, 0, none⟩) xs.length c] 29)).heap.size (w.alloc (.cells #[.int .i64 m, .slice (some ⟨g, 0, none⟩) xs.length c] 29)) wr) (fun _ i _ => xs.length - (intOf i).toNat)
  case atStart => exact ⟨0, -1, by omega, rfl, rfl, best_zero _ _, Below.refl _ _⟩
  case round =>
    obtain ⟨k, r, hk, rfl, rfl, HBE, hbel⟩ := hrel
    have b1 : wr.cell? ⟨w.heap.size, 1, none⟩ = some (.slice (some ⟨g, 0, none⟩) xs.length c) := (hbel.cell (p := ⟨w.heap.size, 1, none⟩) (by simp)).trans (by simp)
    have HB : Hid (Below w.heap.size w wr) := ((Below.refl w.heap.size w).alloc (Nat.le_refl _) _).trans (hbel.mono (by simp))
    by_cases hlt : k < xs.length
    · have e1 := (HB.out.cell (p := ⟨g, k * 2 + 1, none⟩) hg).trans (HC.out k hlt).2
      have HX : Hid (xs[k]? = some (xs[k].1, xs[k].2)) := by rw [Hid, List.getElem?_eq_getElem hlt]
      generalize xs[k].1 = y0 at *
      generalize xs[k].2 = y1 at *
      by_cases hlo : y1 < o
      · have HB2 : Hid _ := best_less HBE.out HX.out hlo
        have hd : decide (o ≤ y1) = false := decide_eq_false (by omega)
        clear HBE HX
        go_wp2
        go_quiet (fail)
        go_wp2
        go_roundw
        case rel => exact ⟨k + 1, r, by omega, by go_num, rfl, HB2.out, below_drewN hbel _⟩
        case measure => simp [intOf]; omega
      · have hd : decide (o ≤ y1) = true := decide_eq_true (by omega)
        rcases best_at HBE.out with rfl | ⟨i, hi, rfl⟩
        · have HB2 : Hid _ := best_first HBE.out HX.out (show o ≤ (y0, y1).2 by show o ≤ y1; omega)
          clear HBE HX
          go_wp2
          go_quiet (fail)
          go_wp2
          go_roundw
          case rel => exact ⟨k + 1, k, by omega, by go_num, rfl, HB2.out, below_drewN hbel _⟩
          case measure => simp [intOf]; omega
        · have f1 := (HB.out.cell (p := ⟨g, i * 2 + 1, none⟩) hg).trans (HC.out i (by omega)).2
          have HI : Hid (xs[i]? = some (xs[i].1, xs[i].2)) := by rw [Hid, List.getElem?_eq_getElem (by omega)]
          generalize xs[i].1 = z0 at *
          generalize xs[i].2 = z1 at *
          have hi0 : decide ((i : Int) < 0) = false := decide_eq_false (by omega)
          by_cases hless : y1 < z1
          · have HB2 : Hid _ := best_next HBE.out HI.out HX.out (show o ≤ (y0, y1).2 by show o ≤ y1; omega) hless
            clear HBE HX HI
            go_wp2
            go_quiet (fail)
            go_wp2
            go_roundw
            case rel => exact ⟨k + 1, k, by omega, by go_num, rfl, HB2.out, below_drewN hbel _⟩
            case measure => simp [intOf]; omega
          · have HB2 : Hid _ := best_stay HBE.out HI.out HX.out hless
            clear HBE HX HI
            go_wp2
            go_quiet (fail)
            go_wp2
            go_roundw
            case rel => exact ⟨k + 1, i, by omega, by go_num, rfl, HB2.out, below_drewN hbel _⟩
            case measure => simp [intOf]; omega
    · obtain rfl : k = xs.length := by omega
      have HF : Hid (r = bestI xs o) := bestI_of HBE.out
      go_wp2
      go_ret
      exact ⟨ret_int HF.out, HB.out⟩
end Go.Proofs.Ytcokchfedaoccab.bspec
