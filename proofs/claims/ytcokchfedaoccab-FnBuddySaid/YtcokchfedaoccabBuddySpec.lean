/-
  The walks of the specification's small functions on blocks.
-/
import Derived.Test.YtcokchfedaoccabBlkRows
import Derived.Test.YtcokchfedaoccabBuddyFacts2
import Derived.Test.YtcokchfedaoccabPermFacts
import Derived.Deep.RegionHeld3
import Derived.Laws.StructEq
import Derived.BigQuiet
namespace Go.Proofs.Ytcokchfedaoccab.bspec
open Go.RowKit Go.Deep
open Go.Proofs.Ytcokchfedaoccab
open Go.Proofs.Ytcokchfedaoccab.brows

theorem ret_int {k : IntKind} {a b : Int} (h : a = b) : Ending.returned (.int k a) = .returned (.int k b) := by rw [h]
theorem ret_bool {a b : Bool} (h : a = b) : Ending.returned (.bool a) = .returned (.bool b) := by rw [h]

theorem spec_is (n a b : Int) (w : World) : Calls Try.prog 53 #[.int .i64 n, .int .i64 a, .int .i64 b] w fun e w' => e = .returned (.bool (decide (a ≤ n ∧ n ≤ b))) ∧ w' = w := by
  by_cases h0 : a ≤ n
  · by_cases h1 : n ≤ b
    · rw [decide_eq_true (show a ≤ n ∧ n ≤ b from ⟨h0, h1⟩)]
      go_enter Try.func53, Try.ntmps53
      go_wp2
      go_ret
      exact ⟨by simp, rfl⟩
    · rw [decide_eq_false (show ¬ (a ≤ n ∧ n ≤ b) from fun h => h1 h.2)]
      go_enter Try.func53, Try.ntmps53
      go_wp2
      go_ret
      exact ⟨by simp, rfl⟩
  · rw [decide_eq_false (show ¬ (a ≤ n ∧ n ≤ b) from fun h => h0 h.1)]
    go_enter Try.func53, Try.ntmps53
    go_wp2
    go_ret
    exact ⟨by simp, rfl⟩

theorem is_yes (n a b : Int) (h : a ≤ n ∧ n ≤ b) (w : World) : Calls Try.prog 53 #[.int .i64 n, .int .i64 a, .int .i64 b] w fun e w' => e = .returned (.bool true) ∧ w' = w := by
  have := spec_is n a b w; rwa [decide_eq_true h] at this
theorem is_no (n a b : Int) (h : ¬ (a ≤ n ∧ n ≤ b)) (w : World) : Calls Try.prog 53 #[.int .i64 n, .int .i64 a, .int .i64 b] w fun e w' => e = .returned (.bool false) ∧ w' = w := by
  have := spec_is n a b w; rwa [decide_eq_false h] at this

theorem below_drewN {B : Nat} {a w : World} (h : Below B a w) (n : Nat) : Below B a (w.drewN n) := ⟨h.os, h.tape, h.output, h.size, h.block⟩

/-- is it an order? -/
def ordB (n : Int) : Bool := decide (0 ≤ n ∧ n ≤ 5)
theorem ord_nat {n : Int} (h : ordB n = true) : ∃ k : Nat, k ≤ 5 ∧ n = (k : Int) := by
  have : 0 ≤ n ∧ n ≤ 5 := by simpa [ordB] using h
  exact ⟨n.toNat, by omega, by omega⟩
theorem spec_order (n : Int) (w : World) : Calls Try.prog 29 #[.int .i64 n] w fun e w' => e = .returned (.bool (ordB n)) ∧ w' = w := by
  have HR : Hid (∀ W, _) := fun W => spec_is n 0 5 W
  go_enter Try.func29, Try.ntmps29
  go_wp2_with fail
  refine Calls.mono (HR.out _) ?_
  rintro e w' ⟨rfl, rfl⟩
  go_wp2
  go_ret
  exact ⟨by simp [ordB], rfl⟩

theorem spec_size (o : Nat) (ho : o ≤ 5) (w : World) : Calls Try.prog 46 #[.int .i64 o] w fun e w' => e = .returned (.int .i64 ((2 ^ o : Nat) : Int)) ∧ w' = w := by
  have hp : 2 ^ o ≤ 32 := bd.pow_le32 ho
  have HW : Hid (wrap64 ((2 : Int) ^ o) = ((2 ^ o : Nat) : Int)) := by
    have e : (2 : Int) ^ o = ((2 ^ o : Nat) : Int) := by simp
    show wrap64 ((2 : Int) ^ o) = ((2 ^ o : Nat) : Int)
    rw [e]; exact IntWalk.wrap64_in _ (by generalize 2 ^ o = s at *; omega)
  clear hp
  go_enter Try.func46, Try.ntmps46
  go_wp2
  go_ret
  exact ⟨ret_int HW.out, rfl⟩

theorem spec_fellow (a o : Nat) (ha : a < 32) (ho : o ≤ 5) (w : World) : Calls Try.prog 58 #[.agg #[.int .i64 a, .int .i64 o]] w fun e w' => e = .returned (.int .i64 ((a ^^^ 2 ^ o : Nat) : Int)) ∧ Below w.heap.size w w' := by
  have HS : Hid (∀ W, _) := fun W => spec_size o ho W
  have hp : 2 ^ o ≤ 32 := bd.pow_le32 ho
  have HX : Hid (bits .xor .i64 (a : Int) ((2 ^ o : Nat) : Int) = ((a ^^^ 2 ^ o : Nat) : Int)) := pm.xor_i64 a (2 ^ o) (by omega) (by omega)
  generalize 2 ^ o = s at *
  go_enter Try.func58, Try.ntmps58
  go_wp2_with fail
  go_region_held3 (fun W => W.cell? ⟨w.heap.size, 0, none⟩ = some (.int .i64 a) ∧ W.cell? ⟨w.heap.size, 1, none⟩ = some (.int .i64 o))
    (first | assumption | exact ⟨by simp, by simp⟩)
    (first | (go_at_call 46; refine Calls.mono (HS.out _) ?_; rintro e w' ⟨rfl, rfl⟩))
  go_wp2
  go_ret
  exact ⟨ret_int HX.out, ((Below.refl _ _).alloc (Nat.le_refl _) _).drew⟩

/-- is a block aligned, and in the pages of order n? -/
def inB (n : Nat) (x : Pr) : Bool := decide (0 ≤ x.2 ∧ x.2 ≤ (n : Int)) && (decide (0 ≤ x.1 ∧ x.1 ≤ ((2 ^ n : Nat) : Int) - 1) && decide (x.1.tmod ((2 ^ x.2.toNat : Nat) : Int) = 0))
theorem in_nat {n : Nat} {x : Pr} (h : inB n x = true) : ∃ y : bd.Blk, x = ((y.1 : Int), (y.2 : Int)) ∧ bd.In n y := by
  obtain ⟨a, o⟩ := x
  simp only [inB, Bool.and_eq_true, decide_eq_true_eq] at h
  obtain ⟨h1, h2, h3⟩ := h
  obtain ⟨a, rfl⟩ := Int.eq_ofNat_of_zero_le h2.1
  obtain ⟨o, rfl⟩ := Int.eq_ofNat_of_zero_le h1.1
  refine ⟨(a, o), rfl, by show o ≤ n; omega, by show a < 2 ^ n; omega, ?_⟩
  show a % 2 ^ o = 0
  rw [Int.tmod_eq_emod_of_nonneg (by omega)] at h3
  simp only [Int.toNat_natCast] at h3
  omega
theorem in_of {n : Nat} {y : bd.Blk} (h : bd.In n y) : inB n ((y.1 : Int), (y.2 : Int)) = true := by
  have h1 := h.ord
  have h2 := h.lt
  have h3 := h.al
  simp only [inB, Bool.and_eq_true, decide_eq_true_eq]
  refine ⟨by omega, by omega, ?_⟩
  rw [Int.tmod_eq_emod_of_nonneg (by omega), Int.toNat_natCast]
  omega

set_option maxHeartbeats 1000000 in
theorem spec_in (n : Nat) (hn : n ≤ 5) (v : Value) (x : Pr) (w : World) :
    Calls Try.prog 51 #[.agg #[.int .i64 n, v], .agg #[.int .i64 x.1, .int .i64 x.2]] w fun e w' => e = .returned (.bool (inB n x)) ∧ Below w.heap.size w w' := by
  obtain ⟨a, o⟩ := x
  simp only
  have HY : Hid (∀ p q r, q ≤ p ∧ p ≤ r → ∀ W, _) := fun p q r h W => is_yes p q r h W
  have HZ : Hid (∀ p q r, ¬ (q ≤ p ∧ p ≤ r) → ∀ W, _) := fun p q r h W => is_no p q r h W
  have hpn : 2 ^ n ≤ 32 := bd.pow_le32 hn
  have hpn0 : 0 < 2 ^ n := bd.pow_pos' n
  have HN : Hid (∀ W, _) := fun W => spec_size n hn W
  have HW : Hid (IntKind.i64.wrap (((2 ^ n : Nat) : Int) - 1) = ((2 ^ n : Nat) : Int) - 1) := IntWalk.i64_in _ (by generalize 2 ^ n = s at *; omega)
  by_cases h1 : 0 ≤ o ∧ o ≤ (n : Int)
  · obtain ⟨o, rfl⟩ := Int.eq_ofNat_of_zero_le h1.1
    have ho : o ≤ n := by omega
    have H1 : Hid (0 ≤ (o : Int) ∧ (o : Int) ≤ (n : Int)) := h1
    have HO : Hid (∀ W, _) := fun W => spec_size o (by omega) W
    have hpo : 2 ^ o ≤ 32 := bd.pow_le32 (by omega)
    have hpo0 : 0 < 2 ^ o := bd.pow_pos' o
    by_cases h2 : 0 ≤ a ∧ a ≤ ((2 ^ n : Nat) : Int) - 1
    · have H2 : Hid (0 ≤ a ∧ a ≤ IntKind.i64.wrap (((2 ^ n : Nat) : Int) - 1)) := by rw [HW.out]; exact h2
      have HF : Hid (inB n (a, (o : Int)) = (a.tmod ((2 ^ o : Nat) : Int) == 0)) := by
        show inB n (a, (o : Int)) = (a.tmod ((2 ^ o : Nat) : Int) == 0)
        simp only [inB, decide_eq_true h1, decide_eq_true h2, Bool.true_and, Int.toNat_natCast]
        rfl
      rw [HF.out]
      generalize 2 ^ n = s at *
      generalize 2 ^ o = t at *
      have ht0 : ¬ t = 0 := by omega
      have ht1 : ((t : Int) == 0) = false := by simp; omega
      clear h1 h2 HF HW
      go_enter Try.func51, Try.ntmps51
      go_wp2_with fail
      go_quiet (first | (go_at_call 53; exact Calls.quiet_of_same (HY.out _ _ _ (by first | exact H1.out | exact H2.out) _)) | (go_at_call 46; exact Calls.quiet_of_same (HN.out _)) | (go_at_call 46; exact Calls.quiet_of_same (HO.out _)))
      go_wp2
      go_ret
      exact ⟨rfl, below_drewN (((Below.refl _ _).alloc (Nat.le_refl _) _).alloc (by simp) _) _⟩
    · have H2 : Hid (¬ (0 ≤ a ∧ a ≤ IntKind.i64.wrap (((2 ^ n : Nat) : Int) - 1))) := by rw [HW.out]; exact h2
      have HF : Hid (inB n (a, (o : Int)) = false) := by
        show inB n (a, (o : Int)) = false
        simp only [inB, decide_eq_false h2, Bool.false_and, Bool.and_false]
      rw [HF.out]
      generalize 2 ^ n = s at *
      clear h1 h2 HF HW HO hpo hpo0
      go_enter Try.func51, Try.ntmps51
      go_wp2_with fail
      go_quiet (first | (go_at_call 53; exact Calls.quiet_of_same (HY.out _ _ _ (by exact H1.out) _)) | (go_at_call 53; exact Calls.quiet_of_same (HZ.out _ _ _ (by exact H2.out) _)) | (go_at_call 46; exact Calls.quiet_of_same (HN.out _)))
      go_wp2
      go_ret
      exact ⟨rfl, below_drewN (((Below.refl _ _).alloc (Nat.le_refl _) _).alloc (by simp) _) _⟩
  · have H1 : Hid (¬ (0 ≤ o ∧ o ≤ (n : Int))) := h1
    have HF : Hid (inB n (a, o) = false) := by
      show inB n (a, o) = false
      simp only [inB, decide_eq_false h1, Bool.false_and]
    rw [HF.out]
    clear h1 HF HW hpn hpn0 HN
    go_enter Try.func51, Try.ntmps51
    go_wp2_with fail
    go_quiet (first | (go_at_call 53; exact Calls.quiet_of_same (HZ.out _ _ _ (by exact H1.out) _)))
    go_wp2
    go_ret
    exact ⟨rfl, below_drewN (((Below.refl _ _).alloc (Nat.le_refl _) _).alloc (by simp) _) _⟩
end Go.Proofs.Ytcokchfedaoccab.bspec
