/-
  The walks of the program's isIn and meets.
-/
import Derived.Test.YtcokchfedaoccabBuddyImpl
import Derived.Test.YtcokchfedaoccabBuddyRightW
import Derived.Test.YtcokchfedaoccabBuddyGive
namespace Go.Proofs.Ytcokchfedaoccab.bimpl
open Go.RowKit Go.Deep Go.Sort
open Go.Proofs.Ytcokchfedaoccab
open Go.Proofs.Ytcokchfedaoccab.brows
open Go.Proofs.Ytcokchfedaoccab.bspec
open Go.Proofs.Ytcokchfedaoccab.bd (Blk)
set_option linter.unusedVariables false

set_option maxHeartbeats 1000000 in
theorem impl_in (n : Nat) (hn : n ≤ 5) (x : Pr) (w : World) :
    Calls Try.prog 43 #[.agg #[.int .i64 x.1, .int .i64 x.2], .int .i64 n] w fun e w' => e = .returned (.bool (inB n x)) ∧ Below w.heap.size w w' := by
  obtain ⟨a, o⟩ := x
  simp only
  have hpn : 2 ^ n ≤ 32 := bd.pow_le32 hn
  have HN : Hid (∀ W, _) := fun W => impl_pagesOf n hn W
  by_cases h0 : 0 ≤ o
  · obtain ⟨o, rfl⟩ := Int.eq_ofNat_of_zero_le h0
    by_cases h1 : (o : Int) ≤ (n : Int)
    · have ho : o ≤ n := by omega
      have HO : Hid (∀ W, _) := fun W => impl_pages a o (by omega) W
      have hpo : 2 ^ o ≤ 32 := bd.pow_le32 (by omega)
      have hpo0 : 0 < 2 ^ o := bd.pow_pos' o
      by_cases h2 : 0 ≤ a
      · by_cases h3 : a < ((2 ^ n : Nat) : Int)
        · have HF : Hid (inB n (a, (o : Int)) = (a % ((2 ^ o : Nat) : Int) == 0)) := by
            show inB n (a, (o : Int)) = (a % ((2 ^ o : Nat) : Int) == 0)
            rw [← Int.tmod_eq_emod_of_nonneg h2]
            simp only [inB, decide_eq_true (show 0 ≤ (o : Int) ∧ (o : Int) ≤ (n : Int) from ⟨h0, h1⟩), decide_eq_true (show 0 ≤ a ∧ a ≤ ((2 ^ n : Nat) : Int) - 1 by omega), Bool.true_and, Int.toNat_natCast]
            rfl
          rw [HF.out]
          generalize 2 ^ n = s at *
          generalize 2 ^ o = t at *
          have ht0 : ¬ t = 0 := by omega
          have ht1 : ((t : Int) == 0) = false := by simp; omega
          clear HF
          go_enter Try.func43, Try.ntmps43
          go_wp2_with fail
          obtain ⟨V, hV⟩ : ∃ V, V = w.alloc (.cells #[.int .i64 a, .int .i64 o] 68) := ⟨_, rfl⟩
          have HBV : Hid (Below w.heap.size w V) := by rw [hV]; exact (Below.refl _ _).alloc (Nat.le_refl _) _
          have k0 := cell_regrown (w := V) (a := ⟨w.heap.size, 0, none⟩) (v := .int .i64 a) (by rw [hV]; simp)
          have k1 := cell_regrown (w := V) (a := ⟨w.heap.size, 1, none⟩) (v := .int .i64 o) (by rw [hV]; simp)
          rw [← hV]
          have cN : ∀ d os, _ := fun d os => Calls.regrown_of (w := V) (d := d) (os := os) ((HN.out _).mono fun _ _ h => ⟨h.1, by rw [h.2]; exact Below.refl _ _⟩)
          have cO : ∀ d os, _ := fun d os => Calls.regrown_of (w := V) (d := d) (os := os) (HO.out _)
          clear hV
          refine wp_region_quiet_below (by kernel_rfl) (by kernel_rfl) ?_
          repeat (go_big_quiet_step (first | (go_at_call 63; exact cN _ _) | (go_at_call 48; exact cO _ _)))
          refine wpQuiet_nil ?_
          intro _ hw'
          obtain ⟨⟨dq, osq⟩, hw''⟩ := hw'
          subst hw''
          go_wp2_with fail
          go_ret
          exact ⟨rfl, HBV.out.trans ((below_regrown V dq osq).mono HBV.out.size)⟩
        · have HF : Hid (inB n (a, (o : Int)) = false) := by
            show inB n (a, (o : Int)) = false
            simp only [inB, decide_eq_false (show ¬ (0 ≤ a ∧ a ≤ ((2 ^ n : Nat) : Int) - 1) by omega), Bool.false_and, Bool.and_false]
          rw [HF.out]
          generalize 2 ^ n = s at *
          clear HF HO hpo hpo0
          have hd : decide (a < (s : Int)) = false := decide_eq_false h3
          go_enter Try.func43, Try.ntmps43
          go_wp2_with fail
          obtain ⟨V, hV⟩ : ∃ V, V = w.alloc (.cells #[.int .i64 a, .int .i64 (o : Int)] 68) := ⟨_, rfl⟩
          have HBV : Hid (Below w.heap.size w V) := by rw [hV]; exact (Below.refl _ _).alloc (Nat.le_refl _) _
          have k0 := cell_regrown (w := V) (a := ⟨w.heap.size, 0, none⟩) (v := .int .i64 a) (by rw [hV]; simp)
          have k1 := cell_regrown (w := V) (a := ⟨w.heap.size, 1, none⟩) (v := .int .i64 (o : Int)) (by rw [hV]; simp)
          rw [← hV]
          have cN : ∀ d os, _ := fun d os => Calls.regrown_of (w := V) (d := d) (os := os) ((HN.out _).mono fun _ _ h => ⟨h.1, by rw [h.2]; exact Below.refl _ _⟩)
          clear hV
          refine wp_region_quiet_below (by kernel_rfl) (by kernel_rfl) ?_
          repeat (go_big_quiet_step (first | (go_at_call 63; exact cN _ _)))
          refine wpQuiet_nil ?_
          intro _ hw'
          obtain ⟨⟨dq, osq⟩, hw''⟩ := hw'
          subst hw''
          go_wp2_with fail
          go_ret
          exact ⟨rfl, HBV.out.trans ((below_regrown V dq osq).mono HBV.out.size)⟩
      · have HF : Hid (inB n (a, (o : Int)) = false) := by
          show inB n (a, (o : Int)) = false
          simp only [inB, decide_eq_false (show ¬ (0 ≤ a ∧ a ≤ ((2 ^ n : Nat) : Int) - 1) by omega), Bool.false_and, Bool.and_false]
        rw [HF.out]
        clear HF HO hpo hpo0 HN hpn
        have hd : decide (0 ≤ a) = false := decide_eq_false h2
        go_enter Try.func43, Try.ntmps43
        go_wp2_with fail
        obtain ⟨V, hV⟩ : ∃ V, V = w.alloc (.cells #[.int .i64 a, .int .i64 (o : Int)] 68) := ⟨_, rfl⟩
        have HBV : Hid (Below w.heap.size w V) := by rw [hV]; exact (Below.refl _ _).alloc (Nat.le_refl _) _
        have k0 := cell_regrown (w := V) (a := ⟨w.heap.size, 0, none⟩) (v := .int .i64 a) (by rw [hV]; simp)
        have k1 := cell_regrown (w := V) (a := ⟨w.heap.size, 1, none⟩) (v := .int .i64 (o : Int)) (by rw [hV]; simp)
        rw [← hV]
        clear hV
        refine wp_region_quiet_below (by kernel_rfl) (by kernel_rfl) ?_
        repeat (go_big_quiet_step (fail))
        refine wpQuiet_nil ?_
        intro _ hw'
        obtain ⟨⟨dq, osq⟩, hw''⟩ := hw'
        subst hw''
        go_wp2_with fail
        go_ret
        exact ⟨rfl, HBV.out.trans ((below_regrown V dq osq).mono HBV.out.size)⟩
    · have HF : Hid (inB n (a, (o : Int)) = false) := by
        show inB n (a, (o : Int)) = false
        simp only [inB, decide_eq_false (show ¬ (0 ≤ (o : Int) ∧ (o : Int) ≤ (n : Int)) by omega), Bool.false_and]
      rw [HF.out]
      clear HF HN hpn
      have hd : decide ((o : Int) ≤ (n : Int)) = false := decide_eq_false h1
      have hd2 : decide (o ≤ n) = false := decide_eq_false (by omega)
      go_enter Try.func43, Try.ntmps43
      go_wp2_with fail
      obtain ⟨V, hV⟩ : ∃ V, V = w.alloc (.cells #[.int .i64 a, .int .i64 (o : Int)] 68) := ⟨_, rfl⟩
      have HBV : Hid (Below w.heap.size w V) := by rw [hV]; exact (Below.refl _ _).alloc (Nat.le_refl _) _
      have k0 := cell_regrown (w := V) (a := ⟨w.heap.size, 0, none⟩) (v := .int .i64 a) (by rw [hV]; simp)
      have k1 := cell_regrown (w := V) (a := ⟨w.heap.size, 1, none⟩) (v := .int .i64 (o : Int)) (by rw [hV]; simp)
      rw [← hV]
      clear hV
      refine wp_region_quiet_below (by kernel_rfl) (by kernel_rfl) ?_
      repeat (go_big_quiet_step (fail))
      refine wpQuiet_nil ?_
      intro _ hw'
      obtain ⟨⟨dq, osq⟩, hw''⟩ := hw'
      subst hw''
      go_wp2_with fail
      go_ret
      exact ⟨rfl, HBV.out.trans ((below_regrown V dq osq).mono HBV.out.size)⟩
  · have HF : Hid (inB n (a, o) = false) := by
      show inB n (a, o) = false
      simp only [inB, decide_eq_false (show ¬ (0 ≤ o ∧ o ≤ (n : Int)) by omega), Bool.false_and]
    rw [HF.out]
    clear HF HN hpn
    have hd : decide (0 ≤ o) = false := decide_eq_false h0
    go_enter Try.func43, Try.ntmps43
    go_wp2_with fail
    obtain ⟨V, hV⟩ : ∃ V, V = w.alloc (.cells #[.int .i64 a, .int .i64 o] 68) := ⟨_, rfl⟩
    have HBV : Hid (Below w.heap.size w V) := by rw [hV]; exact (Below.refl _ _).alloc (Nat.le_refl _) _
    have k0 := cell_regrown (w := V) (a := ⟨w.heap.size, 0, none⟩) (v := .int .i64 a) (by rw [hV]; simp)
    have k1 := cell_regrown (w := V) (a := ⟨w.heap.size, 1, none⟩) (v := .int .i64 o) (by rw [hV]; simp)
    rw [← hV]
    clear hV
    refine wp_region_quiet_below (by kernel_rfl) (by kernel_rfl) ?_
    repeat (go_big_quiet_step (fail))
    refine wpQuiet_nil ?_
    intro _ hw'
    obtain ⟨⟨dq, osq⟩, hw''⟩ := hw'
    subst hw''
    go_wp2_with fail
    go_ret
    exact ⟨rfl, HBV.out.trans ((below_regrown V dq osq).mono HBV.out.size)⟩

/-- do two blocks meet? -/
def meetB (y x : Blk) : Bool := decide (y.1 < x.1 + 2 ^ x.2) && decide (x.1 < y.1 + 2 ^ y.2)
theorem meetB_iff {y x : Blk} : meetB y x = true ↔ Meets y x := by simp [meetB, Meets]
set_option maxHeartbeats 1000000 in
theorem impl_meets (y x : Blk) (hy : y.2 ≤ 5) (hx : x.2 ≤ 5) (hy1 : y.1 < 64) (hx1 : x.1 < 64) (w : World) :
    Calls Try.prog 44 #[.agg #[.int .i64 y.1, .int .i64 y.2], .agg #[.int .i64 x.1, .int .i64 x.2]] w fun e w' => e = .returned (.bool (meetB y x)) ∧ Below w.heap.size w w' := by
  obtain ⟨a, o⟩ := y
  obtain ⟨b, q⟩ := x
  simp only at hy hx hy1 hx1 ⊢
  have HO : Hid (∀ W, _) := fun W => impl_pages (a : Int) o hy W
  have HQ : Hid (∀ W, _) := fun W => impl_pages (b : Int) q hx W
  have hpo : 2 ^ o ≤ 32 := bd.pow_le32 hy
  have hpq : 2 ^ q ≤ 32 := bd.pow_le32 hx
  have HM : Hid (meetB (a, o) (b, q) = (decide (a < b + 2 ^ q) && decide (b < a + 2 ^ o))) := rfl
  rw [HM.out]
  clear HM
  generalize 2 ^ o = s at *
  generalize 2 ^ q = t at *
  by_cases h1 : a < b + t
  · have hd : decide ((a : Int) < (b : Int) + (t : Int)) = true := decide_eq_true (by omega)
    rw [decide_eq_true h1, Bool.true_and]
    go_enter Try.func44, Try.ntmps44
    go_wp2_with fail
    obtain ⟨V, hV⟩ : ∃ V, V = (w.alloc (.cells #[.int .i64 a, .int .i64 o] 68)).alloc (.cells #[.int .i64 b, .int .i64 q] 68) := ⟨_, rfl⟩
    have HBV : Hid (Below w.heap.size w V) := by rw [hV]; exact ((Below.refl _ _).alloc (Nat.le_refl _) _).alloc (by simp) _
    have k0 := cell_regrown (w := V) (a := ⟨w.heap.size, 0, none⟩) (v := .int .i64 a) (by rw [hV]; simp)
    have k1 := cell_regrown (w := V) (a := ⟨w.heap.size, 1, none⟩) (v := .int .i64 o) (by rw [hV]; simp)
    have k2 := cell_regrown (w := V) (a := ⟨w.heap.size + 1, 0, none⟩) (v := .int .i64 b) (by rw [hV]; simp)
    have k3 := cell_regrown (w := V) (a := ⟨w.heap.size + 1, 1, none⟩) (v := .int .i64 q) (by rw [hV]; simp)
    rw [← hV]
    have cO : ∀ d os, _ := fun d os => Calls.regrown_of (w := V) (d := d) (os := os) (HO.out _)
    have cQ : ∀ d os, _ := fun d os => Calls.regrown_of (w := V) (d := d) (os := os) (HQ.out _)
    clear hV
    refine wp_region_quiet_below (by kernel_rfl) (by kernel_rfl) ?_
    repeat (go_big_quiet_step (first | (go_at_call 48; exact cO _ _) | (go_at_call 48; exact cQ _ _)))
    refine wpQuiet_nil ?_
    intro _ hw'
    obtain ⟨⟨dq, osq⟩, hw''⟩ := hw'
    subst hw''
    go_wp2_with fail
    go_ret
    refine ⟨?_, HBV.out.trans ((below_regrown V dq osq).mono HBV.out.size)⟩
    exact ret_bool (by rw [decide_eq_decide]; omega)
  · have hd : decide ((a : Int) < (b : Int) + (t : Int)) = false := decide_eq_false (by omega)
    have hd2 : decide (a < b + t) = false := decide_eq_false h1
    rw [decide_eq_false h1, Bool.false_and]
    go_enter Try.func44, Try.ntmps44
    go_wp2_with fail
    obtain ⟨V, hV⟩ : ∃ V, V = (w.alloc (.cells #[.int .i64 a, .int .i64 o] 68)).alloc (.cells #[.int .i64 b, .int .i64 q] 68) := ⟨_, rfl⟩
    have HBV : Hid (Below w.heap.size w V) := by rw [hV]; exact ((Below.refl _ _).alloc (Nat.le_refl _) _).alloc (by simp) _
    have k0 := cell_regrown (w := V) (a := ⟨w.heap.size, 0, none⟩) (v := .int .i64 a) (by rw [hV]; simp)
    have k1 := cell_regrown (w := V) (a := ⟨w.heap.size, 1, none⟩) (v := .int .i64 o) (by rw [hV]; simp)
    have k2 := cell_regrown (w := V) (a := ⟨w.heap.size + 1, 0, none⟩) (v := .int .i64 b) (by rw [hV]; simp)
    have k3 := cell_regrown (w := V) (a := ⟨w.heap.size + 1, 1, none⟩) (v := .int .i64 q) (by rw [hV]; simp)
    rw [← hV]
    have cQ : ∀ d os, _ := fun d os => Calls.regrown_of (w := V) (d := d) (os := os) (HQ.out _)
    clear hV HO
    refine wp_region_quiet_below (by kernel_rfl) (by kernel_rfl) ?_
    repeat (go_big_quiet_step (first | (go_at_call 48; exact cQ _ _)))
    refine wpQuiet_nil ?_
    intro _ hw'
    obtain ⟨⟨dq, osq⟩, hw''⟩ := hw'
    subst hw''
    go_wp2_with fail
    go_ret
    exact ⟨rfl, HBV.out.trans ((below_regrown V dq osq).mono HBV.out.size)⟩
end Go.Proofs.Ytcokchfedaoccab.bimpl
