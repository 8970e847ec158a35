/-
  The walks of Mix, the specification's and the program's, at every three numbers. No condition.
-/
import Derived.Test.YtmlikahdoaffoaaRows
import Derived.Test.YtmlikahdoaffoaaPermFacts
import Derived.WalkKit
import Derived.ProofKit
import Derived.WalkLawsBesides
namespace Go.Proofs.Ytmlikahdoaffoaa.mix
open Go.RowKit
open Go.Proofs.Ytmlikahdoaffoaa
open Go.Proofs.Ytmlikahdoaffoaa.pm

theorem ret_int {k : IntKind} {a b : Int} (h : a = b) : Ending.returned (.int k a) = .returned (.int k b) := by rw [h]
theorem val_int {k : IntKind} {a b : Int} (h : a = b) : Value.int k a = .int k b := by rw [h]

theorem spec_is (n a b : Int) (w : World) : Calls Try.prog 25 #[.int .i64 n, .int .i64 a, .int .i64 b] w fun e w' => e = .returned (.bool (decide (a ≤ n ∧ n ≤ b))) ∧ w' = w := by
  by_cases h0 : a ≤ n
  · by_cases h1 : n ≤ b
    · rw [decide_eq_true (show a ≤ n ∧ n ≤ b from ⟨h0, h1⟩)]
      go_enter Try.func25, Try.ntmps25
      go_wp2
      go_ret
      exact ⟨by simp, rfl⟩
    · rw [decide_eq_false (show ¬ (a ≤ n ∧ n ≤ b) from fun h => h1 h.2)]
      go_enter Try.func25, Try.ntmps25
      go_wp2
      go_ret
      exact ⟨by simp, rfl⟩
  · rw [decide_eq_false (show ¬ (a ≤ n ∧ n ≤ b) from fun h => h0 h.1)]
    go_enter Try.func25, Try.ntmps25
    go_wp2
    go_ret
    exact ⟨by simp, rfl⟩

theorem spec_key (n : Int) (w : World) : Calls Try.prog 24 #[.int .i64 n] w fun e w' => e = .returned (.bool (keyB n)) ∧ w' = w := by
  have HR : Hid (∀ W, _) := fun W => spec_is n 0 65535 W
  go_enter Try.func24, Try.ntmps24
  go_wp2_with fail
  refine (HR.out _).mono ?_
  rintro e w' ⟨rfl, rfl⟩
  go_wp2
  go_ret
  exact ⟨by simp [keyB], rfl⟩

theorem impl_key (n : Int) (w : World) : Calls Try.prog 27 #[.int .i64 n] w fun e w' => e = .returned (.bool (keyB n)) ∧ w' = w := by
  by_cases h0 : 0 ≤ n
  · by_cases h1 : n ≤ 65535
    · rw [key_of n h0 h1]
      go_enter Try.func27, Try.ntmps27
      go_wp2
      go_ret
      exact ⟨by simp, rfl⟩
    · rw [key_not n (by omega)]
      go_enter Try.func27, Try.ntmps27
      go_wp2
      go_ret
      exact ⟨by simp, rfl⟩
  · rw [key_not n (by omega)]
    go_enter Try.func27, Try.ntmps27
    go_wp2
    go_ret
    exact ⟨by simp, rfl⟩

theorem prod_lt (k r h : Nat) (hk : k < 65536) (hr : r < 4) (hh : h < 256) : (h + r) * (k + 2 * r + 1) ≤ 16975874 :=
  Nat.le_trans (Nat.mul_le_mul (show h + r ≤ 258 by omega) (show k + 2 * r + 1 ≤ 65542 by omega)) (by decide)

theorem mix_eq (k r h : Nat) : ((h : Int) + r) * ((k : Int) + 2 * r + 1) = (((h + r) * (k + 2 * r + 1) : Nat) : Int) := by simp
theorem wrap_of (n : Nat) (h : n ≤ 16975874) : wrap64 (n : Int) = (n : Int) := by
  unfold wrap64; omega
theorem mix_i64 (k r h : Nat) (hp : (h + r) * (k + 2 * r + 1) ≤ 16975874) :
    (wrap64 ((wrap64 (((h : Int) + r) * ((k : Int) + 2 * r + 1))).tdiv 8)).tmod 256 = ((mixN k r h : Nat) : Int) := by
  rw [mix_eq, mixN]
  generalize (h + r) * (k + 2 * r + 1) = p at hp
  rw [wrap_of p hp, Int.tdiv_eq_ediv_of_nonneg (by omega)]
  have e : (p : Int) / 8 = ((p / 8 : Nat) : Int) := by omega
  rw [e, wrap_of (p / 8) (by omega), Int.tmod_eq_emod_of_nonneg (by omega)]
  omega
theorem mix_u32 (k r h : Nat) (hp : (h + r) * (k + 2 * r + 1) ≤ 16975874) :
    ((h : Int) + r) * ((k : Int) + 2 * r + 1) % 4294967296 / 8 % 256 = ((mixN k r h : Nat) : Int) := by
  rw [mix_eq, mixN]
  generalize (h + r) * (k + 2 * r + 1) = p at hp
  omega

theorem spec_mix0 (k r h : Nat) (hk : k < 65536) (hr : r < 4) (hh : h < 256) (w : World) :
    Calls Try.prog 26 #[.int .i64 k, .int .i64 r, .int .i64 h] w fun e w' => e = .returned (.int .i64 (mixN k r h : Nat)) ∧ w' = w := by
  have HM : Hid _ := mix_i64 k r h (prod_lt k r h hk hr hh)
  go_enter Try.func26, Try.ntmps26
  go_wp2
  go_ret
  exact ⟨ret_int HM.out, rfl⟩

theorem impl_mix0 (k r h : Nat) (hk : k < 65536) (hr : r < 4) (hh : h < 256) (w : World) :
    Calls Try.prog 28 #[.int .u16 k, .int .u32 r, .int .u8 h] w fun e w' => e = .returned (.int .u8 (mixN k r h : Nat)) ∧ w' = w := by
  have HM : Hid _ := mix_u32 k r h (prod_lt k r h hk hr hh)
  go_enter Try.func28, Try.ntmps28
  go_wp2
  go_ret
  exact ⟨ret_int HM.out, rfl⟩

theorem spec_mix (k r h : Int) (w : World) : Calls Try.prog 9 #[.int .i64 k, .int .i64 r, .int .i64 h] w fun e w' => e = .returned (.int .i64 (mixI k r h)) ∧ w' = w := by
  have HK : Hid (∀ W, _) := fun W => spec_key k W
  have HI : Hid (∀ n a b W, _) := fun n a b W => spec_is n a b W
  cases hk : keyB k with
  | false =>
    have hf : mixI k r h = -1 := by simp [mixI, mixB, hk]
    rw [hf]
    go_enter Try.func9, Try.ntmps9
    go_wp2_with (go_at_call 24; refine (HK.out _).mono ?_; rintro e w' ⟨rfl, rfl⟩)
    go_ret
    exact ⟨rfl, rfl⟩
  | true =>
    by_cases hr : 0 ≤ r ∧ r ≤ 3
    · by_cases hh : 0 ≤ h ∧ h ≤ 255
      · obtain ⟨k, hk', rfl⟩ := key_nat k hk
        obtain ⟨r, hr', rfl⟩ : ∃ n : Nat, n < 4 ∧ r = (n : Int) := ⟨r.toNat, by omega, by omega⟩
        obtain ⟨h, hh', rfl⟩ : ∃ n : Nat, n < 256 ∧ h = (n : Int) := ⟨h.toNat, by omega, by omega⟩
        have HF : Hid (mixI k r h = ((mixN k r h : Nat) : Int)) := by
          show mixI k r h = ((mixN k r h : Nat) : Int)
          rw [mixI, mixB, hk, decide_eq_true hr, decide_eq_true hh]; rfl
        have HM : Hid (∀ W, _) := fun W => spec_mix0 k r h hk' hr' hh' W
        have hr1 : decide (0 ≤ (r : Int) ∧ (r : Int) ≤ 3) = true := decide_eq_true hr
        have hh1 : decide (0 ≤ (h : Int) ∧ (h : Int) ≤ 255) = true := decide_eq_true hh
        go_enter Try.func9, Try.ntmps9
        go_wp2_with (first | (go_at_call 24; refine (HK.out _).mono ?_; rintro e w' ⟨rfl, rfl⟩) | (go_at_call 25; refine (HI.out _ _ _ _).mono ?_; rintro e w' ⟨rfl, rfl⟩) | (go_at_call 26; refine (HM.out _).mono ?_; rintro e w' ⟨rfl, rfl⟩))
        go_ret
        exact ⟨ret_int HF.out.symm, rfl⟩
      · have hf : mixI k r h = -1 := by simp only [mixI, mixB, hk, decide_eq_false hh]; simp
        rw [hf]
        have hr1 : decide (0 ≤ r ∧ r ≤ 3) = true := decide_eq_true hr
        have hh1 : decide (0 ≤ h ∧ h ≤ 255) = false := decide_eq_false hh
        go_enter Try.func9, Try.ntmps9
        go_wp2_with (first | (go_at_call 24; refine (HK.out _).mono ?_; rintro e w' ⟨rfl, rfl⟩) | (go_at_call 25; refine (HI.out _ _ _ _).mono ?_; rintro e w' ⟨rfl, rfl⟩))
        go_ret
        exact ⟨rfl, rfl⟩
    · have hf : mixI k r h = -1 := by simp only [mixI, mixB, hk, decide_eq_false hr]; simp
      rw [hf]
      have hr1 : decide (0 ≤ r ∧ r ≤ 3) = false := decide_eq_false hr
      go_enter Try.func9, Try.ntmps9
      go_wp2_with (first | (go_at_call 24; refine (HK.out _).mono ?_; rintro e w' ⟨rfl, rfl⟩) | (go_at_call 25; refine (HI.out _ _ _ _).mono ?_; rintro e w' ⟨rfl, rfl⟩))
      go_ret
      exact ⟨rfl, rfl⟩

theorem impl_mix (k r h : Int) (w : World) : Calls Try.prog 10 #[.int .i64 k, .int .i64 r, .int .i64 h] w fun e w' => e = .returned (.int .i64 (mixI k r h)) ∧ w' = w := by
  have HK : Hid (∀ W, _) := fun W => impl_key k W
  cases hk : keyB k with
  | false =>
    have hf : mixI k r h = -1 := by simp [mixI, mixB, hk]
    rw [hf]
    go_enter Try.func10, Try.ntmps10
    go_wp2_with (go_at_call 27; refine (HK.out _).mono ?_; rintro e w' ⟨rfl, rfl⟩)
    go_ret
    exact ⟨rfl, rfl⟩
  | true =>
    by_cases hb : (0 ≤ r ∧ r ≤ 3) ∧ 0 ≤ h ∧ h ≤ 255
    · obtain ⟨k, hk', rfl⟩ := key_nat k hk
      obtain ⟨r, hr', rfl⟩ : ∃ n : Nat, n < 4 ∧ r = (n : Int) := ⟨r.toNat, by omega, by omega⟩
      obtain ⟨h, hh', rfl⟩ : ∃ n : Nat, n < 256 ∧ h = (n : Int) := ⟨h.toNat, by omega, by omega⟩
      have HF : Hid (mixI k r h = ((mixN k r h : Nat) : Int)) := by
        show mixI k r h = ((mixN k r h : Nat) : Int)
        rw [mixI, mixB, hk, decide_eq_true hb.1, decide_eq_true hb.2]; rfl
      have HM : Hid (∀ W, _) := fun W => impl_mix0 k r h hk' hr' hh' W
      have hlt := mix_lt k r h
      clear hb
      go_enter Try.func10, Try.ntmps10
      go_wp2_with (first | (go_at_call 27; refine (HK.out _).mono ?_; rintro e w' ⟨rfl, rfl⟩) | (go_at_call 28; refine (HM.out _).mono ?_; rintro e w' ⟨rfl, rfl⟩))
      go_ret
      exact ⟨ret_int HF.out.symm, rfl⟩
    · have hf : mixI k r h = -1 := by
        by_cases hr : 0 ≤ r ∧ r ≤ 3
        · simp only [mixI, mixB, hk, decide_eq_false (show ¬ (0 ≤ h ∧ h ≤ 255) from fun h => hb ⟨hr, h⟩)]; simp
        · simp only [mixI, mixB, hk, decide_eq_false hr]; simp
      rw [hf]
      clear hf
      by_cases h0 : r < 0
      · go_enter Try.func10, Try.ntmps10
        go_wp2_with (go_at_call 27; refine (HK.out _).mono ?_; rintro e w' ⟨rfl, rfl⟩)
        go_ret
        exact ⟨rfl, rfl⟩
      · by_cases h1 : 4 ≤ r
        · go_enter Try.func10, Try.ntmps10
          go_wp2_with (go_at_call 27; refine (HK.out _).mono ?_; rintro e w' ⟨rfl, rfl⟩)
          go_ret
          exact ⟨rfl, rfl⟩
        · by_cases h2 : h < 0
          · go_enter Try.func10, Try.ntmps10
            go_wp2_with (go_at_call 27; refine (HK.out _).mono ?_; rintro e w' ⟨rfl, rfl⟩)
            go_ret
            exact ⟨rfl, rfl⟩
          · have h3 : 255 < h := by omega
            clear hb
            go_enter Try.func10, Try.ntmps10
            go_wp2_with (go_at_call 27; refine (HK.out _).mono ?_; rintro e w' ⟨rfl, rfl⟩)
            go_ret
            exact ⟨rfl, rfl⟩
end Go.Proofs.Ytmlikahdoaffoaa.mix
