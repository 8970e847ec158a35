/-
  The walks of Mix, the specification's and the program's, at every three numbers. No condition.
-/
import Derived.Test.YtohgafblffnekaaRows
import Derived.Test.YtohgafblffnekaaPermFacts
import Derived.WalkKit
import Derived.ProofKit
import Derived.WalkLawsBesides
namespace Go.Proofs.Ytohgafblffnekaa.mix
open Go.RowKit
open Go.Proofs.Ytohgafblffnekaa
open Go.Proofs.Ytohgafblffnekaa.pm

theorem ret_int {k : IntKind} {a b : Int} (h : a = b) : Ending.returned (.int k a) = .returned (.int k b) := by rw [h]
theorem val_int {k : IntKind} {a b : Int} (h : a = b) : Value.int k a = .int k b := by rw [h]

theorem spec_is (n a b : Int) (w : World) : Calls Try.prog 39 #[.int .i64 n, .int .i64 a, .int .i64 b] w fun e w' => e = .returned (.bool (decide (a ≤ n ∧ n ≤ b))) ∧ w' = w := by
  by_cases h0 : a ≤ n
  · by_cases h1 : n ≤ b
    · rw [decide_eq_true (show a ≤ n ∧ n ≤ b from ⟨h0, h1⟩)]
      go_enter Try.func39, Try.ntmps39
      go_wp2
      go_ret
      exact ⟨by simp, rfl⟩
    · rw [decide_eq_false (show ¬ (a ≤ n ∧ n ≤ b) from fun h => h1 h.2)]
      go_enter Try.func39, Try.ntmps39
      go_wp2
      go_ret
      exact ⟨by simp, rfl⟩
  · rw [decide_eq_false (show ¬ (a ≤ n ∧ n ≤ b) from fun h => h0 h.1)]
    go_enter Try.func39, Try.ntmps39
    go_wp2
    go_ret
    exact ⟨by simp, rfl⟩

theorem spec_key (n : Int) (w : World) : Calls Try.prog 57 #[.int .i64 n] w fun e w' => e = .returned (.bool (keyB n)) ∧ w' = w := by
  have HR : Hid (∀ W, _) := fun W => spec_is n 0 65535 W
  go_enter Try.func57, Try.ntmps57
  go_wp2_with fail
  refine (HR.out _).mono ?_
  rintro e w' ⟨rfl, rfl⟩
  go_wp2
  go_ret
  exact ⟨by simp [keyB], rfl⟩

theorem impl_key (n : Int) (w : World) : Calls Try.prog 55 #[.int .i64 n] w fun e w' => e = .returned (.bool (keyB n)) ∧ w' = w := by
  by_cases h0 : 0 ≤ n
  · by_cases h1 : n ≤ 65535
    · rw [key_of n h0 h1]
      go_enter Try.func55, Try.ntmps55
      go_wp2
      go_ret
      exact ⟨by simp, rfl⟩
    · rw [key_not n (by omega)]
      go_enter Try.func55, Try.ntmps55
      go_wp2
      go_ret
      exact ⟨by simp, rfl⟩
  · rw [key_not n (by omega)]
    go_enter Try.func55, Try.ntmps55
    go_wp2
    go_ret
    exact ⟨by simp, rfl⟩

theorem prod_lt (k r h : Nat) (hk : k < 65536) (hr : r < 4) (hh : h < 256) : (h + r) * (k + 2 * r + 1) ≤ 16975874 :=
  Nat.le_trans (Nat.mul_le_mul (show h + r ≤ 258 by omega) (show k + 2 * r + 1 ≤ 65542 by omega)) (by decide)

theorem mix_eq (k r h : Nat) : ((h : Int) + r) * ((k : Int) + 2 * r + 1) = (((h + r) * (k + 2 * r + 1) : Nat) : Int) := by simp
theorem wrap_of (n : Nat) (h : n ≤ 16975874) : wrap64 (n : Int) = (n : Int) := by
  unfold wrap64; omega
theorem mix_i64 (k r h : Nat) (hp : (h + r) * (k + 2 * r + 1) ≤ 16975874) :
    (wrap64 ((wrap64 (((h : Int) + r) * ((k : Int) + 2 * r + 1))).tdiv 8)).tmod 256 = ((mixN k r h : Nat) : Int) := by
  rw [mix_eq, mixN]
  generalize (h + r) * (k + 2 * r + 1) = p at hp
  rw [wrap_of p hp, Int.tdiv_eq_ediv_of_nonneg (by omega)]
  have e : (p : Int) / 8 = ((p / 8 : Nat) : Int) := by omega
  rw [e, wrap_of (p / 8) (by omega), Int.tmod_eq_emod_of_nonneg (by omega)]
  omega
theorem mix_u32 (k r h : Nat) (hp : (h + r) * (k + 2 * r + 1) ≤ 16975874) :
    ((h : Int) + r) * ((k : Int) + 2 * r + 1) % 4294967296 / 8 % 256 = ((mixN k r h : Nat) : Int) := by
  rw [mix_eq, mixN]
  generalize (h + r) * (k + 2 * r + 1) = p at hp
  omega

theorem spec_mix0 (k r h : Nat) (hk : k < 65536) (hr : r < 4) (hh : h < 256) (w : World) :
    Calls Try.prog 122 #[.int .i64 k, .int .i64 r, .int .i64 h] w fun e w' => e = .returned (.int .i64 (mixN k r h : Nat)) ∧ w' = w := by
  have HM : Hid _ := mix_i64 k r h (prod_lt k r h hk hr hh)
  go_enter Try.func122, Try.ntmps122
  go_wp2
  go_ret
  exact ⟨ret_int HM.out, rfl⟩

theorem impl_mix0 (k r h : Nat) (hk : k < 65536) (hr : r < 4) (hh : h < 256) (w : World) :
    Calls Try.prog 130 #[.int .u16 k, .int .u32 r, .int .u8 h] w fun e w' => e = .returned (.int .u8 (mixN k r h : Nat)) ∧ w' = w := by
  have HM : Hid _ := mix_u32 k r h (prod_lt k r h hk hr hh)
  go_enter Try.func130, Try.ntmps130
  go_wp2
  go_ret
  exact ⟨ret_int HM.out, rfl⟩


end Go.Proofs.Ytohgafblffnekaa.mix
