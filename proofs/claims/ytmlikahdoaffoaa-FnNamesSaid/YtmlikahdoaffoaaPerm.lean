/-
  The walks of Permute and Unpermute, the specification's and the program's, at every pair of numbers. No condition.
-/
import Derived.Test.YtmlikahdoaffoaaRows
import Derived.Test.YtmlikahdoaffoaaPermFacts
import Derived.Test.YtmlikahdoaffoaaMix
import Derived.WalkKit
import Derived.ProofKit
import Derived.WalkLawsBesides
import Derived.Below
namespace Go.Proofs.Ytmlikahdoaffoaa.perm
open Go.RowKit
open Go.Proofs.Ytmlikahdoaffoaa
open Go.Proofs.Ytmlikahdoaffoaa.pm
open Go.Proofs.Ytmlikahdoaffoaa.mix (ret_int val_int)

theorem div_eq (n : Nat) : (n : Int).tdiv 256 = ((n / 256 : Nat) : Int) := by rw [Int.tdiv_eq_ediv_of_nonneg (by omega)]; omega
theorem mod_eq (n : Nat) : (n : Int).tmod 256 = ((n % 256 : Nat) : Int) := by rw [Int.tmod_eq_emod_of_nonneg (by omega)]; omega

/-- a state of the loop: the first i rounds are done -/
def At (k n i : Nat) (l r : Value) : Prop := l = .int .i64 ((fwd k i (cut n)).1 : Nat) ∧ r = .int .i64 ((fwd k i (cut n)).2 : Nat)

theorem spec_perm0 (k n : Nat) (hk : k < 65536) (hn : n < 65536) (w : World) :
    Calls Try.prog 29 #[.int .i64 k, .int .i64 n] w fun e w' => e = .returned (.int .i64 (permN k n : Nat)) ∧ w' = w := by
  have HD : Hid ((n : Int).tdiv 256 = ((n / 256 : Nat) : Int)) := div_eq n
  have HM : Hid ((n : Int).tmod 256 = ((n % 256 : Nat) : Int)) := mod_eq n
  have HF : Hid (∀ i, Half (fwd k i (cut n))) := fwd_half k (cut n) (cut_half n hn)
  have HC : Hid (∀ r h : Nat, r < 4 → h < 256 → ∀ W, _) := fun r h hr hh W => mix.spec_mix0 k r h hk hr hh W
  go_enter Try.func29, Try.ntmps29
  go_wp2
  go_loop [5, 6, 7] (fun l r c => ∃ i : Nat, i ≤ 4 ∧ c = .int .i64 i ∧ Hid (At k n i l r)) (fun _ _ c => 4 - (intOf c).toNat)
  case atStart => exact ⟨0, by omega, rfl, val_int HD.out, val_int HM.out⟩
  case round =>
    obtain ⟨i, hi, rfl, H⟩ := hrel
    obtain ⟨rfl, rfl⟩ := H.out
    have h0 := (HF.out i).1
    have h1 := (HF.out i).2
    by_cases hlt : i < 4
    · have HX : Hid _ := xor_i64 (fwd k i (cut n)).1 (mixN k i (fwd k i (cut n)).2) h0 (mix_lt _ _ _)
      have HS : Hid (fwd k (i + 1) (cut n) = ((fwd k i (cut n)).2, (fwd k i (cut n)).1 ^^^ mixN k i (fwd k i (cut n)).2)) := rfl
      have HC1 : Hid (∀ W, _) := HC.out i _ hlt h1
      clear HD HM H
      generalize fwd k i (cut n) = p at *
      go_wp2_with (go_at_call 26; refine (HC1.out _).mono ?_; rintro e w' ⟨rfl, rfl⟩)
      go_round
      case rel => exact ⟨i + 1, by omega, by go_num, by rw [Hid, At, HS.out]; exact ⟨rfl, val_int HX.out⟩⟩
      case measure => simp [intOf]; omega
    · obtain rfl : i = 4 := by omega
      have HG : Hid (((fwd k 4 (cut n)).1 : Int) * 256 + (fwd k 4 (cut n)).2 = ((permN k n : Nat) : Int)) := by rw [Hid, permN, glue]; omega
      clear HD HM H HF HC
      generalize fwd k 4 (cut n) = p at *
      go_wp2
      go_ret
      exact ⟨ret_int HG.out, rfl⟩

theorem spec_perm (k n : Int) (w : World) : Calls Try.prog 11 #[.int .i64 k, .int .i64 n] w fun e w' => e = .returned (.int .i64 (permI k n)) ∧ w' = w := by
  have HK : Hid (∀ n W, _) := fun n W => mix.spec_key n W
  cases hk : keyB k with
  | false =>
    have hf : permI k n = -1 := by simp [permI, hk]
    rw [hf]
    go_enter Try.func11, Try.ntmps11
    go_wp2_with (go_at_call 24; refine (HK.out _ _).mono ?_; rintro e w' ⟨rfl, rfl⟩)
    go_ret
    exact ⟨rfl, rfl⟩
  | true =>
    cases hn : keyB n with
    | false =>
      have hf : permI k n = -1 := by simp [permI, hn]
      rw [hf]
      go_enter Try.func11, Try.ntmps11
      go_wp2_with (go_at_call 24; refine (HK.out _ _).mono ?_; rintro e w' ⟨rfl, rfl⟩)
      go_ret
      exact ⟨rfl, rfl⟩
    | true =>
      obtain ⟨k, hk', rfl⟩ := key_nat k hk
      obtain ⟨n, hn', rfl⟩ := key_nat n hn
      have HF : Hid (permI k n = ((permN k n : Nat) : Int)) := by
        show permI k n = ((permN k n : Nat) : Int)
        rw [permI, hk, hn]; rfl
      have HM : Hid (∀ W, _) := fun W => spec_perm0 k n hk' hn' W
      go_enter Try.func11, Try.ntmps11
      go_wp2_with (first | (go_at_call 24; refine (HK.out _ _).mono ?_; rintro e w' ⟨rfl, rfl⟩) | (go_at_call 29; refine (HM.out _).mono ?_; rintro e w' ⟨rfl, rfl⟩))
      go_ret
      exact ⟨ret_int HF.out.symm, rfl⟩

def AtB (k n i : Nat) (l r : Value) : Prop := l = .int .i64 ((bwd k i (cut n)).1 : Nat) ∧ r = .int .i64 ((bwd k i (cut n)).2 : Nat)

theorem spec_unperm (k n : Int) (w : World) : Calls Try.prog 13 #[.int .i64 k, .int .i64 n] w fun e w' => e = .returned (.int .i64 (unpermI k n)) ∧ w' = w := by
  have HK : Hid (∀ n W, _) := fun n W => mix.spec_key n W
  cases hk : keyB k with
  | false =>
    have hf : unpermI k n = -1 := by simp [unpermI, hk]
    rw [hf]
    go_enter Try.func13, Try.ntmps13
    go_wp2_with (go_at_call 24; refine (HK.out _ _).mono ?_; rintro e w' ⟨rfl, rfl⟩)
    go_ret
    exact ⟨rfl, rfl⟩
  | true =>
    cases hn : keyB n with
    | false =>
      have hf : unpermI k n = -1 := by simp [unpermI, hn]
      rw [hf]
      go_enter Try.func13, Try.ntmps13
      go_wp2_with (go_at_call 24; refine (HK.out _ _).mono ?_; rintro e w' ⟨rfl, rfl⟩)
      go_ret
      exact ⟨rfl, rfl⟩
    | true =>
      obtain ⟨k, hk', rfl⟩ := key_nat k hk
      obtain ⟨n, hn', rfl⟩ := key_nat n hn
      have HE : Hid (unpermI k n = ((unpermN k n : Nat) : Int)) := by
        show unpermI k n = ((unpermN k n : Nat) : Int)
        rw [unpermI, hk, hn]; rfl
      have HD : Hid ((n : Int).tdiv 256 = ((n / 256 : Nat) : Int)) := div_eq n
      have HM : Hid ((n : Int).tmod 256 = ((n % 256 : Nat) : Int)) := mod_eq n
      have HF : Hid (∀ i, Half (bwd k i (cut n))) := bwd_half k (cut n) (cut_half n hn')
      have HC : Hid (∀ r h : Nat, r < 4 → h < 256 → ∀ W, _) := fun r h hr hh W => mix.spec_mix0 k r h hk' hr hh W
      go_enter Try.func13, Try.ntmps13
      go_wp2_with (go_at_call 24; refine (HK.out _ _).mono ?_; rintro e w' ⟨rfl, rfl⟩)
      go_loop [5, 6, 7] (fun l r c => ∃ i : Nat, i ≤ 4 ∧ c = .int .i64 (3 - (i : Int)) ∧ Hid (AtB k n i l r)) (fun _ _ c => (intOf c + 1).toNat)
      case atStart => exact ⟨0, by omega, rfl, val_int HD.out, val_int HM.out⟩
      case round =>
        obtain ⟨i, hi, rfl, H⟩ := hrel
        obtain ⟨rfl, rfl⟩ := H.out
        have h0 := (HF.out i).1
        have h1 := (HF.out i).2
        clear hk hn HK
        by_cases hlt : i < 4
        · obtain ⟨j, hj, rfl⟩ : ∃ j, j < 4 ∧ i = 3 - j := ⟨3 - i, by omega, by omega⟩
          have hij : 3 - (3 - j) = j := by omega
          have hji : (3 : Int) - ((3 - j : Nat) : Int) = (j : Int) := by omega
          rw [hji]
          have HX : Hid _ := xor_i64 (bwd k (3 - j) (cut n)).2 (mixN k j (bwd k (3 - j) (cut n)).1) h1 (mix_lt _ _ _)
          have HS : Hid (bwd k (3 - j + 1) (cut n) = ((bwd k (3 - j) (cut n)).2 ^^^ mixN k j (bwd k (3 - j) (cut n)).1, (bwd k (3 - j) (cut n)).1)) := by
            show back k (3 - (3 - j)) (bwd k (3 - j) (cut n)) = _
            rw [hij]; rfl
          have HC1 : Hid (∀ W, _) := HC.out j _ hj h0
          clear HD HM H HC HF hij hi
          generalize bwd k (3 - j) (cut n) = p at *
          go_wp2_with (go_at_call 26; refine (HC1.out _).mono ?_; rintro e w' ⟨rfl, rfl⟩)
          go_round
          case rel => exact ⟨3 - j + 1, by omega, by rw [val_int]; omega, by rw [Hid, AtB, HS.out]; exact ⟨val_int HX.out, rfl⟩⟩
          case measure => simp [intOf]
        · obtain rfl : i = 4 := by omega
          have HG : Hid (((bwd k 4 (cut n)).1 : Int) * 256 + (bwd k 4 (cut n)).2 = ((unpermN k n : Nat) : Int)) := by rw [Hid, unpermN, glue]; omega
          clear HD HM H HF HC
          generalize bwd k 4 (cut n) = p at *
          go_wp2
          go_ret
          exact ⟨by rw [HE.out]; exact ret_int HG.out, rfl⟩
end Go.Proofs.Ytmlikahdoaffoaa.perm
