/-
  The walks of KeyOf, the specification's and the program's, at every two numbers. No condition.
-/
import Derived.Test.YtfomjonenpgidaaRows
import Derived.Test.YtfomjonenpgidaaPermFacts
import Derived.Test.YtfomjonenpgidaaMix
import Derived.Test.YtfomjonenpgidaaLabel
import Derived.WalkKit
import Derived.ProofKit
import Derived.WalkLawsBesides
namespace Go.Proofs.Ytfomjonenpgidaa.keyof
open Go.RowKit
open Go.Proofs.Ytfomjonenpgidaa
open Go.Proofs.Ytfomjonenpgidaa.pm
open Go.Proofs.Ytfomjonenpgidaa.mix (ret_int val_int)

/-- the key of a seed and a label -/
def keyI (s l : Int) : Int := if keyB s && label.rightB l then (s * 31 + l * 977 + 7) % 65536 else -1
theorem key_yes {s l : Int} (hs : keyB s = true) (hl : label.rightB l = true) : keyI s l = (s * 31 + l * 977 + 7) % 65536 := by simp [keyI, hs, hl]
theorem key_nos {s l : Int} (hs : keyB s = false) : keyI s l = -1 := by simp [keyI, hs]
theorem key_nol {s l : Int} (hl : label.rightB l = false) : keyI s l = -1 := by simp [keyI, hl]

theorem spec_keyof (s l : Int) (w : World) : Calls Try.prog 9 #[.int .i64 s, .int .i64 l] w fun e w' => e = .returned (.int .i64 (keyI s l)) ∧ w' = w := by
  have HK : Hid (∀ W, _) := fun W => mix.spec_key s W
  have HL : Hid (∀ W, _) := fun W => label.spec_right l W
  cases hs : keyB s with
  | false =>
    rw [key_nos hs]
    go_enter Try.func9, Try.ntmps9
    go_wp2_with (first | (go_at_call 37; refine (HK.out _).mono ?_; rintro e w' ⟨rfl, rfl⟩) | (go_at_call 38; refine (HL.out _).mono ?_; rintro e w' ⟨rfl, rfl⟩))
    go_ret
    exact ⟨rfl, rfl⟩
  | true =>
    cases hl : label.rightB l with
    | false =>
      rw [key_nol hl]
      go_enter Try.func9, Try.ntmps9
      go_wp2_with (first | (go_at_call 37; refine (HK.out _).mono ?_; rintro e w' ⟨rfl, rfl⟩) | (go_at_call 38; refine (HL.out _).mono ?_; rintro e w' ⟨rfl, rfl⟩))
      go_ret
      exact ⟨rfl, rfl⟩
    | true =>
      have HF : Hid (keyI s l = (s * 31 + l * 977 + 7) % 65536) := key_yes hs hl
      obtain ⟨k, hk, rfl⟩ := key_nat s hs
      obtain ⟨l0, l1⟩ := label.right_yes l hl
      go_enter Try.func9, Try.ntmps9
      go_wp2_with (first | (go_at_call 37; refine (HK.out _).mono ?_; rintro e w' ⟨rfl, rfl⟩) | (go_at_call 38; refine (HL.out _).mono ?_; rintro e w' ⟨rfl, rfl⟩))
      go_ret
      refine ⟨ret_int ?_, rfl⟩
      rw [HF.out]

theorem impl_keyof (s l : Int) (w : World) : Calls Try.prog 10 #[.int .i64 s, .int .i64 l] w fun e w' => e = .returned (.int .i64 (keyI s l)) ∧ w' = w := by
  have HK : Hid (∀ W, _) := fun W => mix.impl_key s W
  have HL : Hid (∀ W, _) := fun W => label.impl_right l W
  cases hs : keyB s with
  | false =>
    rw [key_nos hs]
    go_enter Try.func10, Try.ntmps10
    go_wp2_with (first | (go_at_call 39; refine (HK.out _).mono ?_; rintro e w' ⟨rfl, rfl⟩) | (go_at_call 40; refine (HL.out _).mono ?_; rintro e w' ⟨rfl, rfl⟩))
    go_ret
    exact ⟨rfl, rfl⟩
  | true =>
    cases hl : label.rightB l with
    | false =>
      rw [key_nol hl]
      go_enter Try.func10, Try.ntmps10
      go_wp2_with (first | (go_at_call 39; refine (HK.out _).mono ?_; rintro e w' ⟨rfl, rfl⟩) | (go_at_call 40; refine (HL.out _).mono ?_; rintro e w' ⟨rfl, rfl⟩))
      go_ret
      exact ⟨rfl, rfl⟩
    | true =>
      have HF : Hid (keyI s l = (s * 31 + l * 977 + 7) % 65536) := key_yes hs hl
      obtain ⟨k, hk, rfl⟩ := key_nat s hs
      obtain ⟨l0, l1⟩ := label.right_yes l hl
      go_enter Try.func10, Try.ntmps10
      go_wp2_with (first | (go_at_call 39; refine (HK.out _).mono ?_; rintro e w' ⟨rfl, rfl⟩) | (go_at_call 40; refine (HL.out _).mono ?_; rintro e w' ⟨rfl, rfl⟩))
      go_ret
      refine ⟨ret_int ?_, rfl⟩
      rw [HF.out]
end Go.Proofs.Ytfomjonenpgidaa.keyof
