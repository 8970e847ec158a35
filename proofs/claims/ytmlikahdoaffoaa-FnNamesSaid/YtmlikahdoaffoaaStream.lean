/-
  The walks of StreamRight and StreamNext, the specification's and the program's, at every stream. No condition.
-/
import Derived.Test.YtmlikahdoaffoaaRows
import Derived.Test.YtmlikahdoaffoaaPermFacts
import Derived.Test.YtmlikahdoaffoaaMix
import Derived.Test.YtmlikahdoaffoaaPerm
import Derived.Test.YtmlikahdoaffoaaPermAll
import Derived.WalkKit
import Derived.ProofKit
import Derived.WalkLawsBesides
import Derived.Below
import Derived.Deep.RegionHeld3
namespace Go.Proofs.Ytmlikahdoaffoaa.strm
open Go.RowKit
open Go.Proofs.Ytmlikahdoaffoaa
open Go.Proofs.Ytmlikahdoaffoaa.pm
open Go.Proofs.Ytmlikahdoaffoaa.mix (ret_int val_int)

def rightS (k c : Int) : Bool := keyB k && decide (0 ≤ c ∧ c ≤ 1000)
/-- what StreamNext answers: the next stream, the name, the code -/
structure Out where
  key : Int
  count : Int
  id : Int
  code : Int
def nextS (k c : Int) : Out := if rightS k c then (if c = 1000 then ⟨0, 0, 0, 9⟩ else ⟨k, c + 1, permI k c, 0⟩) else ⟨0, 0, 0, 1⟩
def Out.val (o : Out) : Value := .agg #[.int .i64 o.key, .int .i64 o.count, .int .i64 o.id, .int .i64 o.code]

theorem right_of {k c : Int} (h : rightS k c = true) : keyB k = true ∧ 0 ≤ c ∧ c ≤ 1000 := by simpa [rightS] using h

theorem spec_right (k c : Int) (w : World) : Calls Try.prog 15 #[.agg #[.int .i64 k, .int .i64 c]] w fun e w' => e = .returned (.bool (rightS k c)) ∧ w' = w.alloc (.cells #[.int .i64 k, .int .i64 c] 29) := by
  have HK : Hid (∀ W, _) := fun W => mix.spec_key k W
  have HI : Hid (∀ W, _) := fun W => mix.spec_is c 0 1000 W
  cases hk : keyB k with
  | false =>
    have hf : rightS k c = false := by simp [rightS, hk]
    rw [hf]
    go_enter Try.func15, Try.ntmps15
    go_wp2_with (first | (go_at_call 24; refine (HK.out _).mono ?_; rintro e w' ⟨rfl, rfl⟩))
    go_ret
    exact ⟨rfl, rfl⟩
  | true =>
    have HF : Hid (rightS k c = decide (0 ≤ c ∧ c ≤ 1000)) := by simp [Hid, rightS, hk]
    generalize hb : decide (0 ≤ c ∧ c ≤ 1000) = b at *
    clear hb
    go_enter Try.func15, Try.ntmps15
    go_wp2_with (first | (go_at_call 24; refine (HK.out _).mono ?_; rintro e w' ⟨rfl, rfl⟩) | (go_at_call 25; refine (HI.out _).mono ?_; rintro e w' ⟨rfl, rfl⟩))
    go_ret
    exact ⟨by rw [HF.out]; rfl, rfl⟩

theorem impl_right (k c : Int) (w : World) : Calls Try.prog 17 #[.agg #[.int .i64 k, .int .i64 c]] w fun e w' => e = .returned (.bool (rightS k c)) ∧ w' = w.alloc (.cells #[.int .i64 k, .int .i64 c] 29) := by
  have HK : Hid (∀ W, _) := fun W => mix.impl_key k W
  cases hk : keyB k with
  | false =>
    have hf : rightS k c = false := by simp [rightS, hk]
    rw [hf]
    go_enter Try.func17, Try.ntmps17
    go_wp2_with (first | (go_at_call 27; refine (HK.out _).mono ?_; rintro e w' ⟨rfl, rfl⟩))
    go_ret
    exact ⟨rfl, rfl⟩
  | true =>
    by_cases h0 : 0 ≤ c
    · by_cases h1 : c ≤ 1000
      · have hf : rightS k c = true := by simp [rightS, hk, h0, h1]
        rw [hf]
        go_enter Try.func17, Try.ntmps17
        go_wp2_with (first | (go_at_call 27; refine (HK.out _).mono ?_; rintro e w' ⟨rfl, rfl⟩))
        go_ret
        exact ⟨by simp, rfl⟩
      · have hf : rightS k c = false := by simp [rightS, h1]
        rw [hf]
        go_enter Try.func17, Try.ntmps17
        go_wp2_with (first | (go_at_call 27; refine (HK.out _).mono ?_; rintro e w' ⟨rfl, rfl⟩))
        go_ret
        exact ⟨by simp; omega, rfl⟩
    · have hf : rightS k c = false := by simp [rightS, h0]
      rw [hf]
      go_enter Try.func17, Try.ntmps17
      go_wp2_with (first | (go_at_call 27; refine (HK.out _).mono ?_; rintro e w' ⟨rfl, rfl⟩))
      go_ret
      exact ⟨by simp, rfl⟩

set_option maxRecDepth 100000 in
theorem spec_next (k c : Int) (w : World) : Calls Try.prog 18 #[.agg #[.int .i64 k, .int .i64 c]] w fun e w' => e = .returned (nextS k c).val ∧ Below w.heap.size w w' := by
  have HR : Hid (∀ W, _) := fun W => spec_right k c W
  cases hr : rightS k c with
  | false =>
    have hf : nextS k c = ⟨0, 0, 0, 1⟩ := by simp [nextS, hr]
    rw [hf]
    simp only [Out.val]
    go_enter Try.func18, Try.ntmps18
    go_wp2_with (first | (go_at_call 15; refine Calls.mono (HR.out _) ?_; rintro e w1 ⟨rfl, rfl⟩))
    exact bodyPost_ret (v := .agg #[.int .i64 0, .int .i64 0, .int .i64 0, .int .i64 1]) (by simp [results, Try.results18, go_sem]) rfl
      ⟨rfl, (((Below.refl _ _).alloc (Nat.le_refl _) _).alloc (by simp) _).alloc (by simp; omega) _⟩
  | true =>
    obtain ⟨hk, h0, h1⟩ := right_of hr
    by_cases he : c = 1000
    · subst he
      have hf : nextS k 1000 = ⟨0, 0, 0, 9⟩ := by simp [nextS, hr]
      rw [hf]
      simp only [Out.val]
      go_enter Try.func18, Try.ntmps18
      go_wp2_with (first | (go_at_call 15; refine Calls.mono (HR.out _) ?_; rintro e w1 ⟨rfl, rfl⟩))
      exact bodyPost_ret (v := .agg #[.int .i64 0, .int .i64 0, .int .i64 0, .int .i64 9]) (by simp [results, Try.results18, go_sem]) rfl
        ⟨rfl, (((Below.refl _ _).alloc (Nat.le_refl _) _).alloc (by simp) _).alloc (by simp; omega) _⟩
    · obtain ⟨k, hk', rfl⟩ := key_nat k hk
      obtain ⟨c, hc', rfl⟩ : ∃ n : Nat, n < 1000 ∧ c = (n : Int) := ⟨c.toNat, by omega, by omega⟩
      have hf : nextS k c = ⟨k, c + 1, permN k c, 0⟩ := by
        have e : permI k c = (permN k c : Int) := by rw [permI, hk, key_of (c : Int) (by omega) (by omega)]; rfl
        rw [nextS, hr, if_pos rfl, if_neg he, e]
      rw [hf]
      simp only [Out.val]
      have HP : Hid (∀ W, _) := fun W => perm.spec_perm0 k c hk' (by omega) W
      generalize permN k c = x at *
      clear he h0 h1
      go_enter Try.func18, Try.ntmps18
      go_wp2_with (first | (go_at_call 15; refine Calls.mono (HR.out _) ?_; rintro e w1 ⟨rfl, rfl⟩) | (go_at_call 29; refine Calls.mono (HP.out _) ?_; rintro e w1 ⟨rfl, rfl⟩))
      exact bodyPost_ret (v := .agg #[.int .i64 k, .int .i64 (c + 1), .int .i64 x, .int .i64 0]) (by simp [results, Try.results18, go_sem]) rfl
        ⟨rfl, (((Below.refl _ _).alloc (Nat.le_refl _) _).alloc (by simp) _).alloc (by simp; omega) _⟩
end Go.Proofs.Ytmlikahdoaffoaa.strm
