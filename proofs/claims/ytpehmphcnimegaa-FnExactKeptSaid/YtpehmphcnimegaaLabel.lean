/-
  The walks of LabelRight, Flows, Join and Meet, the specification's and the program's, at every pair of numbers. No condition.
-/
import Derived.Test.YtpehmphcnimegaaRows
import Derived.WalkKit
import Derived.ProofKit
import Derived.WalkLawsBesides
namespace Go.Proofs.Ytpehmphcnimegaa.label
open Go.RowKit
open Go.Proofs.Ytpehmphcnimegaa

/-- is it a label? -/
def rightB (l : Int) : Bool := decide (0 ≤ l ∧ l ≤ 15)
/-- a flows to b -/
def flo (a b : Int) : Bool := rightB a && rightB b && decide (a.toNat &&& b.toNat = a.toNat)
def joinI (a b : Int) : Int := if rightB a && rightB b then ((a.toNat ||| b.toNat : Nat) : Int) else -1
def meetI (a b : Int) : Int := if rightB a && rightB b then ((a.toNat &&& b.toNat : Nat) : Int) else -1

theorem right_yes (l : Int) (h : rightB l = true) : 0 ≤ l ∧ l ≤ 15 := by simpa [rightB] using h
theorem right_no (l : Int) (h : rightB l = false) : l < 0 ∨ 15 < l := by
  simp [rightB] at h; omega
theorem rightB_of (l : Int) (h0 : 0 ≤ l) (h1 : l ≤ 15) : rightB l = true := by simp [rightB, h0, h1]
theorem rightB_not (l : Int) (h : l < 0 ∨ 15 < l) : rightB l = false := by simp [rightB]; omega

theorem nat_of (l : Int) (h0 : 0 ≤ l) (h1 : l ≤ 15) : ∃ n : Nat, n < 16 ∧ l = (n : Int) := ⟨l.toNat, by omega, by omega⟩

theorem and_all : ∀ n : Nat, n < 16 → ∀ m : Nat, m < 16 → bits .and .i64 (n : Int) (m : Int) = ((n &&& m : Nat) : Int) := by decide +kernel
theorem or_all : ∀ n : Nat, n < 16 → ∀ m : Nat, m < 16 → bits .or .i64 (n : Int) (m : Int) = ((n ||| m : Nat) : Int) := by decide +kernel
theorem and8_all : ∀ n : Nat, n < 16 → ∀ m : Nat, m < 16 → bits .and .u8 (n : Int) (m : Int) = ((n &&& m : Nat) : Int) := by decide +kernel
theorem or8_all : ∀ n : Nat, n < 16 → ∀ m : Nat, m < 16 → bits .or .u8 (n : Int) (m : Int) = ((n ||| m : Nat) : Int) := by decide +kernel
theorem not8_all : ∀ n : Nat, n < 16 → ∀ m : Nat, m < 16 → (bits .andNot .u8 (n : Int) (m : Int) == 0) = decide (n &&& m = n) := by decide +kernel
theorem or_lt : ∀ n : Nat, n < 16 → ∀ m : Nat, m < 16 → n ||| m < 16 := by decide +kernel
theorem and_lt : ∀ n : Nat, n < 16 → ∀ m : Nat, m < 16 → n &&& m < 16 := by decide +kernel

theorem spec_right (l : Int) (w : World) : Calls Try.prog 30 #[.int .i64 l] w fun e w' => e = .returned (.bool (rightB l)) ∧ w' = w := by
  by_cases h0 : 0 ≤ l
  · by_cases h1 : l ≤ 15
    · rw [rightB_of l h0 h1]
      go_enter Try.func30, Try.ntmps30
      go_wp2
      go_ret
      exact ⟨by simp, rfl⟩
    · rw [rightB_not l (by omega)]
      go_enter Try.func30, Try.ntmps30
      go_wp2
      go_ret
      exact ⟨by simp, rfl⟩
  · rw [rightB_not l (by omega)]
    go_enter Try.func30, Try.ntmps30
    go_wp2
    go_ret
    exact ⟨by simp, rfl⟩
theorem impl_right (l : Int) (w : World) : Calls Try.prog 41 #[.int .i64 l] w fun e w' => e = .returned (.bool (rightB l)) ∧ w' = w := by
  by_cases h0 : 0 ≤ l
  · by_cases h1 : l ≤ 15
    · rw [rightB_of l h0 h1]
      go_enter Try.func41, Try.ntmps41
      go_wp2
      go_ret
      exact ⟨by simp, rfl⟩
    · rw [rightB_not l (by omega)]
      go_enter Try.func41, Try.ntmps41
      go_wp2
      go_ret
      exact ⟨by simp, rfl⟩
  · rw [rightB_not l (by omega)]
    go_enter Try.func41, Try.ntmps41
    go_wp2
    go_ret
    exact ⟨by simp, rfl⟩

theorem ret_bool {a b : Bool} (h : a = b) : Ending.returned (.bool a) = .returned (.bool b) := by rw [h]
theorem ret_int {k : IntKind} {a b : Int} (h : a = b) : Ending.returned (.int k a) = .returned (.int k b) := by rw [h]
theorem eq_all : ∀ n : Nat, n < 16 → ∀ m : Nat, m < 16 → (bits .and .i64 (n : Int) (m : Int) == (n : Int)) = decide (n &&& m = n) := by decide +kernel

theorem spec_flows (a b : Int) (w : World) : Calls Try.prog 19 #[.int .i64 a, .int .i64 b] w fun e w' => e = .returned (.bool (flo a b)) ∧ w' = w := by
  have hr := fun (l : Int) (W : World) => spec_right l W
  have HR : Hid _ := hr
  clear hr
  cases ha : rightB a with
  | false =>
    have hf : flo a b = false := by simp [flo, ha]
    rw [hf]
    go_enter Try.func19, Try.ntmps19
    go_wp2_with (go_at_call 30; refine (HR.out _ _).mono ?_; rintro e w' ⟨rfl, rfl⟩)
    go_ret
    exact ⟨rfl, rfl⟩
  | true =>
    cases hb : rightB b with
    | false =>
      have hf : flo a b = false := by simp [flo, hb]
      rw [hf]
      go_enter Try.func19, Try.ntmps19
      go_wp2_with (go_at_call 30; refine (HR.out _ _).mono ?_; rintro e w' ⟨rfl, rfl⟩)
      go_ret
      exact ⟨rfl, rfl⟩
    | true =>
      obtain ⟨n, hn, rfl⟩ := nat_of a (right_yes a ha).1 (right_yes a ha).2
      obtain ⟨m, hm, rfl⟩ := nat_of b (right_yes b hb).1 (right_yes b hb).2
      have HF : Hid (flo n m = decide (n &&& m = n)) := by simp [Hid, flo, ha, hb]
      have HN : Hid _ := eq_all n hn m hm
      go_enter Try.func19, Try.ntmps19
      go_wp2_with (first | (go_at_call 30; refine (HR.out _ _).mono ?_; rintro e w' ⟨rfl, rfl⟩) | go_in)
      go_ret
      exact ⟨by rw [HF.out]; exact ret_bool HN.out, rfl⟩

theorem impl_flows (a b : Int) (w : World) : Calls Try.prog 33 #[.int .i64 a, .int .i64 b] w fun e w' => e = .returned (.bool (flo a b)) ∧ w' = w := by
  have hr := fun (l : Int) (W : World) => impl_right l W
  have HR : Hid _ := hr
  clear hr
  cases ha : rightB a with
  | false =>
    have hf : flo a b = false := by simp [flo, ha]
    rw [hf]
    go_enter Try.func33, Try.ntmps33
    go_wp2_with (go_at_call 41; refine (HR.out _ _).mono ?_; rintro e w' ⟨rfl, rfl⟩)
    go_ret
    exact ⟨rfl, rfl⟩
  | true =>
    cases hb : rightB b with
    | false =>
      have hf : flo a b = false := by simp [flo, hb]
      rw [hf]
      go_enter Try.func33, Try.ntmps33
      go_wp2_with (go_at_call 41; refine (HR.out _ _).mono ?_; rintro e w' ⟨rfl, rfl⟩)
      go_ret
      exact ⟨rfl, rfl⟩
    | true =>
      obtain ⟨n, hn, rfl⟩ := nat_of a (right_yes a ha).1 (right_yes a ha).2
      obtain ⟨m, hm, rfl⟩ := nat_of b (right_yes b hb).1 (right_yes b hb).2
      have HF : Hid (flo n m = decide (n &&& m = n)) := by simp [Hid, flo, ha, hb]
      have HN : Hid _ := not8_all n hn m hm
      go_enter Try.func33, Try.ntmps33
      go_wp2_with (first | (go_at_call 41; refine (HR.out _ _).mono ?_; rintro e w' ⟨rfl, rfl⟩) | go_in)
      go_ret
      exact ⟨by rw [HF.out]; exact ret_bool HN.out, rfl⟩




end Go.Proofs.Ytpehmphcnimegaa.label
