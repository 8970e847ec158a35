/-
  The walks of LabelRight, Flows, Join and Meet, the specification's and the program's, at every pair of numbers. No condition.
-/
import Derived.Test.YtnkkkdhpopfahaaRows
import Derived.WalkKit
import Derived.ProofKit
import Derived.WalkLawsBesides
namespace Go.Proofs.Ytnkkkdhpopfahaa.label
open Go.RowKit
open Go.Proofs.Ytnkkkdhpopfahaa

/-- is it a label? -/
def rightB (l : Int) : Bool := decide (0 ≤ l ∧ l ≤ 15)
/-- a flows to b -/
def flo (a b : Int) : Bool := rightB a && rightB b && decide (a.toNat &&& b.toNat = a.toNat)
def joinI (a b : Int) : Int := if rightB a && rightB b then ((a.toNat ||| b.toNat : Nat) : Int) else -1
def meetI (a b : Int) : Int := if rightB a && rightB b then ((a.toNat &&& b.toNat : Nat) : Int) else -1

theorem right_yes (l : Int) (h : rightB l = true) : 0 ≤ l ∧ l ≤ 15 := by simpa [rightB] using h
theorem right_no (l : Int) (h : rightB l = false) : l < 0 ∨ 15 < l := by
  simp [rightB] at h; omega
theorem rightB_of (l : Int) (h0 : 0 ≤ l) (h1 : l ≤ 15) : rightB l = true := by simp [rightB, h0, h1]
theorem rightB_not (l : Int) (h : l < 0 ∨ 15 < l) : rightB l = false := by simp [rightB]; omega

theorem nat_of (l : Int) (h0 : 0 ≤ l) (h1 : l ≤ 15) : ∃ n : Nat, n < 16 ∧ l = (n : Int) := ⟨l.toNat, by omega, by omega⟩

theorem and_all : ∀ n : Nat, n < 16 → ∀ m : Nat, m < 16 → bits .and .i64 (n : Int) (m : Int) = ((n &&& m : Nat) : Int) := by decide +kernel
theorem or_all : ∀ n : Nat, n < 16 → ∀ m : Nat, m < 16 → bits .or .i64 (n : Int) (m : Int) = ((n ||| m : Nat) : Int) := by decide +kernel
theorem and8_all : ∀ n : Nat, n < 16 → ∀ m : Nat, m < 16 → bits .and .u8 (n : Int) (m : Int) = ((n &&& m : Nat) : Int) := by decide +kernel
theorem or8_all : ∀ n : Nat, n < 16 → ∀ m : Nat, m < 16 → bits .or .u8 (n : Int) (m : Int) = ((n ||| m : Nat) : Int) := by decide +kernel
theorem not8_all : ∀ n : Nat, n < 16 → ∀ m : Nat, m < 16 → (bits .andNot .u8 (n : Int) (m : Int) == 0) = decide (n &&& m = n) := by decide +kernel
theorem or_lt : ∀ n : Nat, n < 16 → ∀ m : Nat, m < 16 → n ||| m < 16 := by decide +kernel
theorem and_lt : ∀ n : Nat, n < 16 → ∀ m : Nat, m < 16 → n &&& m < 16 := by decide +kernel

theorem spec_right (l : Int) (w : World) : Calls Try.prog 58 #[.int .i64 l] w fun e w' => e = .returned (.bool (rightB l)) ∧ w' = w := by
  by_cases h0 : 0 ≤ l
  · by_cases h1 : l ≤ 15
    · rw [rightB_of l h0 h1]
      go_enter Try.func58, Try.ntmps58
      go_wp2
      go_ret
      exact ⟨by simp, rfl⟩
    · rw [rightB_not l (by omega)]
      go_enter Try.func58, Try.ntmps58
      go_wp2
      go_ret
      exact ⟨by simp, rfl⟩
  · rw [rightB_not l (by omega)]
    go_enter Try.func58, Try.ntmps58
    go_wp2
    go_ret
    exact ⟨by simp, rfl⟩
theorem impl_right (l : Int) (w : World) : Calls Try.prog 59 #[.int .i64 l] w fun e w' => e = .returned (.bool (rightB l)) ∧ w' = w := by
  by_cases h0 : 0 ≤ l
  · by_cases h1 : l ≤ 15
    · rw [rightB_of l h0 h1]
      go_enter Try.func59, Try.ntmps59
      go_wp2
      go_ret
      exact ⟨by simp, rfl⟩
    · rw [rightB_not l (by omega)]
      go_enter Try.func59, Try.ntmps59
      go_wp2
      go_ret
      exact ⟨by simp, rfl⟩
  · rw [rightB_not l (by omega)]
    go_enter Try.func59, Try.ntmps59
    go_wp2
    go_ret
    exact ⟨by simp, rfl⟩

theorem ret_bool {a b : Bool} (h : a = b) : Ending.returned (.bool a) = .returned (.bool b) := by rw [h]
theorem ret_int {k : IntKind} {a b : Int} (h : a = b) : Ending.returned (.int k a) = .returned (.int k b) := by rw [h]
theorem eq_all : ∀ n : Nat, n < 16 → ∀ m : Nat, m < 16 → (bits .and .i64 (n : Int) (m : Int) == (n : Int)) = decide (n &&& m = n) := by decide +kernel






end Go.Proofs.Ytnkkkdhpopfahaa.label
