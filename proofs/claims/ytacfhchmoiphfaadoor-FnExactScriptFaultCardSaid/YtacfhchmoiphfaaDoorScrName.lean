/-
  The names of the twelve words and what they take, and the names of kinds: the specification's l12Name and l12Kind. No condition.
-/
import Derived.Test.YtacfhchmoiphfaaDoorScrRef
import Derived.Test.YtacfhchmoiphfaaDoorCallOpen
import Derived.OwnWalk
namespace Go.Proofs.YtacfhchmoiphfaaDoor.scr
open Go.RowKit Go.Deep Go.Sort
open Go.Proofs.YtacfhchmoiphfaaDoor
open Go.Proofs.YtacfhchmoiphfaaDoor.deep (Blk)
open Go.Proofs.YtacfhchmoiphfaaDoor.call (CallD ccall)
set_option linter.unusedVariables false
set_option maxRecDepth 100000

/-- a word's name -/
def nameB (n : Int) : ByteArray :=
  if n = 1 then ⟨#[109, 97, 107, 101]⟩ else
  if n = 2 then ⟨#[100, 114, 111, 112]⟩ else
  if n = 3 then ⟨#[105, 110, 102, 111]⟩ else
  if n = 4 then ⟨#[107, 105, 100, 115]⟩ else
  if n = 5 then ⟨#[114, 111, 111, 109]⟩ else
  if n = 6 then ⟨#[112, 101, 101, 107]⟩ else
  if n = 7 then ⟨#[112, 111, 107, 101]⟩ else
  if n = 8 then ⟨#[102, 105, 108, 108]⟩ else
  if n = 9 then ⟨#[109, 97, 112]⟩ else
  if n = 10 then ⟨#[117, 110, 109, 97, 112]⟩ else
  if n = 11 then ⟨#[108, 111, 97, 100]⟩ else
  if n = 12 then ⟨#[115, 116, 111, 114, 101]⟩ else
  ⟨#[]⟩
/-- what it takes -/
def takesB (n : Int) : ByteArray :=
  if n = 1 then ⟨#[65, 75, 76, 90]⟩ else
  if n = 2 then ⟨#[65]⟩ else
  if n = 3 then ⟨#[65]⟩ else
  if n = 4 then ⟨#[65]⟩ else
  if n = 5 then ⟨#[65]⟩ else
  if n = 6 then ⟨#[65, 88]⟩ else
  if n = 7 then ⟨#[65, 88, 89]⟩ else
  if n = 8 then ⟨#[65, 89]⟩ else
  if n = 9 then ⟨#[65, 88, 66, 89]⟩ else
  if n = 10 then ⟨#[65, 88]⟩ else
  if n = 11 then ⟨#[65, 88, 89]⟩ else
  if n = 12 then ⟨#[65, 88, 89, 90]⟩ else
  ⟨#[]⟩
/-- a kind's name -/
def kindB (n : Int) : ByteArray :=
  if n = 1 then ⟨#[98, 111, 120]⟩ else
  if n = 2 then ⟨#[115, 101, 103]⟩ else
  if n = 3 then ⟨#[115, 112, 97, 99, 101]⟩ else
  ⟨#[]⟩
theorem name_off (n : Int) (h : ¬ (1 ≤ n ∧ n ≤ 12)) : nameB n = ⟨#[]⟩ ∧ takesB n = ⟨#[]⟩ := by
  unfold nameB takesB
  constructor <;> (repeat (rw [if_neg (by omega)]))
theorem kind_off (n : Int) (h : ¬ (1 ≤ n ∧ n ≤ 3)) : kindB n = ⟨#[]⟩ := by
  unfold kindB
  repeat (rw [if_neg (by omega)])
theorem takes_size (n : Int) : (takesB n).size ≤ 4 := by
  by_cases h : 1 ≤ n ∧ n ≤ 12
  · obtain ⟨k, rfl⟩ : ∃ k : Nat, n = (k : Int) := ⟨n.toNat, by omega⟩
    have hk : k < 13 := by omega
    have : ∀ k : Nat, k < 13 → (takesB (k : Int)).size ≤ 4 := by decide +kernel
    exact this k hk
  · rw [(name_off n h).2]; decide
theorem name_size (n : Int) : (nameB n).size ≤ 5 := by
  by_cases h : 1 ≤ n ∧ n ≤ 12
  · obtain ⟨k, rfl⟩ : ∃ k : Nat, n = (k : Int) := ⟨n.toNat, by omega⟩
    have hk : k < 13 := by omega
    have : ∀ k : Nat, k < 13 → (nameB (k : Int)).size ≤ 5 := by decide +kernel
    exact this k hk
  · rw [(name_off n h).1]; decide
theorem kind_size (n : Int) : (kindB n).size ≤ 5 := by
  by_cases h : 1 ≤ n ∧ n ≤ 3
  · obtain ⟨k, rfl⟩ : ∃ k : Nat, n = (k : Int) := ⟨n.toNat, by omega⟩
    have hk : k < 4 := by omega
    have : ∀ k : Nat, k < 4 → (kindB (k : Int)).size ≤ 5 := by decide +kernel
    exact this k hk
  · rw [kind_off n h]; decide

set_option maxHeartbeats 2000000 in
theorem spec_name (n : Int) (w : World) : Calls Tryd.prog 32 #[.int .i64 n] w fun e w' => e = .returned (.tuple #[.string (nameB n), .string (takesB n)]) ∧ w' = w := by
  by_cases h : 1 ≤ n ∧ n ≤ 12
  · obtain ⟨k, rfl⟩ : ∃ k : Nat, n = (k : Int) := ⟨n.toNat, by omega⟩
    have hk : k < 13 := by omega
    match k, hk with
    | 0, _ => omega
    | 1, _ =>
      show Calls Tryd.prog 32 #[.int .i64 1] w fun e w' => e = .returned (.tuple #[.string ⟨#[109, 97, 107, 101]⟩, .string ⟨#[65, 75, 76, 90]⟩]) ∧ w' = w
      go_enter Tryd.func32, Tryd.ntmps32
      go_wp2
      go_ret2
      exact ⟨rfl, rfl⟩
    | 2, _ =>
      show Calls Tryd.prog 32 #[.int .i64 2] w fun e w' => e = .returned (.tuple #[.string ⟨#[100, 114, 111, 112]⟩, .string ⟨#[65]⟩]) ∧ w' = w
      go_enter Tryd.func32, Tryd.ntmps32
      go_wp2
      go_ret2
      exact ⟨rfl, rfl⟩
    | 3, _ =>
      show Calls Tryd.prog 32 #[.int .i64 3] w fun e w' => e = .returned (.tuple #[.string ⟨#[105, 110, 102, 111]⟩, .string ⟨#[65]⟩]) ∧ w' = w
      go_enter Tryd.func32, Tryd.ntmps32
      go_wp2
      go_ret2
      exact ⟨rfl, rfl⟩
    | 4, _ =>
      show Calls Tryd.prog 32 #[.int .i64 4] w fun e w' => e = .returned (.tuple #[.string ⟨#[107, 105, 100, 115]⟩, .string ⟨#[65]⟩]) ∧ w' = w
      go_enter Tryd.func32, Tryd.ntmps32
      go_wp2
      go_ret2
      exact ⟨rfl, rfl⟩
    | 5, _ =>
      show Calls Tryd.prog 32 #[.int .i64 5] w fun e w' => e = .returned (.tuple #[.string ⟨#[114, 111, 111, 109]⟩, .string ⟨#[65]⟩]) ∧ w' = w
      go_enter Tryd.func32, Tryd.ntmps32
      go_wp2
      go_ret2
      exact ⟨rfl, rfl⟩
    | 6, _ =>
      show Calls Tryd.prog 32 #[.int .i64 6] w fun e w' => e = .returned (.tuple #[.string ⟨#[112, 101, 101, 107]⟩, .string ⟨#[65, 88]⟩]) ∧ w' = w
      go_enter Tryd.func32, Tryd.ntmps32
      go_wp2
      go_ret2
      exact ⟨rfl, rfl⟩
    | 7, _ =>
      show Calls Tryd.prog 32 #[.int .i64 7] w fun e w' => e = .returned (.tuple #[.string ⟨#[112, 111, 107, 101]⟩, .string ⟨#[65, 88, 89]⟩]) ∧ w' = w
      go_enter Tryd.func32, Tryd.ntmps32
      go_wp2
      go_ret2
      exact ⟨rfl, rfl⟩
    | 8, _ =>
      show Calls Tryd.prog 32 #[.int .i64 8] w fun e w' => e = .returned (.tuple #[.string ⟨#[102, 105, 108, 108]⟩, .string ⟨#[65, 89]⟩]) ∧ w' = w
      go_enter Tryd.func32, Tryd.ntmps32
      go_wp2
      go_ret2
      exact ⟨rfl, rfl⟩
    | 9, _ =>
      show Calls Tryd.prog 32 #[.int .i64 9] w fun e w' => e = .returned (.tuple #[.string ⟨#[109, 97, 112]⟩, .string ⟨#[65, 88, 66, 89]⟩]) ∧ w' = w
      go_enter Tryd.func32, Tryd.ntmps32
      go_wp2
      go_ret2
      exact ⟨rfl, rfl⟩
    | 10, _ =>
      show Calls Tryd.prog 32 #[.int .i64 10] w fun e w' => e = .returned (.tuple #[.string ⟨#[117, 110, 109, 97, 112]⟩, .string ⟨#[65, 88]⟩]) ∧ w' = w
      go_enter Tryd.func32, Tryd.ntmps32
      go_wp2
      go_ret2
      exact ⟨rfl, rfl⟩
    | 11, _ =>
      show Calls Tryd.prog 32 #[.int .i64 11] w fun e w' => e = .returned (.tuple #[.string ⟨#[108, 111, 97, 100]⟩, .string ⟨#[65, 88, 89]⟩]) ∧ w' = w
      go_enter Tryd.func32, Tryd.ntmps32
      go_wp2
      go_ret2
      exact ⟨rfl, rfl⟩
    | 12, _ =>
      show Calls Tryd.prog 32 #[.int .i64 12] w fun e w' => e = .returned (.tuple #[.string ⟨#[115, 116, 111, 114, 101]⟩, .string ⟨#[65, 88, 89, 90]⟩]) ∧ w' = w
      go_enter Tryd.func32, Tryd.ntmps32
      go_wp2
      go_ret2
      exact ⟨rfl, rfl⟩
    | k + 13, h => omega
  · rw [(name_off n h).1, (name_off n h).2]
    have h1 : (n == 1) = false := by simp; omega
    have h2 : (n == 2) = false := by simp; omega
    have h3 : (n == 3) = false := by simp; omega
    have h4 : (n == 4) = false := by simp; omega
    have h5 : (n == 5) = false := by simp; omega
    have h6 : (n == 6) = false := by simp; omega
    have h7 : (n == 7) = false := by simp; omega
    have h8 : (n == 8) = false := by simp; omega
    have h9 : (n == 9) = false := by simp; omega
    have h10 : (n == 10) = false := by simp; omega
    have h11 : (n == 11) = false := by simp; omega
    have h12 : (n == 12) = false := by simp; omega
    clear h
    go_enter Tryd.func32, Tryd.ntmps32
    go_wp2
    go_ret2
    exact ⟨rfl, rfl⟩
set_option maxHeartbeats 2000000 in
theorem spec_kind (n : Int) (w : World) : Calls Tryd.prog 56 #[.int .i64 n] w fun e w' => e = .returned (.string (kindB n)) ∧ w' = w := by
  by_cases h : 1 ≤ n ∧ n ≤ 3
  · obtain ⟨k, rfl⟩ : ∃ k : Nat, n = (k : Int) := ⟨n.toNat, by omega⟩
    have hk : k < 4 := by omega
    match k, hk with
    | 0, _ => omega
    | 1, _ =>
      show Calls Tryd.prog 56 #[.int .i64 1] w fun e w' => e = .returned (.string ⟨#[98, 111, 120]⟩) ∧ w' = w
      go_enter Tryd.func56, Tryd.ntmps56
      go_wp2
      go_ret
      exact ⟨rfl, rfl⟩
    | 2, _ =>
      show Calls Tryd.prog 56 #[.int .i64 2] w fun e w' => e = .returned (.string ⟨#[115, 101, 103]⟩) ∧ w' = w
      go_enter Tryd.func56, Tryd.ntmps56
      go_wp2
      go_ret
      exact ⟨rfl, rfl⟩
    | 3, _ =>
      show Calls Tryd.prog 56 #[.int .i64 3] w fun e w' => e = .returned (.string ⟨#[115, 112, 97, 99, 101]⟩) ∧ w' = w
      go_enter Tryd.func56, Tryd.ntmps56
      go_wp2
      go_ret
      exact ⟨rfl, rfl⟩
    | k + 4, h => omega
  · rw [kind_off n h]
    have h1 : (n == 1) = false := by simp; omega
    have h2 : (n == 2) = false := by simp; omega
    have h3 : (n == 3) = false := by simp; omega
    clear h
    go_enter Tryd.func56, Tryd.ntmps56
    go_wp2
    go_ret
    exact ⟨rfl, rfl⟩
end Go.Proofs.YtacfhchmoiphfaaDoor.scr
