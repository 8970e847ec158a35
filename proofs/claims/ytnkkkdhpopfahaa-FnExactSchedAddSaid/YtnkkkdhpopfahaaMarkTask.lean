/-
  Slices of Task (3 numbers each): marked, and held. No condition but their lengths.
-/
import Derived.Test.YtnkkkdhpopfahaaMarks
namespace Go.Proofs.Ytnkkkdhpopfahaa.deep
open Go.RowKit Go.Deep
set_option linter.unusedVariables false

set_option maxHeartbeats 1000000 in
theorem mark_tks0 (a : Option Addr) (c : Nat) (k : Int) (w : World) : Calls Try.prog 30 #[.slice a 0 c, .int .i64 k] w fun e w' => e = .returned (.int .i64 k) ∧ w' = w := by
  go_enter Try.func30, Try.ntmps30
  go_wp2
  go_loop [1, 5] (fun tk i => i = .int .i64 0 ∧ tk = .int .i64 k) (fun _ _ => 0)
  case atStart => exact ⟨rfl, rfl⟩
  case round =>
    obtain ⟨rfl, rfl⟩ := hrel
    go_wp2
    go_ret
    exact ⟨rfl, rfl⟩
theorem next_tk (k : Int) (j : Nat) : [.int .i64 (k + 3 * (j : Int)), .int .i64 (k + 3 * (j : Int) + 1), .int .i64 (k + 3 * (j : Int) + 1 + 1)] = nums (k + ((j * 3 : Nat) : Int)) 3 := by
  rw [show (k + ((j * 3 : Nat) : Int)) = k + 3 * (j : Int) by push_cast; omega]
  simp only [nums, List.range_succ, List.range_zero, List.nil_append, List.cons_append, List.map_cons, List.map_nil, Int.add_assoc]
  rfl
set_option maxHeartbeats 4000000 in
theorem mark_tks {w : World} {v : Value} {k : Int} (h : Mks w 3 v) (hk0 : 0 ≤ k) (hk1 : k ≤ 1000000000) : Calls Try.prog 30 #[v, .int .i64 k] w fun e w' => e = .returned (.int .i64 (k + 3 * (lenOf v : Int))) ∧ w' = markV w 3 v k := by
  obtain ⟨a, n, c, rfl, hn, hi⟩ := h
  by_cases h0 : n = 0
  · subst h0
    refine (mark_tks0 a c k w).mono ?_
    rintro e w' ⟨rfl, rfl⟩
    refine ⟨by simp [lenOf], ?_⟩
    cases a <;> simp [markV, nums_zero, putW]
  obtain ⟨g, o, rfl, hi2⟩ := hi (by omega)
  have hn0 : 0 < n := by omega
  have HI : Hid (Ints w g o (n * 3)) := hi2
  simp only [markV, lenOf]
  clear hi hi2 h0
  go_enter Try.func30, Try.ntmps30
  go_wp2
  go_loopw [1, 5] (fun tk i wr => ∃ j : Nat, j ≤ n ∧ i = .int .i64 j ∧ tk = .int .i64 (k + 3 * j) ∧ Hid (wr = putW w g o (nums k (j * 3)))) (fun _ i _ => n - (intOf i).toNat)
  case atStart => exact ⟨0, by omega, rfl, by simp, by simp [Hid, nums_zero, putW]⟩
  case round =>
    obtain ⟨j, hj, rfl, rfl, HW⟩ := hrel
    by_cases hlt : j < n
    · have HJ : Hid (Ints wr g o (n * 3)) := by rw [HW.out]; exact HI.out.putN _ _ _ (nums_int _ _)
      have hle : (j + 1) * 3 ≤ n * 3 := Nat.mul_le_mul_right _ hlt
      rw [Nat.succ_mul] at hle
      have HN : Hid (∀ r, r < 3 → (∃ x, wr.cell? ⟨g, o + j * 3 + r, none⟩ = some (.int .i64 x)) ∧ wr.frozen? ⟨g, o + j * 3 + r, none⟩ = false) := fun r hr => by
        have := HJ.out (j * 3 + r) (by omega)
        rw [← Nat.add_assoc] at this
        exact this
      obtain ⟨⟨x0, c0⟩, f0⟩ : (∃ x, wr.cell? ⟨g, o + j * 3, none⟩ = some (.int .i64 x)) ∧ wr.frozen? ⟨g, o + j * 3, none⟩ = false := HN.out 0 (by decide)
      obtain ⟨⟨x1, c1⟩, f1⟩ : (∃ x, wr.cell? ⟨g, o + j * 3 + 1, none⟩ = some (.int .i64 x)) ∧ wr.frozen? ⟨g, o + j * 3 + 1, none⟩ = false := HN.out 1 (by decide)
      obtain ⟨⟨x2, c2⟩, f2⟩ : (∃ x, wr.cell? ⟨g, o + j * 3 + 2, none⟩ = some (.int .i64 x)) ∧ wr.frozen? ⟨g, o + j * 3 + 2, none⟩ = false := HN.out 2 (by decide)
      have HS : Hid (∀ W, W = putW w g o (nums k (j * 3)) → putW W g (o + j * 3) [.int .i64 (k + 3 * (j : Int)), .int .i64 (k + 3 * (j : Int) + 1), .int .i64 (k + 3 * (j : Int) + 1 + 1)] = putW w g o (nums k ((j + 1) * 3))) := fun W hW => by rw [hW]; exact put_next (next_tk k j)
      clear HN HJ hle
      go_wp2
      go_roundw
      case rel => exact ⟨j + 1, by omega, by go_num, by rw [Value.int.injEq]; exact ⟨rfl, by omega⟩, HS.out _ HW.out⟩
      case measure => simp [intOf]; omega
    · obtain rfl : j = n := by omega
      go_wp2
      go_ret
      exact ⟨rfl, HW.out⟩

set_option maxHeartbeats 1000000 in
theorem held_tks0 (a : Option Addr) (c : Nat) (k : Int) (w : World) : Calls Try.prog 31 #[.slice a 0 c, .int .i64 k] w fun e w' => e = .returned (.int .i64 k) ∧ w' = w := by
  go_enter Try.func31, Try.ntmps31
  go_wp2
  go_loop [1, 5] (fun tk i => i = .int .i64 0 ∧ tk = .int .i64 k) (fun _ _ => 0)
  case atStart => exact ⟨rfl, rfl⟩
  case round =>
    obtain ⟨rfl, rfl⟩ := hrel
    go_wp2
    go_ret
    exact ⟨rfl, rfl⟩
set_option maxHeartbeats 4000000 in
theorem held_tks {w : World} {v : Value} {k : Int} (h : HeldV w 3 v k) (hk0 : 0 ≤ k) (hk1 : k ≤ 1000000000) : Calls Try.prog 31 #[v, .int .i64 k] w fun e w' => e = .returned (.int .i64 (k + 3 * (lenOf v : Int))) ∧ w' = w := by
  obtain ⟨a, n, c, rfl, hn, hi⟩ := h
  by_cases h0 : n = 0
  · subst h0
    refine (held_tks0 a c k w).mono ?_
    rintro e w' ⟨rfl, rfl⟩
    exact ⟨by simp [lenOf], rfl⟩
  obtain ⟨g, o, rfl, hi2⟩ := hi (by omega)
  have hn0 : 0 < n := by omega
  have HI : Hid (∀ i, i < n * 3 → w.cell? ⟨g, o + i, none⟩ = some (.int .i64 (k + (i : Int)))) := hi2
  simp only [lenOf]
  clear hi hi2 h0
  go_enter Try.func31, Try.ntmps31
  go_wp2
  go_loop [1, 5] (fun tk i => ∃ j : Nat, j ≤ n ∧ i = .int .i64 j ∧ tk = .int .i64 (k + 3 * j)) (fun _ i => n - (intOf i).toNat)
  case atStart => exact ⟨0, by omega, rfl, by simp⟩
  case round =>
    obtain ⟨j, hj, rfl, rfl⟩ := hrel
    by_cases hlt : j < n
    · have hle : (j + 1) * 3 ≤ n * 3 := Nat.mul_le_mul_right _ hlt
      rw [Nat.succ_mul] at hle
      have HN : Hid (∀ r, r < 3 → w.cell? ⟨g, o + j * 3 + r, none⟩ = some (.int .i64 (k + 3 * (j : Int) + (r : Int)))) := fun r hr => by
        have := HI.out (j * 3 + r) (by omega)
        rw [← Nat.add_assoc] at this
        rw [this, Option.some.injEq, Value.int.injEq]; exact ⟨rfl, by push_cast; omega⟩
      have c0 : w.cell? ⟨g, o + j * 3, none⟩ = some (.int .i64 (k + 3 * (j : Int))) := by have := HN.out 0 (by decide); rw [show (k + 3 * (j : Int) : Int) = k + 3 * (j : Int) + ((0 : Nat) : Int) by push_cast; omega]; exact this
      have c1 : w.cell? ⟨g, o + j * 3 + 1, none⟩ = some (.int .i64 (k + 3 * (j : Int) + 1)) := by have := HN.out 1 (by decide); rw [show (k + 3 * (j : Int) + 1 : Int) = k + 3 * (j : Int) + ((1 : Nat) : Int) by push_cast; omega]; exact this
      have c2 : w.cell? ⟨g, o + j * 3 + 2, none⟩ = some (.int .i64 (k + 3 * (j : Int) + 1 + 1)) := by have := HN.out 2 (by decide); rw [show (k + 3 * (j : Int) + 1 + 1 : Int) = k + 3 * (j : Int) + ((2 : Nat) : Int) by push_cast; omega]; exact this
      clear HN hle
      go_wp2
      go_round
      case rel => exact ⟨j + 1, by omega, by go_num, by rw [Value.int.injEq]; exact ⟨rfl, by omega⟩⟩
      case measure => simp [intOf]; omega
    · obtain rfl : j = n := by omega
      go_wp2
      go_ret
      exact ⟨rfl, rfl⟩
end Go.Proofs.Ytnkkkdhpopfahaa.deep
