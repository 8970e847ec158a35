/-
  The program's mayHave. Condition: the order is not empty.
-/
import Derived.Test.YtnkkkdhpopfahaaSchRI
namespace Go.Proofs.Ytnkkkdhpopfahaa.sch
open Go.RowKit Go.Deep Go.Sort
open Go.Proofs.Ytnkkkdhpopfahaa
open Go.Proofs.Ytnkkkdhpopfahaa.deep
set_option linter.unusedVariables false
set_option maxRecDepth 100000

set_option maxHeartbeats 2000000 in
theorem impl_may (b : Int) {lo : Nat} {w : World} {v : Value} {xs : List Int} (h : RowE (Plain cint) 1 lo w v xs) (h0 : 1 ≤ xs.length) (h1 : xs.length ≤ 16) : Calls Try.prog 53 #[v, .int .i64 b] w fun e w' => e = .returned (.int .i64 ((40 : Int) / xs.length * oft xs b)) ∧ w' = w := by
  obtain ⟨a, c, rfl, hm, h3⟩ := int_at h
  obtain ⟨n, hn⟩ : ∃ n, n = xs.length := ⟨_, rfl⟩
  have HN : Hid (n = xs.length) := hn
  obtain ⟨g, o, rfl, hg, hc⟩ := h3 h0
  have HC : Hid (∀ i (hi : i < xs.length), w.cell? ⟨g, o + i, none⟩ = some (.int .i64 xs[i])) := hc
  have HO : Hid (∀ j, j ≤ xs.length → oftTo xs b j ≤ j) := fun j hj => by unfold oftTo; exact Nat.le_trans (List.length_filter_le _ _) (by rw [List.length_take]; omega)
  rw [← hn] at hm h0 h1 ⊢
  clear h h3 hc hn
  go_enter Try.func53, Try.ntmps53
  go_wp2_with fail
  go_loop [5, 10] (fun tk ti => ∃ j : Nat, j ≤ n ∧ ti = .int .i64 j ∧ tk = .int .i64 (oftTo xs b j)) (fun _ ti => n - (intOf ti).toNat)
  case atStart => exact ⟨0, by omega, rfl, rfl⟩
  case round =>
    obtain ⟨j, hj, rfl, rfl⟩ := hrel
    have hoj := oft_le xs b j
    by_cases hlt : j < n
    · have hlx : j < xs.length := by rw [← HN.out]; exact hlt
      have e0 := HC.out j hlx
      have HST : Hid (oftTo xs b (j + 1) = oftTo xs b j + (if xs[j] == b then 1 else 0)) := oft_step hlx
      generalize xs[j] = x at *
      cases hq : x == b with
      | false =>
        have HS : Hid (oftTo xs b (j + 1) = oftTo xs b j) := by rw [Hid, HST.out, hq]; rfl
        go_wp2
        go_round
        case rel => exact ⟨j + 1, by omega, by go_num, by rw [HS.out]⟩
        case measure => simp [intOf]; omega
      | true =>
        have HS : Hid (oftTo xs b (j + 1) = oftTo xs b j + 1) := by rw [Hid, HST.out, hq]; rfl
        go_wp2
        go_round
        case rel => exact ⟨j + 1, by omega, by go_num, by rw [HS.out]; go_num⟩
        case measure => simp [intOf]; omega
    · obtain rfl : j = n := by omega
      have HE : Hid (oftTo xs b j = oft xs b) := by rw [Hid, HN.out]; rfl
      obtain ⟨q, hq⟩ : ∃ q : Int, q = 40 / (j : Int) := ⟨_, rfl⟩
      have hq0 : 0 ≤ q := by rw [hq]; exact Int.ediv_nonneg (by decide) (by omega)
      have hq1 : q ≤ 40 := by rw [hq]; exact Int.ediv_le_self _ (by decide)
      have hdiv : (40 : Int).tdiv (j : Int) = q := by rw [hq, Int.tdiv_eq_ediv_of_nonneg (by decide)]
      have hm0 : 0 ≤ q * (oftTo xs b j : Int) := Int.mul_nonneg hq0 (by omega)
      have hm1 : q * (oftTo xs b j : Int) ≤ 40 * 16 := Int.mul_le_mul hq1 (by omega) (by omega) (by decide)
      have hw1 : IntKind.i64.wrap q = q := IntWalk.i64_in _ (by omega)
      have hw2 : IntKind.i64.wrap (q * (oftTo xs b j : Int)) = q * (oftTo xs b j : Int) := IntWalk.i64_in _ (by omega)
      have hno1 : (j : Int) ≠ 0 := by omega
      have hno2 : ¬ j = 0 := by omega
      have HQ : Hid (q = 40 / (j : Int)) := hq
      clear hq
      go_wp2_with fail
      go_ret
      exact ⟨by rw [← HE.out, ← HQ.out]; first | rfl | rw [hw1] | rw [hw2] | rw [hw1, hw2], rfl⟩
end Go.Proofs.Ytnkkkdhpopfahaa.sch
