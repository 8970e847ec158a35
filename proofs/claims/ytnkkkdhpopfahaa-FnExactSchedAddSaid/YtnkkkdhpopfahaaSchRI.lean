/-
  The program's turnsRight, slices.Contains at numbers, and rightIn. No condition.
-/
import Derived.Test.YtnkkkdhpopfahaaSchRight3
namespace Go.Proofs.Ytnkkkdhpopfahaa.sch
open Go.RowKit Go.Deep Go.Sort
open Go.Proofs.Ytnkkkdhpopfahaa
open Go.Proofs.Ytnkkkdhpopfahaa.deep
set_option linter.unusedVariables false
set_option maxRecDepth 100000

theorem oft_eq (xs : List Int) (b : Int) : oft xs b = (xs.filter (· == b)).length := by rw [oft, oftTo, List.take_length]
theorem oft_hit {xs : List Int} {b : Int} {j : Nat} (hj : j < xs.length) (h : xs[j] = b) : 0 < oft xs b := by
  rw [oft_eq, List.length_pos_iff_exists_mem]
  exact ⟨xs[j], List.mem_filter.2 ⟨List.getElem_mem _, by simp [h]⟩⟩
theorem oft_miss {xs : List Int} {b : Int} (h : ∀ j (hj : j < xs.length), (b == xs[j]) = false) : oft xs b = 0 := by
  rw [oft_eq, List.length_eq_zero_iff, List.filter_eq_nil_iff]
  intro x hx
  obtain ⟨j, hj, rfl⟩ := List.getElem_of_mem hx
  have := h j hj
  simp at this ⊢
  exact fun e => this e.symm

set_option maxHeartbeats 2000000 in
theorem impl_turns {lo : Nat} {w : World} {v : Value} {xs : List Int} (h : RowE (Plain cint) 1 lo w v xs) : Calls Try.prog 41 #[v] w fun e w' => e = .returned (.bool (orderB xs)) ∧ w' = w := by
  obtain ⟨a, c, rfl, hm, h3⟩ := int_at h
  have HR : Hid (∀ l W, Calls Try.prog 59 #[.int .i64 l] W fun e w' => e = .returned (.bool (label.rightB l)) ∧ w' = W) := fun l W => label.impl_right l W
  obtain ⟨n, hn⟩ : ∃ n, n = xs.length := ⟨_, rfl⟩
  have HN : Hid (n = xs.length) := hn
  have H3 : Hid (0 < xs.length → ∃ g o, a = some ⟨g, o, none⟩ ∧ g < w.heap.size ∧ ∀ i (hi : i < xs.length), w.cell? ⟨g, o + i, none⟩ = some (.int .i64 xs[i])) := h3
  have HO : Hid (orderB xs = (xs.all label.rightB && (decide (1 ≤ n) && decide (n ≤ 16)))) := by rw [hn]; rfl
  have HALL : Hid ((∀ i (hi : i < xs.length), label.rightB xs[i] = true) → xs.all label.rightB = true) := fun H => by
    rw [List.all_eq_true]
    intro x hx
    obtain ⟨i, hi, rfl⟩ := List.getElem_of_mem hx
    exact H i hi
  have HONE : Hid (∀ i (hi : i < xs.length), label.rightB xs[i] = false → xs.all label.rightB = false) := fun i hi h => by
    rw [List.all_eq_false]
    exact ⟨xs[i], List.getElem_mem _, by rw [h]; simp⟩
  rw [← hn] at hm ⊢
  unfold maxLen at hm
  obtain ⟨R, hR⟩ : ∃ R, R = orderB xs := ⟨_, rfl⟩
  rw [← hR] at HO ⊢
  clear hn h3 h hR
  by_cases h1 : 1 ≤ n
  · by_cases h16 : n ≤ 16
    · have HO2 : Hid (R = xs.all label.rightB) := by rw [Hid, HO.out]; simp [h1, h16]
      clear HO
      go_enter Try.func41, Try.ntmps41
      go_wp2
      go_loop [15] (fun ti => ∃ j : Nat, j ≤ n ∧ ti = .int .i64 j ∧ Hid (∀ i (hi : i < xs.length), i < j → label.rightB xs[i] = true)) (fun ti => n - (intOf ti).toNat)
      case atStart => exact ⟨0, by omega, rfl, fun i _ h => absurd h (by omega)⟩
      case round =>
        obtain ⟨j, hj, rfl, H⟩ := hrel
        by_cases hlt : j < n
        · have hlx : j < xs.length := by rw [← HN.out]; exact hlt
          obtain ⟨g, o, rfl, hg, hc⟩ := H3.out (by omega)
          have e0 := hc j hlx
          have HST : Hid (label.rightB xs[j] = true → ∀ i (hi : i < xs.length), i < j + 1 → label.rightB xs[i] = true) := fun h i hi hlt2 => by
            by_cases e : i = j
            · subst e; exact h
            · exact H.out i hi (by omega)
          have HNO : Hid (label.rightB xs[j] = false → R = false) := fun h => by rw [HO2.out]; exact HONE.out j hlx h
          have HRJ := HR.out xs[j]
          clear hc
          generalize xs[j] = q at *
          cases hq : label.rightB q with
          | true =>
            rw [hq] at HRJ
            have HS : Hid _ := HST.out hq
            clear HST HNO hq
            go_wp2_with (go_at_call 59; refine Calls.mono (HRJ _) ?_; rintro e w1 ⟨rfl, rfl⟩)
            go_round
            case rel => exact ⟨j + 1, by omega, by go_num, HS.out⟩
            case measure => simp [intOf]; omega
          | false =>
            rw [hq] at HRJ
            have HS : Hid (R = false) := HNO.out hq
            clear HST HNO hq
            go_wp2_with (go_at_call 59; refine Calls.mono (HRJ _) ?_; rintro e w1 ⟨rfl, rfl⟩)
            go_ret
            exact ⟨by rw [HS.out]; try rfl, rfl⟩
        · obtain rfl : j = n := by omega
          have HE : Hid (R = true) := by rw [Hid, HO2.out]; exact HALL.out fun i hi => H.out i hi (by rw [HN.out]; exact hi)
          clear HO2
          go_wp2
          go_ret
          exact ⟨by rw [HE.out]; try rfl, rfl⟩
    · have HE : Hid (R = false) := by rw [Hid, HO.out]; simp [h16]
      clear HO
      go_enter Try.func41, Try.ntmps41
      go_wp2
      go_ret
      exact ⟨by rw [HE.out]; try rfl, rfl⟩
  · have HE : Hid (R = false) := by rw [Hid, HO.out]; simp [h1]
    clear HO
    go_enter Try.func41, Try.ntmps41
    go_wp2
    go_ret
    exact ⟨by rw [HE.out]; try rfl, rfl⟩

set_option maxHeartbeats 2000000 in
theorem sl_index (b : Int) {lo : Nat} {w : World} {v : Value} {xs : List Int} (h : RowE (Plain cint) 1 lo w v xs) : Calls Try.prog 74 #[v, .int .i64 b] w fun e w' => (∃ r : Int, e = .returned (.int .i64 r) ∧ decide (0 ≤ r) = decide (0 < oft xs b)) ∧ w' = w := by
  obtain ⟨a, c, rfl, hm, h3⟩ := int_at h
  obtain ⟨n, hn⟩ : ∃ n, n = xs.length := ⟨_, rfl⟩
  have HN : Hid (n = xs.length) := hn
  have H3 : Hid (0 < xs.length → ∃ g o, a = some ⟨g, o, none⟩ ∧ g < w.heap.size ∧ ∀ i (hi : i < xs.length), w.cell? ⟨g, o + i, none⟩ = some (.int .i64 xs[i])) := h3
  have HHIT : Hid (∀ j (hj : j < xs.length), xs[j] = b → decide (0 < oft xs b) = true) := fun j hj h => by simp [oft_hit hj h]
  have HMISS : Hid ((∀ j (hj : j < xs.length), (b == xs[j]) = false) → decide (0 < oft xs b) = false) := fun h => by simp [oft_miss h]
  rw [← hn] at hm ⊢
  unfold maxLen at hm
  generalize decide (0 < oft xs b) = R at *
  clear hn h3 h
  go_enter Try.func74, Try.ntmps74
  go_wp2
  go_loop [8] (fun ti => ∃ j : Nat, j ≤ n ∧ ti = .int .i64 j ∧ Hid (∀ i (hi : i < xs.length), i < j → (b == xs[i]) = false)) (fun ti => n - (intOf ti).toNat)
  case atStart => exact ⟨0, by omega, rfl, fun i _ h => absurd h (by omega)⟩
  case round =>
    obtain ⟨j, hj, rfl, H⟩ := hrel
    by_cases hlt : j < n
    · have hlx : j < xs.length := by rw [← HN.out]; exact hlt
      obtain ⟨g, o, rfl, hg, hc⟩ := H3.out (by omega)
      have e0 := hc j hlx
      have HST : Hid ((b == xs[j]) = false → ∀ i (hi : i < xs.length), i < j + 1 → (b == xs[i]) = false) := fun h i hi hlt2 => by
        by_cases e : i = j
        · subst e; exact h
        · exact H.out i hi (by omega)
      have HHJ : Hid (xs[j] = b → R = true) := HHIT.out j hlx
      clear hc
      generalize xs[j] = q at *
      cases hq : b == q with
      | true =>
        have HE : Hid (R = true) := HHJ.out (by simpa using (beq_iff_eq.1 hq).symm)
        clear HST HHJ
        go_wp2
        go_ret
        exact ⟨⟨_, rfl, by rw [HE.out]; simp⟩, rfl⟩
      | false =>
        have HS : Hid _ := HST.out hq
        clear HST HHJ
        go_wp2
        go_round
        case rel => exact ⟨j + 1, by omega, by go_num, HS.out⟩
        case measure => simp [intOf]; omega
    · obtain rfl : j = n := by omega
      have HE : Hid (R = false) := HMISS.out fun i hi => H.out i hi (by rw [HN.out]; exact hi)
      go_wp2
      go_ret
      exact ⟨⟨_, rfl, by rw [HE.out]; simp⟩, rfl⟩
theorem sl_has (b : Int) {lo : Nat} {w : World} {v : Value} {xs : List Int} (h : RowE (Plain cint) 1 lo w v xs) : Calls Try.prog 64 #[v, .int .i64 b] w fun e w' => e = .returned (.bool (decide (0 < oft xs b))) ∧ w' = w := by
  have HI : Hid (∀ W, W = w → Calls Try.prog 74 #[v, .int .i64 b] W fun e w' => (∃ r : Int, e = .returned (.int .i64 r) ∧ decide (0 ≤ r) = decide (0 < oft xs b)) ∧ w' = W) := fun W hW => by rw [hW]; exact sl_index b h
  generalize decide (0 < oft xs b) = R at *
  obtain ⟨a, c, hv, -⟩ := int_at h
  generalize xs.length = n at hv
  subst hv
  clear h
  go_enter Try.func64, Try.ntmps64
  go_wp2_with fail
  refine Calls.mono (HI.out _ rfl) ?_
  rintro e w1 ⟨⟨r, rfl, hr⟩, rfl⟩
  have HE : Hid (decide (0 ≤ r) = R) := hr
  clear hr
  by_cases h0 : 0 ≤ r
  · have HE2 : Hid (true = R) := by rw [Hid, ← HE.out]; simp [h0]
    clear HE
    go_wp2_with fail
    go_ret
    exact ⟨by rw [← HE2.out]; first | rfl | (simp; omega), rfl⟩
  · have HE2 : Hid (false = R) := by rw [Hid, ← HE.out]; simp [h0]
    clear HE
    go_wp2_with fail
    go_ret
    exact ⟨by rw [← HE2.out]; first | rfl | (simp; omega), rfl⟩

set_option maxHeartbeats 2000000 in
theorem impl_task (l : List Int) (t0 t1 t2 : Int) {lo : Nat} {w : World} {vo : Value} (h : RowE (Plain cint) 1 lo w vo l) : Calls Try.prog 50 #[.agg #[.int .i64 t0, .int .i64 t1, .int .i64 t2], vo] w fun e w' => e = .returned (.bool (taskB l (t0, t1, t2))) ∧ Below w.heap.size w w' := by
  have HC : Hid (∀ W, Below w.heap.size w W → Calls Try.prog 64 #[vo, .int .i64 t0] W fun e w' => e = .returned (.bool (decide (0 < oft l t0))) ∧ w' = W) := fun W hW => sl_has t0 (h.below (plain_stays _) hW)
  have HT : Hid (taskB l (t0, t1, t2) = (decide (0 < oft l t0) && (decide (1 ≤ t1 ∧ t1 ≤ 9999) && decide (1 ≤ t2 ∧ t2 ≤ 99)))) := rfl
  have HW : Hid (Below w.heap.size w (w.alloc (.cells #[.int .i64 t0, .int .i64 t1, .int .i64 t2] 35))) := below_one _ _
  obtain ⟨a, c, hv, -⟩ := int_at h
  generalize l.length = n at hv
  subst hv
  generalize taskB l (t0, t1, t2) = R at *
  generalize decide (0 < oft l t0) = q at *
  clear h
  cases q with
  | false =>
    have HE : Hid (R = false) := by rw [Hid, HT.out]; rfl
    clear HT
    go_enter Try.func50, Try.ntmps50
    go_wp2_with fail
    refine Calls.mono (HC.out _ HW.out) ?_
    rintro e w1 ⟨rfl, rfl⟩
    go_wp2_with fail
    go_ret
    exact ⟨by rw [HE.out]; try rfl, HW.out⟩
  | true =>
    by_cases h1 : 1 ≤ t1
    · by_cases h2 : t1 ≤ 9999
      · by_cases h3 : 1 ≤ t2
        · by_cases h4 : t2 ≤ 99
          · have HE : Hid (R = true) := by rw [Hid, HT.out]; simp [h1, h2, h3, h4]
            clear HT
            go_enter Try.func50, Try.ntmps50
            go_wp2_with fail
            refine Calls.mono (HC.out _ HW.out) ?_
            rintro e w1 ⟨rfl, rfl⟩
            go_wp2_with fail
            go_ret
            exact ⟨by rw [HE.out]; first | rfl | (simp; done) | (simp; omega), HW.out⟩
          · have HE : Hid (R = false) := by rw [Hid, HT.out]; simp [h4]
            clear HT
            go_enter Try.func50, Try.ntmps50
            go_wp2_with fail
            refine Calls.mono (HC.out _ HW.out) ?_
            rintro e w1 ⟨rfl, rfl⟩
            go_wp2_with fail
            go_ret
            exact ⟨by rw [HE.out]; first | rfl | (simp; done) | (simp; omega), HW.out⟩
        · have HE : Hid (R = false) := by rw [Hid, HT.out]; simp [h3]
          clear HT
          go_enter Try.func50, Try.ntmps50
          go_wp2_with fail
          refine Calls.mono (HC.out _ HW.out) ?_
          rintro e w1 ⟨rfl, rfl⟩
          go_wp2_with fail
          go_ret
          exact ⟨by rw [HE.out]; try rfl, HW.out⟩
      · have HE : Hid (R = false) := by rw [Hid, HT.out]; simp [h2]
        clear HT
        go_enter Try.func50, Try.ntmps50
        go_wp2_with fail
        refine Calls.mono (HC.out _ HW.out) ?_
        rintro e w1 ⟨rfl, rfl⟩
        go_wp2_with fail
        go_ret
        exact ⟨by rw [HE.out]; try rfl, HW.out⟩
    · have HE : Hid (R = false) := by rw [Hid, HT.out]; simp [h1]
      clear HT
      go_enter Try.func50, Try.ntmps50
      go_wp2_with fail
      refine Calls.mono (HC.out _ HW.out) ?_
      rintro e w1 ⟨rfl, rfl⟩
      go_wp2_with fail
      go_ret
      exact ⟨by rw [HE.out]; try rfl, HW.out⟩
end Go.Proofs.Ytnkkkdhpopfahaa.sch
