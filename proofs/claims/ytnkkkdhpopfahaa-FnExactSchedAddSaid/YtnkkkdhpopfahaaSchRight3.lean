/-
  The walk of the specification's SchedRight. No condition.
-/
import Derived.Test.YtnkkkdhpopfahaaSchRight2
import Derived.Deep.RegionHeld3
import Derived.Lib.QuietBelow
import Derived.BigQuiet
namespace Go.Proofs.Ytnkkkdhpopfahaa.sch
open Go.RowKit Go.Deep Go.Sort
open Go.Proofs.Ytnkkkdhpopfahaa
open Go.Proofs.Ytnkkkdhpopfahaa.deep
set_option linter.unusedVariables false
set_option maxRecDepth 100000

theorem sched_bad {x : SchedD} (h : orderB x.order = false ∨ isB x.now 0 999999 = false ∨ 40 < x.tasks.length) : schedB x = false := by
  unfold schedB
  rcases h with h | h | h
  · simp [h]
  · simp [h]
  · simp [show ¬ x.tasks.length ≤ 40 by omega]
theorem sched_one {x : SchedD} {j : Nat} (hj : j < x.tasks.length) (h : okAt x j hj = false) : schedB x = false := by
  unfold schedB
  have : ¬ ∀ j (h : j < x.tasks.length), okAt x j h = true := fun ha => by rw [ha j hj] at h; cases h
  simp [this]
theorem sched_all {x : SchedD} (h1 : orderB x.order = true) (h2 : isB x.now 0 999999 = true) (h3 : x.tasks.length ≤ 40) (h4 : ∀ j (h : j < x.tasks.length), okAt x j h = true) : schedB x = true := by
  unfold schedB
  simp [h1, h2, h3, h4]

set_option maxHeartbeats 8000000 in
theorem spec_right (x : SchedD) {lo : Nat} {w : World} {vo vt : Value} (h : SF lo w vo vt x) : Calls Try.prog 10 #[.agg #[vo, .int .i64 x.now, vt]] w fun e w' => e = .returned (.bool (schedB x)) ∧ Below w.heap.size w w' := by
  have HOR : Hid (∀ W, Below w.heap.size w W → Calls Try.prog 36 #[vo] W fun e w' => e = .returned (.bool (orderB x.order)) ∧ w' = W) := fun W hW => spec_order (h.1.below (plain_stays _) hW)
  have HIS : Hid (∀ W, Calls Try.prog 37 #[.int .i64 x.now, .int .i64 0, .int .i64 999999] W fun e w' => e = .returned (.bool (isB x.now 0 999999)) ∧ w' = W) := fun W => spec_isS _ _ _ W
  obtain ⟨a, c, hvt, hm, h3⟩ := tk_at h.2
  obtain ⟨ao, co, hvo, hmo, _⟩ := int_at h.1
  have HTK : Hid (∀ (t : Tt) W, Below w.heap.size w W → Calls Try.prog 38 #[.agg #[vo, .int .i64 x.now, vt], .agg #[.int .i64 t.1, .int .i64 t.2.1, .int .i64 t.2.2]] W fun e w' => e = .returned (.bool (taskB x.order t)) ∧ Below W.heap.size W w') := fun t W hW => by rw [hvt]; exact spec_task x.order x.now t.1 t.2.1 t.2.2 a _ c (h.1.below (plain_stays _) hW)
  have HAT : Hid (∀ (b i : Int) W, Below w.heap.size w W → Calls Try.prog 39 #[.agg #[vo, .int .i64 x.now, vt], .int .i64 b, .int .i64 i] W fun e w' => e = .returned (.int .i64 (atI x.tasks b i)) ∧ Below W.heap.size W w') := fun b i W hW => by rw [hvo]; exact spec_at ao _ co x.now b i (h.2.below (plain_stays _) hW)
  have HBAD : Hid (orderB x.order = false ∨ isB x.now 0 999999 = false ∨ 40 < x.tasks.length → schedB x = false) := sched_bad
  have HONE : Hid (∀ j (hj : j < x.tasks.length), okAt x j hj = false → schedB x = false) := fun j hj h => sched_one hj h
  have HALL : Hid (orderB x.order = true → isB x.now 0 999999 = true → x.tasks.length ≤ 40 → (∀ j (h : j < x.tasks.length), okAt x j h = true) → schedB x = true) := sched_all
  have HOK : Hid (∀ j (hj : j < x.tasks.length), okAt x j hj = (taskB x.order x.tasks[j] && (atI x.tasks x.tasks[j].1 x.tasks[j].2.1 == (j : Int)))) := fun j hj => rfl
  obtain ⟨R, hR⟩ : ∃ R, R = schedB x := ⟨_, rfl⟩
  rw [← hR] at HBAD HONE HALL ⊢
  unfold maxLen at hm hmo
  obtain ⟨n, hn⟩ : ∃ n, n = x.tasks.length := ⟨_, rfl⟩
  have HN : Hid (n = x.tasks.length) := hn
  obtain ⟨no, hno⟩ : ∃ n, n = x.order.length := ⟨_, rfl⟩
  rw [← hno] at hvo hmo
  rw [← hn] at hvt hm
  clear hn hno hR h
  subst hvo hvt
  obtain ⟨V, hV⟩ : ∃ V, V = w.alloc (.cells #[.slice ao no co, .int .i64 x.now, .slice a n c] 30) := ⟨_, rfl⟩
  have hbV : Below w.heap.size w V := by rw [hV]; exact below_one _ _
  have HX : Hid (Blk V w.heap.size 30 [.slice ao no co, .int .i64 x.now, .slice a n c]) := by rw [hV]; exact blk_new _ _ _
  have H3 : Hid (0 < x.tasks.length → ∃ g o, a = some ⟨g, o, none⟩ ∧ g < V.heap.size ∧ ∀ i (hi : i < x.tasks.length), V.cell? ⟨g, o + i * 3, none⟩ = some (.int .i64 x.tasks[i].1) ∧ V.cell? ⟨g, o + i * 3 + 1, none⟩ = some (.int .i64 x.tasks[i].2.1) ∧ V.cell? ⟨g, o + i * 3 + 2, none⟩ = some (.int .i64 x.tasks[i].2.2)) := fun h0 => by
    obtain ⟨g, o, ha, hg, hc⟩ := h3 h0
    exact ⟨g, o, ha, Nat.lt_of_lt_of_le hg hbV.size, fun i hi => ⟨(hbV.cell (p := ⟨g, _, none⟩) hg).trans (hc i hi).1, (hbV.cell (p := ⟨g, _, none⟩) hg).trans (hc i hi).2.1, (hbV.cell (p := ⟨g, _, none⟩) hg).trans (hc i hi).2.2⟩⟩
  have HB : Hid (Below w.heap.size w V) := hbV
  clear h3 hbV
  obtain ⟨x0, x1, x2⟩ := cells3s HX.out
  cases ho : orderB x.order with
  | false =>
    have HE : Hid (R = false) := HBAD.out (.inl ho)
    rw [ho] at HOR
    clear HALL HBAD HONE ho
    go_enter Try.func10, Try.ntmps10
    go_wp2_with fail
    rw [← hV]
    clear hV
    refine Calls.mono (HOR.out _ HB.out) ?_
    rintro e w1 ⟨rfl, rfl⟩
    go_wp2_with fail
    go_ret
    exact ⟨by rw [HE.out]; rfl, HB.out⟩
  | true =>
    rw [ho] at HOR
    cases hi : isB x.now 0 999999 with
    | false =>
      have HE : Hid (R = false) := HBAD.out (.inr (.inl hi))
      rw [hi] at HIS
      clear HALL HBAD HONE ho hi
      go_enter Try.func10, Try.ntmps10
      go_wp2_with fail
      rw [← hV]
      clear hV
      refine Calls.mono (HOR.out _ HB.out) ?_
      rintro e w1 ⟨rfl, rfl⟩
      go_wp2_with fail
      refine Calls.mono (HIS.out _) ?_
      rintro e w2 ⟨rfl, rfl⟩
      go_wp2_with fail
      go_ret
      exact ⟨by rw [HE.out]; rfl, HB.out⟩
    | true =>
      rw [hi] at HIS
      by_cases h40 : 40 < n
      · have HE : Hid (R = false) := HBAD.out (.inr (.inr (by rw [← HN.out]; exact h40)))
        clear HALL HBAD HONE ho hi
        go_enter Try.func10, Try.ntmps10
        go_wp2_with fail
        rw [← hV]
        clear hV
        refine Calls.mono (HOR.out _ HB.out) ?_
        rintro e w1 ⟨rfl, rfl⟩
        go_wp2_with fail
        refine Calls.mono (HIS.out _) ?_
        rintro e w2 ⟨rfl, rfl⟩
        go_wp2_with fail
        go_ret
        exact ⟨by rw [HE.out]; rfl, HB.out⟩
      · have HAL2 : Hid ((∀ j (h : j < x.tasks.length), okAt x j h = true) → R = true) := fun h => HALL.out ho hi (by rw [← HN.out]; omega) h
        clear HALL HBAD ho hi
        go_enter Try.func10, Try.ntmps10
        go_wp2_with fail
        rw [← hV]
        clear hV
        refine Calls.mono (HOR.out _ HB.out) ?_
        rintro e w1 ⟨rfl, rfl⟩
        go_wp2_with fail
        refine Calls.mono (HIS.out _) ?_
        rintro e w2 ⟨rfl, rfl⟩
        go_wp2_with fail
        go_loopw [3] (fun ti wr => ∃ j : Nat, j ≤ n ∧ ti = .int .i64 j ∧ Hid (∀ k (hk : k < x.tasks.length), k < j → okAt x k hk = true) ∧ Hid (Below w2.heap.size w2 wr)) (fun ti _ => n - (intOf ti).toNat)
        case atStart => exact ⟨0, by omega, rfl, fun k _ h => absurd h (by omega), Below.refl _ _⟩
        case round =>
          obtain ⟨j, hj, rfl, H, HBW⟩ := hrel
          clear x0 x1 x2
          have HXR : Hid (Blk wr w.heap.size 30 [.slice ao no co, .int .i64 x.now, .slice a n c]) := HX.out.later HBW.out
          have HBR : Hid (Below w.heap.size w wr) := below_tr HB.out HBW.out
          obtain ⟨x0, x1, x2⟩ := cells3s HXR.out
          by_cases hlt : j < n
          · have hlx : j < x.tasks.length := by rw [← HN.out]; exact hlt
            obtain ⟨g, o, rfl, hg, hc⟩ := H3.out (by omega)
            obtain ⟨f0, f1, f2⟩ := hc j hlx
            have e0 := (HBW.out.cell (p := ⟨g, o + j * 3, none⟩) hg).trans f0
            have e1 := (HBW.out.cell (p := ⟨g, o + j * 3 + 1, none⟩) hg).trans f1
            have e2 := (HBW.out.cell (p := ⟨g, o + j * 3 + 2, none⟩) hg).trans f2
            have HOKJ := HOK.out j hlx
            have HONJ := HONE.out j hlx
            have HST : Hid (okAt x j hlx = true → ∀ k (hk : k < x.tasks.length), k < j + 1 → okAt x k hk = true) := fun h k hk hlt2 => by
              by_cases e : k = j
              · subst e; exact h
              · exact H.out k hk (by omega)
            have cT : ∀ d os, _ := fun d os => Calls.regrown_of (w := wr) (d := d) (os := os) (HTK.out x.tasks[j] _ (HBR.out.trans ((below_regrown wr d os).mono HBR.out.size)))
            have cA : ∀ d os, _ := fun d os => Calls.regrown_of (w := wr) (d := d) (os := os) (HAT.out x.tasks[j].1 x.tasks[j].2.1 _ (HBR.out.trans ((below_regrown wr d os).mono HBR.out.size)))
            clear hc f0 f1 f2
            generalize okAt x j hlx = ok at *
            generalize taskB x.order x.tasks[j] = tb at *
            generalize atI x.tasks x.tasks[j].1 x.tasks[j].2.1 = ai at *
            generalize x.tasks[j] = t at *
            obtain ⟨t0, t1, t2⟩ := t
            simp only at e0 e1 e2 cT cA
            have ke0 := cell_regrown e0
            have ke1 := cell_regrown e1
            have ke2 := cell_regrown e2
            have kx0 := cell_regrown x0
            have kx1 := cell_regrown x1
            have kx2 := cell_regrown x2
            cases tb with
            | false =>
              have HE : Hid (R = false) := HONJ (by rw [HOKJ]; rfl)
              clear HONJ HOKJ HST
              go_wp2_with fail
              refine wp_region_quiet_below (by kernel_rfl) (by kernel_rfl) ?_
              repeat (go_big_quiet_step (first | (go_at_call 38; exact cT _ _)))
              refine wpQuiet_nil ?_
              intro _ hw'
              obtain ⟨⟨dq, osq⟩, hw''⟩ := hw'
              subst hw''
              have HB2 : Hid (Below w.heap.size w (grow (redrawn wr dq) osq)) := HBR.out.trans ((below_regrown wr dq osq).mono HBR.out.size)
              go_wp2_with fail
              go_ret
              exact ⟨by rw [HE.out]; rfl, HB2.out⟩
            | true =>
              cases ha : ai == (j : Int) with
              | false =>
                have HE : Hid (R = false) := HONJ (by rw [HOKJ, ha]; rfl)
                have hne : (ai != (j : Int)) = true := by rw [bne, ha]; rfl
                clear HONJ HOKJ HST ha
                go_wp2_with fail
                refine wp_region_quiet_below (by kernel_rfl) (by kernel_rfl) ?_
                repeat (go_big_quiet_step (first | (go_at_call 38; exact cT _ _) | (go_at_call 39; exact cA _ _)))
                refine wpQuiet_nil ?_
                intro _ hw'
                obtain ⟨⟨dq, osq⟩, hw''⟩ := hw'
                subst hw''
                have HB2 : Hid (Below w.heap.size w (grow (redrawn wr dq) osq)) := HBR.out.trans ((below_regrown wr dq osq).mono HBR.out.size)
                go_wp2_with fail
                go_ret
                exact ⟨by rw [HE.out]; rfl, HB2.out⟩
              | true =>
                have HS : Hid _ := HST.out (by rw [HOKJ, ha]; rfl)
                have hne : (ai != (j : Int)) = false := by rw [bne, ha]; rfl
                clear HONJ HOKJ HST ha
                go_wp2_with fail
                refine wp_region_quiet_below (by kernel_rfl) (by kernel_rfl) ?_
                repeat (go_big_quiet_step (first | (go_at_call 38; exact cT _ _) | (go_at_call 39; exact cA _ _)))
                refine wpQuiet_nil ?_
                intro _ hw'
                obtain ⟨⟨dq, osq⟩, hw''⟩ := hw'
                subst hw''
                have HB2 : Hid (Below w2.heap.size w2 (grow (redrawn wr dq) osq)) := HBW.out.trans ((below_regrown wr dq osq).mono HBW.out.size)
                go_wp2_with fail
                go_roundw
                case rel => exact ⟨j + 1, by omega, by go_num, HS.out, HB2.out⟩
                case measure => simp [intOf]; omega
          · obtain rfl : j = n := by omega
            have HE : Hid (R = true) := HAL2.out fun k hk => H.out k hk (by rw [HN.out]; exact hk)
            clear HAL2 HONE
            go_wp2_with fail
            go_ret
            exact ⟨by rw [HE.out]; rfl, HBR.out⟩
end Go.Proofs.Ytnkkkdhpopfahaa.sch
