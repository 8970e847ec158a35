/-
  The specification's ArenaRight, at every arena. No condition.
-/
import Derived.Test.YtohgafblffnekaaArenaBare
import Derived.Lib.QuietBelow
import Derived.BigQuiet
namespace Go.Proofs.Ytohgafblffnekaa.deep
open Go.RowKit Go.Deep Go.Sort
open Go.Proofs.Ytohgafblffnekaa
set_option linter.unusedVariables false
set_option maxHeartbeats 8000000 in
theorem sp_right (a : ArenaD) {lo : Nat} {w : World} {v : Value} (h : RowE SlotE 15 lo w v a.slots) : Calls Try.prog 28 #[.agg (acells a v).toArray] w fun e w' => e = .returned (.bool a.right) ∧ Below w.heap.size w w' := by
  obtain ⟨lb, ky, ct, xs⟩ := a
  simp only at h
  have HL : Hid (∀ W, _) := fun W => label.spec_right lb W
  have HS : Hid (∀ W, _) := fun W => sp_stream ky ct W
  obtain ⟨a, c, rfl, hml, h3⟩ := h
  have H3 : Hid (0 < xs.length → ∃ g o, a = some ⟨g, o, none⟩ ∧ lo ≤ g ∧ g < w.heap.size ∧ ∀ i (hi : i < xs.length), ∃ cs : List Value, cs.length = 15 ∧ (∀ j, j < 15 → w.cell? ⟨g, o + i * 15 + j, none⟩ = cs[j]?) ∧ SlotE lo w cs xs[i]) := h3
  obtain ⟨n, hx⟩ : ∃ n, n = xs.length := ⟨_, rfl⟩
  have HX : Hid (n = xs.length) := hx
  obtain ⟨rv, hrv⟩ : ∃ r, r = ArenaD.right ⟨lb, ky, ct, xs⟩ := ⟨_, rfl⟩
  have HRV : Hid (rv = (label.rightB lb && rightS ky ct && decide (n ≤ 6) && goodS xs)) := by rw [Hid, hrv, hx]; rfl
  simp only [acells]
  rw [← hrv, ← hx]
  rw [← hx] at hml
  unfold maxLen at hml
  clear h3 hx hrv
  cases hlb : label.rightB lb with
  | false =>
    rw [hlb] at HL HRV
    go_enter Try.func28, Try.ntmps28
    go_wp2_with (first | (go_at_call 58; refine Calls.mono (HL.out _) ?_; rintro e w1 ⟨rfl, rfl⟩))
    go_ret
    exact ⟨by rw [HRV.out]; rfl, below_one w _⟩
  | true =>
    rw [hlb] at HL HRV
    cases hst : rightS ky ct with
    | false =>
      rw [hst] at HS HRV
      go_enter Try.func28, Try.ntmps28
      go_wp2_with (first | (go_at_call 58; refine Calls.mono (HL.out _) ?_; rintro e w1 ⟨rfl, rfl⟩) | (go_at_call 59; refine Calls.mono (HS.out _) ?_; rintro e w2 ⟨rfl, hb2⟩; have HB2 : Hid (Below w.heap.size w w2) := below_tr (below_one w _) hb2; clear hb2))
      go_ret
      exact ⟨by rw [HRV.out]; rfl, HB2.out⟩
    | true =>
      rw [hst] at HS HRV
      by_cases hn6 : n ≤ 6
      · have HRV2 : Hid (rv = goodS xs) := by rw [Hid, HRV.out, decide_eq_true hn6]; rfl
        have hn6i : (n : Int) ≤ 6 := by omega
        clear HRV
        go_enter Try.func28, Try.ntmps28
        go_wp2_with (first | (go_at_call 58; refine Calls.mono (HL.out _) ?_; rintro e w1 ⟨rfl, rfl⟩) | (go_at_call 59; refine Calls.mono (HS.out _) ?_; rintro e w2 ⟨rfl, hb2⟩; have HA2 : Hid (Blk w2 w.heap.size 34 [.int .i64 lb, .int .i64 ky, .int .i64 ct, .slice a n c]) := (blk_new w [.int .i64 lb, .int .i64 ky, .int .i64 ct, .slice a n c] 34).later hb2; have HB2 : Hid (Below w.heap.size w w2) := below_tr (below_one w _) hb2; have x3 : w2.cell? ⟨w.heap.size, 3, none⟩ = some (.slice a n c) := HA2.out.cell 3; clear hb2))
        clear x3
        go_loopw [3] (fun t3 wr => ∃ j : Nat, j ≤ n ∧ t3 = .int .i64 j ∧ Hid (∀ i, i < j → goodI xs i = true) ∧ Hid (Blk wr w.heap.size 34 [.int .i64 lb, .int .i64 ky, .int .i64 ct, .slice a n c]) ∧ Hid (Below w.heap.size w wr)) (fun t3 _ => n - (intOf t3).toNat)
        case atStart => exact ⟨0, by omega, rfl, fun i hi => absurd hi (Nat.not_lt_zero _), HA2.out, HB2.out⟩
        case round =>
          obtain ⟨j, hj, rfl, HG, HA, HB⟩ := hrel
          clear HA2 HB2 HL HS
          have x3 : wr.cell? ⟨w.heap.size, 3, none⟩ = some (.slice a n c) := HA.out.cell 3
          by_cases hlt : j < n
          · -- ROUND
            have hlx : j < xs.length := by rw [← HX.out]; exact hlt
            obtain ⟨g, o, rfl, _, hg, hc3⟩ := H3.out (by omega)
            have HC3 : Hid (∀ i (hi : i < xs.length), ∃ cs : List Value, cs.length = 15 ∧ (∀ j, j < 15 → w.cell? ⟨g, o + i * 15 + j, none⟩ = cs[j]?) ∧ SlotE lo w cs xs[i]) := hc3
            obtain ⟨vf, vk, vm, vs, hl, hc⟩ := slot_at (hc3 j hlx)
            have HGJ : Hid (goodI xs j = goodAt (xs.take j) xs[j]) := goodI_at xs j hlx
            clear hc3
            generalize xs[j] = x at *
            obtain ⟨gn, lv, id, ⟨kd, lo', od, pl, ⟨u1, u2, u3⟩, rm, fr, ks, ms, ss⟩⟩ := x
            simp only at hl
            have e0 : wr.cell? ⟨g, o + j * 15, none⟩ = some (.int .i64 gn) := (HB.out.cell (p := ⟨g, o + j * 15, none⟩) hg).trans (hc 0 (by decide))
            have e1 : wr.cell? ⟨g, o + j * 15 + 1, none⟩ = some (.bool lv) := (HB.out.cell (p := ⟨g, o + j * 15 + 1, none⟩) hg).trans (hc 1 (by decide))
            have e2 : wr.cell? ⟨g, o + j * 15 + 2, none⟩ = some (.int .i64 id) := (HB.out.cell (p := ⟨g, o + j * 15 + 2, none⟩) hg).trans (hc 2 (by decide))
            have e3 : wr.cell? ⟨g, o + j * 15 + 3, none⟩ = some (.int .i64 kd) := (HB.out.cell (p := ⟨g, o + j * 15 + 3, none⟩) hg).trans (hc 3 (by decide))
            have e4 : wr.cell? ⟨g, o + j * 15 + 4, none⟩ = some (.int .i64 lo') := (HB.out.cell (p := ⟨g, o + j * 15 + 4, none⟩) hg).trans (hc 4 (by decide))
            have e5 : wr.cell? ⟨g, o + j * 15 + 5, none⟩ = some (.int .i64 od) := (HB.out.cell (p := ⟨g, o + j * 15 + 5, none⟩) hg).trans (hc 5 (by decide))
            have e6 : wr.cell? ⟨g, o + j * 15 + 6, none⟩ = some (.int .i64 pl) := (HB.out.cell (p := ⟨g, o + j * 15 + 6, none⟩) hg).trans (hc 6 (by decide))
            have e7 : wr.cell? ⟨g, o + j * 15 + 7, none⟩ = some (.int .i64 u1) := (HB.out.cell (p := ⟨g, o + j * 15 + 7, none⟩) hg).trans (hc 7 (by decide))
            have e8 : wr.cell? ⟨g, o + j * 15 + 8, none⟩ = some (.int .i64 u2) := (HB.out.cell (p := ⟨g, o + j * 15 + 8, none⟩) hg).trans (hc 8 (by decide))
            have e9 : wr.cell? ⟨g, o + j * 15 + 9, none⟩ = some (.int .i64 u3) := (HB.out.cell (p := ⟨g, o + j * 15 + 9, none⟩) hg).trans (hc 9 (by decide))
            have e10 : wr.cell? ⟨g, o + j * 15 + 10, none⟩ = some (.int .i64 rm) := (HB.out.cell (p := ⟨g, o + j * 15 + 10, none⟩) hg).trans (hc 10 (by decide))
            have e11 : wr.cell? ⟨g, o + j * 15 + 11, none⟩ = some (vf) := (HB.out.cell (p := ⟨g, o + j * 15 + 11, none⟩) hg).trans (hc 11 (by decide))
            have e12 : wr.cell? ⟨g, o + j * 15 + 12, none⟩ = some (vk) := (HB.out.cell (p := ⟨g, o + j * 15 + 12, none⟩) hg).trans (hc 12 (by decide))
            have e13 : wr.cell? ⟨g, o + j * 15 + 13, none⟩ = some (vm) := (HB.out.cell (p := ⟨g, o + j * 15 + 13, none⟩) hg).trans (hc 13 (by decide))
            have e14 : wr.cell? ⟨g, o + j * 15 + 14, none⟩ = some (vs) := (HB.out.cell (p := ⟨g, o + j * 15 + 14, none⟩) hg).trans (hc 14 (by decide))
            clear hc
            obtain ⟨af, cf, qf, lf⟩ := hl.f.form
            obtain ⟨ak, ck, qk, lk⟩ := hl.k.form
            obtain ⟨am, cm, qm, lm⟩ := hl.m.form
            obtain ⟨aq, cq, qq, lq⟩ := hl.s.form
            simp only at qf qk qm qq lf lk lm lq
            have HBA : Hid (∀ W, Calls Try.prog 60 #[.agg #[.int .i64 kd, .int .i64 lo', .int .i64 od, .int .i64 pl, .int .i64 u1, .int .i64 u2, .int .i64 u3, .int .i64 rm, .slice af fr.length cf, .slice ak ks.length ck, .slice am ms.length cm, .slice aq ss.length cq]] W fun e w' => e = .returned (.bool (ObjD.bare ⟨kd, lo', od, pl, (u1, u2, u3), rm, fr, ks, ms, ss⟩)) ∧ Below W.heap.size W w') := fun W => sp_bare kd lo' od pl u1 u2 u3 rm af fr.length cf ak ks.length ck am ms.length cm aq ss.length cq lf lk lm lq W
            generalize hob : (ObjD.mk kd lo' od pl (u1, u2, u3) rm fr ks ms ss) = ob at *
            generalize fr.length = nf at *
            generalize ks.length = nk at *
            generalize ms.length = nm at *
            generalize ss.length = nq at *
            subst qf qk qm qq
            have hg2 : g < wr.heap.size := Nat.lt_of_lt_of_le hg HB.out.size
            have hA2 := HA.out.lt
            have HGN : Hid (∀ W, _) := fun W => mix.spec_is gn 0 3 W
            have HKY : Hid (∀ W, _) := fun W => mix.spec_key id W
            clear hl hob lf lk lm lq
            by_cases hgr : 0 ≤ gn ∧ gn ≤ 3
            · rw [decide_eq_true hgr] at HGN
              obtain ⟨hg0, hg3⟩ := hgr
              cases hky : pm.keyB id with
              | false =>
                have HNO : Hid (rv = false) := by rw [Hid, HRV2.out]; exact good_no hlx (by rw [HGJ.out]; exact good_key hky)
                rw [hky] at HKY
                go_wp2_with (first | (go_at_call 39; refine Calls.mono (HGN.out _) ?_; rintro e w1 ⟨rfl, rfl⟩) | (go_at_call 57; refine Calls.mono (HKY.out _) ?_; rintro e w1 ⟨rfl, rfl⟩))
                go_ret
                exact ⟨by rw [HNO.out]; rfl, HB.out.alloc HB.out.size _⟩
              | true =>
                rw [hky] at HKY
                cases lv with
                | false =>
                  by_cases hid : id = 0
                  · subst hid
                    cases hba : ObjD.bare ob with
                    | false =>
                      have HNO : Hid (rv = false) := by rw [Hid, HRV2.out]; exact good_no hlx (by rw [HGJ.out]; exact good_dead hba)
                      rw [hba] at HBA
                      go_wp2_with (first | (go_at_call 39; refine Calls.mono (HGN.out _) ?_; rintro e w1 ⟨rfl, rfl⟩) | (go_at_call 57; refine Calls.mono (HKY.out _) ?_; rintro e w1 ⟨rfl, rfl⟩) | (go_at_call 60; refine Calls.mono (HBA.out _) ?_; rintro e w3 ⟨rfl, hb3⟩; have HB3 : Hid (Below w.heap.size w w3) := below_tr (HB.out.alloc HB.out.size _) hb3; have HA3 : Hid (Blk w3 w.heap.size 34 [.int .i64 lb, .int .i64 ky, .int .i64 ct, .slice (some ⟨g, o, none⟩) n c]) := (HA.out.later (below_one wr _)).later hb3; clear hb3))
                      go_ret
                      exact ⟨by rw [HNO.out]; rfl, HB3.out⟩
                    | true =>
                      have HGO : Hid (goodI xs j = true) := by rw [Hid, HGJ.out]; exact good_dead_yes hg0 hg3 hba
                      rw [hba] at HBA
                      go_wp2_with (first | (go_at_call 39; refine Calls.mono (HGN.out _) ?_; rintro e w1 ⟨rfl, rfl⟩) | (go_at_call 57; refine Calls.mono (HKY.out _) ?_; rintro e w1 ⟨rfl, rfl⟩) | (go_at_call 60; refine Calls.mono (HBA.out _) ?_; rintro e w3 ⟨rfl, hb3⟩; have HB3 : Hid (Below w.heap.size w w3) := below_tr (HB.out.alloc HB.out.size _) hb3; have HA3 : Hid (Blk w3 w.heap.size 34 [.int .i64 lb, .int .i64 ky, .int .i64 ct, .slice (some ⟨g, o, none⟩) n c]) := (HA.out.later (below_one wr _)).later hb3; clear hb3))
                      go_roundw
                      case rel => exact ⟨j + 1, by omega, by go_num, good_next HG.out HGO.out, HA3.out, HB3.out⟩
                      case measure => simp [intOf]; omega
                  · have hidb : (id == 0) = false := by simp [hid]
                    have HNO : Hid (rv = false) := by rw [Hid, HRV2.out]; exact good_no hlx (by rw [HGJ.out]; exact good_dead_id hid)
                    go_wp2_with (first | (go_at_call 39; refine Calls.mono (HGN.out _) ?_; rintro e w1 ⟨rfl, rfl⟩) | (go_at_call 57; refine Calls.mono (HKY.out _) ?_; rintro e w1 ⟨rfl, rfl⟩))
                    go_ret
                    exact ⟨by rw [HNO.out]; rfl, HB.out.alloc HB.out.size _⟩
                | true =>
                  by_cases hg33 : gn = 3
                  · subst hg33
                    have HNO : Hid (rv = false) := by rw [Hid, HRV2.out]; exact good_no hlx (by rw [HGJ.out]; exact good_live_3)
                    go_wp2_with (first | (go_at_call 39; refine Calls.mono (HGN.out _) ?_; rintro e w1 ⟨rfl, rfl⟩) | (go_at_call 57; refine Calls.mono (HKY.out _) ?_; rintro e w1 ⟨rfl, rfl⟩))
                    go_ret
                    exact ⟨by rw [HNO.out]; rfl, HB.out.alloc HB.out.size _⟩
                  · have hg3b : (gn == 3) = false := by simp [hg33]
                    have HGL : Hid (goodI xs j = !(hasId (xs.take j) id)) := by rw [Hid, HGJ.out]; exact good_live hg0 hg3 hg33 hky
                    go_wp2_with (first | (go_at_call 39; refine Calls.mono (HGN.out _) ?_; rintro e w1 ⟨rfl, rfl⟩) | (go_at_call 57; refine Calls.mono (HKY.out _) ?_; rintro e w1 ⟨rfl, rfl⟩))
                    have HS0 : Hid (Blk (wr.alloc (.cells #[.int .i64 gn, .bool true, .int .i64 id, .int .i64 kd, .int .i64 lo', .int .i64 od, .int .i64 pl, .int .i64 u1, .int .i64 u2, .int .i64 u3, .int .i64 rm, .slice af nf cf, .slice ak nk ck, .slice am nm cm, .slice aq nq cq] 69)) wr.heap.size 69 [.int .i64 gn, .bool true, .int .i64 id, .int .i64 kd, .int .i64 lo', .int .i64 od, .int .i64 pl, .int .i64 u1, .int .i64 u2, .int .i64 u3, .int .i64 rm, .slice af nf cf, .slice ak nk ck, .slice am nm cm, .slice aq nq cq]) := blk_new wr _ _
                    have HA0 : Hid (Blk (wr.alloc (.cells #[.int .i64 gn, .bool true, .int .i64 id, .int .i64 kd, .int .i64 lo', .int .i64 od, .int .i64 pl, .int .i64 u1, .int .i64 u2, .int .i64 u3, .int .i64 rm, .slice af nf cf, .slice ak nk ck, .slice am nm cm, .slice aq nq cq] 69)) w.heap.size 34 [.int .i64 lb, .int .i64 ky, .int .i64 ct, .slice (some ⟨g, o, none⟩) n c]) := HA.out.later (below_one wr _)
                    have HB0 : Hid (Below w.heap.size w (wr.alloc (.cells #[.int .i64 gn, .bool true, .int .i64 id, .int .i64 kd, .int .i64 lo', .int .i64 od, .int .i64 pl, .int .i64 u1, .int .i64 u2, .int .i64 u3, .int .i64 rm, .slice af nf cf, .slice ak nk ck, .slice am nm cm, .slice aq nq cq] 69))) := HB.out.alloc HB.out.size _
                    generalize wr.alloc (.cells #[.int .i64 gn, .bool true, .int .i64 id, .int .i64 kd, .int .i64 lo', .int .i64 od, .int .i64 pl, .int .i64 u1, .int .i64 u2, .int .i64 u3, .int .i64 rm, .slice af nf cf, .slice ak nk ck, .slice am nm cm, .slice aq nq cq] 69) = wz at *
                    clear e0 e1 e2 e3 e4 e5 e6 e7 e8 e9 e10 e11 e12 e13 e14 HBA HGN HKY x3
                    obtain ⟨B, hBB⟩ : ∃ B, B = wr.heap.size := ⟨_, rfl⟩
                    rw [← hBB] at HS0 ⊢
                    clear hBB
                    go_loopw [5] (fun t5 wq => ∃ q : Nat, q ≤ j ∧ t5 = .int .i64 q ∧ Hid (hasId (xs.take q) id = false) ∧ Hid (Blk wq B 69 [.int .i64 gn, .bool true, .int .i64 id, .int .i64 kd, .int .i64 lo', .int .i64 od, .int .i64 pl, .int .i64 u1, .int .i64 u2, .int .i64 u3, .int .i64 rm, .slice af nf cf, .slice ak nk ck, .slice am nm cm, .slice aq nq cq]) ∧ Hid (Blk wq w.heap.size 34 [.int .i64 lb, .int .i64 ky, .int .i64 ct, .slice (some ⟨g, o, none⟩) n c]) ∧ Hid (Below w.heap.size w wq)) (fun t5 _ => j - (intOf t5).toNat)
                    case atStart => exact ⟨0, by omega, rfl, by simp [Hid, hasId], HS0.out, HA0.out, HB0.out⟩
                    case round =>
                      obtain ⟨q, hq, rfl, HQ, HSQ, HAQ, HBQ⟩ := hrel
                      clear HS0 HA0 HB0
                      by_cases hqj : q < j
                      · have hqx : q < xs.length := by omega
                        obtain ⟨vf', vk', vm', vs', _, hcq⟩ := slot_at (HC3.out q hqx)
                        have HST : Hid (hasId (xs.take (q + 1)) id = (hasId (xs.take q) id || (xs[q].live && decide (xs[q].id = id)))) := has_step xs id q hqx
                        have f1 : wr.cell? ⟨g, o + q * 15 + 1, none⟩ = some (.bool xs[q].live) := (HBQ.out.cell (p := ⟨g, o + q * 15 + 1, none⟩) hg).trans (hcq 1 (by decide))
                        have f2 : wr.cell? ⟨g, o + q * 15 + 2, none⟩ = some (.int .i64 xs[q].id) := (HBQ.out.cell (p := ⟨g, o + q * 15 + 2, none⟩) hg).trans (hcq 2 (by decide))
                        have f3 : wr.cell? ⟨w.heap.size, 3, none⟩ = some (.slice (some ⟨g, o, none⟩) n c) := HAQ.out.cell 3
                        have f4 : wr.cell? ⟨B, 2, none⟩ = some (.int .i64 id) := HSQ.out.cell 2
                        have hqn : (q : Int) < (n : Int) := by omega
                        clear hcq
                        generalize xs[q].id = idq at *
                        cases hlq : xs[q].live with
                        | false =>
                          rw [hlq] at f1 HST
                          have HN : Hid (hasId (xs.take (q + 1)) id = false) := by rw [Hid, HST.out, HQ.out]; rfl
                          go_wp2_with fail
                          go_quiet (fail)
                          go_wp2_with fail
                          go_roundw
                          case rel => exact ⟨q + 1, by omega, by go_num, HN.out, HSQ.out, HAQ.out, ⟨HBQ.out.os, HBQ.out.tape, HBQ.out.output, HBQ.out.size, HBQ.out.block⟩⟩
                          case measure => simp [intOf]; omega
                        | true =>
                          rw [hlq] at f1 HST
                          by_cases hie : idq = id
                          · subst hie
                            have HNO : Hid (rv = false) := by
                              rw [Hid, HRV2.out]
                              refine good_no hlx ?_
                              rw [HGL.out]
                              have h1 : hasId (xs.take (q + 1)) idq = true := by rw [HST.out]; simp
                              have h2 := has_more xs idq (j - (q + 1)) (q + 1) (by omega) h1
                              rw [show q + 1 + (j - (q + 1)) = j by omega] at h2
                              rw [h2]; rfl
                            go_wp2_with fail
                            go_quiet (fail)
                            go_wp2_with fail
                            go_ret
                            exact ⟨by rw [HNO.out]; rfl, ⟨HBQ.out.os, HBQ.out.tape, HBQ.out.output, HBQ.out.size, HBQ.out.block⟩⟩
                          · have hib : (idq == id) = false := by simp [hie]
                            have HN : Hid (hasId (xs.take (q + 1)) id = false) := by rw [Hid, HST.out, HQ.out]; simp [hie]
                            go_wp2_with fail
                            go_quiet (fail)
                            go_wp2_with fail
                            go_roundw
                            case rel => exact ⟨q + 1, by omega, by go_num, HN.out, HSQ.out, HAQ.out, ⟨HBQ.out.os, HBQ.out.tape, HBQ.out.output, HBQ.out.size, HBQ.out.block⟩⟩
                            case measure => simp [intOf]; omega
                      · obtain rfl : q = j := by omega
                        have HGO : Hid (goodI xs q = true) := by rw [Hid, HGL.out, HQ.out]; rfl
                        go_wp2_with fail
                        go_roundw
                        case rel => exact ⟨q + 1, by omega, by go_num, good_next HG.out HGO.out, HAQ.out, HBQ.out⟩
                        case measure => simp [intOf]; omega
            · rw [decide_eq_false hgr] at HGN
              have HNO : Hid (rv = false) := by rw [Hid, HRV2.out]; exact good_no hlx (by rw [HGJ.out]; exact good_gen hgr)
              go_wp2_with (first | (go_at_call 39; refine Calls.mono (HGN.out _) ?_; rintro e w1 ⟨rfl, rfl⟩) | (go_at_call 57; refine Calls.mono (HKY.out _) ?_; rintro e w1 ⟨rfl, rfl⟩))
              go_ret
              exact ⟨by rw [HNO.out]; rfl, HB.out.alloc HB.out.size _⟩
          -- END
          · obtain rfl : j = n := by omega
            have HRT : Hid (rv = true) := by rw [Hid, HRV2.out]; exact good_yes (fun i hi => HG.out i (by rw [HX.out]; exact hi))
            go_wp2_with fail
            go_ret
            exact ⟨by rw [HRT.out]; rfl, HB.out⟩
      · have hn6i : ¬ (n : Int) ≤ 6 := by omega
        have HRV2 : Hid (rv = false) := by rw [Hid, HRV.out, decide_eq_false hn6]; simp
        clear HRV
        go_enter Try.func28, Try.ntmps28
        go_wp2_with (first | (go_at_call 58; refine Calls.mono (HL.out _) ?_; rintro e w1 ⟨rfl, rfl⟩) | (go_at_call 59; refine Calls.mono (HS.out _) ?_; rintro e w2 ⟨rfl, hb2⟩; have HA2 : Hid (Blk w2 w.heap.size 34 [.int .i64 lb, .int .i64 ky, .int .i64 ct, .slice a n c]) := (blk_new w [.int .i64 lb, .int .i64 ky, .int .i64 ct, .slice a n c] 34).later hb2; have HB2 : Hid (Below w.heap.size w w2) := below_tr (below_one w _) hb2; have x3 : w2.cell? ⟨w.heap.size, 3, none⟩ = some (.slice a n c) := HA2.out.cell 3; clear hb2))
        go_ret
        exact ⟨by rw [HRV2.out]; rfl, HB2.out⟩
end Go.Proofs.Ytohgafblffnekaa.deep
