/-
  The specification's ArenaFind, at every arena and handle. No condition.
-/
import Derived.Test.YtohgafblffnekaaArenaFindP
import Derived.Test.YtohgafblffnekaaArenaSpec
namespace Go.Proofs.Ytohgafblffnekaa.deep
open Go.RowKit Go.Deep Go.Sort
open Go.Proofs.Ytohgafblffnekaa
set_option linter.unusedVariables false

theorem hit_eq (lb : Int) (s : SlotD) (y1 y2 y3 : Int) : hit lb s (y1, y2, y3) = (s.live && decide (y1 = lb) && decide (s.id = y2) && decide (s.gen = y3)) := by
  rw [Bool.eq_iff_iff]
  simp only [hit, Bool.and_eq_true, decide_eq_true_eq, Prod.mk.injEq]
  constructor
  · rintro ⟨a, b, c, d⟩; exact ⟨⟨⟨a, b⟩, c.symm⟩, d.symm⟩
  · rintro ⟨⟨⟨a, b⟩, c⟩, d⟩; exact ⟨a, b, c.symm, d.symm⟩
theorem miss_next {lb : Int} {xs : List SlotD} {y : Thd} {j : Nat} (h : ∀ i (hi : i < xs.length), i < j → hit lb xs[i] y = false) (hj : ∀ hi : j < xs.length, hit lb xs[j] y = false) : ∀ i (hi : i < xs.length), i < j + 1 → hit lb xs[i] y = false := fun i hi hij => by
  by_cases e : i < j
  · exact h i hi e
  · obtain rfl : i = j := by omega
    exact hj hi

set_option maxHeartbeats 4000000 in
theorem sp_find0 (a : ArenaD) (y1 y2 y3 : Int) {lo : Nat} {w : World} {v : Value} (h : RowE SlotE 15 lo w v a.slots) (hg : goodS a.slots = true) : Calls Try.prog 31 #[.agg (acells a v).toArray, .agg #[.int .i64 y1, .int .i64 y2, .int .i64 y3]] w fun e w' => e = .returned (.int .i64 (placeI a.label a.slots (y1, y2, y3))) ∧ Below w.heap.size w w' := by
  obtain ⟨lb, ky, ct, xs⟩ := a
  simp only at h hg
  obtain ⟨a, c, rfl, hml, h3⟩ := h
  have H3 : Hid (0 < xs.length → ∃ g o, a = some ⟨g, o, none⟩ ∧ lo ≤ g ∧ g < w.heap.size ∧ ∀ i (hi : i < xs.length), ∃ cs : List Value, cs.length = 15 ∧ (∀ j, j < 15 → w.cell? ⟨g, o + i * 15 + j, none⟩ = cs[j]?) ∧ SlotE lo w cs xs[i]) := h3
  obtain ⟨n, hx⟩ : ∃ n, n = xs.length := ⟨_, rfl⟩
  have HX : Hid (n = xs.length) := hx
  obtain ⟨rv, hrv⟩ : ∃ r, r = placeI lb xs (y1, y2, y3) := ⟨_, rfl⟩
  have HRV : Hid (rv = placeI lb xs (y1, y2, y3)) := hrv
  have HGS : Hid (goodS xs = true) := hg
  simp only [acells]
  rw [← hrv, ← hx]
  rw [← hx] at hml
  unfold maxLen at hml
  clear h3 hx hrv hg
  go_enter Try.func31, Try.ntmps31
  go_wp2_with fail
  go_loopw [5] (fun t5 wr => ∃ j : Nat, j ≤ n ∧ t5 = .int .i64 j ∧ Hid (∀ i (hi : i < xs.length), i < j → hit lb xs[i] (y1, y2, y3) = false) ∧ Hid (Blk wr w.heap.size 34 [.int .i64 lb, .int .i64 ky, .int .i64 ct, .slice a n c]) ∧ Hid (Blk wr (w.heap.size + 1) 36 [.int .i64 y1, .int .i64 y2, .int .i64 y3]) ∧ Hid (Below w.heap.size w wr)) (fun t5 _ => n - (intOf t5).toNat)
  case atStart => exact ⟨0, by omega, rfl, fun i hi hij => absurd hij (Nat.not_lt_zero _), (blk2 w [.int .i64 lb, .int .i64 ky, .int .i64 ct, .slice a n c] [.int .i64 y1, .int .i64 y2, .int .i64 y3] 34 36).1, (blk2 w [.int .i64 lb, .int .i64 ky, .int .i64 ct, .slice a n c] [.int .i64 y1, .int .i64 y2, .int .i64 y3] 34 36).2, below2 w _ _⟩
  case round =>
    obtain ⟨j, hj, rfl, HN, HA, HH, HB⟩ := hrel
    have x0 : wr.cell? ⟨w.heap.size, 0, none⟩ = some (.int .i64 lb) := HA.out.cell 0
    have x3 : wr.cell? ⟨w.heap.size, 3, none⟩ = some (.slice a n c) := HA.out.cell 3
    have q0 : wr.cell? ⟨w.heap.size + 1, 0, none⟩ = some (.int .i64 y1) := HH.out.cell 0
    have q1 : wr.cell? ⟨w.heap.size + 1, 1, none⟩ = some (.int .i64 y2) := HH.out.cell 1
    have q2 : wr.cell? ⟨w.heap.size + 1, 2, none⟩ = some (.int .i64 y3) := HH.out.cell 2
    by_cases hlt : j < n
    · by_cases hby : y1 = lb
      · have hlx : j < xs.length := by rw [← HX.out]; exact hlt
        obtain ⟨g, o, rfl, _, hg, hc3⟩ := H3.out (by omega)
        obtain ⟨vf, vk, vm, vs, hl, hc⟩ := slot_at (hc3 j hlx)
        have HHJ : Hid (hit lb xs[j] (y1, y2, y3) = (xs[j].live && decide (y1 = lb) && decide (xs[j].id = y2) && decide (xs[j].gen = y3))) := hit_eq lb xs[j] y1 y2 y3
        have HRJ : Hid (hit lb xs[j] (y1, y2, y3) = true → rv = j) := fun hh => by rw [HRV.out]; exact place_hit HGS.out hlx hh
        have HNJ : Hid (hit lb xs[j] (y1, y2, y3) = false → ∀ i (hi : i < xs.length), i < j + 1 → hit lb xs[i] (y1, y2, y3) = false) := fun hh => miss_next HN.out (fun _ => hh)
        clear hc3
        generalize hxj : xs[j] = x at *
        clear hxj
        obtain ⟨gn, lv, id, ⟨kd, lo', od, pl, ⟨u1, u2, u3⟩, rm, fr, ks, ms, ss⟩⟩ := x
        simp only at hl
        have e0 : wr.cell? ⟨g, o + j * 15, none⟩ = some (.int .i64 gn) := (HB.out.cell (p := ⟨g, o + j * 15, none⟩) hg).trans (hc 0 (by decide))
        have e1 : wr.cell? ⟨g, o + j * 15 + 1, none⟩ = some (.bool lv) := (HB.out.cell (p := ⟨g, o + j * 15 + 1, none⟩) hg).trans (hc 1 (by decide))
        have e2 : wr.cell? ⟨g, o + j * 15 + 2, none⟩ = some (.int .i64 id) := (HB.out.cell (p := ⟨g, o + j * 15 + 2, none⟩) hg).trans (hc 2 (by decide))
        have e3 : wr.cell? ⟨g, o + j * 15 + 3, none⟩ = some (.int .i64 kd) := (HB.out.cell (p := ⟨g, o + j * 15 + 3, none⟩) hg).trans (hc 3 (by decide))
        have e4 : wr.cell? ⟨g, o + j * 15 + 4, none⟩ = some (.int .i64 lo') := (HB.out.cell (p := ⟨g, o + j * 15 + 4, none⟩) hg).trans (hc 4 (by decide))
        have e5 : wr.cell? ⟨g, o + j * 15 + 5, none⟩ = some (.int .i64 od) := (HB.out.cell (p := ⟨g, o + j * 15 + 5, none⟩) hg).trans (hc 5 (by decide))
        have e6 : wr.cell? ⟨g, o + j * 15 + 6, none⟩ = some (.int .i64 pl) := (HB.out.cell (p := ⟨g, o + j * 15 + 6, none⟩) hg).trans (hc 6 (by decide))
        have e7 : wr.cell? ⟨g, o + j * 15 + 7, none⟩ = some (.int .i64 u1) := (HB.out.cell (p := ⟨g, o + j * 15 + 7, none⟩) hg).trans (hc 7 (by decide))
        have e8 : wr.cell? ⟨g, o + j * 15 + 8, none⟩ = some (.int .i64 u2) := (HB.out.cell (p := ⟨g, o + j * 15 + 8, none⟩) hg).trans (hc 8 (by decide))
        have e9 : wr.cell? ⟨g, o + j * 15 + 9, none⟩ = some (.int .i64 u3) := (HB.out.cell (p := ⟨g, o + j * 15 + 9, none⟩) hg).trans (hc 9 (by decide))
        have e10 : wr.cell? ⟨g, o + j * 15 + 10, none⟩ = some (.int .i64 rm) := (HB.out.cell (p := ⟨g, o + j * 15 + 10, none⟩) hg).trans (hc 10 (by decide))
        have e11 : wr.cell? ⟨g, o + j * 15 + 11, none⟩ = some (vf) := (HB.out.cell (p := ⟨g, o + j * 15 + 11, none⟩) hg).trans (hc 11 (by decide))
        have e12 : wr.cell? ⟨g, o + j * 15 + 12, none⟩ = some (vk) := (HB.out.cell (p := ⟨g, o + j * 15 + 12, none⟩) hg).trans (hc 12 (by decide))
        have e13 : wr.cell? ⟨g, o + j * 15 + 13, none⟩ = some (vm) := (HB.out.cell (p := ⟨g, o + j * 15 + 13, none⟩) hg).trans (hc 13 (by decide))
        have e14 : wr.cell? ⟨g, o + j * 15 + 14, none⟩ = some (vs) := (HB.out.cell (p := ⟨g, o + j * 15 + 14, none⟩) hg).trans (hc 14 (by decide))
        clear hc
        obtain ⟨af, cf, qf, lf⟩ := hl.f.form
        obtain ⟨ak, ck, qk, lk⟩ := hl.k.form
        obtain ⟨am, cm, qm, lm⟩ := hl.m.form
        obtain ⟨aq, cq, qq, lq⟩ := hl.s.form
        simp only at qf qk qm qq lf lk lm lq
        generalize hob : (ObjD.mk kd lo' od pl (u1, u2, u3) rm fr ks ms ss) = ob at *
        generalize fr.length = nf at *
        generalize ks.length = nk at *
        generalize ms.length = nm at *
        generalize ss.length = nq at *
        subst qf qk qm qq
        have hg2 : g < wr.heap.size := Nat.lt_of_lt_of_le hg HB.out.size
        have hA2 := HA.out.lt
        have hH2 := HH.out.lt
        clear hl hob lf lk lm lq
        simp only at HHJ
        have hbyb : (y1 == lb) = true := by simp [hby]
        by_cases hall : lv = true ∧ id = y2 ∧ gn = y3
        · obtain ⟨rfl, rfl, rfl⟩ := hall
          have HR : Hid (rv = j) := HRJ.out (by rw [HHJ.out, decide_eq_true hby, decide_eq_true rfl, decide_eq_true rfl]; rfl)
          go_wp2_with fail
          go_ret
          exact ⟨by rw [HR.out]; rfl, HB.out.alloc HB.out.size _⟩
        · have HNX : Hid (∀ i (hi : i < xs.length), i < j + 1 → hit lb xs[i] (y1, y2, y3) = false) := HNJ.out (by
            rw [HHJ.out]
            cases lv with
            | false => rfl
            | true =>
              by_cases e1 : id = y2
              · have e2 : ¬ gn = y3 := fun e2 => hall ⟨rfl, e1, e2⟩
                rw [decide_eq_false e2, Bool.and_false]
              · rw [decide_eq_false e1, Bool.and_false, Bool.false_and])
          cases lv with
          | false =>
            clear hall
            go_wp2_with fail
            go_roundw
            case rel => exact ⟨j + 1, by omega, by go_num, HNX.out, HA.out.later (below_one wr _), HH.out.later (below_one wr _), HB.out.alloc HB.out.size _⟩
            case measure => simp [intOf]; omega
          | true =>
            by_cases e1' : id = y2
            · have e2' : (gn == y3) = false := by simp; exact fun e => hall ⟨rfl, e1', e⟩
              have e1b : (id == y2) = true := by simp [e1']
              clear hall e1'
              go_wp2_with fail
              go_roundw
              case rel => exact ⟨j + 1, by omega, by go_num, HNX.out, HA.out.later (below_one wr _), HH.out.later (below_one wr _), HB.out.alloc HB.out.size _⟩
              case measure => simp [intOf]; omega
            · have e1b : (id == y2) = false := by simp [e1']
              clear hall e1'
              go_wp2_with fail
              go_roundw
              case rel => exact ⟨j + 1, by omega, by go_num, HNX.out, HA.out.later (below_one wr _), HH.out.later (below_one wr _), HB.out.alloc HB.out.size _⟩
              case measure => simp [intOf]; omega
      · have hbyb : (y1 == lb) = false := by simp [hby]
        have HR : Hid (rv = -1) := by rw [Hid, HRV.out]; exact place_none (fun i hi => hit_by (y := (y1, y2, y3)) hby)
        clear hby
        go_wp2_with fail
        go_ret
        exact ⟨by rw [HR.out]; rfl, HB.out⟩
    · have HR : Hid (rv = -1) := by rw [Hid, HRV.out]; exact place_none (fun i hi => HN.out i hi (by rw [← HX.out] at hi; omega))
      go_wp2_with fail
      go_ret
      exact ⟨by rw [HR.out]; rfl, HB.out⟩

/-- what ArenaFind answers -/
def ArenaD.place (a : ArenaD) (y : Thd) : Int := if a.right = true then placeI a.label a.slots y else -1
theorem right_good {a : ArenaD} (h : a.right = true) : goodS a.slots = true := by
  simp only [ArenaD.right, Bool.and_eq_true] at h; exact h.2
set_option maxHeartbeats 4000000 in
theorem sp_find (a : ArenaD) (y1 y2 y3 : Int) {lo : Nat} {w : World} {v : Value} (h : RowE SlotE 15 lo w v a.slots) : Calls Try.prog 7 #[.agg (acells a v).toArray, .agg #[.int .i64 y1, .int .i64 y2, .int .i64 y3]] w fun e w' => e = .returned (.int .i64 (a.place (y1, y2, y3))) ∧ Below w.heap.size w w' := by
  obtain ⟨lb, ky, ct, xs⟩ := a
  simp only at h
  have HS : Hid (∀ W, Below w.heap.size w W → Calls Try.prog 28 #[.agg #[.int .i64 lb, .int .i64 ky, .int .i64 ct, v]] W fun e w' => e = .returned (.bool (ArenaD.right ⟨lb, ky, ct, xs⟩)) ∧ Below W.heap.size W w') := fun W hW => sp_right ⟨lb, ky, ct, xs⟩ (h.below slot_stays hW)
  have HF : Hid (ArenaD.right ⟨lb, ky, ct, xs⟩ = true → ∀ W, Below w.heap.size w W → Calls Try.prog 31 #[.agg #[.int .i64 lb, .int .i64 ky, .int .i64 ct, v], .agg #[.int .i64 y1, .int .i64 y2, .int .i64 y3]] W fun e w' => e = .returned (.int .i64 (ArenaD.place ⟨lb, ky, ct, xs⟩ (y1, y2, y3))) ∧ Below W.heap.size W w') := fun hr W hW => by
    rw [ArenaD.place, if_pos hr]; exact sp_find0 ⟨lb, ky, ct, xs⟩ y1 y2 y3 (h.below slot_stays hW) (right_good hr)
  have HN : Hid (ArenaD.right ⟨lb, ky, ct, xs⟩ = false → ArenaD.place ⟨lb, ky, ct, xs⟩ (y1, y2, y3) = -1) := fun hr => by rw [ArenaD.place, if_neg (by rw [hr]; decide)]
  obtain ⟨a, c, hv, _⟩ := h.form
  simp only [acells]
  generalize ArenaD.place ⟨lb, ky, ct, xs⟩ (y1, y2, y3) = rv at *
  generalize ArenaD.right ⟨lb, ky, ct, xs⟩ = r at *
  generalize xs.length = n at hv
  subst hv
  clear h
  cases r with
  | false =>
    have HV : Hid (rv = -1) := HN.out rfl
    clear HF HN
    go_enter Try.func7, Try.ntmps7
    go_wp2_with fail
    refine Calls.mono (HS.out _ (below2 w _ _)) ?_
    rintro e w1 ⟨rfl, hb1⟩
    have HB1 : Hid (Below w.heap.size w w1) := below_tr (below2 w _ _) hb1
    clear hb1
    go_wp2_with fail
    go_ret
    exact ⟨by rw [HV.out]; rfl, HB1.out⟩
  | true =>
    have HF2 : Hid _ := HF.out rfl
    clear HF HN
    go_enter Try.func7, Try.ntmps7
    go_wp2_with fail
    refine Calls.mono (HS.out _ (below2 w _ _)) ?_
    rintro e w1 ⟨rfl, hb1⟩
    have F := blk2 w [.int .i64 lb, .int .i64 ky, .int .i64 ct, .slice a n c] [.int .i64 y1, .int .i64 y2, .int .i64 y3] 34 36
    have HB1 : Hid (Below w.heap.size w w1) := below_tr (below2 w _ _) hb1
    have HA1 : Hid (Blk w1 w.heap.size 34 [.int .i64 lb, .int .i64 ky, .int .i64 ct, .slice a n c]) := F.1.later hb1
    have HH1 : Hid (Blk w1 (w.heap.size + 1) 36 [.int .i64 y1, .int .i64 y2, .int .i64 y3]) := F.2.later hb1
    clear hb1 F
    have x0 : w1.cell? ⟨w.heap.size, 0, none⟩ = some (.int .i64 lb) := HA1.out.cell 0
    have x1 : w1.cell? ⟨w.heap.size, 1, none⟩ = some (.int .i64 ky) := HA1.out.cell 1
    have x2 : w1.cell? ⟨w.heap.size, 2, none⟩ = some (.int .i64 ct) := HA1.out.cell 2
    have x3 : w1.cell? ⟨w.heap.size, 3, none⟩ = some (.slice a n c) := HA1.out.cell 3
    have q0 : w1.cell? ⟨w.heap.size + 1, 0, none⟩ = some (.int .i64 y1) := HH1.out.cell 0
    have q1 : w1.cell? ⟨w.heap.size + 1, 1, none⟩ = some (.int .i64 y2) := HH1.out.cell 1
    have q2 : w1.cell? ⟨w.heap.size + 1, 2, none⟩ = some (.int .i64 y3) := HH1.out.cell 2
    go_wp2_with fail
    refine Calls.mono (HF2.out _ HB1.out) ?_
    rintro e w2 ⟨rfl, hb2⟩
    have HB2 : Hid (Below w.heap.size w w2) := below_tr HB1.out hb2
    clear hb2 x0 x1 x2 x3 q0 q1 q2
    go_wp2_with fail
    go_ret
    exact ⟨rfl, HB2.out⟩
end Go.Proofs.Ytohgafblffnekaa.deep
