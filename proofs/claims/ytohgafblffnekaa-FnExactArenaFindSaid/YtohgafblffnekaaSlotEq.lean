/-
  Slots that read the same are told to be the same.
-/
import Derived.Test.YtohgafblffnekaaSlot
import Derived.Test.YtohgafblffnekaaObjEq
import Derived.Lib.QuietBelow
import Derived.BigQuiet
namespace Go.Proofs.Ytohgafblffnekaa.deep
open Go.RowKit Go.Deep Go.Sort
set_option linter.unusedVariables false

set_option maxHeartbeats 4000000 in
theorem eq_slot0 (gn : Int) (lv : Bool) (id kd lb od pl u1 u2 u3 rm : Int) (fr : List Tbk) (ks : List Thd) (ms : List Tmp) (ss : List Tfs) {l1 l2 : Nat} {w : World} {vf vk vm vs uf uk um us : Value} (h1 : Lists l1 w ⟨kd, lb, od, pl, (u1, u2, u3), rm, fr, ks, ms, ss⟩ vf vk vm vs) (h2 : Lists l2 w ⟨kd, lb, od, pl, (u1, u2, u3), rm, fr, ks, ms, ss⟩ uf uk um us) : Calls Try.prog 69 #[.agg #[.int .i64 gn, .bool lv, .int .i64 id, .int .i64 kd, .int .i64 lb, .int .i64 od, .int .i64 pl, .int .i64 u1, .int .i64 u2, .int .i64 u3, .int .i64 rm, vf, vk, vm, vs], .agg #[.int .i64 gn, .bool lv, .int .i64 id, .int .i64 kd, .int .i64 lb, .int .i64 od, .int .i64 pl, .int .i64 u1, .int .i64 u2, .int .i64 u3, .int .i64 rm, uf, uk, um, us]] w fun e w' => e = .returned (.bool true) ∧ Below w.heap.size w w' := by
  have T1 : Hid (∀ W, Below w.heap.size w W → Calls Try.prog 87 #[.agg #[.int .i64 kd, .int .i64 lb, .int .i64 od, .int .i64 pl, .int .i64 u1, .int .i64 u2, .int .i64 u3, .int .i64 rm, vf, vk, vm, vs], .agg #[.int .i64 kd, .int .i64 lb, .int .i64 od, .int .i64 pl, .int .i64 u1, .int .i64 u2, .int .i64 u3, .int .i64 rm, uf, uk, um, us]] W fun e w' => e = .returned (.bool true) ∧ Below W.heap.size W w') := fun W hW => eq_obj0 kd lb od pl u1 u2 u3 rm fr ks ms ss (h1.below hW) (h2.below hW)
  obtain ⟨af, cf, qf, _⟩ := h1.f.form
  obtain ⟨bf, df, pf, _⟩ := h2.f.form
  obtain ⟨ak, ck, qk, _⟩ := h1.k.form
  obtain ⟨bk, dk, pk, _⟩ := h2.k.form
  obtain ⟨am, cm, qm, _⟩ := h1.m.form
  obtain ⟨bm, dm, pm, _⟩ := h2.m.form
  obtain ⟨aq, cq, qq, _⟩ := h1.s.form
  obtain ⟨bq, dq, pq, _⟩ := h2.s.form
  simp only at qf qk qm qq pf pk pm pq
  generalize fr.length = nf at qf pf
  generalize ks.length = nk at qk pk
  generalize ms.length = nm at qm pm
  generalize ss.length = nq at qq pq
  subst qf qk qm qq pf pk pm pq
  clear h1 h2
  cases lv <;>
  · go_enter Try.func69, Try.ntmps69
    go_wp2_with fail
    refine Calls.mono (T1.out _ (below2 w _ _)) ?_
    rintro e w1 ⟨rfl, hb1⟩
    have HB1 : Hid (Below w.heap.size w w1) := below_tr (below2 w _ _) hb1
    clear hb1
    go_wp2_with fail
    go_ret
    exact ⟨rfl, HB1.out⟩

set_option maxHeartbeats 2000000 in
theorem eq_slots0 (a b : Option Addr) (c d : Nat) (w : World) :
    Calls Try.prog 37 #[.slice a 0 c, .slice b 0 d] w fun e w' => e = .returned (.bool true) ∧ Below w.heap.size w w' := by
  go_enter Try.func37, Try.ntmps37
  go_wp2
  go_loop [5] (fun i => i = .int .i64 0) (fun _ => 0)
  case atStart => exact rfl
  case round =>
    subst hrel
    go_wp2
    go_ret
    exact ⟨rfl, Below.refl _ _⟩

set_option maxHeartbeats 8000000 in
theorem eq_slots {l1 l2 : Nat} {w : World} {va vb : Value} {xs : List SlotD} (h1 : RowE SlotE 15 l1 w va xs) (h2 : RowE SlotE 15 l2 w vb xs) :
    Calls Try.prog 37 #[va, vb] w fun e w' => e = .returned (.bool true) ∧ Below w.heap.size w w' := by
  by_cases h0 : xs.length = 0
  · obtain ⟨a, c, rfl, _⟩ := h1.form
    obtain ⟨b, d, rfl, _⟩ := h2.form
    rw [h0]
    exact eq_slots0 a b c d w
  obtain ⟨g1, o1, c1, rfl, hm1, _, hg1, hc1⟩ := h1.at (by omega)
  obtain ⟨g2, o2, c2, rfl, _, _, hg2, hc2⟩ := h2.at (by omega)
  have HC1 : Hid (∀ i (hi : i < xs.length), ∃ cs : List Value, cs.length = 15 ∧ (∀ j, j < 15 → w.cell? ⟨g1, o1 + i * 15 + j, none⟩ = cs[j]?) ∧ SlotE l1 w cs xs[i]) := hc1
  have HC2 : Hid (∀ i (hi : i < xs.length), ∃ cs : List Value, cs.length = 15 ∧ (∀ j, j < 15 → w.cell? ⟨g2, o2 + i * 15 + j, none⟩ = cs[j]?) ∧ SlotE l2 w cs xs[i]) := hc2
  unfold maxLen at hm1
  have hn : (xs.length : Int) ≤ 9223372036854775807 := by omega
  clear hc1 hc2 h1 h2
  go_enter Try.func37, Try.ntmps37
  go_wp2
  go_loopw [5] (fun i wr => ∃ k : Nat, k ≤ xs.length ∧ i = .int .i64 k ∧ Hid (Below w.heap.size w wr)) (fun i _ => xs.length - (intOf i).toNat)
  case atStart => exact ⟨0, by omega, rfl, Below.refl _ _⟩
  case round =>
    obtain ⟨k, hk, rfl, HB⟩ := hrel
    by_cases hlt : k < xs.length
    · obtain ⟨vf, vk, vm, vs, hl, hc⟩ := slot_at (HC1.out k hlt)
      obtain ⟨uf, uk, um, us, hl', hc'⟩ := slot_at (HC2.out k hlt)
      generalize xs[k] = x at *
      obtain ⟨gn, lv, id, ⟨kd, lb, od, pl, ⟨u1, u2, u3⟩, rm, fr, ks, ms, ss⟩⟩ := x
      simp only at hl hl'
      have HE1 : Hid (∀ W, Below w.heap.size w W → Calls Try.prog 69 #[.agg #[.int .i64 gn, .bool lv, .int .i64 id, .int .i64 kd, .int .i64 lb, .int .i64 od, .int .i64 pl, .int .i64 u1, .int .i64 u2, .int .i64 u3, .int .i64 rm, vf, vk, vm, vs], .agg #[.int .i64 gn, .bool lv, .int .i64 id, .int .i64 kd, .int .i64 lb, .int .i64 od, .int .i64 pl, .int .i64 u1, .int .i64 u2, .int .i64 u3, .int .i64 rm, uf, uk, um, us]] W fun e w' => e = .returned (.bool true) ∧ Below W.heap.size W w') := fun W hW => eq_slot0 gn lv id kd lb od pl u1 u2 u3 rm fr ks ms ss (hl.below hW) (hl'.below hW)
      obtain ⟨af, cf, qf, _⟩ := hl.f.form
      obtain ⟨bf, df, pf, _⟩ := hl'.f.form
      obtain ⟨ak, ck, qk, _⟩ := hl.k.form
      obtain ⟨bk, dk, pk, _⟩ := hl'.k.form
      obtain ⟨am, cm, qm, _⟩ := hl.m.form
      obtain ⟨bm, dm, pm, _⟩ := hl'.m.form
      obtain ⟨aq, cq, qq, _⟩ := hl.s.form
      obtain ⟨bq, dq, pq, _⟩ := hl'.s.form
      simp only at qf qk qm qq pf pk pm pq
      generalize fr.length = nf at qf pf
      generalize ks.length = nk at qk pk
      generalize ms.length = nm at qm pm
      generalize ss.length = nq at qq pq
      subst qf qk qm qq pf pk pm pq
      have e0 : wr.cell? ⟨g1, o1 + k * 15, none⟩ = some (.int .i64 gn) := (HB.out.cell (p := ⟨g1, o1 + k * 15, none⟩) hg1).trans (hc 0 (by decide))
      have d0 : wr.cell? ⟨g2, o2 + k * 15, none⟩ = some (.int .i64 gn) := (HB.out.cell (p := ⟨g2, o2 + k * 15, none⟩) hg2).trans (hc' 0 (by decide))
      have ke0 := cell_regrown e0
      have kd0 := cell_regrown d0
      have e1 : wr.cell? ⟨g1, o1 + k * 15 + 1, none⟩ = some (.bool lv) := (HB.out.cell (p := ⟨g1, o1 + k * 15 + 1, none⟩) hg1).trans (hc 1 (by decide))
      have d1 : wr.cell? ⟨g2, o2 + k * 15 + 1, none⟩ = some (.bool lv) := (HB.out.cell (p := ⟨g2, o2 + k * 15 + 1, none⟩) hg2).trans (hc' 1 (by decide))
      have ke1 := cell_regrown e1
      have kd1 := cell_regrown d1
      have e2 : wr.cell? ⟨g1, o1 + k * 15 + 2, none⟩ = some (.int .i64 id) := (HB.out.cell (p := ⟨g1, o1 + k * 15 + 2, none⟩) hg1).trans (hc 2 (by decide))
      have d2 : wr.cell? ⟨g2, o2 + k * 15 + 2, none⟩ = some (.int .i64 id) := (HB.out.cell (p := ⟨g2, o2 + k * 15 + 2, none⟩) hg2).trans (hc' 2 (by decide))
      have ke2 := cell_regrown e2
      have kd2 := cell_regrown d2
      have e3 : wr.cell? ⟨g1, o1 + k * 15 + 3, none⟩ = some (.int .i64 kd) := (HB.out.cell (p := ⟨g1, o1 + k * 15 + 3, none⟩) hg1).trans (hc 3 (by decide))
      have d3 : wr.cell? ⟨g2, o2 + k * 15 + 3, none⟩ = some (.int .i64 kd) := (HB.out.cell (p := ⟨g2, o2 + k * 15 + 3, none⟩) hg2).trans (hc' 3 (by decide))
      have ke3 := cell_regrown e3
      have kd3 := cell_regrown d3
      have e4 : wr.cell? ⟨g1, o1 + k * 15 + 4, none⟩ = some (.int .i64 lb) := (HB.out.cell (p := ⟨g1, o1 + k * 15 + 4, none⟩) hg1).trans (hc 4 (by decide))
      have d4 : wr.cell? ⟨g2, o2 + k * 15 + 4, none⟩ = some (.int .i64 lb) := (HB.out.cell (p := ⟨g2, o2 + k * 15 + 4, none⟩) hg2).trans (hc' 4 (by decide))
      have ke4 := cell_regrown e4
      have kd4 := cell_regrown d4
      have e5 : wr.cell? ⟨g1, o1 + k * 15 + 5, none⟩ = some (.int .i64 od) := (HB.out.cell (p := ⟨g1, o1 + k * 15 + 5, none⟩) hg1).trans (hc 5 (by decide))
      have d5 : wr.cell? ⟨g2, o2 + k * 15 + 5, none⟩ = some (.int .i64 od) := (HB.out.cell (p := ⟨g2, o2 + k * 15 + 5, none⟩) hg2).trans (hc' 5 (by decide))
      have ke5 := cell_regrown e5
      have kd5 := cell_regrown d5
      have e6 : wr.cell? ⟨g1, o1 + k * 15 + 6, none⟩ = some (.int .i64 pl) := (HB.out.cell (p := ⟨g1, o1 + k * 15 + 6, none⟩) hg1).trans (hc 6 (by decide))
      have d6 : wr.cell? ⟨g2, o2 + k * 15 + 6, none⟩ = some (.int .i64 pl) := (HB.out.cell (p := ⟨g2, o2 + k * 15 + 6, none⟩) hg2).trans (hc' 6 (by decide))
      have ke6 := cell_regrown e6
      have kd6 := cell_regrown d6
      have e7 : wr.cell? ⟨g1, o1 + k * 15 + 7, none⟩ = some (.int .i64 u1) := (HB.out.cell (p := ⟨g1, o1 + k * 15 + 7, none⟩) hg1).trans (hc 7 (by decide))
      have d7 : wr.cell? ⟨g2, o2 + k * 15 + 7, none⟩ = some (.int .i64 u1) := (HB.out.cell (p := ⟨g2, o2 + k * 15 + 7, none⟩) hg2).trans (hc' 7 (by decide))
      have ke7 := cell_regrown e7
      have kd7 := cell_regrown d7
      have e8 : wr.cell? ⟨g1, o1 + k * 15 + 8, none⟩ = some (.int .i64 u2) := (HB.out.cell (p := ⟨g1, o1 + k * 15 + 8, none⟩) hg1).trans (hc 8 (by decide))
      have d8 : wr.cell? ⟨g2, o2 + k * 15 + 8, none⟩ = some (.int .i64 u2) := (HB.out.cell (p := ⟨g2, o2 + k * 15 + 8, none⟩) hg2).trans (hc' 8 (by decide))
      have ke8 := cell_regrown e8
      have kd8 := cell_regrown d8
      have e9 : wr.cell? ⟨g1, o1 + k * 15 + 9, none⟩ = some (.int .i64 u3) := (HB.out.cell (p := ⟨g1, o1 + k * 15 + 9, none⟩) hg1).trans (hc 9 (by decide))
      have d9 : wr.cell? ⟨g2, o2 + k * 15 + 9, none⟩ = some (.int .i64 u3) := (HB.out.cell (p := ⟨g2, o2 + k * 15 + 9, none⟩) hg2).trans (hc' 9 (by decide))
      have ke9 := cell_regrown e9
      have kd9 := cell_regrown d9
      have e10 : wr.cell? ⟨g1, o1 + k * 15 + 10, none⟩ = some (.int .i64 rm) := (HB.out.cell (p := ⟨g1, o1 + k * 15 + 10, none⟩) hg1).trans (hc 10 (by decide))
      have d10 : wr.cell? ⟨g2, o2 + k * 15 + 10, none⟩ = some (.int .i64 rm) := (HB.out.cell (p := ⟨g2, o2 + k * 15 + 10, none⟩) hg2).trans (hc' 10 (by decide))
      have ke10 := cell_regrown e10
      have kd10 := cell_regrown d10
      have e11 : wr.cell? ⟨g1, o1 + k * 15 + 11, none⟩ = some (.slice af nf cf) := (HB.out.cell (p := ⟨g1, o1 + k * 15 + 11, none⟩) hg1).trans (hc 11 (by decide))
      have d11 : wr.cell? ⟨g2, o2 + k * 15 + 11, none⟩ = some (.slice bf nf df) := (HB.out.cell (p := ⟨g2, o2 + k * 15 + 11, none⟩) hg2).trans (hc' 11 (by decide))
      have ke11 := cell_regrown e11
      have kd11 := cell_regrown d11
      have e12 : wr.cell? ⟨g1, o1 + k * 15 + 12, none⟩ = some (.slice ak nk ck) := (HB.out.cell (p := ⟨g1, o1 + k * 15 + 12, none⟩) hg1).trans (hc 12 (by decide))
      have d12 : wr.cell? ⟨g2, o2 + k * 15 + 12, none⟩ = some (.slice bk nk dk) := (HB.out.cell (p := ⟨g2, o2 + k * 15 + 12, none⟩) hg2).trans (hc' 12 (by decide))
      have ke12 := cell_regrown e12
      have kd12 := cell_regrown d12
      have e13 : wr.cell? ⟨g1, o1 + k * 15 + 13, none⟩ = some (.slice am nm cm) := (HB.out.cell (p := ⟨g1, o1 + k * 15 + 13, none⟩) hg1).trans (hc 13 (by decide))
      have d13 : wr.cell? ⟨g2, o2 + k * 15 + 13, none⟩ = some (.slice bm nm dm) := (HB.out.cell (p := ⟨g2, o2 + k * 15 + 13, none⟩) hg2).trans (hc' 13 (by decide))
      have ke13 := cell_regrown e13
      have kd13 := cell_regrown d13
      have e14 : wr.cell? ⟨g1, o1 + k * 15 + 14, none⟩ = some (.slice aq nq cq) := (HB.out.cell (p := ⟨g1, o1 + k * 15 + 14, none⟩) hg1).trans (hc 14 (by decide))
      have d14 : wr.cell? ⟨g2, o2 + k * 15 + 14, none⟩ = some (.slice bq nq dq) := (HB.out.cell (p := ⟨g2, o2 + k * 15 + 14, none⟩) hg2).trans (hc' 14 (by decide))
      have ke14 := cell_regrown e14
      have kd14 := cell_regrown d14
      clear hc hc' hl hl'
      have cE : ∀ d os, _ := fun d os => Calls.regrown_of (w := wr) (d := d) (os := os) (HE1.out _ (HB.out.trans ((below_regrown wr d os).mono HB.out.size)))
      go_wp2_with fail
      refine wp_region_quiet_below (by kernel_rfl) (by kernel_rfl) ?_
      repeat (go_big_quiet_step (first | (go_at_call 69; exact cE _ _)))
      refine wpQuiet_nil ?_
      intro _ hw'
      obtain ⟨⟨dq, osq⟩, hw''⟩ := hw'
      subst hw''
      have HB2 : Hid (Below w.heap.size w (grow (redrawn wr dq) osq)) := HB.out.trans ((below_regrown wr dq osq).mono HB.out.size)
      go_wp2_with fail
      go_roundw
      case rel => exact ⟨k + 1, by omega, by go_num, HB2.out⟩
      case measure => simp [intOf]; omega
    · go_wp2
      go_ret
      exact ⟨rfl, HB.out⟩
end Go.Proofs.Ytohgafblffnekaa.deep
