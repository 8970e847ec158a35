/-
  Slots made anew by the laws' helpers: all their lists in new memory.
-/
import Derived.Test.YtohgafblffnekaaSlot
import Derived.Test.YtohgafblffnekaaObjTo
namespace Go.Proofs.Ytohgafblffnekaa.deep
open Go.RowKit Go.Deep Go.Sort
set_option linter.unusedVariables false

def ToSlot (x : SlotD) (w : World) (e : Ending) (w' : World) : Prop := ∃ vf vk vm vs, e = .returned (.agg (scells x vf vk vm vs).toArray) ∧ Lists w.heap.size w' x.obj vf vk vm vs ∧ Below w.heap.size w w'
set_option maxHeartbeats 8000000 in
theorem to_slot0 (gn : Int) (lv : Bool) (id kd lb od pl u1 u2 u3 rm : Int) (fr : List Tbk) (ks : List Thd) (ms : List Tmp) (ss : List Tfs) {lo : Nat} {w : World} {vf vk vm vs : Value} (h : Lists lo w ⟨kd, lb, od, pl, (u1, u2, u3), rm, fr, ks, ms, ss⟩ vf vk vm vs) (hb : ObjD.bulk ⟨kd, lb, od, pl, (u1, u2, u3), rm, fr, ks, ms, ss⟩ ≤ 1048576) : Calls Try.prog 64 #[.agg #[.int .i64 gn, .bool lv, .int .i64 id, .int .i64 kd, .int .i64 lb, .int .i64 od, .int .i64 pl, .int .i64 u1, .int .i64 u2, .int .i64 u3, .int .i64 rm, vf, vk, vm, vs]] w (ToSlot ⟨gn, lv, id, ⟨kd, lb, od, pl, (u1, u2, u3), rm, fr, ks, ms, ss⟩⟩ w) := by
  have T1 : Hid (∀ W, Below w.heap.size w W → Calls Try.prog 84 #[.agg #[.int .i64 kd, .int .i64 lb, .int .i64 od, .int .i64 pl, .int .i64 u1, .int .i64 u2, .int .i64 u3, .int .i64 rm, vf, vk, vm, vs]] W (ToObj ⟨kd, lb, od, pl, (u1, u2, u3), rm, fr, ks, ms, ss⟩ W)) := fun W hW => to_obj ⟨kd, lb, od, pl, (u1, u2, u3), rm, fr, ks, ms, ss⟩ (h.below hW) hb
  obtain ⟨af, cf, ef, _⟩ := h.f.form
  obtain ⟨ak, ck, ek, _⟩ := h.k.form
  obtain ⟨am, cm, em, _⟩ := h.m.form
  obtain ⟨aq, cq, eq, _⟩ := h.s.form
  simp only at ef ek em eq
  generalize fr.length = nf at ef
  generalize ks.length = nk at ek
  generalize ms.length = nm at em
  generalize ss.length = nq at eq
  subst ef ek em eq
  clear h hb
  go_enter Try.func64, Try.ntmps64
  go_wp2_with fail
  refine Calls.mono (T1.out _ (below3 w _ _ _)) ?_
  rintro e w1 ⟨v1, v2, v3, v4, rfl, hr1, hb1⟩
  have HB1 : Hid (Below w.heap.size w w1) := below_tr (below3 w _ _ _) hb1
  have F := blk3 w [.int .i64 gn, .bool lv, .int .i64 id, .int .i64 kd, .int .i64 lb, .int .i64 od, .int .i64 pl, .int .i64 u1, .int .i64 u2, .int .i64 u3, .int .i64 rm, .slice af nf cf, .slice ak nk ck, .slice am nm cm, .slice aq nq cq] [.int .i64 0, .bool false, .int .i64 0, .int .i64 0, .int .i64 0, .int .i64 0, .int .i64 0, .int .i64 0, .int .i64 0, .int .i64 0, .int .i64 0, .slice none 0 0, .slice none 0 0, .slice none 0 0, .slice none 0 0] [.int .i64 gn, .bool lv, .int .i64 id, .int .i64 0, .int .i64 0, .int .i64 0, .int .i64 0, .int .i64 0, .int .i64 0, .int .i64 0, .int .i64 0, .slice none 0 0, .slice none 0 0, .slice none 0 0, .slice none 0 0] 124 69 69
  have HR1 : Hid (Blk w1 (w.heap.size + 1) 69 [.int .i64 0, .bool false, .int .i64 0, .int .i64 0, .int .i64 0, .int .i64 0, .int .i64 0, .int .i64 0, .int .i64 0, .int .i64 0, .int .i64 0, .slice none 0 0, .slice none 0 0, .slice none 0 0, .slice none 0 0]) := F.2.1.later hb1
  have HO1 : Hid (Blk w1 (w.heap.size + 1 + 1) 69 [.int .i64 gn, .bool lv, .int .i64 id, .int .i64 0, .int .i64 0, .int .i64 0, .int .i64 0, .int .i64 0, .int .i64 0, .int .i64 0, .int .i64 0, .slice none 0 0, .slice none 0 0, .slice none 0 0, .slice none 0 0]) := F.2.2.later hb1
  have HL1 : Hid (Lists (w.heap.size + 3) w1 ⟨kd, lb, od, pl, (u1, u2, u3), rm, fr, ks, ms, ss⟩ v1 v2 v3 v4) := hr1.lower (by rw [size3]; exact Nat.le_refl _)
  clear hb1 F
  obtain ⟨bf, df, gf, _⟩ := hr1.f.form
  obtain ⟨bk, dk, gk, _⟩ := hr1.k.form
  obtain ⟨bm, dm, gm, _⟩ := hr1.m.form
  obtain ⟨bq, dq, gq, _⟩ := hr1.s.form
  simp only at gf gk gm gq
  generalize fr.length = mf at gf
  generalize ks.length = mk at gk
  generalize ms.length = mm at gm
  generalize ss.length = mq at gq
  subst gf gk gm gq
  clear hr1
  simp only [ocells]
  have o0 : w1.cell? ⟨w.heap.size + 1 + 1, 0, none⟩ = some (.int .i64 gn) := HO1.out.cell 0
  have y0 := HO1.out.free 0
  have r0 : w1.cell? ⟨w.heap.size + 1, 0, none⟩ = some (.int .i64 0) := HR1.out.cell 0
  have s0 := HR1.out.free 0
  have o1 : w1.cell? ⟨w.heap.size + 1 + 1, 1, none⟩ = some (.bool lv) := HO1.out.cell 1
  have y1 := HO1.out.free 1
  have r1 : w1.cell? ⟨w.heap.size + 1, 1, none⟩ = some (.bool false) := HR1.out.cell 1
  have s1 := HR1.out.free 1
  have o2 : w1.cell? ⟨w.heap.size + 1 + 1, 2, none⟩ = some (.int .i64 id) := HO1.out.cell 2
  have y2 := HO1.out.free 2
  have r2 : w1.cell? ⟨w.heap.size + 1, 2, none⟩ = some (.int .i64 0) := HR1.out.cell 2
  have s2 := HR1.out.free 2
  have o3 : w1.cell? ⟨w.heap.size + 1 + 1, 3, none⟩ = some (.int .i64 0) := HO1.out.cell 3
  have y3 := HO1.out.free 3
  have r3 : w1.cell? ⟨w.heap.size + 1, 3, none⟩ = some (.int .i64 0) := HR1.out.cell 3
  have s3 := HR1.out.free 3
  have o4 : w1.cell? ⟨w.heap.size + 1 + 1, 4, none⟩ = some (.int .i64 0) := HO1.out.cell 4
  have y4 := HO1.out.free 4
  have r4 : w1.cell? ⟨w.heap.size + 1, 4, none⟩ = some (.int .i64 0) := HR1.out.cell 4
  have s4 := HR1.out.free 4
  have o5 : w1.cell? ⟨w.heap.size + 1 + 1, 5, none⟩ = some (.int .i64 0) := HO1.out.cell 5
  have y5 := HO1.out.free 5
  have r5 : w1.cell? ⟨w.heap.size + 1, 5, none⟩ = some (.int .i64 0) := HR1.out.cell 5
  have s5 := HR1.out.free 5
  have o6 : w1.cell? ⟨w.heap.size + 1 + 1, 6, none⟩ = some (.int .i64 0) := HO1.out.cell 6
  have y6 := HO1.out.free 6
  have r6 : w1.cell? ⟨w.heap.size + 1, 6, none⟩ = some (.int .i64 0) := HR1.out.cell 6
  have s6 := HR1.out.free 6
  have o7 : w1.cell? ⟨w.heap.size + 1 + 1, 7, none⟩ = some (.int .i64 0) := HO1.out.cell 7
  have y7 := HO1.out.free 7
  have r7 : w1.cell? ⟨w.heap.size + 1, 7, none⟩ = some (.int .i64 0) := HR1.out.cell 7
  have s7 := HR1.out.free 7
  have o8 : w1.cell? ⟨w.heap.size + 1 + 1, 8, none⟩ = some (.int .i64 0) := HO1.out.cell 8
  have y8 := HO1.out.free 8
  have r8 : w1.cell? ⟨w.heap.size + 1, 8, none⟩ = some (.int .i64 0) := HR1.out.cell 8
  have s8 := HR1.out.free 8
  have o9 : w1.cell? ⟨w.heap.size + 1 + 1, 9, none⟩ = some (.int .i64 0) := HO1.out.cell 9
  have y9 := HO1.out.free 9
  have r9 : w1.cell? ⟨w.heap.size + 1, 9, none⟩ = some (.int .i64 0) := HR1.out.cell 9
  have s9 := HR1.out.free 9
  have o10 : w1.cell? ⟨w.heap.size + 1 + 1, 10, none⟩ = some (.int .i64 0) := HO1.out.cell 10
  have y10 := HO1.out.free 10
  have r10 : w1.cell? ⟨w.heap.size + 1, 10, none⟩ = some (.int .i64 0) := HR1.out.cell 10
  have s10 := HR1.out.free 10
  have o11 : w1.cell? ⟨w.heap.size + 1 + 1, 11, none⟩ = some (.slice none 0 0) := HO1.out.cell 11
  have y11 := HO1.out.free 11
  have r11 : w1.cell? ⟨w.heap.size + 1, 11, none⟩ = some (.slice none 0 0) := HR1.out.cell 11
  have s11 := HR1.out.free 11
  have o12 : w1.cell? ⟨w.heap.size + 1 + 1, 12, none⟩ = some (.slice none 0 0) := HO1.out.cell 12
  have y12 := HO1.out.free 12
  have r12 : w1.cell? ⟨w.heap.size + 1, 12, none⟩ = some (.slice none 0 0) := HR1.out.cell 12
  have s12 := HR1.out.free 12
  have o13 : w1.cell? ⟨w.heap.size + 1 + 1, 13, none⟩ = some (.slice none 0 0) := HO1.out.cell 13
  have y13 := HO1.out.free 13
  have r13 : w1.cell? ⟨w.heap.size + 1, 13, none⟩ = some (.slice none 0 0) := HR1.out.cell 13
  have s13 := HR1.out.free 13
  have o14 : w1.cell? ⟨w.heap.size + 1 + 1, 14, none⟩ = some (.slice none 0 0) := HO1.out.cell 14
  have y14 := HO1.out.free 14
  have r14 : w1.cell? ⟨w.heap.size + 1, 14, none⟩ = some (.slice none 0 0) := HR1.out.cell 14
  have s14 := HR1.out.free 14
  go_wp2_with fail
  have HK : Hid (Keep (w.heap.size + 3) w1 (putW (putW w1 (w.heap.size + 1 + 1) 3 [.int .i64 kd, .int .i64 lb, .int .i64 od, .int .i64 pl, .int .i64 u1, .int .i64 u2, .int .i64 u3, .int .i64 rm, .slice bf mf df, .slice bk mk dk, .slice bm mm dm, .slice bq mq dq]) (w.heap.size + 1) 0 [.int .i64 gn, .bool lv, .int .i64 id, .int .i64 kd, .int .i64 lb, .int .i64 od, .int .i64 pl, .int .i64 u1, .int .i64 u2, .int .i64 u3, .int .i64 rm, .slice bf mf df, .slice bk mk dk, .slice bm mm dm, .slice bq mq dq])) := (putW_keep [.int .i64 kd, .int .i64 lb, .int .i64 od, .int .i64 pl, .int .i64 u1, .int .i64 u2, .int .i64 u3, .int .i64 rm, .slice bf mf df, .slice bk mk dk, .slice bm mm dm, .slice bq mq dq] w1 (w.heap.size + 1 + 1) 3 _ (by omega)).trans (putW_keep [.int .i64 gn, .bool lv, .int .i64 id, .int .i64 kd, .int .i64 lb, .int .i64 od, .int .i64 pl, .int .i64 u1, .int .i64 u2, .int .i64 u3, .int .i64 rm, .slice bf mf df, .slice bk mk dk, .slice bm mm dm, .slice bq mq dq] _ (w.heap.size + 1) 0 _ (by omega))
  refine bodyPost_ret (v := .agg #[.int .i64 gn, .bool lv, .int .i64 id, .int .i64 kd, .int .i64 lb, .int .i64 od, .int .i64 pl, .int .i64 u1, .int .i64 u2, .int .i64 u3, .int .i64 rm, .slice bf mf df, .slice bk mk dk, .slice bm mm dm, .slice bq mq dq]) (by simp [results, Try.results64, go_sem, r0, r1, r2, r3, r4, r5, r6, r7, r8, r9, r10, r11, r12, r13, r14]) rfl ⟨_, _, _, _, rfl, ?_, ?_⟩
  · exact (HL1.out.keep HK.out).lower (by omega)
  · exact putW_below [.int .i64 gn, .bool lv, .int .i64 id, .int .i64 kd, .int .i64 lb, .int .i64 od, .int .i64 pl, .int .i64 u1, .int .i64 u2, .int .i64 u3, .int .i64 rm, .slice bf mf df, .slice bk mk dk, .slice bm mm dm, .slice bq mq dq] (putW_below [.int .i64 kd, .int .i64 lb, .int .i64 od, .int .i64 pl, .int .i64 u1, .int .i64 u2, .int .i64 u3, .int .i64 rm, .slice bf mf df, .slice bk mk dk, .slice bm mm dm, .slice bq mq dq] (b := 3) HB1.out (g := w.heap.size + 1 + 1) (by omega)) (by omega) (b := 0)
theorem to_slot (x : SlotD) {lo : Nat} {w : World} {vf vk vm vs : Value} (h : Lists lo w x.obj vf vk vm vs) (hb : x.obj.bulk ≤ 1048576) : Calls Try.prog 64 #[.agg (scells x vf vk vm vs).toArray] w (ToSlot x w) := by
  obtain ⟨gn, lv, id, ⟨kd, lb, od, pl, ⟨u1, u2, u3⟩, rm, fr, ks, ms, ss⟩⟩ := x
  exact to_slot0 gn lv id kd lb od pl u1 u2 u3 rm fr ks ms ss h hb

def zslot : List Value := [.int .i64 0, .bool false, .int .i64 0, .int .i64 0, .int .i64 0, .int .i64 0, .int .i64 0, .int .i64 0, .int .i64 0, .int .i64 0, .int .i64 0, .slice none 0 0, .slice none 0 0, .slice none 0 0, .slice none 0 0]
theorem info_slot : (Try.prog.info? 69).map (fun i => (i.zero, i.size, i.bytes)) = some (some (.agg #[.int .i64 0, .bool false, .int .i64 0, .int .i64 0, .int .i64 0, .int .i64 0, .int .i64 0, .int .i64 0, .int .i64 0, .int .i64 0, .int .i64 0, .slice none 0 0, .slice none 0 0, .slice none 0 0, .slice none 0 0]), 15, 184) := by kernel_rfl
/-- slots that are made so far: each reads as it should, from block lo on -/
structure Fill (lo : Nat) (w : World) (css : List (List Value)) (xs : List SlotD) : Prop where
  le : css.length ≤ xs.length
  each : ∀ i (hi : i < css.length), SlotE lo w css[i] (xs[i]'(Nat.lt_of_lt_of_le hi le))
theorem Fill.keep {lo : Nat} {w w' : World} {css : List (List Value)} {xs : List SlotD} (h : Fill lo w css xs) (hk : Keep lo w w') : Fill lo w' css xs := ⟨h.le, fun i hi => slot_stays _ _ _ _ _ (h.each i hi) hk⟩
theorem Fill.more {lo : Nat} {w : World} {css : List (List Value)} {xs : List SlotD} {cs : List Value} (h : Fill lo w css xs) (hl : css.length < xs.length) (hc : SlotE lo w cs xs[css.length]) : Fill lo w (css ++ [cs]) xs := by
  refine ⟨by simp; omega, fun i hi => ?_⟩
  by_cases e : i < css.length
  · rw [List.getElem_append_left e]; exact h.each i e
  · have e2 : i = css.length := by simp at hi; omega
    subst e2
    rw [List.getElem_append_right (Nat.le_refl _)]
    simpa using hc
def ToSlots (xs : List SlotD) (w : World) (e : Ending) (w' : World) : Prop := ∃ v', e = .returned v' ∧ RowE SlotE 15 w.heap.size w' v' xs ∧ Below w.heap.size w w'
set_option maxHeartbeats 8000000 in
theorem to_slots {lo : Nat} {w : World} {v : Value} {xs : List SlotD} (h : RowE SlotE 15 lo w v xs) (hn : xs.length ≤ 1048576) (hbk : bulkS xs ≤ 1048576) : Calls Try.prog 33 #[v] w (ToSlots xs w) := by
  obtain ⟨a, c, rfl, hml, h3⟩ := h
  obtain ⟨i0, hi, hz0, hz1, hz2⟩ := info_parts info_slot
  obtain ⟨n, hx⟩ : ∃ n, n = xs.length := ⟨_, rfl⟩
  have H3 : Hid (0 < xs.length → ∃ g o, a = some ⟨g, o, none⟩ ∧ lo ≤ g ∧ g < w.heap.size ∧ ∀ i (hi : i < xs.length), ∃ cs : List Value, cs.length = 15 ∧ (∀ j, j < 15 → w.cell? ⟨g, o + i * 15 + j, none⟩ = cs[j]?) ∧ SlotE lo w cs xs[i]) := h3
  have HX : Hid (n = xs.length) := hx
  have HML : Hid (xs.length ≤ maxLen) := hml
  have HBK : Hid (bulkS xs ≤ 1048576) := hbk
  rw [← hx] at hn ⊢
  clear h3 hx hml hbk
  go_enter Try.func33, Try.ntmps33
  go_wp2_with (first | (at_make; refine wpList_make_full _ rfl _ _ 32 rfl w.heap.size 69 i0 (.agg #[.int .i64 0, .bool false, .int .i64 0, .int .i64 0, .int .i64 0, .int .i64 0, .int .i64 0, .int .i64 0, .int .i64 0, .int .i64 0, .int .i64 0, .slice none 0 0, .slice none 0 0, .slice none 0 0, .slice none 0 0]) 15 Try.underlying32 hi hz0 hz1 .i64 .i64 _ _ n rfl rfl rfl rfl (by rw [hz2]; omega) (by unfold maxLen; omega) (Nat.le_refl _) ?_; intro w1 own1 gr1) | go_in)
  have HM : Hid (Made w1 w.heap.size 69 15 n (filled [] n zslot)) := made_new (z := zslot) rfl (by decide) own1
  have HB1 : Hid (Below w.heap.size w w1) := (Below.refl w.heap.size w).grown gr1 (Nat.le_refl _) (fun k hk => by cases hk)
  clear own1 gr1
  go_wp2_with fail
  go_loopw [4] (fun i wr => ∃ j : Nat, j ≤ n ∧ i = .int .i64 j ∧ (∃ css : List (List Value), css.length = j ∧ Hid (Made wr w.heap.size 69 15 n (filled css n zslot)) ∧ Hid (Fill (w.heap.size + 1) wr css xs)) ∧ Hid (Below w.heap.size w wr)) (fun i _ => n - (intOf i).toNat)
  case atStart => exact ⟨0, by omega, rfl, ⟨[], rfl, HM.out, ⟨by simp, fun i hi => by simp at hi⟩⟩, HB1.out⟩
  case round =>
    obtain ⟨j, hj, rfl, ⟨css, hcl, HR, HF⟩, HB⟩ := hrel
    have HCL : Hid (css.length = j) := hcl
    clear hcl HM HB1
    by_cases hlt : j < n
    · have hlx : j < xs.length := by rw [← HX.out]; exact hlt
      obtain ⟨g, o, rfl, _, hg, hc3⟩ := H3.out (by omega)
      obtain ⟨vf, vk, vm, vs, hl, hc⟩ := slot_at (hc3 j hlx)
      have hbo := Nat.le_trans (bulk_one xs j hlx) HBK.out
      have HOLD : Hid (∀ W, Made W w.heap.size 69 15 n (filled css n zslot) → ∀ r, r < 15 → W.cell? ⟨w.heap.size, j * 15 + r, none⟩ = zslot[r]?) := fun W hW r hr => by
        have h1 := hW.at j (by rw [filled_len (by have := HCL.out; omega)]; exact hlt) r hr
        rw [filled_old (by have := HCL.out; omega) hlt] at h1
        exact h1
      have HXJ : Hid (∀ (W : World) (cs : List Value), SlotE (w.heap.size + 1) W cs xs[j] → Fill (w.heap.size + 1) W css xs → Fill (w.heap.size + 1) W (css ++ [cs]) xs) := fun W cs h1 h2 => by
        have e := HCL.out
        subst e
        exact h2.more hlx h1
      clear hc3
      generalize xs[j] = x at *
      obtain ⟨gn, lv, id, ⟨kd, lb, od, pl, ⟨u1, u2, u3⟩, rm, fr, ks, ms, ss⟩⟩ := x
      have HT : Hid (∀ W, Below w.heap.size w W → Calls Try.prog 64 #[.agg #[.int .i64 gn, .bool lv, .int .i64 id, .int .i64 kd, .int .i64 lb, .int .i64 od, .int .i64 pl, .int .i64 u1, .int .i64 u2, .int .i64 u3, .int .i64 rm, vf, vk, vm, vs]] W (ToSlot ⟨gn, lv, id, ⟨kd, lb, od, pl, (u1, u2, u3), rm, fr, ks, ms, ss⟩⟩ W)) := fun W hW => to_slot0 gn lv id kd lb od pl u1 u2 u3 rm fr ks ms ss (hl.below hW) hbo
      simp only at hl
      clear hbo
      obtain ⟨af, cf, qf, _⟩ := hl.f.form
      obtain ⟨ak, ck, qk, _⟩ := hl.k.form
      obtain ⟨am, cm, qm, _⟩ := hl.m.form
      obtain ⟨aq, cq, qq, _⟩ := hl.s.form
      simp only at qf qk qm qq
      generalize fr.length = nf at qf
      generalize ks.length = nk at qk
      generalize ms.length = nm at qm
      generalize ss.length = nq at qq
      subst qf qk qm qq
      have e0 : wr.cell? ⟨g, o + j * 15, none⟩ = some (.int .i64 gn) := (HB.out.cell (p := ⟨g, o + j * 15, none⟩) hg).trans (hc 0 (by decide))
      have e1 : wr.cell? ⟨g, o + j * 15 + 1, none⟩ = some (.bool lv) := (HB.out.cell (p := ⟨g, o + j * 15 + 1, none⟩) hg).trans (hc 1 (by decide))
      have e2 : wr.cell? ⟨g, o + j * 15 + 2, none⟩ = some (.int .i64 id) := (HB.out.cell (p := ⟨g, o + j * 15 + 2, none⟩) hg).trans (hc 2 (by decide))
      have e3 : wr.cell? ⟨g, o + j * 15 + 3, none⟩ = some (.int .i64 kd) := (HB.out.cell (p := ⟨g, o + j * 15 + 3, none⟩) hg).trans (hc 3 (by decide))
      have e4 : wr.cell? ⟨g, o + j * 15 + 4, none⟩ = some (.int .i64 lb) := (HB.out.cell (p := ⟨g, o + j * 15 + 4, none⟩) hg).trans (hc 4 (by decide))
      have e5 : wr.cell? ⟨g, o + j * 15 + 5, none⟩ = some (.int .i64 od) := (HB.out.cell (p := ⟨g, o + j * 15 + 5, none⟩) hg).trans (hc 5 (by decide))
      have e6 : wr.cell? ⟨g, o + j * 15 + 6, none⟩ = some (.int .i64 pl) := (HB.out.cell (p := ⟨g, o + j * 15 + 6, none⟩) hg).trans (hc 6 (by decide))
      have e7 : wr.cell? ⟨g, o + j * 15 + 7, none⟩ = some (.int .i64 u1) := (HB.out.cell (p := ⟨g, o + j * 15 + 7, none⟩) hg).trans (hc 7 (by decide))
      have e8 : wr.cell? ⟨g, o + j * 15 + 8, none⟩ = some (.int .i64 u2) := (HB.out.cell (p := ⟨g, o + j * 15 + 8, none⟩) hg).trans (hc 8 (by decide))
      have e9 : wr.cell? ⟨g, o + j * 15 + 9, none⟩ = some (.int .i64 u3) := (HB.out.cell (p := ⟨g, o + j * 15 + 9, none⟩) hg).trans (hc 9 (by decide))
      have e10 : wr.cell? ⟨g, o + j * 15 + 10, none⟩ = some (.int .i64 rm) := (HB.out.cell (p := ⟨g, o + j * 15 + 10, none⟩) hg).trans (hc 10 (by decide))
      have e11 : wr.cell? ⟨g, o + j * 15 + 11, none⟩ = some (.slice af nf cf) := (HB.out.cell (p := ⟨g, o + j * 15 + 11, none⟩) hg).trans (hc 11 (by decide))
      have e12 : wr.cell? ⟨g, o + j * 15 + 12, none⟩ = some (.slice ak nk ck) := (HB.out.cell (p := ⟨g, o + j * 15 + 12, none⟩) hg).trans (hc 12 (by decide))
      have e13 : wr.cell? ⟨g, o + j * 15 + 13, none⟩ = some (.slice am nm cm) := (HB.out.cell (p := ⟨g, o + j * 15 + 13, none⟩) hg).trans (hc 13 (by decide))
      have e14 : wr.cell? ⟨g, o + j * 15 + 14, none⟩ = some (.slice aq nq cq) := (HB.out.cell (p := ⟨g, o + j * 15 + 14, none⟩) hg).trans (hc 14 (by decide))
      clear hl hc
      go_wp2_with fail
      refine Calls.mono (HT.out _ HB.out) ?_
      rintro e w2 ⟨v1, v2, v3, v4, rfl, hr2, hb2⟩
      have HR2 : Hid (Made w2 w.heap.size 69 15 n (filled css n zslot)) := HR.out.later hb2
      have HB2 : Hid (Below w.heap.size w w2) := below_tr HB.out hb2
      have HF2 : Hid (Fill (w.heap.size + 1) w2 css xs) := HF.out.keep (Keep.of _ hb2)
      have HL2 : Hid (Lists (w.heap.size + 1) w2 ⟨kd, lb, od, pl, (u1, u2, u3), rm, fr, ks, ms, ss⟩ v1 v2 v3 v4) := hr2.lower (HR.out.lt)
      obtain ⟨bf, df, gf, _⟩ := hr2.f.form
      obtain ⟨bk, dk, gk, _⟩ := hr2.k.form
      obtain ⟨bm, dm, gm, _⟩ := hr2.m.form
      obtain ⟨bq, dq, gq, _⟩ := hr2.s.form
      simp only at gf gk gm gq
      generalize fr.length = mf at gf
      generalize ks.length = mk at gk
      generalize ms.length = mm at gm
      generalize ss.length = mq at gq
      subst gf gk gm gq
      clear hr2
      simp only [scells, ocells]
      have z0 : w2.cell? ⟨w.heap.size, j * 15, none⟩ = some (.int .i64 0) := HOLD.out _ HR2.out 0 (by decide)
      have y0 := HR2.out.free (j * 15)
      have z1 : w2.cell? ⟨w.heap.size, j * 15 + 1, none⟩ = some (.bool false) := HOLD.out _ HR2.out 1 (by decide)
      have y1 := HR2.out.free (j * 15 + 1)
      have z2 : w2.cell? ⟨w.heap.size, j * 15 + 2, none⟩ = some (.int .i64 0) := HOLD.out _ HR2.out 2 (by decide)
      have y2 := HR2.out.free (j * 15 + 2)
      have z3 : w2.cell? ⟨w.heap.size, j * 15 + 3, none⟩ = some (.int .i64 0) := HOLD.out _ HR2.out 3 (by decide)
      have y3 := HR2.out.free (j * 15 + 3)
      have z4 : w2.cell? ⟨w.heap.size, j * 15 + 4, none⟩ = some (.int .i64 0) := HOLD.out _ HR2.out 4 (by decide)
      have y4 := HR2.out.free (j * 15 + 4)
      have z5 : w2.cell? ⟨w.heap.size, j * 15 + 5, none⟩ = some (.int .i64 0) := HOLD.out _ HR2.out 5 (by decide)
      have y5 := HR2.out.free (j * 15 + 5)
      have z6 : w2.cell? ⟨w.heap.size, j * 15 + 6, none⟩ = some (.int .i64 0) := HOLD.out _ HR2.out 6 (by decide)
      have y6 := HR2.out.free (j * 15 + 6)
      have z7 : w2.cell? ⟨w.heap.size, j * 15 + 7, none⟩ = some (.int .i64 0) := HOLD.out _ HR2.out 7 (by decide)
      have y7 := HR2.out.free (j * 15 + 7)
      have z8 : w2.cell? ⟨w.heap.size, j * 15 + 8, none⟩ = some (.int .i64 0) := HOLD.out _ HR2.out 8 (by decide)
      have y8 := HR2.out.free (j * 15 + 8)
      have z9 : w2.cell? ⟨w.heap.size, j * 15 + 9, none⟩ = some (.int .i64 0) := HOLD.out _ HR2.out 9 (by decide)
      have y9 := HR2.out.free (j * 15 + 9)
      have z10 : w2.cell? ⟨w.heap.size, j * 15 + 10, none⟩ = some (.int .i64 0) := HOLD.out _ HR2.out 10 (by decide)
      have y10 := HR2.out.free (j * 15 + 10)
      have z11 : w2.cell? ⟨w.heap.size, j * 15 + 11, none⟩ = some (.slice none 0 0) := HOLD.out _ HR2.out 11 (by decide)
      have y11 := HR2.out.free (j * 15 + 11)
      have z12 : w2.cell? ⟨w.heap.size, j * 15 + 12, none⟩ = some (.slice none 0 0) := HOLD.out _ HR2.out 12 (by decide)
      have y12 := HR2.out.free (j * 15 + 12)
      have z13 : w2.cell? ⟨w.heap.size, j * 15 + 13, none⟩ = some (.slice none 0 0) := HOLD.out _ HR2.out 13 (by decide)
      have y13 := HR2.out.free (j * 15 + 13)
      have z14 : w2.cell? ⟨w.heap.size, j * 15 + 14, none⟩ = some (.slice none 0 0) := HOLD.out _ HR2.out 14 (by decide)
      have y14 := HR2.out.free (j * 15 + 14)
      clear hb2 HR HOLD HF HB
      go_wp2_with fail
      go_roundw
      case rel =>
        refine ⟨j + 1, by omega, by go_num, ⟨css ++ [[.int .i64 gn, .bool lv, .int .i64 id, .int .i64 kd, .int .i64 lb, .int .i64 od, .int .i64 pl, .int .i64 u1, .int .i64 u2, .int .i64 u3, .int .i64 rm, .slice bf mf df, .slice bk mk dk, .slice bm mm dm, .slice bq mq dq]], by have := HCL.out; simp; omega, ?_, ?_⟩, ?_⟩
        · have hj := HCL.out
          subst hj
          rw [← filled_set hlt]
          exact HR2.out.put (css.length) (by rw [filled_len (by omega)]; exact hlt) (cs := [.int .i64 gn, .bool lv, .int .i64 id, .int .i64 kd, .int .i64 lb, .int .i64 od, .int .i64 pl, .int .i64 u1, .int .i64 u2, .int .i64 u3, .int .i64 rm, .slice bf mf df, .slice bk mk dk, .slice bm mm dm, .slice bq mq dq]) rfl
        · exact HXJ.out _ _ ⟨_, _, _, _, rfl, HL2.out.keep (putW_keep [.int .i64 gn, .bool lv, .int .i64 id, .int .i64 kd, .int .i64 lb, .int .i64 od, .int .i64 pl, .int .i64 u1, .int .i64 u2, .int .i64 u3, .int .i64 rm, .slice bf mf df, .slice bk mk dk, .slice bm mm dm, .slice bq mq dq] w2 w.heap.size (j * 15) _ (by omega))⟩ (HF2.out.keep (putW_keep [.int .i64 gn, .bool lv, .int .i64 id, .int .i64 kd, .int .i64 lb, .int .i64 od, .int .i64 pl, .int .i64 u1, .int .i64 u2, .int .i64 u3, .int .i64 rm, .slice bf mf df, .slice bk mk dk, .slice bm mm dm, .slice bq mq dq] w2 w.heap.size (j * 15) _ (by omega)))
        · exact putW_below [.int .i64 gn, .bool lv, .int .i64 id, .int .i64 kd, .int .i64 lb, .int .i64 od, .int .i64 pl, .int .i64 u1, .int .i64 u2, .int .i64 u3, .int .i64 rm, .slice bf mf df, .slice bk mk dk, .slice bm mm dm, .slice bq mq dq] HB2.out (Nat.le_refl _) (b := j * 15)
      case measure => simp [intOf]; omega
    · obtain rfl : j = n := by omega
      have HRE : Hid (RowE SlotE 15 w.heap.size wr (.slice (some ⟨w.heap.size, 0, none⟩) j j) xs) := by
        have h1 := HR.out
        have h2 := HCL.out
        have h4 := HX.out
        rw [← h2, filled_all] at h1
        rw [← h2]
        exact h1.row (by omega) (by omega) HML.out (Nat.le_refl _) (fun i hi => slot_lowers _ _ _ _ _ (HF.out.each i (by omega)) (by omega))
      go_wp2_with fail
      go_ret
      exact ⟨_, rfl, HRE.out, HB.out⟩
end Go.Proofs.Ytohgafblffnekaa.deep
