/-
  Things made anew by the laws' helpers: all their lists in new memory.
-/
import Derived.Test.YtohgafblffnekaaObj
namespace Go.Proofs.Ytohgafblffnekaa.deep
open Go.RowKit Go.Deep Go.Sort
set_option linter.unusedVariables false

def ToBuddy (m : Int) (xs : List Tbk) (w : World) (e : Ending) (w' : World) : Prop := ∃ v', e = .returned (.agg #[.int .i64 m, v']) ∧ RowE (Plain cbk) 2 w.heap.size w' v' xs ∧ Below w.heap.size w w'
set_option maxHeartbeats 2000000 in
theorem to_buddy (m : Int) {lo : Nat} {w : World} {v : Value} {xs : List Tbk} (h : RowE (Plain cbk) 2 lo w v xs) (hn : xs.length ≤ 1048576) : Calls Try.prog 106 #[.agg #[.int .i64 m, v]] w (ToBuddy m xs w) := by
  have HT : Hid (∀ W, Below w.heap.size w W → Calls Try.prog 124 #[v] W (Tobks xs W)) := fun W hW => to_bks (h.below (plain_stays _) hW) hn
  obtain ⟨a, c, hv, _⟩ := h.form
  generalize xs.length = L at hv
  subst hv
  clear h
  go_enter Try.func106, Try.ntmps106
  go_wp2_with fail
  refine Calls.mono (HT.out _ (below3 w _ _ _)) ?_
  rintro e w1 ⟨v1, rfl, hr1, hb1⟩
  have HB1 : Hid (Below w.heap.size w w1) := below_tr (below3 w _ _ _) hb1
  have HO : Hid (Blk w1 (w.heap.size + 1 + 1) 50 [.int .i64 m, .slice none 0 0]) := (blk3 w [.int .i64 m, .slice a L c] [.int .i64 0, .slice none 0 0] [.int .i64 m, .slice none 0 0] 117 50 50).2.2.later hb1
  have HR : Hid (Blk w1 (w.heap.size + 1) 50 [.int .i64 0, .slice none 0 0]) := (blk3 w [.int .i64 m, .slice a L c] [.int .i64 0, .slice none 0 0] [.int .i64 m, .slice none 0 0] 117 50 50).2.1.later hb1
  have HS : Hid (RowE (Plain cbk) 2 (w.heap.size + 3) w1 v1 xs) := rowE_lowers (plain_lowers _) hr1 (by rw [size3]; exact Nat.le_refl _)
  obtain ⟨a1, c1, hv1, _⟩ := hr1.form
  generalize xs.length = L1 at hv1
  subst hv1
  clear hr1 hb1
  have x0 : w1.cell? ⟨w.heap.size + 1 + 1, 0, none⟩ = some (.int .i64 m) := HO.out.cell 0
  have x1 : w1.cell? ⟨w.heap.size + 1 + 1, 1, none⟩ = some (.slice none 0 0) := HO.out.cell 1
  have x2 := HO.out.free 1
  have r0 : w1.cell? ⟨w.heap.size + 1, 0, none⟩ = some (.int .i64 0) := HR.out.cell 0
  have r1 : w1.cell? ⟨w.heap.size + 1, 1, none⟩ = some (.slice none 0 0) := HR.out.cell 1
  have r2 := HR.out.free 0
  have r3 := HR.out.free 1
  go_wp2_with fail
  refine bodyPost_ret (v := .agg #[.int .i64 m, .slice a1 L1 c1]) (by simp [results, Try.results106, go_sem, r0, r1]) rfl ⟨_, rfl, ?_, ?_⟩
  · exact rowE_lowers (plain_lowers _) (rowE_stays (plain_stays _) HS.out ((putW_keep [.slice a1 L1 c1] w1 (w.heap.size + 1 + 1) 1 _ (by omega)).trans (putW_keep [.int .i64 m, .slice a1 L1 c1] _ (w.heap.size + 1) 0 _ (by omega)))) (by omega)
  · exact putW_below [.int .i64 m, .slice a1 L1 c1] (putW_below [.slice a1 L1 c1] (b := 1) HB1.out (g := w.heap.size + 1 + 1) (by omega)) (by omega) (b := 0)
def ToObj (o : ObjD) (w : World) (e : Ending) (w' : World) : Prop := ∃ vf vk vm vs, e = .returned (.agg (ocells o vf vk vm vs).toArray) ∧ Lists w.heap.size w' o vf vk vm vs ∧ Below w.heap.size w w'
set_option maxHeartbeats 8000000 in
theorem to_obj0 (kd lb od pl u1 u2 u3 rm : Int) (fr : List Tbk) (ks : List Thd) (ms : List Tmp) (ss : List Tfs) {lo : Nat} {w : World} {vf vk vm vs : Value} (h : Lists lo w ⟨kd, lb, od, pl, (u1, u2, u3), rm, fr, ks, ms, ss⟩ vf vk vm vs) (hf : fr.length ≤ 1048576) (hk : ks.length ≤ 1048576) (hm : ms.length ≤ 1048576) (hs : ss.length ≤ 1048576) : Calls Try.prog 84 #[.agg #[.int .i64 kd, .int .i64 lb, .int .i64 od, .int .i64 pl, .int .i64 u1, .int .i64 u2, .int .i64 u3, .int .i64 rm, vf, vk, vm, vs]] w (ToObj ⟨kd, lb, od, pl, (u1, u2, u3), rm, fr, ks, ms, ss⟩ w) := by
  have HL : Hid (∀ W, Below w.heap.size w W → Lists lo W ⟨kd, lb, od, pl, (u1, u2, u3), rm, fr, ks, ms, ss⟩ vf vk vm vs) := fun W hW => h.below hW
  have T1 : Hid (∀ W, Calls Try.prog 9 #[.agg #[.int .i64 u1, .int .i64 u2, .int .i64 u3]] W fun e w' => e = .returned (.agg #[.int .i64 u1, .int .i64 u2, .int .i64 u3]) ∧ Below W.heap.size W w') := fun W => (to_hd u1 u2 u3 W).mono fun e w' h => ⟨h.1, by rw [h.2]; exact below3 _ _ _ _⟩
  have T2 : Hid (∀ W, Below w.heap.size w W → Calls Try.prog 106 #[.agg #[.int .i64 rm, vf]] W (ToBuddy rm fr W)) := fun W hW => to_buddy rm (HL.out W hW).f hf
  have T3 : Hid (∀ W, Below w.heap.size w W → Calls Try.prog 107 #[vk] W (Tohds ks W)) := fun W hW => to_hds (HL.out W hW).k hk
  have T4 : Hid (∀ W, Below w.heap.size w W → Calls Try.prog 108 #[vm] W (Tomps ms W)) := fun W hW => to_mps (HL.out W hW).m hm
  have T5 : Hid (∀ W, Below w.heap.size w W → Calls Try.prog 109 #[vs] W (Tofss ss W)) := fun W hW => to_fss (HL.out W hW).s hs
  obtain ⟨af, cf, hvf, _⟩ := h.f.form
  obtain ⟨ak, ck, hvk, _⟩ := h.k.form
  obtain ⟨am, cm, hvm, _⟩ := h.m.form
  obtain ⟨aq, cq, hvs, _⟩ := h.s.form
  simp only at hvf hvk hvm hvs
  generalize fr.length = nf at hvf
  generalize ks.length = nk at hvk
  generalize ms.length = nm at hvm
  generalize ss.length = nq at hvs
  subst hvf hvk hvm hvs
  clear h hf hk hm hs HL
  go_enter Try.func84, Try.ntmps84
  go_wp2_with fail
  refine Calls.mono (T1.out _) ?_
  rintro e w1 ⟨rfl, hb1⟩
  have HB1 : Hid (Below w.heap.size w w1) := below_tr (below3 w _ _ _) hb1
  have F := blk3 w [.int .i64 kd, .int .i64 lb, .int .i64 od, .int .i64 pl, .int .i64 u1, .int .i64 u2, .int .i64 u3, .int .i64 rm, .slice af nf cf, .slice ak nk ck, .slice am nm cm, .slice aq nq cq] [.int .i64 0, .int .i64 0, .int .i64 0, .int .i64 0, .int .i64 0, .int .i64 0, .int .i64 0, .int .i64 0, .slice none 0 0, .slice none 0 0, .slice none 0 0, .slice none 0 0] [.int .i64 kd, .int .i64 lb, .int .i64 od, .int .i64 pl, .int .i64 0, .int .i64 0, .int .i64 0, .int .i64 0, .slice none 0 0, .slice none 0 0, .slice none 0 0, .slice none 0 0] 122 55 55
  have HA1 : Hid (Blk w1 (w.heap.size) 122 [.int .i64 kd, .int .i64 lb, .int .i64 od, .int .i64 pl, .int .i64 u1, .int .i64 u2, .int .i64 u3, .int .i64 rm, .slice af nf cf, .slice ak nk ck, .slice am nm cm, .slice aq nq cq]) := F.1.later hb1
  have HR1 : Hid (Blk w1 (w.heap.size + 1) 55 [.int .i64 0, .int .i64 0, .int .i64 0, .int .i64 0, .int .i64 0, .int .i64 0, .int .i64 0, .int .i64 0, .slice none 0 0, .slice none 0 0, .slice none 0 0, .slice none 0 0]) := F.2.1.later hb1
  have HO1 : Hid (Blk w1 (w.heap.size + 1 + 1) 55 [.int .i64 kd, .int .i64 lb, .int .i64 od, .int .i64 pl, .int .i64 0, .int .i64 0, .int .i64 0, .int .i64 0, .slice none 0 0, .slice none 0 0, .slice none 0 0, .slice none 0 0]) := F.2.2.later hb1
  have hs1 : w.heap.size + 3 ≤ w1.heap.size := by have := hb1.size; rw [size3] at this; exact this
  clear hb1 F
  have a7 : w1.cell? ⟨w.heap.size, 7, none⟩ = some (.int .i64 rm) := HA1.out.cell 7
  have a8 : w1.cell? ⟨w.heap.size, 8, none⟩ = some (.slice af nf cf) := HA1.out.cell 8
  have o4 : w1.cell? ⟨w.heap.size + 1 + 1, 4, none⟩ = some (.int .i64 0) := HO1.out.cell 4
  have y4 := HO1.out.free 4
  have o5 : w1.cell? ⟨w.heap.size + 1 + 1, 5, none⟩ = some (.int .i64 0) := HO1.out.cell 5
  have y5 := HO1.out.free 5
  have o6 : w1.cell? ⟨w.heap.size + 1 + 1, 6, none⟩ = some (.int .i64 0) := HO1.out.cell 6
  have y6 := HO1.out.free 6
  go_wp2_with fail
  have HP1 : Hid (Below w.heap.size w (putW w1 (w.heap.size + 1 + 1) 4 [.int .i64 u1, .int .i64 u2, .int .i64 u3])) := putW_below [.int .i64 u1, .int .i64 u2, .int .i64 u3] HB1.out (by omega)
  refine Calls.mono (T2.out _ HP1.out) ?_
  rintro e w2 ⟨v2, rfl, hr2, hb2⟩
  have HB2 : Hid (Below w.heap.size w w2) := below_tr HP1.out hb2
  have HA2 : Hid (Blk w2 (w.heap.size) 122 [.int .i64 kd, .int .i64 lb, .int .i64 od, .int .i64 pl, .int .i64 u1, .int .i64 u2, .int .i64 u3, .int .i64 rm, .slice af nf cf, .slice ak nk ck, .slice am nm cm, .slice aq nq cq]) := (HA1.out.other [.int .i64 u1, .int .i64 u2, .int .i64 u3] (w.heap.size + 1 + 1) 4 (by omega)).later hb2
  have HR2 : Hid (Blk w2 (w.heap.size + 1) 55 [.int .i64 0, .int .i64 0, .int .i64 0, .int .i64 0, .int .i64 0, .int .i64 0, .int .i64 0, .int .i64 0, .slice none 0 0, .slice none 0 0, .slice none 0 0, .slice none 0 0]) := (HR1.out.other [.int .i64 u1, .int .i64 u2, .int .i64 u3] (w.heap.size + 1 + 1) 4 (by omega)).later hb2
  have HO2 : Hid (Blk w2 (w.heap.size + 1 + 1) 55 [.int .i64 kd, .int .i64 lb, .int .i64 od, .int .i64 pl, .int .i64 u1, .int .i64 u2, .int .i64 u3, .int .i64 0, .slice none 0 0, .slice none 0 0, .slice none 0 0, .slice none 0 0]) := (HO1.out.put [.int .i64 u1, .int .i64 u2, .int .i64 u3] 4).later hb2
  have hs2 : w.heap.size + 3 ≤ w2.heap.size := by have := hb2.size; simp at this; omega
  have Hf2' : Hid (RowE (Plain cbk) 2 (w.heap.size + 3) w2 v2 fr) := rowE_lowers (plain_lowers _) hr2 (by simp; omega)
  obtain ⟨bf, df, hv2, _⟩ := hr2.form
  generalize fr.length = mf at hv2
  subst hv2
  have Hf2 : Hid (RowE (Plain cbk) 2 (w.heap.size + 3) w2 (.slice bf mf df) fr) := Hf2'.out
  clear hr2 hb2 HP1 HA1 HR1 HO1 HB1 Hf2' hs1 a7 a8 o4 o5 o6 y4 y5 y6
  have a9 : w2.cell? ⟨w.heap.size, 9, none⟩ = some (.slice ak nk ck) := HA2.out.cell 9
  have o7 : w2.cell? ⟨w.heap.size + 1 + 1, 7, none⟩ = some (.int .i64 0) := HO2.out.cell 7
  have y7 := HO2.out.free 7
  have o8 : w2.cell? ⟨w.heap.size + 1 + 1, 8, none⟩ = some (.slice none 0 0) := HO2.out.cell 8
  have y8 := HO2.out.free 8
  go_wp2_with fail
  have HP2 : Hid (Below w.heap.size w (putW w2 (w.heap.size + 1 + 1) 7 [.int .i64 rm, .slice bf mf df])) := putW_below [.int .i64 rm, .slice bf mf df] HB2.out (by omega)
  refine Calls.mono (T3.out _ HP2.out) ?_
  rintro e w3 ⟨v3, rfl, hr3, hb3⟩
  have HB3 : Hid (Below w.heap.size w w3) := below_tr HP2.out hb3
  have HA3 : Hid (Blk w3 (w.heap.size) 122 [.int .i64 kd, .int .i64 lb, .int .i64 od, .int .i64 pl, .int .i64 u1, .int .i64 u2, .int .i64 u3, .int .i64 rm, .slice af nf cf, .slice ak nk ck, .slice am nm cm, .slice aq nq cq]) := (HA2.out.other [.int .i64 rm, .slice bf mf df] (w.heap.size + 1 + 1) 7 (by omega)).later hb3
  have HR3 : Hid (Blk w3 (w.heap.size + 1) 55 [.int .i64 0, .int .i64 0, .int .i64 0, .int .i64 0, .int .i64 0, .int .i64 0, .int .i64 0, .int .i64 0, .slice none 0 0, .slice none 0 0, .slice none 0 0, .slice none 0 0]) := (HR2.out.other [.int .i64 rm, .slice bf mf df] (w.heap.size + 1 + 1) 7 (by omega)).later hb3
  have HO3 : Hid (Blk w3 (w.heap.size + 1 + 1) 55 [.int .i64 kd, .int .i64 lb, .int .i64 od, .int .i64 pl, .int .i64 u1, .int .i64 u2, .int .i64 u3, .int .i64 rm, .slice bf mf df, .slice none 0 0, .slice none 0 0, .slice none 0 0]) := (HO2.out.put [.int .i64 rm, .slice bf mf df] 7).later hb3
  have hs3 : w.heap.size + 3 ≤ w3.heap.size := by have := hb3.size; simp at this; omega
  have Hf3 : Hid (RowE (Plain cbk) 2 (w.heap.size + 3) w3 (.slice bf mf df) fr) := rowE_stays (plain_stays _) Hf2.out ((putW_keep [.int .i64 rm, .slice bf mf df] w2 (w.heap.size + 1 + 1) 7 _ (by omega)).trans (Keep.of _ hb3))
  have Hk3' : Hid (RowE (Plain chd) 3 (w.heap.size + 3) w3 v3 ks) := rowE_lowers (plain_lowers _) hr3 (by simp; omega)
  obtain ⟨bk, dk, hv3, _⟩ := hr3.form
  generalize ks.length = mk at hv3
  subst hv3
  have Hk3 : Hid (RowE (Plain chd) 3 (w.heap.size + 3) w3 (.slice bk mk dk) ks) := Hk3'.out
  clear hr3 hb3 HP2 HA2 HR2 HO2 HB2 Hk3' hs2 a9 o7 o8 y7 y8 Hf2
  have a10 : w3.cell? ⟨w.heap.size, 10, none⟩ = some (.slice am nm cm) := HA3.out.cell 10
  have o9 : w3.cell? ⟨w.heap.size + 1 + 1, 9, none⟩ = some (.slice none 0 0) := HO3.out.cell 9
  have y9 := HO3.out.free 9
  go_wp2_with fail
  have HP3 : Hid (Below w.heap.size w (putW w3 (w.heap.size + 1 + 1) 9 [.slice bk mk dk])) := putW_below [.slice bk mk dk] HB3.out (by omega)
  refine Calls.mono (T4.out _ HP3.out) ?_
  rintro e w4 ⟨v4, rfl, hr4, hb4⟩
  have HB4 : Hid (Below w.heap.size w w4) := below_tr HP3.out hb4
  have HA4 : Hid (Blk w4 (w.heap.size) 122 [.int .i64 kd, .int .i64 lb, .int .i64 od, .int .i64 pl, .int .i64 u1, .int .i64 u2, .int .i64 u3, .int .i64 rm, .slice af nf cf, .slice ak nk ck, .slice am nm cm, .slice aq nq cq]) := (HA3.out.other [.slice bk mk dk] (w.heap.size + 1 + 1) 9 (by omega)).later hb4
  have HR4 : Hid (Blk w4 (w.heap.size + 1) 55 [.int .i64 0, .int .i64 0, .int .i64 0, .int .i64 0, .int .i64 0, .int .i64 0, .int .i64 0, .int .i64 0, .slice none 0 0, .slice none 0 0, .slice none 0 0, .slice none 0 0]) := (HR3.out.other [.slice bk mk dk] (w.heap.size + 1 + 1) 9 (by omega)).later hb4
  have HO4 : Hid (Blk w4 (w.heap.size + 1 + 1) 55 [.int .i64 kd, .int .i64 lb, .int .i64 od, .int .i64 pl, .int .i64 u1, .int .i64 u2, .int .i64 u3, .int .i64 rm, .slice bf mf df, .slice bk mk dk, .slice none 0 0, .slice none 0 0]) := (HO3.out.put [.slice bk mk dk] 9).later hb4
  have hs4 : w.heap.size + 3 ≤ w4.heap.size := by have := hb4.size; simp at this; omega
  have Hf4 : Hid (RowE (Plain cbk) 2 (w.heap.size + 3) w4 (.slice bf mf df) fr) := rowE_stays (plain_stays _) Hf3.out ((putW_keep [.slice bk mk dk] w3 (w.heap.size + 1 + 1) 9 _ (by omega)).trans (Keep.of _ hb4))
  have Hk4 : Hid (RowE (Plain chd) 3 (w.heap.size + 3) w4 (.slice bk mk dk) ks) := rowE_stays (plain_stays _) Hk3.out ((putW_keep [.slice bk mk dk] w3 (w.heap.size + 1 + 1) 9 _ (by omega)).trans (Keep.of _ hb4))
  have Hm4' : Hid (RowE (Plain cmp) 5 (w.heap.size + 3) w4 v4 ms) := rowE_lowers (plain_lowers _) hr4 (by simp; omega)
  obtain ⟨bm, dm, hv4, _⟩ := hr4.form
  generalize ms.length = mm at hv4
  subst hv4
  have Hm4 : Hid (RowE (Plain cmp) 5 (w.heap.size + 3) w4 (.slice bm mm dm) ms) := Hm4'.out
  clear hr4 hb4 HP3 HA3 HR3 HO3 HB3 Hm4' hs3 a10 o9 y9 Hf3 Hk3
  have a11 : w4.cell? ⟨w.heap.size, 11, none⟩ = some (.slice aq nq cq) := HA4.out.cell 11
  have o10 : w4.cell? ⟨w.heap.size + 1 + 1, 10, none⟩ = some (.slice none 0 0) := HO4.out.cell 10
  have y10 := HO4.out.free 10
  go_wp2_with fail
  have HP4 : Hid (Below w.heap.size w (putW w4 (w.heap.size + 1 + 1) 10 [.slice bm mm dm])) := putW_below [.slice bm mm dm] HB4.out (by omega)
  refine Calls.mono (T5.out _ HP4.out) ?_
  rintro e w5 ⟨v5, rfl, hr5, hb5⟩
  have HB5 : Hid (Below w.heap.size w w5) := below_tr HP4.out hb5
  have HA5 : Hid (Blk w5 (w.heap.size) 122 [.int .i64 kd, .int .i64 lb, .int .i64 od, .int .i64 pl, .int .i64 u1, .int .i64 u2, .int .i64 u3, .int .i64 rm, .slice af nf cf, .slice ak nk ck, .slice am nm cm, .slice aq nq cq]) := (HA4.out.other [.slice bm mm dm] (w.heap.size + 1 + 1) 10 (by omega)).later hb5
  have HR5 : Hid (Blk w5 (w.heap.size + 1) 55 [.int .i64 0, .int .i64 0, .int .i64 0, .int .i64 0, .int .i64 0, .int .i64 0, .int .i64 0, .int .i64 0, .slice none 0 0, .slice none 0 0, .slice none 0 0, .slice none 0 0]) := (HR4.out.other [.slice bm mm dm] (w.heap.size + 1 + 1) 10 (by omega)).later hb5
  have HO5 : Hid (Blk w5 (w.heap.size + 1 + 1) 55 [.int .i64 kd, .int .i64 lb, .int .i64 od, .int .i64 pl, .int .i64 u1, .int .i64 u2, .int .i64 u3, .int .i64 rm, .slice bf mf df, .slice bk mk dk, .slice bm mm dm, .slice none 0 0]) := (HO4.out.put [.slice bm mm dm] 10).later hb5
  have hs5 : w.heap.size + 3 ≤ w5.heap.size := by have := hb5.size; simp at this; omega
  have Hf5 : Hid (RowE (Plain cbk) 2 (w.heap.size + 3) w5 (.slice bf mf df) fr) := rowE_stays (plain_stays _) Hf4.out ((putW_keep [.slice bm mm dm] w4 (w.heap.size + 1 + 1) 10 _ (by omega)).trans (Keep.of _ hb5))
  have Hk5 : Hid (RowE (Plain chd) 3 (w.heap.size + 3) w5 (.slice bk mk dk) ks) := rowE_stays (plain_stays _) Hk4.out ((putW_keep [.slice bm mm dm] w4 (w.heap.size + 1 + 1) 10 _ (by omega)).trans (Keep.of _ hb5))
  have Hm5 : Hid (RowE (Plain cmp) 5 (w.heap.size + 3) w5 (.slice bm mm dm) ms) := rowE_stays (plain_stays _) Hm4.out ((putW_keep [.slice bm mm dm] w4 (w.heap.size + 1 + 1) 10 _ (by omega)).trans (Keep.of _ hb5))
  have Hq5' : Hid (RowE (Plain cfs) 6 (w.heap.size + 3) w5 v5 ss) := rowE_lowers (plain_lowers _) hr5 (by simp; omega)
  obtain ⟨bq, dq, hv5, _⟩ := hr5.form
  generalize ss.length = mq at hv5
  subst hv5
  have Hq5 : Hid (RowE (Plain cfs) 6 (w.heap.size + 3) w5 (.slice bq mq dq) ss) := Hq5'.out
  clear hr5 hb5 HP4 HA4 HR4 HO4 HB4 Hq5' hs4 a11 o10 y10 Hf4 Hk4 Hm4
  have o0 : w5.cell? ⟨w.heap.size + 1 + 1, 0, none⟩ = some (.int .i64 kd) := HO5.out.cell 0
  have r0 : w5.cell? ⟨w.heap.size + 1, 0, none⟩ = some (.int .i64 0) := HR5.out.cell 0
  have s0 := HR5.out.free 0
  have o1 : w5.cell? ⟨w.heap.size + 1 + 1, 1, none⟩ = some (.int .i64 lb) := HO5.out.cell 1
  have r1 : w5.cell? ⟨w.heap.size + 1, 1, none⟩ = some (.int .i64 0) := HR5.out.cell 1
  have s1 := HR5.out.free 1
  have o2 : w5.cell? ⟨w.heap.size + 1 + 1, 2, none⟩ = some (.int .i64 od) := HO5.out.cell 2
  have r2 : w5.cell? ⟨w.heap.size + 1, 2, none⟩ = some (.int .i64 0) := HR5.out.cell 2
  have s2 := HR5.out.free 2
  have o3 : w5.cell? ⟨w.heap.size + 1 + 1, 3, none⟩ = some (.int .i64 pl) := HO5.out.cell 3
  have r3 : w5.cell? ⟨w.heap.size + 1, 3, none⟩ = some (.int .i64 0) := HR5.out.cell 3
  have s3 := HR5.out.free 3
  have o4 : w5.cell? ⟨w.heap.size + 1 + 1, 4, none⟩ = some (.int .i64 u1) := HO5.out.cell 4
  have r4 : w5.cell? ⟨w.heap.size + 1, 4, none⟩ = some (.int .i64 0) := HR5.out.cell 4
  have s4 := HR5.out.free 4
  have o5 : w5.cell? ⟨w.heap.size + 1 + 1, 5, none⟩ = some (.int .i64 u2) := HO5.out.cell 5
  have r5 : w5.cell? ⟨w.heap.size + 1, 5, none⟩ = some (.int .i64 0) := HR5.out.cell 5
  have s5 := HR5.out.free 5
  have o6 : w5.cell? ⟨w.heap.size + 1 + 1, 6, none⟩ = some (.int .i64 u3) := HO5.out.cell 6
  have r6 : w5.cell? ⟨w.heap.size + 1, 6, none⟩ = some (.int .i64 0) := HR5.out.cell 6
  have s6 := HR5.out.free 6
  have o7 : w5.cell? ⟨w.heap.size + 1 + 1, 7, none⟩ = some (.int .i64 rm) := HO5.out.cell 7
  have r7 : w5.cell? ⟨w.heap.size + 1, 7, none⟩ = some (.int .i64 0) := HR5.out.cell 7
  have s7 := HR5.out.free 7
  have o8 : w5.cell? ⟨w.heap.size + 1 + 1, 8, none⟩ = some (.slice bf mf df) := HO5.out.cell 8
  have r8 : w5.cell? ⟨w.heap.size + 1, 8, none⟩ = some (.slice none 0 0) := HR5.out.cell 8
  have s8 := HR5.out.free 8
  have o9 : w5.cell? ⟨w.heap.size + 1 + 1, 9, none⟩ = some (.slice bk mk dk) := HO5.out.cell 9
  have r9 : w5.cell? ⟨w.heap.size + 1, 9, none⟩ = some (.slice none 0 0) := HR5.out.cell 9
  have s9 := HR5.out.free 9
  have o10 : w5.cell? ⟨w.heap.size + 1 + 1, 10, none⟩ = some (.slice bm mm dm) := HO5.out.cell 10
  have r10 : w5.cell? ⟨w.heap.size + 1, 10, none⟩ = some (.slice none 0 0) := HR5.out.cell 10
  have s10 := HR5.out.free 10
  have o11 : w5.cell? ⟨w.heap.size + 1 + 1, 11, none⟩ = some (.slice none 0 0) := HO5.out.cell 11
  have r11 : w5.cell? ⟨w.heap.size + 1, 11, none⟩ = some (.slice none 0 0) := HR5.out.cell 11
  have s11 := HR5.out.free 11
  have y11 := HO5.out.free 11
  go_wp2_with fail
  have HK : Hid (Keep (w.heap.size + 3) w5 (putW (putW w5 (w.heap.size + 1 + 1) 11 [.slice bq mq dq]) (w.heap.size + 1) 0 [.int .i64 kd, .int .i64 lb, .int .i64 od, .int .i64 pl, .int .i64 u1, .int .i64 u2, .int .i64 u3, .int .i64 rm, .slice bf mf df, .slice bk mk dk, .slice bm mm dm, .slice bq mq dq])) := (putW_keep [.slice bq mq dq] w5 (w.heap.size + 1 + 1) 11 _ (by omega)).trans (putW_keep [.int .i64 kd, .int .i64 lb, .int .i64 od, .int .i64 pl, .int .i64 u1, .int .i64 u2, .int .i64 u3, .int .i64 rm, .slice bf mf df, .slice bk mk dk, .slice bm mm dm, .slice bq mq dq] _ (w.heap.size + 1) 0 _ (by omega))
  refine bodyPost_ret (v := .agg #[.int .i64 kd, .int .i64 lb, .int .i64 od, .int .i64 pl, .int .i64 u1, .int .i64 u2, .int .i64 u3, .int .i64 rm, .slice bf mf df, .slice bk mk dk, .slice bm mm dm, .slice bq mq dq]) (by simp [results, Try.results84, go_sem, r0, r1, r2, r3, r4, r5, r6, r7, r8, r9, r10, r11]) rfl ⟨_, _, _, _, rfl, ?_, ?_⟩
  · exact Lists.lower (Lists.keep (lo := w.heap.size + 3) ⟨Hf5.out, Hk5.out, Hm5.out, Hq5.out⟩ HK.out) (by omega)
  · exact putW_below [.int .i64 kd, .int .i64 lb, .int .i64 od, .int .i64 pl, .int .i64 u1, .int .i64 u2, .int .i64 u3, .int .i64 rm, .slice bf mf df, .slice bk mk dk, .slice bm mm dm, .slice bq mq dq] (putW_below [.slice bq mq dq] (b := 11) HB5.out (g := w.heap.size + 1 + 1) (by omega)) (by omega) (b := 0)
theorem to_obj (o : ObjD) {lo : Nat} {w : World} {vf vk vm vs : Value} (h : Lists lo w o vf vk vm vs) (hb : o.bulk ≤ 1048576) : Calls Try.prog 84 #[.agg (ocells o vf vk vm vs).toArray] w (ToObj o w) := by
  obtain ⟨kd, lb, od, pl, ⟨u1, u2, u3⟩, rm, fr, ks, ms, ss⟩ := o
  simp only [ObjD.bulk] at hb
  exact to_obj0 kd lb od pl u1 u2 u3 rm fr ks ms ss h (by omega) (by omega) (by omega) (by omega)
end Go.Proofs.Ytohgafblffnekaa.deep
