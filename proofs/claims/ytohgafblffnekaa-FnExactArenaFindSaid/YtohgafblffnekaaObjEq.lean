/-
  Buddies and things that read the same are told to be the same.
-/
import Derived.Test.YtohgafblffnekaaObj
namespace Go.Proofs.Ytohgafblffnekaa.deep
open Go.RowKit Go.Deep Go.Sort
set_option linter.unusedVariables false

theorem eq_buddy (m : Int) {l1 l2 : Nat} {w : World} {va vb : Value} {xs : List Tbk} (h1 : RowE (Plain cbk) 2 l1 w va xs) (h2 : RowE (Plain cbk) 2 l2 w vb xs) : Calls Try.prog 112 #[.agg #[.int .i64 m, va], .agg #[.int .i64 m, vb]] w fun e w' => e = .returned (.bool true) ∧ Below w.heap.size w w' := by
  have HE : Hid (∀ W, Below w.heap.size w W → Calls Try.prog 127 #[va, vb] W fun e w' => e = .returned (.bool true) ∧ Below W.heap.size W w') := fun W hW => eq_bks (h1.below (plain_stays _) hW) (h2.below (plain_stays _) hW)
  obtain ⟨a, c, rfl, _⟩ := h1.form
  obtain ⟨b, d, rfl, _⟩ := h2.form
  clear h1 h2
  go_enter Try.func112, Try.ntmps112
  go_wp2_with fail
  refine Calls.mono (HE.out _ (below2 w _ _)) ?_
  rintro e w1 ⟨rfl, hb1⟩
  have HB1 : Hid (Below w.heap.size w w1) := below_tr (below2 w _ _) hb1
  clear hb1
  go_wp2
  go_ret
  exact ⟨rfl, HB1.out⟩

set_option maxHeartbeats 4000000 in
theorem eq_obj0 (kd lb od pl u1 u2 u3 rm : Int) (fr : List Tbk) (ks : List Thd) (ms : List Tmp) (ss : List Tfs) {l1 l2 : Nat} {w : World} {vf vk vm vs uf uk um us : Value} (h1 : Lists l1 w ⟨kd, lb, od, pl, (u1, u2, u3), rm, fr, ks, ms, ss⟩ vf vk vm vs) (h2 : Lists l2 w ⟨kd, lb, od, pl, (u1, u2, u3), rm, fr, ks, ms, ss⟩ uf uk um us) : Calls Try.prog 87 #[.agg #[.int .i64 kd, .int .i64 lb, .int .i64 od, .int .i64 pl, .int .i64 u1, .int .i64 u2, .int .i64 u3, .int .i64 rm, vf, vk, vm, vs], .agg #[.int .i64 kd, .int .i64 lb, .int .i64 od, .int .i64 pl, .int .i64 u1, .int .i64 u2, .int .i64 u3, .int .i64 rm, uf, uk, um, us]] w fun e w' => e = .returned (.bool true) ∧ Below w.heap.size w w' := by
  have T1 : Hid (∀ W, Calls Try.prog 43 #[.agg #[.int .i64 u1, .int .i64 u2, .int .i64 u3], .agg #[.int .i64 u1, .int .i64 u2, .int .i64 u3]] W fun e w' => e = .returned (.bool true) ∧ Below W.heap.size W w') := fun W => (eq_hd u1 u2 u3 W).mono fun e w' h => ⟨h.1, by rw [h.2]; exact below2 _ _ _⟩
  have T2 : Hid (∀ W, Below w.heap.size w W → Calls Try.prog 112 #[.agg #[.int .i64 rm, vf], .agg #[.int .i64 rm, uf]] W fun e w' => e = .returned (.bool true) ∧ Below W.heap.size W w') := fun W hW => eq_buddy rm (h1.below hW).f (h2.below hW).f
  have T3 : Hid (∀ W, Below w.heap.size w W → Calls Try.prog 113 #[vk, uk] W fun e w' => e = .returned (.bool true) ∧ Below W.heap.size W w') := fun W hW => eq_hds (h1.below hW).k (h2.below hW).k
  have T4 : Hid (∀ W, Below w.heap.size w W → Calls Try.prog 114 #[vm, um] W fun e w' => e = .returned (.bool true) ∧ Below W.heap.size W w') := fun W hW => eq_mps (h1.below hW).m (h2.below hW).m
  have T5 : Hid (∀ W, Below w.heap.size w W → Calls Try.prog 115 #[vs, us] W fun e w' => e = .returned (.bool true) ∧ Below W.heap.size W w') := fun W hW => eq_fss (h1.below hW).s (h2.below hW).s
  obtain ⟨af, cf, ef, _⟩ := h1.f.form
  obtain ⟨bf, df, gf, _⟩ := h2.f.form
  obtain ⟨ak, ck, ek, _⟩ := h1.k.form
  obtain ⟨bk, dk, gk, _⟩ := h2.k.form
  obtain ⟨am, cm, em, _⟩ := h1.m.form
  obtain ⟨bm, dm, gm, _⟩ := h2.m.form
  obtain ⟨aq, cq, es, _⟩ := h1.s.form
  obtain ⟨bq, dq, gs, _⟩ := h2.s.form
  simp only at ef ek em es gf gk gm gs
  generalize fr.length = nf at ef gf
  generalize ks.length = nk at ek gk
  generalize ms.length = nm at em gm
  generalize ss.length = nq at es gs
  subst ef ek em es gf gk gm gs
  clear h1 h2
  go_enter Try.func87, Try.ntmps87
  go_wp2_with fail
  refine Calls.mono (T1.out _) ?_
  rintro e w1 ⟨rfl, hb1⟩
  have F := blk2 w [.int .i64 kd, .int .i64 lb, .int .i64 od, .int .i64 pl, .int .i64 u1, .int .i64 u2, .int .i64 u3, .int .i64 rm, .slice af nf cf, .slice ak nk ck, .slice am nm cm, .slice aq nq cq] [.int .i64 kd, .int .i64 lb, .int .i64 od, .int .i64 pl, .int .i64 u1, .int .i64 u2, .int .i64 u3, .int .i64 rm, .slice bf nf df, .slice bk nk dk, .slice bm nm dm, .slice bq nq dq] 55 55
  have HB1 : Hid (Below w.heap.size w w1) := below_tr (below2 w _ _) hb1
  have HX1 : Hid (Blk w1 (w.heap.size) 55 [.int .i64 kd, .int .i64 lb, .int .i64 od, .int .i64 pl, .int .i64 u1, .int .i64 u2, .int .i64 u3, .int .i64 rm, .slice af nf cf, .slice ak nk ck, .slice am nm cm, .slice aq nq cq]) := F.1.later hb1
  have HY1 : Hid (Blk w1 (w.heap.size + 1) 55 [.int .i64 kd, .int .i64 lb, .int .i64 od, .int .i64 pl, .int .i64 u1, .int .i64 u2, .int .i64 u3, .int .i64 rm, .slice bf nf df, .slice bk nk dk, .slice bm nm dm, .slice bq nq dq]) := F.2.later hb1
  clear hb1 F
  have x7 : w1.cell? ⟨w.heap.size, 7, none⟩ = some (.int .i64 rm) := HX1.out.cell 7
  have y7 : w1.cell? ⟨w.heap.size + 1, 7, none⟩ = some (.int .i64 rm) := HY1.out.cell 7
  have x8 : w1.cell? ⟨w.heap.size, 8, none⟩ = some (.slice af nf cf) := HX1.out.cell 8
  have y8 : w1.cell? ⟨w.heap.size + 1, 8, none⟩ = some (.slice bf nf df) := HY1.out.cell 8
  go_wp2_with fail
  refine Calls.mono (T2.out _ HB1.out) ?_
  rintro e w2 ⟨rfl, hb2⟩
  have HB2 : Hid (Below w.heap.size w w2) := below_tr HB1.out hb2
  have HX2 : Hid (Blk w2 (w.heap.size) 55 [.int .i64 kd, .int .i64 lb, .int .i64 od, .int .i64 pl, .int .i64 u1, .int .i64 u2, .int .i64 u3, .int .i64 rm, .slice af nf cf, .slice ak nk ck, .slice am nm cm, .slice aq nq cq]) := HX1.out.later hb2
  have HY2 : Hid (Blk w2 (w.heap.size + 1) 55 [.int .i64 kd, .int .i64 lb, .int .i64 od, .int .i64 pl, .int .i64 u1, .int .i64 u2, .int .i64 u3, .int .i64 rm, .slice bf nf df, .slice bk nk dk, .slice bm nm dm, .slice bq nq dq]) := HY1.out.later hb2
  clear hb2 HB1 HX1 HY1 x7 y7 x8 y8
  have x9 : w2.cell? ⟨w.heap.size, 9, none⟩ = some (.slice ak nk ck) := HX2.out.cell 9
  have y9 : w2.cell? ⟨w.heap.size + 1, 9, none⟩ = some (.slice bk nk dk) := HY2.out.cell 9
  go_wp2_with fail
  refine Calls.mono (T3.out _ HB2.out) ?_
  rintro e w3 ⟨rfl, hb3⟩
  have HB3 : Hid (Below w.heap.size w w3) := below_tr HB2.out hb3
  have HX3 : Hid (Blk w3 (w.heap.size) 55 [.int .i64 kd, .int .i64 lb, .int .i64 od, .int .i64 pl, .int .i64 u1, .int .i64 u2, .int .i64 u3, .int .i64 rm, .slice af nf cf, .slice ak nk ck, .slice am nm cm, .slice aq nq cq]) := HX2.out.later hb3
  have HY3 : Hid (Blk w3 (w.heap.size + 1) 55 [.int .i64 kd, .int .i64 lb, .int .i64 od, .int .i64 pl, .int .i64 u1, .int .i64 u2, .int .i64 u3, .int .i64 rm, .slice bf nf df, .slice bk nk dk, .slice bm nm dm, .slice bq nq dq]) := HY2.out.later hb3
  clear hb3 HB2 HX2 HY2 x9 y9
  have x10 : w3.cell? ⟨w.heap.size, 10, none⟩ = some (.slice am nm cm) := HX3.out.cell 10
  have y10 : w3.cell? ⟨w.heap.size + 1, 10, none⟩ = some (.slice bm nm dm) := HY3.out.cell 10
  go_wp2_with fail
  refine Calls.mono (T4.out _ HB3.out) ?_
  rintro e w4 ⟨rfl, hb4⟩
  have HB4 : Hid (Below w.heap.size w w4) := below_tr HB3.out hb4
  have HX4 : Hid (Blk w4 (w.heap.size) 55 [.int .i64 kd, .int .i64 lb, .int .i64 od, .int .i64 pl, .int .i64 u1, .int .i64 u2, .int .i64 u3, .int .i64 rm, .slice af nf cf, .slice ak nk ck, .slice am nm cm, .slice aq nq cq]) := HX3.out.later hb4
  have HY4 : Hid (Blk w4 (w.heap.size + 1) 55 [.int .i64 kd, .int .i64 lb, .int .i64 od, .int .i64 pl, .int .i64 u1, .int .i64 u2, .int .i64 u3, .int .i64 rm, .slice bf nf df, .slice bk nk dk, .slice bm nm dm, .slice bq nq dq]) := HY3.out.later hb4
  clear hb4 HB3 HX3 HY3 x10 y10
  have x11 : w4.cell? ⟨w.heap.size, 11, none⟩ = some (.slice aq nq cq) := HX4.out.cell 11
  have y11 : w4.cell? ⟨w.heap.size + 1, 11, none⟩ = some (.slice bq nq dq) := HY4.out.cell 11
  go_wp2_with fail
  refine Calls.mono (T5.out _ HB4.out) ?_
  rintro e w5 ⟨rfl, hb5⟩
  have HB5 : Hid (Below w.heap.size w w5) := below_tr HB4.out hb5
  have HX5 : Hid (Blk w5 (w.heap.size) 55 [.int .i64 kd, .int .i64 lb, .int .i64 od, .int .i64 pl, .int .i64 u1, .int .i64 u2, .int .i64 u3, .int .i64 rm, .slice af nf cf, .slice ak nk ck, .slice am nm cm, .slice aq nq cq]) := HX4.out.later hb5
  have HY5 : Hid (Blk w5 (w.heap.size + 1) 55 [.int .i64 kd, .int .i64 lb, .int .i64 od, .int .i64 pl, .int .i64 u1, .int .i64 u2, .int .i64 u3, .int .i64 rm, .slice bf nf df, .slice bk nk dk, .slice bm nm dm, .slice bq nq dq]) := HY4.out.later hb5
  clear hb5 HB4 HX4 HY4 x11 y11
  go_wp2_with fail
  go_ret
  exact ⟨rfl, HB5.out⟩
theorem eq_obj (o : ObjD) {l1 l2 : Nat} {w : World} {vf vk vm vs uf uk um us : Value} (h1 : Lists l1 w o vf vk vm vs) (h2 : Lists l2 w o uf uk um us) : Calls Try.prog 87 #[.agg (ocells o vf vk vm vs).toArray, .agg (ocells o uf uk um us).toArray] w fun e w' => e = .returned (.bool true) ∧ Below w.heap.size w w' := by
  obtain ⟨kd, lb, od, pl, ⟨u1, u2, u3⟩, rm, fr, ks, ms, ss⟩ := o
  exact eq_obj0 kd lb od pl u1 u2 u3 rm fr ks ms ss h1 h2
end Go.Proofs.Ytohgafblffnekaa.deep
