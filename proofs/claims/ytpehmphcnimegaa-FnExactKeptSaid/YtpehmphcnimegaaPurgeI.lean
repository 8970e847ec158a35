/-
  The program's Purge at every list and label. No condition.
-/
import Derived.Test.YtpehmphcnimegaaPurgeS
namespace Go.Proofs.Ytpehmphcnimegaa.deep
open Go.RowKit Go.Deep Go.Sort
set_option linter.unusedVariables false

theorem boxed {w : World} {v : Value} {css : List (List Value)} {t k base : Nat} (h : OwnC t k base w v css) (o : Obj) : OwnC t k base (w.alloc o) v css := h.later (below_one w o)

set_option maxHeartbeats 4000000 in
theorem im_heard {lo : Nat} (lb : Int) {w : World} {v v2 : Value} {xs : List Tcl} (h : RowE (Plain ccl) 9 lo w v xs) (h2 : v2 = v) : Calls Try.prog 21 #[v, v2, .int .i64 lb] w (Purged lb xs w) := by
  subst h2
  obtain ⟨a, c, rfl, hml, h3⟩ := h
  obtain ⟨i0, hi, hz0, hz1, hz2⟩ := info_parts info_cl
  have HF : Hid (∀ q W, Calls Try.prog 33 #[.int .i64 q, .int .i64 lb] W fun e w' => e = .returned (.bool (label.flo q lb)) ∧ w' = W) := fun q W => label.impl_flows q lb W
  obtain ⟨n, hx⟩ : ∃ n, n = xs.length := ⟨_, rfl⟩
  have H3 : Hid (0 < xs.length → ∃ g o, a = some ⟨g, o, none⟩ ∧ g < w.heap.size ∧ ∀ i (hi : i < xs.length), ∀ j, j < 9 → w.cell? ⟨g, o + i * 9 + j, none⟩ = (ccl xs[i])[j]?) := fun h0 => by
    obtain ⟨g, o, ha, _, hg, hc⟩ := h3 h0
    refine ⟨g, o, ha, hg, fun i hi => ?_⟩
    obtain ⟨cs, _, hcc, rfl⟩ := hc i hi
    exact hcc
  have HX : Hid (n = xs.length) := hx
  have hnm : n ≤ maxLen := by rw [hx]; exact hml
  unfold maxLen at hnm
  rw [← hx]
  clear h3 hx hml
  by_cases hn4 : n ≤ 400
  · go_enter Try.func21, Try.ntmps21
    go_wp2_with fail
    have HO : Hid (OwnC 42 9 w.heap.size w (.slice none 0 0) ((keptJ (fun x => label.flo x.q0 lb) xs 0).map ccl)) := OwnC.nil _ _ _ _
    go_loopw [7, 22] (fun u i wr => ∃ j : Nat, j ≤ n ∧ i = .int .i64 j ∧ Hid (OwnC 42 9 w.heap.size wr u ((keptJ (fun x => label.flo x.q0 lb) xs j).map ccl)) ∧ Hid (Below w.heap.size w wr)) (fun _ i _ => n - (intOf i).toNat)
    case atStart => exact ⟨0, by omega, rfl, HO.out, Below.refl _ _⟩
    case round =>
      obtain ⟨j, hj, rfl, HR, HW⟩ := hrel
      clear HO
      by_cases hlt : j < n
      · have hlx : j < xs.length := by rw [← HX.out]; exact hlt
        obtain ⟨g, o, rfl, hg, hc⟩ := H3.out (by omega)
        have hc' : ∀ r, r < 9 → wr.cell? ⟨g, o + j * 9 + r, none⟩ = (ccl xs[j])[r]? := fun r hr => (HW.out.cell (p := ⟨g, o + j * 9 + r, none⟩) hg).trans (hc j hlx r hr)
        have HP : Hid (∀ (v' : Value) (w1 W : World) (u : Value) (o : Obj), label.flo xs[j].q0 lb = true → OwnC 42 9 w.heap.size W u ((keptJ (fun x => label.flo x.q0 lb) xs j).map ccl) → Below w.heap.size w W → w1.ownsRow w.heap.size 42 9 v' (((keptJ (fun x => label.flo x.q0 lb) xs j).map ccl).length + 1) (((keptJ (fun x => label.flo x.q0 lb) xs j).map ccl).flatten ++ ccl xs[j]) → (W.alloc o).grownBy w1 u.ownBlock → OwnC 42 9 w.heap.size w1 v' ((keptJ (fun x => label.flo x.q0 lb) xs (j + 1)).map ccl) ∧ Below w.heap.size w w1) := fun v' w1 W u o hp h hb h1 h2 => purge_push hlx hp h hb hb.size h1 h2
        have HN : Hid (label.flo xs[j].q0 lb = false → keptJ (fun x => label.flo x.q0 lb) xs (j + 1) = keptJ (fun x => label.flo x.q0 lb) xs j) := fun hp => keptJ_no (p := fun x => label.flo x.q0 lb) hlx hp
        have HLE : Hid (((keptJ (fun x => label.flo x.q0 lb) xs j).map ccl).length ≤ 400) := by rw [List.length_map]; exact Nat.le_trans (keptJ_le _ _ _) (by omega)
        clear hc
        generalize xs[j] = x at *
        obtain ⟨p0, p1, p2, p3, p4, p5, p6, p7, p8⟩ := x
        have e0 : wr.cell? ⟨g, o + j * 9, none⟩ = some (.int .i64 p0) := hc' 0 (by decide)
        have e1 : wr.cell? ⟨g, o + j * 9 + 1, none⟩ = some (.int .i64 p1) := hc' 1 (by decide)
        have e2 : wr.cell? ⟨g, o + j * 9 + 2, none⟩ = some (.int .i64 p2) := hc' 2 (by decide)
        have e3 : wr.cell? ⟨g, o + j * 9 + 3, none⟩ = some (.int .i64 p3) := hc' 3 (by decide)
        have e4 : wr.cell? ⟨g, o + j * 9 + 4, none⟩ = some (.int .i64 p4) := hc' 4 (by decide)
        have e5 : wr.cell? ⟨g, o + j * 9 + 5, none⟩ = some (.int .i64 p5) := hc' 5 (by decide)
        have e6 : wr.cell? ⟨g, o + j * 9 + 6, none⟩ = some (.int .i64 p6) := hc' 6 (by decide)
        have e7 : wr.cell? ⟨g, o + j * 9 + 7, none⟩ = some (.int .i64 p7) := hc' 7 (by decide)
        have e8 : wr.cell? ⟨g, o + j * 9 + 8, none⟩ = some (.int .i64 p8) := hc' 8 (by decide)
        clear hc'
        simp only at HP HN
        have hs := HW.out.size
        have hgl : g < wr.heap.size := by omega
        go_wp2_with fail
        refine Calls.mono (HF.out _ _) ?_
        rintro e w2 ⟨rfl, rfl⟩
        obtain ⟨w2, hw2⟩ : ∃ W, W = wr.alloc (.cells #[.int .i64 p0, .int .i64 p1, .int .i64 p2, .int .i64 p3, .int .i64 p4, .int .i64 p5, .int .i64 p6, .int .i64 p7, .int .i64 p8] 42) := ⟨_, rfl⟩
        have HX2 : Hid (Blk w2 wr.heap.size 42 [.int .i64 p0, .int .i64 p1, .int .i64 p2, .int .i64 p3, .int .i64 p4, .int .i64 p5, .int .i64 p6, .int .i64 p7, .int .i64 p8]) := by rw [hw2]; exact blk_new wr _ _
        have HR2 : Hid (OwnC 42 9 w.heap.size w2 u7 ((keptJ (fun x => label.flo x.q0 lb) xs j).map ccl)) := by rw [hw2]; exact boxed HR.out _
        have HW2 : Hid (Below w.heap.size w w2) := by rw [hw2]; exact HW.out.alloc hs _
        rw [← hw2]
        clear hw2 HR HW e0 e1 e2 e3 e4 e5 e6 e7 e8 hgl
        cases hfl : label.flo p0 lb with
        | false =>
          have HN2 : Hid _ := HN.out hfl
          clear HP
          go_wp2_with fail
          go_roundw
          case rel => exact ⟨j + 1, by omega, by go_num, by rw [HN2.out]; exact HR2.out, HW2.out⟩
          case measure => simp [intOf]; omega
        | true =>
          obtain ⟨c0, c1, c2, c3, c4, c5, c6, c7, c8⟩ := nine HX2.out
          have hs2 := HW2.out.size
          go_wp2_with (at_builtin; refine wpList_append_own _ rfl _ _ 24 rfl w.heap.size 42 i0 (.agg #[.int .i64 0, .int .i64 0, .int .i64 0, .int .i64 0, .int .i64 0, .int .i64 0, .int .i64 0, .int .i64 0, .int .i64 0]) 9 72 Try.underlying24 hi hz0 hz1 hz2 rfl (by decide) _ _ _ rfl (HR2.out.row.alloc _) ⟨w2.heap.size, 0, none⟩ 1 1 (ccl ⟨p0, p1, p2, p3, p4, p5, p6, p7, p8⟩) rfl rfl (new_cells w2 _ _) (ccl_one _) (by have := HLE.out; unfold maxLen; omega) (by have := HLE.out; omega) (by simp; omega) ?_; intro v' w3 hown hgrow _; have HQ : Hid _ := HP.out v' w3 _ _ _ hfl HR2.out HW2.out hown hgrow; clear hown hgrow)
          go_roundw
          case rel => exact ⟨j + 1, by omega, by go_num, HQ.out.1, HQ.out.2⟩
          case measure => simp [intOf]; omega
      · have HE : Hid (keptJ (fun x => label.flo x.q0 lb) xs j = keptL (fun x => label.flo x.q0 lb) xs) := by
          have : j = xs.length := by rw [← HX.out]; omega
          rw [this]; exact keptJ_all _ _ (by rw [← HX.out]; exact hn4)
        go_wp2_with fail
        go_ret
        exact ⟨_, rfl, by rw [← HE.out]; exact HR.out, HW.out⟩
  · have HE : Hid (keptL (fun x => label.flo x.q0 lb) xs = []) := keptL_none _ _ (by rw [← HX.out]; omega)
    go_enter Try.func21, Try.ntmps21
    go_wp2_with fail
    go_ret
    exact ⟨_, rfl, by rw [HE.out]; exact OwnC.nil _ _ _ _, Below.refl _ _⟩

theorem im_purge {lo : Nat} (lb : Int) {w : World} {v : Value} {xs : List Tcl} (h : RowE (Plain ccl) 9 lo w v xs) : Calls Try.prog 8 #[v, .int .i64 lb] w (Purged lb xs w) := by
  have HH : Hid (Calls Try.prog 21 #[v, v, .int .i64 lb] w (Purged lb xs w)) := im_heard lb h rfl
  obtain ⟨a, c, rfl, _⟩ := h.form
  go_enter Try.func8, Try.ntmps8
  go_wp2_with fail
  refine Calls.mono HH.out ?_
  rintro e w2 ⟨v', rfl, hr, hb⟩
  have HR : Hid _ := hr
  have HB : Hid _ := hb
  clear hr hb
  go_wp2_with fail
  go_ret
  exact ⟨_, rfl, HR.out, HB.out⟩
end Go.Proofs.Ytpehmphcnimegaa.deep
