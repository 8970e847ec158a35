/-
  The law FnExactBuddyTake answers true at every argument: BuddyTake answers as the specification, writes into no argument, and its answer owns its memory. Conditions: none.
-/
import Derived.Test.YtcokchfedaoccaaBuddyLaws2
namespace Go.Proofs.Ytcokchfedaoccaa.fnExactBuddyTake
open Go.ChangeShapes Go.WideShapes Go.ChangeAt Go.RowKit
open Go.Joins
open Go.Proofs.Ytcokchfedaoccaa
open Go.Proofs.Ytcokchfedaoccaa.brows
open Go.Proofs.Ytcokchfedaoccaa.bspec
open Go.Proofs.Ytcokchfedaoccaa.blaws
open Go.Proofs.Ytcokchfedaoccaa.btop (impl_take impl_give)
set_option linter.unusedVariables false

theorem own : ownKnob Try.prog.godebug = none := by kernel_rfl

set_option maxHeartbeats 8000000 in
theorem walk (m : Int) (v : Value) (xs : List Pr) (o : Int) (w : World) (h : RdO w v xs) :
    Calls Try.prog 5 #[.agg #[.int .i64 m, v], .int .i64 o] w fun e w' => e = .returned (.bool true) ∧ Below w.heap.size w w' := by
  have HRD : Hid (RdO w v xs) := h
  obtain ⟨a, c, hv, hml, h3⟩ := h
  clear h3
  unfold maxLen at hml
  have HSZ : Hid (∀ W, _) := fun W => sz_buddy m a xs.length c 1048576 (by omega) (by omega) (by omega) W
  by_cases hn : (xs.length : Int) ≤ 1048576
  · rw [if_pos hn] at HSZ
    have hn2 : xs.length ≤ 1048576 := by omega
    have HT : Hid (∀ W, Below w.heap.size w W → Calls Try.prog 11 #[.agg #[.int .i64 m, v]] W (ToBPost m xs W)) := fun W hW => to_buddy m (HRD.out.below hW) hn2
    have HS : Hid (∀ u W, Rd W u xs → Calls Try.prog 19 #[.agg #[.int .i64 m, u], .int .i64 o] W (Says (TakeAns m xs o) W)) := fun u W hW => says_take m o u xs W hW
    have HI : Hid (∀ u W, Rd W u xs → Calls Try.prog 20 #[.agg #[.int .i64 m, u], .int .i64 o] W (Owns (TakeAns m xs o) W)) := fun u W hW => impl_take m o u xs W hW (by omega)
    have HONE : Hid (∀ a b, TakeAns m xs o a → TakeAns m xs o b → a = b) := fun a b => take_one
    have HLEN : Hid (∀ a, TakeAns m xs o a → a.2.1.length ≤ 32) := fun a => blaws.take_len
    have HNX : Hid (xs.length ≤ 1000000000) := by show xs.length ≤ 1000000000; omega
    generalize TakeAns m xs o = A at HS HI HONE HLEN
    obtain ⟨L, hL⟩ : ∃ L, L = xs.length := ⟨_, rfl⟩
    rw [← hL] at hv HSZ hn hml
    have HE : Hid (∀ W u1 u2, Rd W u1 xs → Rd W u2 xs → _) := fun W u1 u2 h1 h2 => eq_buddy m (w := W) (va := u1) (vb := u2) h1 h2
    have HXL : Hid (L = xs.length) := hL
    clear hL
    subst hv
    have HL0 : Hid (LBox (w.alloc (.cells #[.int .i64 m, .slice a L c] 24)) w.heap.size m (.slice a L c)) := lbox_new w m _
    have HB0 : Hid (Below w.heap.size w (w.alloc (.cells #[.int .i64 m, .slice a L c] 24))) := below_one w _
    go_enter Try.func5, Try.ntmps5
    go_wp2_with fail
    refine Calls.mono (HSZ.out _) ?_
    rintro e w1 ⟨rfl, hb1⟩
    have HL1 : Hid (LBox w1 w.heap.size m (.slice a L c)) := HL0.out.below hb1
    have HB1 : Hid (Below w.heap.size w w1) := below_tr HB0.out hb1
    obtain ⟨c0, c1⟩ := HL1.out.cells
    clear hb1 HL0 HB0
    go_wp2_with fail
    refine Calls.mono (HT.out _ HB1.out) ?_
    rintro e w2 ⟨v2, rfl, hr2, hb2⟩
    have HR2 : Hid (Rd w2 v2 xs) := hr2.rd
    have HL2 : Hid (LBox w2 w.heap.size m (.slice a L c)) := HL1.out.below hb2
    have HB2 : Hid (Below w.heap.size w w2) := below_tr HB1.out hb2
    clear hb2 hr2 HL1 HB1 c0 c1
    go_wp2_with fail
    refine Calls.mono (HS.out _ _ HR2.out) ?_
    rintro e w3 ⟨⟨m', ys, p, q⟩, v3, ha3, rfl, hrd3, hb3⟩
    have HA : Hid (A (m', ys, p, q)) := ha3
    have HN : Hid (ys.length ≤ 1000000000) := by have := HLEN.out _ ha3; show ys.length ≤ 1000000000; simp only at this; omega
    have HL3 : Hid (LBox w3 w.heap.size m (.slice a L c)) := HL2.out.below hb3
    have HB3 : Hid (Below w.heap.size w w3) := below_tr HB2.out hb3
    have HD3 : Hid (Rd w3 v3 ys) := hrd3
    obtain ⟨a3, c3, hv3, _⟩ := hrd3.form
    generalize ys.length = L3 at hv3
    subst hv3
    obtain ⟨c0, c1⟩ := HL3.out.cells
    have hlt3 := HL3.out.lt
    clear ha3 hrd3 hb3 HL2 HB2 HR2 HS HLEN
    simp only [outV]
    go_wp2_with fail
    obtain ⟨V3, hV3⟩ : ∃ V, V = w3.alloc (.cells #[.int .i64 m', .slice a3 L3 c3, .int .i64 p, .int .i64 q] 34) := ⟨_, rfl⟩
    have HK3 : Hid (Kept V3 w3.heap.size (m', ys, p, q) (.slice a3 L3 c3)) := by rw [hV3]; exact kept_new HD3.out
    have HLV : Hid (LBox V3 w.heap.size m (.slice a L c)) := by rw [hV3]; exact HL3.out.below (below_one _ _)
    have HBV : Hid (Below w.heap.size w V3) := by rw [hV3]; exact below_tr HB3.out (below_one _ _)
    rw [← hV3]
    clear hV3 HL3 HB3 HD3 c0 c1 hlt3
    refine Calls.mono (HT.out _ HBV.out) ?_
    rintro e w4 ⟨v4, rfl, hr4, hb4⟩
    have HR4 : Hid (Row w4 V3.heap.size v4 xs) := hr4
    have HB4 : Hid (Below V3.heap.size V3 w4) := hb4
    obtain ⟨a4, c4, hv4, _⟩ := hr4.rd.form
    rw [← HXL.out] at hv4
    subst hv4
    clear hr4 hb4
    go_wp2_with fail
    obtain ⟨V4, hV4⟩ : ∃ V, V = w4.alloc (.cells #[.int .i64 m, .slice a4 L c4] 29) := ⟨_, rfl⟩
    have HX4 : Hid (Box V4 w4.heap.size m (.slice a4 L c4)) := by rw [hV4]; exact box_one w4 m _
    have HR5 : Hid (Row V4 V3.heap.size (.slice a4 L c4) xs) := by rw [hV4]; exact HR4.out.later (below_one _ _)
    have HBV4 : Hid (Below V3.heap.size V3 V4) := by rw [hV4]; exact below_tr HB4.out (below_one _ _)
    rw [← hV4]
    clear hV4 HR4 HB4
    refine Calls.mono (HI.out _ _ HR5.out.rd) ?_
    rintro e w5 ⟨a5, v5, ha5, rfl, hrow5, hb5⟩
    obtain rfl := HONE.out _ _ HA.out ha5
    have HB5 : Hid (Below V4.heap.size V4 w5) := hb5
    have HG5 : Hid (Row w5 V4.heap.size v5 ys) := hrow5
    have HK5 : Hid (Kept w5 w3.heap.size (m', ys, p, q) (.slice a3 L3 c3)) := HK3.out.below (below_tr HBV4.out hb5)
    obtain ⟨a6, c6, hv5, _⟩ := hrow5.rd.form
    generalize ys.length = L5 at hv5
    subst hv5
    obtain ⟨r0, r1, r2, r3⟩ := HK5.out.box.cells
    have hlt5 := HK5.out.box.lt
    clear ha5 hrow5 hb5
    simp only [outV]
    go_wp2_with fail
    obtain ⟨V5, hV5⟩ : ∃ V, V = w5.alloc (.cells #[.int .i64 m', .slice a6 L5 c6, .int .i64 p, .int .i64 q] 34) := ⟨_, rfl⟩
    have HH5 : Hid (Held V5 V4.heap.size w5.heap.size (m', ys, p, q) (.slice a6 L5 c6) ys) := by rw [hV5]; exact held_new HG5.out
    have HKV : Hid (Kept V5 w3.heap.size (m', ys, p, q) (.slice a3 L3 c3)) := by rw [hV5]; exact HK5.out.below (below_one _ _)
    have HBV5 : Hid (Below V4.heap.size V4 V5) := by rw [hV5]; exact below_tr HB5.out (below_one _ _)
    have HRW : Hid (V4.heap.size ≤ w5.heap.size) := HB5.out.size
    rw [← hV5]
    clear hV5 HB5 HG5 HK5 r0 r1 r2 r3 hlt5
    refine Calls.mono (eq_out m' p q HH5.out.row.rd HKV.out.row) ?_
    rintro e w6 ⟨rfl, hb6⟩
    have HH6 : Hid (Held w6 V4.heap.size w5.heap.size (m', ys, p, q) (.slice a6 L5 c6) ys) := HH5.out.below hb6
    have HB6 : Hid (Below V4.heap.size V4 w6) := below_tr HBV5.out hb6
    have HX6 : Hid (Box w6 w4.heap.size m (.slice a4 L c4)) := box_below HX4.out HB6.out
    have HL6 : Hid (LBox w6 w.heap.size m (.slice a L c)) := HLV.out.below (below_tr HBV4.out HB6.out)
    have HR6 : Hid (Row w6 V3.heap.size (.slice a4 L c4) xs) := HR5.out.later HB6.out
    have HBW6 : Hid (Below w.heap.size w w6) := below_tr (below_tr HBV.out HBV4.out) HB6.out
    obtain ⟨c0, c1⟩ := HL6.out.cells
    obtain ⟨x0, x1, _, _⟩ := HX6.out.cells
    clear hb6 HH5 HKV HBV5
    go_wp2_with fail
    go_region_held3 (fun W => W.cell? ⟨w.heap.size, 0, none⟩ = some (.int .i64 m) ∧ W.cell? ⟨w.heap.size, 1, none⟩ = some (.slice a L c) ∧ W.cell? ⟨w4.heap.size, 0, none⟩ = some (.int .i64 m) ∧ W.cell? ⟨w4.heap.size, 1, none⟩ = some (.slice a4 L c4))
      (first | assumption | exact ⟨c0, c1, x0, x1⟩ | exact Z7 | exact Z8)
      (first | (go_at_call 11; refine Calls.mono (HT.out _ (Below.drew HBW6.out)) ?_; rintro e w7 ⟨v7, rfl, hr7, hb7⟩; have hb7' : Below w6.heap.size w6 w7 := Below.trans (Below.drew (Below.refl w6.heap.size w6)) hb7; have Z7 := twice hb7' HL6.out HX6.out; have HR7 : Hid (Rd w7 v7 xs) := hr7.rd; have HR7b : Hid (Rd w7 (.slice a4 L c4) xs) := HR6.out.rd.below hb7'; have HB67 : Hid (Below w6.heap.size w6 w7) := hb7'; clear hb7 hb7' hr7) | (go_at_call 13; refine Calls.mono (HE.out _ _ _ HR7b.out HR7.out) ?_; rintro e w8 ⟨rfl, hb8⟩; have HB8 : Hid (Below w6.heap.size w6 w8) := below_tr HB67.out hb8; have Z8 := twice HB8.out HL6.out HX6.out; clear hb8))
    have HX8 : Hid (Box w8 w4.heap.size m (.slice a4 L c4)) := box_below HX6.out HB8.out
    have HR8 : Hid (Row w8 V3.heap.size (.slice a4 L c4) xs) := HR6.out.later HB8.out
    have HH8 : Hid (Held w8 V4.heap.size w5.heap.size (m', ys, p, q) (.slice a6 L5 c6) ys) := HH6.out.below HB8.out
    have HB38 : Hid (Below V3.heap.size V3 w8) := below_tr HBV4.out (below_tr HB6.out HB8.out)
    obtain ⟨x0, x1, _, _⟩ := HX8.out.cells
    clear HR7 HR7b HB67 HB8 HX6 HL6 HR6 HH6 HBW6
    try clear Z7
    try clear Z8
    go_wp2_with fail
    refine Calls.mono (mark_buddy m HR8.out HNX.out (by omega) (by omega)) ?_
    intro e w9 hm9
    have HB9 : Hid (Below V3.heap.size V3 w9) := marked_below HR8.out hm9 HB38.out (Nat.le_refl _)
    have HH9 : Hid (Held w9 V4.heap.size w5.heap.size (m', ys, p, q) (.slice a6 L5 c6) ys) := HH8.out.other hm9.2.2 (fun g hg => (row_block HR5.out hg).2) HRW.out
    have HK9 : Hid (Kept w9 w3.heap.size (m', ys, p, q) (.slice a3 L3 c3)) := HK3.out.below HB9.out
    obtain ⟨rfl, _⟩ := hm9
    obtain ⟨g0, g1, g2, g3⟩ := HH9.out.box.cells
    obtain ⟨r0, r1, r2, r3⟩ := HK9.out.box.cells
    clear HR8 HX8 HH8 HB38 x0 x1
    rw [← HXL.out]
    go_wp2_with fail
    refine Calls.mono (eq_out m' p q HH9.out.row.rd HK9.out.row) ?_
    rintro e w10 ⟨rfl, hb10⟩
    have HH10 : Hid (Held w10 V4.heap.size w5.heap.size (m', ys, p, q) (.slice a6 L5 c6) ys) := HH9.out.below hb10
    have HB10 : Hid (Below V3.heap.size V3 w10) := below_tr HB9.out hb10
    obtain ⟨g0, g1, g2, g3⟩ := HH10.out.box.cells
    clear hb10 HH9 HK9 HB9 r0 r1 r2 r3
    go_wp2_with fail
    refine Calls.mono (mark_out m' p q HH10.out.row HN.out (by omega) (by omega)) ?_
    intro e w11 hm11
    have HH11 : Hid (Held w11 V4.heap.size w5.heap.size (m', ys, p, q) (.slice a6 L5 c6) (runB 1 ys.length)) := HH10.out.marked hm11
    have HB11 : Hid (Below V3.heap.size V3 w11) := marked_below HH10.out.row hm11 HB10.out HBV4.out.size
    obtain ⟨rfl, _⟩ := hm11
    obtain ⟨h0, h1, h2, h3⟩ := HH11.out.box.cells
    clear HH10 HB10 g0 g1 g2 g3
    go_wp2_with fail
    refine Calls.mono (held_out m' p q HH11.out.row HN.out (by omega) (by omega)) ?_
    rintro e w12 ⟨rfl, hb12⟩
    have HH12 : Hid (Held w12 V4.heap.size w5.heap.size (m', ys, p, q) (.slice a6 L5 c6) (runB 1 ys.length)) := HH11.out.below hb12
    have HB12 : Hid (Below V3.heap.size V3 w12) := below_tr HB11.out hb12
    have HL12 : Hid (LBox w12 w.heap.size m (.slice a L c)) := HLV.out.below HB12.out
    obtain ⟨c0, c1⟩ := HL12.out.cells
    clear hb12 HH11 HB11 h0 h1 h2 h3
    have hnn : ys.length ≤ 1000000000 := HN.out
    go_wp2_with fail
    refine Calls.mono (HT.out _ (below_tr HBV.out HB12.out)) ?_
    rintro e w13 ⟨v13, rfl, hr13, hb13⟩
    have HR13 : Hid (Rd w13 v13 xs) := hr13.rd
    have HH13 : Hid (Held w13 V4.heap.size w5.heap.size (m', ys, p, q) (.slice a6 L5 c6) (runB 1 ys.length)) := HH12.out.below hb13
    have HB13 : Hid (Below V3.heap.size V3 w13) := below_tr HB12.out hb13
    clear hb13 hr13 HH12 HB12 HL12 c0 c1
    go_wp2_with fail
    refine Calls.mono (HI.out _ _ HR13.out) ?_
    rintro e w14 ⟨a14, v14, ha14, rfl, hrow14, hb14⟩
    obtain rfl := HONE.out _ _ HA.out ha14
    have HH14 : Hid (Held w14 V4.heap.size w5.heap.size (m', ys, p, q) (.slice a6 L5 c6) (runB 1 ys.length)) := HH13.out.below hb14
    have HB14 : Hid (Below V3.heap.size V3 w14) := below_tr HB13.out hb14
    have HK14 : Hid (Kept w14 w3.heap.size (m', ys, p, q) (.slice a3 L3 c3)) := HK3.out.below HB14.out
    have HR14 : Hid (Row w14 w13.heap.size v14 ys) := hrow14
    obtain ⟨a15, c15, hv14, _⟩ := hrow14.rd.form
    obtain ⟨L6, hL6⟩ : ∃ L, L = ys.length := ⟨_, rfl⟩
    rw [← hL6] at hv14
    subst hv14
    obtain ⟨r0, r1, r2, r3⟩ := HK14.out.box.cells
    have hlt14 := HK14.out.box.lt
    clear ha14 hrow14 hb14 hL6 HH13 HB13 HR13
    simp only [outV]
    go_wp2_with fail
    obtain ⟨V6, hV6⟩ : ∃ V, V = w14.alloc (.cells #[.int .i64 m', .slice a15 L6 c15, .int .i64 p, .int .i64 q] 34) := ⟨_, rfl⟩
    have HB15 : Hid (Below w14.heap.size w14 V6) := by rw [hV6]; exact below_one _ _
    rw [← hV6]
    clear hV6 r0 r1 r2 r3
    refine Calls.mono (eq_out m' p q (HR14.out.later HB15.out).rd (HK14.out.below HB15.out).row) ?_
    rintro e w16 ⟨rfl, hb16⟩
    have HB16 : Hid (Below w14.heap.size w14 w16) := below_tr HB15.out hb16
    have HH16 : Hid (Held w16 V4.heap.size w5.heap.size (m', ys, p, q) (.slice a6 L5 c6) (runB 1 ys.length)) := HH14.out.below HB16.out
    obtain ⟨h0, h1, h2, h3⟩ := HH16.out.box.cells
    clear hb16
    go_wp2_with fail
    refine Calls.mono (held_out m' p q HH16.out.row HN.out (by omega) (by omega)) ?_
    rintro e w17 ⟨rfl, hb17⟩
    have HEND : Hid (Below w.heap.size w w17) := below_tr (below_tr (below_tr HBV.out HB14.out) HB16.out) hb17
    clear hb17
    go_wp2_with fail
    go_ret
    exact ⟨rfl, HEND.out⟩
  · rw [if_neg hn] at HSZ
    subst hv
    generalize xs.length = L at *
    go_enter Try.func5, Try.ntmps5
    go_wp2_with fail
    refine Calls.mono (HSZ.out _) ?_
    rintro e w1 ⟨rfl, hb1⟩
    have HB1 : Hid (Below w.heap.size w w1) := below_tr (below_one w _) hb1
    clear hb1
    go_wp2_with fail
    go_ret
    exact ⟨rfl, HB1.out⟩

set_option maxRecDepth 100000 in
theorem lifted (os : Os) (started : os.Started) (H : Type) (enc : TypeId × Value → H) :
    ReturnsInHanded {} Try.checked os 5 .any (Rows.fnExactBuddyTakeSpec.pre6 enc Try.prog Try.f5 Rows.fnExactBuddyTakeRow.domain false) (Rows.fnExactBuddyTakeSpec.post enc Try.prog Try.f5 false true false false) := by
  refine returnsInHanded_of_change (C := Try.checked) own started (by kernel_rfl) Try.func5
    (ChangeSpec.witness6 (enc := enc) (C := Try.checked) false ⟨#[], #[.agg #[.int .i64 0, .slice none 0 0], .int .i64 0], []⟩ 8 (by kernel_rfl) (by kernel_rfl) (by kernel_rfl) (by kernel_rfl)) ?_
  intro W base args ds gs before hval0 hW hcnd _
  have hval : ∀ (j : Nat) t v, Try.f5.params[j]? = some t → args[j]? = some v → Value.okWide Try.prog W .any base t v := hval0
  have hW' := hW
  obtain ⟨p, q, hA0, hV, rfl, hfz, hnd⟩ := hW
  have hA : DataW.TrodAll enc Try.prog W 0 (fun _ => true) true Try.f5.params.toList args.toList ds p := hA0
  rw [Try.params5] at hA hval
  obtain ⟨v0, vs0, d0, ds0, p0, q0, hargs0, rfl, rfl, h0, r0⟩ := trodAll_cons hA
  obtain ⟨v1, vs1, d1, ds1, p1, q1, hargs1, rfl, rfl, h1, r1⟩ := trodAll_cons r0
  obtain ⟨rfl, rfl, rfl⟩ := trodAll_nil r1
  obtain rfl : args = #[v0, v1] := by cases args; simp_all
  obtain ⟨rfl, rfl⟩ := trodVars_none hV
  have h0k := h0
  obtain ⟨x0, z0, y0, m0, k0, rfl, rfl, rfl, hx0, hz0⟩ := open_agg2 Try.underlying24 (by kernel_rfl) (by kernel_rfl) (hval 0 24 v0 rfl rfl) h0
  obtain ⟨a0, ea0, rfl, w0⟩ := DataW.trod_int Try.underlying2 hx0
  obtain ⟨xs, hxs⟩ := opened hz0
  simp at ea0
  subst ea0
  obtain ⟨b1, rfl, rfl, rfl, w1⟩ := open_int Try.underlying2 (hval 1 2 v1 rfl rfl) h1
  clear hA0 hval0
  simp only [List.append_nil] at hW'
  have hlt : ∀ x ∈ ([] : List MemPlace) ++ m0.2, x.block < W.heap.size := fun x hx => by simpa using hW'.lt x hx
  refine (walk a0 z0 xs b1 W hxs).mono fun e W' ⟨he, hg⟩ => ?_
  subst he
  have harg0 : DataW.Trod enc Try.prog W' 0 (fun b => decide (b < W.heap.size)) true 24 (.agg #[.int .i64 a0, z0]) _ _ :=
    Below.trod blaws.laidOut (by kernel_rfl) (of_decide_eq_true (by kernel_rfl)) h0k hg (fun x hx => hlt x hx)
  exact ⟨_, rfl, _, _, _, [], _, [], hW', (trodAll_cons_mk (shut_bool Try.underlying4 _) trodAll_mk0), (trodAll_cons_mk harg0 (trodAll_cons_mk (shut_int Try.underlying2 w1) trodAll_mk0)), rfl, hg.frame _, fun h => by cases h⟩

/-- the statement -/
theorem proved : Rows.FnExactBuddyTakeSaid :=
  OpenClaim.holds_of_wide 5 Try.f5 rfl rfl rfl rfl rfl rfl rfl ⟨rfl, rfl, rfl, rfl, rfl⟩ rfl rfl rfl rfl rfl (by kernel_rfl) Try.func5 (by kernel_rfl)
    (of_decide_eq_true (by kernel_rfl)) (by unfold Func.isWrapper; first | (rw [if_pos (by decide +kernel)]; kernel_rfl) | (rw [if_neg (by decide +kernel)]; exact ⟨rfl, rfl⟩))
    (fun os started H enc _ => lifted os started H enc)
#print axioms proved
end Go.Proofs.Ytcokchfedaoccaa.fnExactBuddyTake
