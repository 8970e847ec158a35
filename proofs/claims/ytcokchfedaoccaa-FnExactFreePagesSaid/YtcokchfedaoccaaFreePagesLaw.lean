/-
  The law FnExactFreePages answers true at every buddy: FreePages answers as the specification, writes into no argument, and its answer owns its memory. Conditions: none.
-/
import Derived.Test.YtcokchfedaoccaaBuddyLaws2
import Derived.Test.YtcokchfedaoccaaBuddyPagesI
namespace Go.Proofs.Ytcokchfedaoccaa.fnExactFreePages
open Go.ChangeShapes Go.WideShapes Go.ChangeAt Go.RowKit
open Go.Joins
open Go.Proofs.Ytcokchfedaoccaa
open Go.Proofs.Ytcokchfedaoccaa.brows
open Go.Proofs.Ytcokchfedaoccaa.bspec
open Go.Proofs.Ytcokchfedaoccaa.blaws
open Go.Proofs.Ytcokchfedaoccaa.btop (impl_free own_move own_less)
set_option linter.unusedVariables false

theorem own : ownKnob Try.prog.godebug = none := by kernel_rfl
theorem pages_short (m : Int) (xs : List Pr) : (pagesI m xs).length ≤ 32 := by
  by_cases h : RightI m xs
  · obtain ⟨n, l, rfl, rfl, hr⟩ := h
    rw [pagesI_of hr, List.length_map, bd.pages_len]
    exact Nat.le_trans hr.sum_le (bd.pow_le32 hr.ord)
  · rw [pagesI_none h]; simp

set_option maxHeartbeats 8000000 in
theorem walk (m : Int) (v : Value) (xs : List Pr) (w : World) (h : RdO w v xs) :
    Calls Try.prog 7 #[.agg #[.int .i64 m, v]] w fun e w' => e = .returned (.bool true) ∧ Below w.heap.size w w' := by
  have HRD : Hid (RdO w v xs) := h
  obtain ⟨a, c, hv, hml, h3⟩ := h
  clear h3
  unfold maxLen at hml
  have HSZ : Hid (∀ W, _) := fun W => sz_buddy m a xs.length c 1048576 (by omega) (by omega) (by omega) W
  by_cases hn : (xs.length : Int) ≤ 1048576
  · rw [if_pos hn] at HSZ
    have hn2 : xs.length ≤ 1048576 := by omega
    have HT : Hid (∀ W, Below w.heap.size w W → Calls Try.prog 11 #[.agg #[.int .i64 m, v]] W (ToBPost m xs W)) := fun W hW => to_buddy m (HRD.out.below hW) hn2
    have HS : Hid (∀ u W, Rd W u xs → Calls Try.prog 24 #[.agg #[.int .i64 m, u]] W (Gives W (pagesI m xs))) := fun u W hW => spec_pages m u xs W hW
    have HI : Hid (∀ u W, Rd W u xs → Calls Try.prog 25 #[.agg #[.int .i64 m, u]] W (Gives W (pagesI m xs))) := fun u W hW => impl_free m u xs W hW (by omega)
    have HN : Hid ((pagesI m xs).length ≤ 1000000000) := by have := pages_short m xs; show _ ≤ _; omega
    have HNX : Hid (xs.length ≤ 1000000000) := by show xs.length ≤ 1000000000; omega
    generalize pagesI m xs = ps at HS HI HN
    obtain ⟨L, hL⟩ : ∃ L, L = xs.length := ⟨_, rfl⟩
    rw [← hL] at hv HSZ hn hml
    have HE : Hid (∀ W u1 u2, Rd W u1 xs → Rd W u2 xs → _) := fun W u1 u2 h1 h2 => eq_buddy m (w := W) (va := u1) (vb := u2) h1 h2
    have HXL : Hid (L = xs.length) := hL
    clear hL
    subst hv
    have HL0 : Hid (LBox (w.alloc (.cells #[.int .i64 m, .slice a L c] 24)) w.heap.size m (.slice a L c)) := lbox_new w m _
    have HB0 : Hid (Below w.heap.size w (w.alloc (.cells #[.int .i64 m, .slice a L c] 24))) := below_one w _
    go_enter Try.func7, Try.ntmps7
    go_wp2_with fail
    refine Calls.mono (HSZ.out _) ?_
    rintro e w1 ⟨rfl, hb1⟩
    have HL1 : Hid (LBox w1 w.heap.size m (.slice a L c)) := HL0.out.below hb1
    have HB1 : Hid (Below w.heap.size w w1) := below_tr HB0.out hb1
    obtain ⟨c0, c1⟩ := HL1.out.cells
    clear hb1 HL0 HB0
    go_wp2_with fail
    refine Calls.mono (HT.out _ HB1.out) ?_
    rintro e w2 ⟨v2, rfl, hr2, hb2⟩
    have HR2 : Hid (Rd w2 v2 xs) := hr2.rd
    have HL2 : Hid (LBox w2 w.heap.size m (.slice a L c)) := HL1.out.below hb2
    have HB2 : Hid (Below w.heap.size w w2) := below_tr HB1.out hb2
    clear hb2 hr2 HL1 HB1 c0 c1
    go_wp2_with fail
    refine Calls.mono (HS.out _ _ HR2.out) ?_
    rintro e w3 ⟨v3, rfl, hr3, hb3⟩
    have HR3 : Hid (irows.Row w3 w2.heap.size v3 ps) := hr3
    have HL3 : Hid (LBox w3 w.heap.size m (.slice a L c)) := HL2.out.below hb3
    have HB3 : Hid (Below w.heap.size w w3) := below_tr HB2.out hb3
    obtain ⟨c0, c1⟩ := HL3.out.cells
    have hlt3 := HL3.out.lt
    clear hr3 hb3 HL2 HB2 HR2 HS
    go_wp2_with fail
    refine Calls.mono (HT.out _ HB3.out) ?_
    rintro e w4 ⟨v4, rfl, hr4, hb4⟩
    have HR4 : Hid (Row w4 w3.heap.size v4 xs) := hr4
    have HB4 : Hid (Below w3.heap.size w3 w4) := hb4
    obtain ⟨a4, c4, hv4, _⟩ := hr4.rd.form
    rw [← HXL.out] at hv4
    subst hv4
    clear hr4 hb4 c0 c1
    go_wp2_with fail
    obtain ⟨V4, hV4⟩ : ∃ V, V = w4.alloc (.cells #[.int .i64 m, .slice a4 L c4] 29) := ⟨_, rfl⟩
    have HX4 : Hid (Box V4 w4.heap.size m (.slice a4 L c4)) := by rw [hV4]; exact box_one w4 m _
    have HR5 : Hid (Row V4 w3.heap.size (.slice a4 L c4) xs) := by rw [hV4]; exact HR4.out.later (below_one _ _)
    have HBV4 : Hid (Below w3.heap.size w3 V4) := by rw [hV4]; exact below_tr HB4.out (below_one _ _)
    rw [← hV4]
    clear hV4 HR4 HB4
    refine Calls.mono (HI.out _ _ HR5.out.rd) ?_
    rintro e w5 ⟨v5, rfl, hrow5, hb5⟩
    have HB5 : Hid (Below V4.heap.size V4 w5) := hb5
    have HG5 : Hid (irows.Row w5 V4.heap.size v5 ps) := hrow5
    clear hrow5 hb5
    go_wp2_with fail
    refine Calls.mono (irows.eq_rows HG5.out (HR3.out.later (below_tr HBV4.out HB5.out)) HN.out) ?_
    rintro e w6 ⟨rfl, hb6⟩
    have HG6 : Hid (irows.Row w6 V4.heap.size v5 ps) := HG5.out.later hb6
    have HB6 : Hid (Below V4.heap.size V4 w6) := below_tr HB5.out hb6
    have HX6 : Hid (Box w6 w4.heap.size m (.slice a4 L c4)) := box_below HX4.out HB6.out
    have HL6 : Hid (LBox w6 w.heap.size m (.slice a L c)) := HL3.out.below (below_tr HBV4.out HB6.out)
    have HR6 : Hid (Row w6 w3.heap.size (.slice a4 L c4) xs) := HR5.out.later HB6.out
    have HBW6 : Hid (Below w.heap.size w w6) := below_tr (below_tr HB3.out HBV4.out) HB6.out
    obtain ⟨c0, c1⟩ := HL6.out.cells
    obtain ⟨x0, x1, _, _⟩ := HX6.out.cells
    clear hb6 HG5 HB5
    go_wp2_with fail
    go_region_held3 (fun W => W.cell? ⟨w.heap.size, 0, none⟩ = some (.int .i64 m) ∧ W.cell? ⟨w.heap.size, 1, none⟩ = some (.slice a L c) ∧ W.cell? ⟨w4.heap.size, 0, none⟩ = some (.int .i64 m) ∧ W.cell? ⟨w4.heap.size, 1, none⟩ = some (.slice a4 L c4))
      (first | assumption | exact ⟨c0, c1, x0, x1⟩ | exact Z7 | exact Z8)
      (first | (go_at_call 11; refine Calls.mono (HT.out _ (Below.drew HBW6.out)) ?_; rintro e w7 ⟨v7, rfl, hr7, hb7⟩; have hb7' : Below w6.heap.size w6 w7 := Below.trans (Below.drew (Below.refl w6.heap.size w6)) hb7; have Z7 := twice hb7' HL6.out HX6.out; have HR7 : Hid (Rd w7 v7 xs) := hr7.rd; have HR7b : Hid (Rd w7 (.slice a4 L c4) xs) := HR6.out.rd.below hb7'; have HB67 : Hid (Below w6.heap.size w6 w7) := hb7'; clear hb7 hb7' hr7) | (go_at_call 13; refine Calls.mono (HE.out _ _ _ HR7b.out HR7.out) ?_; rintro e w8 ⟨rfl, hb8⟩; have HB8 : Hid (Below w6.heap.size w6 w8) := below_tr HB67.out hb8; have Z8 := twice HB8.out HL6.out HX6.out; clear hb8))
    have HX8 : Hid (Box w8 w4.heap.size m (.slice a4 L c4)) := box_below HX6.out HB8.out
    have HR8 : Hid (Row w8 w3.heap.size (.slice a4 L c4) xs) := HR6.out.later HB8.out
    have HG8 : Hid (irows.Row w8 V4.heap.size v5 ps) := HG6.out.later HB8.out
    have HB38 : Hid (Below w3.heap.size w3 w8) := below_tr HBV4.out (below_tr HB6.out HB8.out)
    obtain ⟨x0, x1, _, _⟩ := HX8.out.cells
    clear HR7 HR7b HB67 HB8 HX6 HL6 HR6 HG6 HBW6
    try clear Z7
    try clear Z8
    go_wp2_with fail
    refine Calls.mono (mark_buddy m HR8.out HNX.out (by omega) (by omega)) ?_
    intro e w9 hm9
    have HB9 : Hid (Below w3.heap.size w3 w9) := marked_below HR8.out hm9 HB38.out (Nat.le_refl _)
    have HG9 : Hid (irows.Row w9 V4.heap.size v5 ps) := own_move HG8.out fun g hg hl _ => hm9.2.2.block g hl (fun e => by have := (row_block HR5.out e.symm).2; omega)
    obtain ⟨rfl, _⟩ := hm9
    clear HR8 HX8 HG8 HB38 x0 x1
    rw [← HXL.out]
    go_wp2_with fail
    refine Calls.mono (irows.eq_rows HG9.out (HR3.out.later HB9.out) HN.out) ?_
    rintro e w10 ⟨rfl, hb10⟩
    have HG10 : Hid (irows.Row w10 V4.heap.size v5 ps) := HG9.out.later hb10
    have HB10 : Hid (Below w3.heap.size w3 w10) := below_tr HB9.out hb10
    clear hb10 HG9 HB9
    go_wp2_with fail
    refine Calls.mono (irows.mark_row HG10.out HN.out (by omega) (by omega)) ?_
    rintro e w11 ⟨rfl, hr11, hb11, _⟩
    have HG11 : Hid (irows.Row w11 V4.heap.size v5 (irows.run 1 ps.length)) := hr11
    have HB11 : Hid (Below w3.heap.size w3 w11) := HB10.out.trans (hb11.mono HBV4.out.size)
    clear hr11 hb11 HG10 HB10
    go_wp2_with fail
    refine Calls.mono (irows.held_row HG11.out HN.out (by omega) (by omega)) ?_
    rintro e w12 ⟨rfl, rfl⟩
    have HL12 : Hid (LBox w12 w.heap.size m (.slice a L c)) := HL3.out.below HB11.out
    obtain ⟨c0, c1⟩ := HL12.out.cells
    have hnn : ps.length ≤ 1000000000 := HN.out
    go_wp2_with fail
    refine Calls.mono (HT.out _ (below_tr HB3.out HB11.out)) ?_
    rintro e w13 ⟨v13, rfl, hr13, hb13⟩
    have HR13 : Hid (Rd w13 v13 xs) := hr13.rd
    have HG13 : Hid (irows.Row w13 V4.heap.size v5 (irows.run 1 ps.length)) := HG11.out.later hb13
    have HB13 : Hid (Below w3.heap.size w3 w13) := below_tr HB11.out hb13
    clear hb13 hr13 HG11 HB11 HL12 c0 c1
    go_wp2_with fail
    refine Calls.mono (HI.out _ _ HR13.out) ?_
    rintro e w14 ⟨v14, rfl, hrow14, hb14⟩
    have HG14 : Hid (irows.Row w14 V4.heap.size v5 (irows.run 1 ps.length)) := HG13.out.later hb14
    have HB14 : Hid (Below w3.heap.size w3 w14) := below_tr HB13.out hb14
    have HR14 : Hid (irows.Row w14 w13.heap.size v14 ps) := hrow14
    clear hrow14 hb14 HG13 HB13 HR13
    go_wp2_with fail
    refine Calls.mono (irows.eq_rows HR14.out (HR3.out.later HB14.out) HN.out) ?_
    rintro e w16 ⟨rfl, hb16⟩
    have HG16 : Hid (irows.Row w16 V4.heap.size v5 (irows.run 1 ps.length)) := HG14.out.later hb16
    have HEND : Hid (Below w.heap.size w w16) := below_tr (below_tr HB3.out HB14.out) hb16
    clear hb16
    go_wp2_with fail
    refine Calls.mono (irows.held_row HG16.out HN.out (by omega) (by omega)) ?_
    rintro e w17 ⟨rfl, rfl⟩
    go_wp2_with fail
    go_ret
    exact ⟨rfl, HEND.out⟩
  · rw [if_neg hn] at HSZ
    subst hv
    generalize xs.length = L at *
    go_enter Try.func7, Try.ntmps7
    go_wp2_with fail
    refine Calls.mono (HSZ.out _) ?_
    rintro e w1 ⟨rfl, hb1⟩
    have HB1 : Hid (Below w.heap.size w w1) := below_tr (below_one w _) hb1
    clear hb1
    go_wp2_with fail
    go_ret
    exact ⟨rfl, HB1.out⟩

set_option maxRecDepth 100000 in
theorem lifted (os : Os) (started : os.Started) (H : Type) (enc : TypeId × Value → H) :
    ReturnsInHanded {} Try.checked os 7 .any (Rows.fnExactFreePagesSpec.pre6 enc Try.prog Try.f7 Rows.fnExactFreePagesRow.domain false) (Rows.fnExactFreePagesSpec.post enc Try.prog Try.f7 false true false false) := by
  refine returnsInHanded_of_change (C := Try.checked) own started (by kernel_rfl) Try.func7
    (ChangeSpec.witness6 (enc := enc) (C := Try.checked) false ⟨#[], #[.agg #[.int .i64 0, .slice none 0 0]], []⟩ 8 (by kernel_rfl) (by kernel_rfl) (by kernel_rfl) (by kernel_rfl)) ?_
  intro W base args ds gs before hval0 hW hcnd _
  have hval : ∀ (j : Nat) t v, Try.f7.params[j]? = some t → args[j]? = some v → Value.okWide Try.prog W .any base t v := hval0
  have hW' := hW
  obtain ⟨p, q, hA0, hV, rfl, hfz, hnd⟩ := hW
  have hA : DataW.TrodAll enc Try.prog W 0 (fun _ => true) true Try.f7.params.toList args.toList ds p := hA0
  rw [Try.params7] at hA hval
  obtain ⟨v0, vs0, d0, ds0, p0, q0, hargs, rfl, rfl, h0, r0⟩ := trodAll_cons hA
  obtain ⟨rfl, rfl, rfl⟩ := trodAll_nil r0
  obtain rfl : args = #[v0] := by cases args; simp_all
  obtain ⟨rfl, rfl⟩ := trodVars_none hV
  have h0k := h0
  obtain ⟨x0, z0, y0, m0, k0, rfl, rfl, rfl, hx0, hz0⟩ := open_agg2 Try.underlying24 (by kernel_rfl) (by kernel_rfl) (hval 0 24 v0 rfl rfl) h0
  obtain ⟨a0, ea0, rfl, w0⟩ := DataW.trod_int Try.underlying2 hx0
  obtain ⟨xs, hxs⟩ := opened hz0
  simp at ea0
  subst ea0
  clear hA0 hval0
  simp only [List.append_nil] at hW'
  have hlt : ∀ x ∈ ([] : List MemPlace) ++ m0.2, x.block < W.heap.size := fun x hx => by simpa using hW'.lt x hx
  refine (walk a0 z0 xs W hxs).mono fun e W' ⟨he, hg⟩ => ?_
  subst he
  have harg0 : DataW.Trod enc Try.prog W' 0 (fun b => decide (b < W.heap.size)) true 24 (.agg #[.int .i64 a0, z0]) _ _ :=
    Below.trod blaws.laidOut (by kernel_rfl) (of_decide_eq_true (by kernel_rfl)) h0k hg (fun x hx => hlt x hx)
  exact ⟨_, rfl, _, _, _, [], _, [], hW', (trodAll_cons_mk (shut_bool Try.underlying4 _) trodAll_mk0), (trodAll_cons_mk harg0 trodAll_mk0), rfl, hg.frame _, fun h => by cases h⟩

/-- the statement -/
theorem proved : Rows.FnExactFreePagesSaid :=
  OpenClaim.holds_of_wide 7 Try.f7 rfl rfl rfl rfl rfl rfl rfl ⟨rfl, rfl, rfl, rfl, rfl⟩ rfl rfl rfl rfl rfl (by kernel_rfl) Try.func7 (by kernel_rfl)
    (of_decide_eq_true (by kernel_rfl)) (by unfold Func.isWrapper; first | (rw [if_pos (by decide +kernel)]; kernel_rfl) | (rw [if_neg (by decide +kernel)]; exact ⟨rfl, rfl⟩))
    (fun os started H enc _ => lifted os started H enc)
#print axioms proved
end Go.Proofs.Ytcokchfedaoccaa.fnExactFreePages
