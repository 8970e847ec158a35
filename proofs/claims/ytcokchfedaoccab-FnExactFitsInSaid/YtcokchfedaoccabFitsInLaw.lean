/-
  The law FnExactFitsIn answers true at every argument: FitsIn answers as the specification, and writes into no argument. Conditions: none.
-/
import Derived.Test.YtcokchfedaoccabBuddyLaws
import Derived.Test.YtcokchfedaoccabFitsIn
namespace Go.Proofs.Ytcokchfedaoccab.fnExactFitsIn
open Go.ChangeShapes Go.WideShapes Go.ChangeAt Go.RowKit
open Go.Joins
open Go.Proofs.Ytcokchfedaoccab
open Go.Proofs.Ytcokchfedaoccab.brows
open Go.Proofs.Ytcokchfedaoccab.bspec
open Go.Proofs.Ytcokchfedaoccab.bimpl
open Go.Proofs.Ytcokchfedaoccab.blaws
set_option linter.unusedVariables false

theorem own : ownKnob Try.prog.godebug = none := by kernel_rfl

set_option maxHeartbeats 4000000 in
theorem walk (m o : Int) (v : Value) (xs : List Pr) (w : World) (h : RdO w v xs) :
    Calls Try.prog 3 #[.agg #[.int .i64 m, v], .int .i64 o] w fun e w' => e = .returned (.bool true) ∧ Below w.heap.size w w' := by
  have HRD : Hid (RdO w v xs) := h
  obtain ⟨a, c, hv, hml, h3⟩ := h
  clear h3
  unfold maxLen at hml
  have HSZ : Hid (∀ W, _) := fun W => sz_buddy m a xs.length c 1048576 (by omega) (by omega) (by omega) W
  by_cases hn : (xs.length : Int) ≤ 1048576
  · rw [if_pos hn] at HSZ
    have hn2 : xs.length ≤ 1048576 := by omega
    have HT : Hid (∀ W, Below w.heap.size w W → Calls Try.prog 7 #[.agg #[.int .i64 m, v]] W (ToBPost m xs W)) := fun W hW => to_buddy m (HRD.out.below hW) hn2
    have HS : Hid (∀ u W, Rd W u xs → Calls Try.prog 6 #[.agg #[.int .i64 m, u], .int .i64 o] W fun e w' => e = .returned (.bool (btop.fitB m xs o)) ∧ Below W.heap.size W w') := fun u W hW => btop.spec_fits m o u xs W hW
    have HI : Hid (∀ u W, Rd W u xs → Calls Try.prog 8 #[.agg #[.int .i64 m, u], .int .i64 o] W fun e w' => e = .returned (.bool (btop.fitB m xs o)) ∧ Below W.heap.size W w') := fun u W hW => btop.impl_fits m o u xs W hW (by omega)
    generalize btop.fitB m xs o = ans at HS HI
    subst hv
    generalize xs.length = L at *
    have HL0 : Hid (LBox (w.alloc (.cells #[.int .i64 m, .slice a L c] 24)) w.heap.size m (.slice a L c)) := lbox_new w m _
    have HB0 : Hid (Below w.heap.size w (w.alloc (.cells #[.int .i64 m, .slice a L c] 24))) := below_one w _
    go_enter Try.func3, Try.ntmps3
    go_wp2_with fail
    refine Calls.mono (HSZ.out _) ?_
    rintro e w1 ⟨rfl, hb1⟩
    have HL1 : Hid (LBox w1 w.heap.size m (.slice a L c)) := HL0.out.below hb1
    have HB1 : Hid (Below w.heap.size w w1) := below_tr HB0.out hb1
    obtain ⟨c0, c1⟩ := HL1.out.cells
    clear hb1 HL0 HB0
    go_wp2_with fail
    refine Calls.mono (HT.out _ HB1.out) ?_
    rintro e w2 ⟨v2, rfl, hr2, hb2⟩
    have HR2 : Hid (Rd w2 v2 xs) := hr2.rd
    have HL2 : Hid (LBox w2 w.heap.size m (.slice a L c)) := HL1.out.below hb2
    have HB2 : Hid (Below w.heap.size w w2) := below_tr HB1.out hb2
    clear hb2 hr2 HL1 HB1 c0 c1
    go_wp2_with fail
    refine Calls.mono (HS.out _ _ HR2.out) ?_
    rintro e w3 ⟨rfl, hb3⟩
    have HL3 : Hid (LBox w3 w.heap.size m (.slice a L c)) := HL2.out.below hb3
    have HB3 : Hid (Below w.heap.size w w3) := below_tr HB2.out hb3
    obtain ⟨c0, c1⟩ := HL3.out.cells
    clear hb3 HL2 HB2
    go_wp2_with fail
    refine Calls.mono (HT.out _ HB3.out) ?_
    rintro e w4 ⟨v4, rfl, hr4, hb4⟩
    obtain ⟨a4, k4, hv4, _⟩ := hr4.rd.form
    have HR4 : Hid (Rd w4 v4 xs) := hr4.rd
    have HL4 : Hid (LBox w4 w.heap.size m (.slice a L c)) := HL3.out.below hb4
    have HB4 : Hid (Below w.heap.size w w4) := below_tr HB3.out hb4
    obtain ⟨c0, c1⟩ := HL4.out.cells
    have hl4 := HL4.out.lt
    generalize xs.length = L4 at hv4
    subst hv4
    clear hb4 hr4 HL3 HB3
    have HX4 : Hid (Box (w4.alloc (.cells #[.int .i64 m, .slice a4 L4 k4] 29)) w4.heap.size m (.slice a4 L4 k4)) := box_one w4 m _
    have HR5 : Hid (Rd (w4.alloc (.cells #[.int .i64 m, .slice a4 L4 k4] 29)) (.slice a4 L4 k4) xs) := HR4.out.below (below_one _ _)
    have HL5 : Hid (LBox (w4.alloc (.cells #[.int .i64 m, .slice a4 L4 k4] 29)) w.heap.size m (.slice a L c)) := HL4.out.below (below_one _ _)
    have HB5 : Hid (Below w.heap.size w (w4.alloc (.cells #[.int .i64 m, .slice a4 L4 k4] 29))) := below_tr HB4.out (below_one _ _)
    go_wp2_with fail
    refine Calls.mono (HI.out _ _ HR5.out) ?_
    rintro e w6 ⟨rfl, hb6⟩
    have HX6 : Hid (Box w6 w4.heap.size m (.slice a4 L4 k4)) := box_below HX4.out hb6
    have HR6 : Hid (Rd w6 (.slice a4 L4 k4) xs) := HR5.out.below hb6
    have HL6 : Hid (LBox w6 w.heap.size m (.slice a L c)) := HL5.out.below hb6
    have HB6 : Hid (Below w.heap.size w w6) := below_tr HB5.out hb6
    obtain ⟨c0, c1⟩ := HL6.out.cells
    obtain ⟨x0, x1, _, _⟩ := HX6.out.cells
    clear hb6 HX4 HR5 HL5 HB5 HL4 HB4 HR4
    go_wp2_with fail
    have HE : Hid (∀ W u1 u2, Rd W u1 xs → Rd W u2 xs → _) := fun W u1 u2 h1 h2 => eq_buddy m (w := W) (va := u1) (vb := u2) h1 h2
    go_region_held3 (fun W => W.cell? ⟨w.heap.size, 0, none⟩ = some (.int .i64 m) ∧ W.cell? ⟨w.heap.size, 1, none⟩ = some (.slice a L c) ∧ W.cell? ⟨w4.heap.size, 0, none⟩ = some (.int .i64 m) ∧ W.cell? ⟨w4.heap.size, 1, none⟩ = some (.slice a4 L4 k4))
      (first | assumption | exact ⟨c0, c1, x0, x1⟩ | exact Z7 | exact Z8)
      (first | (go_at_call 7; refine Calls.mono (HT.out _ (Below.drew HB6.out)) ?_; rintro e w7 ⟨v7, rfl, hr7, hb7⟩; have hb7' : Below w6.heap.size w6 w7 := Below.trans (Below.drew (Below.refl w6.heap.size w6)) hb7; have Z7 := twice hb7' HL6.out HX6.out; have HR7 : Hid (Rd w7 v7 xs) := hr7.rd; have HR7b : Hid (Rd w7 (.slice a4 L4 k4) xs) := HR6.out.below hb7'; have HB67 : Hid (Below w6.heap.size w6 w7) := hb7'; clear hb7 hb7' hr7) | (go_at_call 9; refine Calls.mono (HE.out _ _ _ HR7b.out HR7.out) ?_; rintro e w8 ⟨rfl, hb8⟩; have HB8 : Hid (Below w6.heap.size w6 w8) := below_tr HB67.out hb8; have Z8 := twice HB8.out HL6.out HX6.out; clear hb8))
    go_wp2_with fail
    go_ret
    exact ⟨rfl, below_tr HB6.out HB8.out⟩
  · rw [if_neg hn] at HSZ
    subst hv
    generalize xs.length = L at *
    go_enter Try.func3, Try.ntmps3
    go_wp2_with fail
    refine Calls.mono (HSZ.out _) ?_
    rintro e w1 ⟨rfl, hb1⟩
    have HB1 : Hid (Below w.heap.size w w1) := below_tr (below_one w _) hb1
    clear hb1
    go_wp2_with fail
    go_ret
    exact ⟨rfl, HB1.out⟩

set_option maxRecDepth 100000 in
theorem lifted (os : Os) (started : os.Started) (H : Type) (enc : TypeId × Value → H) :
    ReturnsInHanded {} Try.checked os 3 .any (Rows.fnExactFitsInSpec.pre6 enc Try.prog Try.f3 Rows.fnExactFitsInRow.domain false) (Rows.fnExactFitsInSpec.post enc Try.prog Try.f3 false true false false) := by
  refine returnsInHanded_of_change (C := Try.checked) own started (by kernel_rfl) Try.func3
    (ChangeSpec.witness6 (enc := enc) (C := Try.checked) false ⟨#[], #[.agg #[.int .i64 0, .slice none 0 0], .int .i64 0], []⟩ 8 (by kernel_rfl) (by kernel_rfl) (by kernel_rfl) (by kernel_rfl)) ?_
  intro W base args ds gs before hval0 hW hcnd _
  have hval : ∀ (j : Nat) t v, Try.f3.params[j]? = some t → args[j]? = some v → Value.okWide Try.prog W .any base t v := hval0
  have hW' := hW
  obtain ⟨p, q, hA0, hV, rfl, hfz, hnd⟩ := hW
  have hA : DataW.TrodAll enc Try.prog W 0 (fun _ => true) true Try.f3.params.toList args.toList ds p := hA0
  rw [Try.params3] at hA hval
  obtain ⟨v0, vs0, d0, ds0, p0, q0, hargs0, rfl, rfl, h0, r0⟩ := trodAll_cons hA
  obtain ⟨v1, vs1, d1, ds1, p1, q1, hargs1, rfl, rfl, h1, r1⟩ := trodAll_cons r0
  obtain ⟨rfl, rfl, rfl⟩ := trodAll_nil r1
  obtain rfl : args = #[v0, v1] := by cases args; simp_all
  obtain ⟨rfl, rfl⟩ := trodVars_none hV
  have h0k := h0
  obtain ⟨x0, z0, y0, m0, k0, rfl, rfl, rfl, hx0, hz0⟩ := open_agg2 Try.underlying24 (by kernel_rfl) (by kernel_rfl) (hval 0 24 v0 rfl rfl) h0
  obtain ⟨a0, ea0, rfl, w0⟩ := DataW.trod_int Try.underlying2 hx0
  obtain ⟨xs, hxs⟩ := opened hz0
  simp at ea0
  subst ea0
  obtain ⟨b1, rfl, rfl, rfl, w1⟩ := open_int Try.underlying2 (hval 1 2 v1 rfl rfl) h1
  clear hA0 hval0
  simp only [List.append_nil] at hW'
  have hlt : ∀ x ∈ ([] : List MemPlace) ++ m0.2, x.block < W.heap.size := fun x hx => by simpa using hW'.lt x hx
  refine (walk a0 b1 z0 xs W hxs).mono fun e W' ⟨he, hg⟩ => ?_
  subst he
  have harg0 : DataW.Trod enc Try.prog W' 0 (fun b => decide (b < W.heap.size)) true 24 (.agg #[.int .i64 a0, z0]) _ _ :=
    Below.trod blaws.laidOut (by kernel_rfl) (of_decide_eq_true (by kernel_rfl)) h0k hg (fun x hx => hlt x hx)
  exact ⟨_, rfl, _, _, _, [], _, [], hW', (trodAll_cons_mk (shut_bool Try.underlying4 _) trodAll_mk0), (trodAll_cons_mk harg0 (trodAll_cons_mk (shut_int Try.underlying2 w1) trodAll_mk0)), rfl, hg.frame _, fun h => by cases h⟩

/-- the statement -/
theorem proved : Rows.FnExactFitsInSaid :=
  OpenClaim.holds_of_wide 3 Try.f3 rfl rfl rfl rfl rfl rfl rfl ⟨rfl, rfl, rfl, rfl, rfl⟩ rfl rfl rfl rfl rfl (by kernel_rfl) Try.func3 (by kernel_rfl)
    (of_decide_eq_true (by kernel_rfl)) (by unfold Func.isWrapper; first | (rw [if_pos (by decide +kernel)]; kernel_rfl) | (rw [if_neg (by decide +kernel)]; exact ⟨rfl, rfl⟩))
    (fun os started H enc _ => lifted os started H enc)
#print axioms proved
end Go.Proofs.Ytcokchfedaoccab.fnExactFitsIn
