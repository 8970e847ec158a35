/-
  The law FnExactBuddyOf answers true at every argument: BuddyOf answers as the specification, writes into no argument, and its answer owns its memory. Conditions: none.
-/
import Derived.Test.YtcokchfedaoccaaBuddyLaws2
import Derived.Test.YtcokchfedaoccaaBuddyOfI
import Derived.Test.YtcokchfedaoccaaIntTo
namespace Go.Proofs.Ytcokchfedaoccaa.fnExactBuddyOf
open Go.ChangeShapes Go.WideShapes Go.ChangeAt Go.RowKit
open Go.Joins
open Go.Proofs.Ytcokchfedaoccaa
open Go.Proofs.Ytcokchfedaoccaa.brows
open Go.Proofs.Ytcokchfedaoccaa.bspec
open Go.Proofs.Ytcokchfedaoccaa.blaws
open Go.Proofs.Ytcokchfedaoccaa.btop (impl_of)
set_option linter.unusedVariables false

theorem own : ownKnob Try.prog.godebug = none := by kernel_rfl
theorem int_block {w : World} {base : Nat} {v : Value} {xs : List Int} (h : irows.Row w base v xs) {k : Nat} (hk : v.ownBlock = some k) : base ≤ k ∧ k < w.heap.size := by
  rcases h.2 with ⟨rfl, _⟩ | ⟨g, cap, cur, rfl, hb, hc, _⟩
  · simp [Value.ownBlock] at hk
  · simp [Value.ownBlock] at hk
    have := (Array.getElem?_eq_some_iff.1 hc).1
    omega

set_option maxHeartbeats 8000000 in
theorem walk (o : Int) (v : Value) (xs : List Int) (w : World) (h : irows.RdO w v xs) :
    Calls Try.prog 8 #[.int .i64 o, v] w fun e w' => e = .returned (.bool true) ∧ Below w.heap.size w w' := by
  have HRD : Hid (irows.RdO w v xs) := h
  obtain ⟨a, c, hv, hml, h3⟩ := h
  clear h3
  unfold maxLen at hml
  by_cases hn : (xs.length : Int) ≤ 1048576
  · have hn2 : xs.length ≤ 1048576 := by omega
    have HT : Hid (∀ W, Below w.heap.size w W → Calls Try.prog 30 #[v] W (irows.ToPost xs W)) := fun W hW => irows.to_ints (HRD.out.below hW) hn2
    have HS : Hid (∀ u W, IRd W u xs → Calls Try.prog 29 #[.int .i64 o, u] W (Says (OfAns o xs) W)) := fun u W hW => says_of o u xs W hW
    have HI : Hid (∀ u W, IRd W u xs → Calls Try.prog 31 #[.int .i64 o, u] W (Owns (OfAns o xs) W)) := fun u W hW => impl_of o u xs W hW
    have HONE : Hid (∀ a b, OfAns o xs a → OfAns o xs b → a = b) := fun a b => of_one
    have HLEN : Hid (∀ a, OfAns o xs a → a.2.1.length ≤ 32) := fun a => of_len
    have HNX : Hid (xs.length ≤ 1000000000) := by show xs.length ≤ 1000000000; omega
    generalize OfAns o xs = A at HS HI HONE HLEN
    obtain ⟨L, hL⟩ : ∃ L, L = xs.length := ⟨_, rfl⟩
    rw [← hL] at hv hn hml
    have HXL : Hid (L = xs.length) := hL
    clear hL
    subst hv
    go_enter Try.func8, Try.ntmps8
    go_wp2_with fail
    refine Calls.mono (HT.out _ (Below.refl _ _)) ?_
    rintro e w2 ⟨v2, rfl, hr2, hb2⟩
    have HR2 : Hid (IRd w2 v2 xs) := IRd.of hr2
    have HB2 : Hid (Below w.heap.size w w2) := hb2
    clear hb2 hr2
    go_wp2_with fail
    refine Calls.mono (HS.out _ _ HR2.out) ?_
    rintro e w3 ⟨⟨m', ys, p, q⟩, v3, ha3, rfl, hrd3, hb3⟩
    have HA : Hid (A (m', ys, p, q)) := ha3
    have HN : Hid (ys.length ≤ 1000000000) := by have := HLEN.out _ ha3; show ys.length ≤ 1000000000; simp only at this; omega
    have HB3 : Hid (Below w.heap.size w w3) := below_tr HB2.out hb3
    have HD3 : Hid (Rd w3 v3 ys) := hrd3
    obtain ⟨a3, c3, hv3, _⟩ := hrd3.form
    generalize ys.length = L3 at hv3
    subst hv3
    clear ha3 hrd3 hb3 HB2 HR2 HS HLEN
    simp only [outV]
    go_wp2_with fail
    obtain ⟨V3, hV3⟩ : ∃ V, V = w3.alloc (.cells #[.int .i64 m', .slice a3 L3 c3, .int .i64 p, .int .i64 q] 34) := ⟨_, rfl⟩
    have HK3 : Hid (Kept V3 w3.heap.size (m', ys, p, q) (.slice a3 L3 c3)) := by rw [hV3]; exact kept_new HD3.out
    have HBV : Hid (Below w.heap.size w V3) := by rw [hV3]; exact below_tr HB3.out (below_one _ _)
    rw [← hV3]
    clear hV3 HB3 HD3
    refine Calls.mono (HT.out _ HBV.out) ?_
    rintro e w4 ⟨v4, rfl, hr4, hb4⟩
    have HR4 : Hid (irows.Row w4 V3.heap.size v4 xs) := hr4
    have HB4 : Hid (Below V3.heap.size V3 w4) := hb4
    clear hr4 hb4
    go_wp2_with fail
    refine Calls.mono (HI.out _ _ (IRd.of HR4.out)) ?_
    rintro e w5 ⟨a5, v5, ha5, rfl, hrow5, hb5⟩
    obtain rfl := HONE.out _ _ HA.out ha5
    have HB5 : Hid (Below w4.heap.size w4 w5) := hb5
    have HG5 : Hid (Row w5 w4.heap.size v5 ys) := hrow5
    have HK5 : Hid (Kept w5 w3.heap.size (m', ys, p, q) (.slice a3 L3 c3)) := HK3.out.below (below_tr HB4.out hb5)
    obtain ⟨a6, c6, hv5, _⟩ := hrow5.rd.form
    generalize ys.length = L5 at hv5
    subst hv5
    obtain ⟨r0, r1, r2, r3⟩ := HK5.out.box.cells
    have hlt5 := HK5.out.box.lt
    clear ha5 hrow5 hb5
    simp only [outV]
    go_wp2_with fail
    obtain ⟨V5, hV5⟩ : ∃ V, V = w5.alloc (.cells #[.int .i64 m', .slice a6 L5 c6, .int .i64 p, .int .i64 q] 34) := ⟨_, rfl⟩
    have HH5 : Hid (Held V5 w4.heap.size w5.heap.size (m', ys, p, q) (.slice a6 L5 c6) ys) := by rw [hV5]; exact held_new HG5.out
    have HKV : Hid (Kept V5 w3.heap.size (m', ys, p, q) (.slice a3 L3 c3)) := by rw [hV5]; exact HK5.out.below (below_one _ _)
    have HBV5 : Hid (Below w4.heap.size w4 V5) := by rw [hV5]; exact below_tr HB5.out (below_one _ _)
    have HRW : Hid (w4.heap.size ≤ w5.heap.size) := HB5.out.size
    rw [← hV5]
    clear hV5 HB5 HG5 HK5 r0 r1 r2 r3 hlt5
    refine Calls.mono (eq_out m' p q HH5.out.row.rd HKV.out.row) ?_
    rintro e w6 ⟨rfl, hb6⟩
    have HH6 : Hid (Held w6 w4.heap.size w5.heap.size (m', ys, p, q) (.slice a6 L5 c6) ys) := HH5.out.below hb6
    have HB6 : Hid (Below w4.heap.size w4 w6) := below_tr HBV5.out hb6
    have HBW6 : Hid (Below w.heap.size w w6) := below_tr (below_tr HBV.out HB4.out) HB6.out
    clear hb6 HH5 HKV HBV5
    go_wp2_with fail
    refine Calls.mono (HT.out _ HBW6.out) ?_
    rintro e w7 ⟨v7, rfl, hr7, hb7⟩
    have HR7 : Hid (irows.Row w7 w6.heap.size v7 xs) := hr7
    have HB7 : Hid (Below w4.heap.size w4 w7) := below_tr HB6.out hb7
    have HH7 : Hid (Held w7 w4.heap.size w5.heap.size (m', ys, p, q) (.slice a6 L5 c6) ys) := HH6.out.below hb7
    clear hr7 hb7 HH6 HB6 HBW6
    go_wp2_with fail
    refine Calls.mono (irows.eq_rows (HR4.out.later HB7.out) HR7.out HNX.out) ?_
    rintro e w8 ⟨rfl, hb8⟩
    have HB48 : Hid (Below w4.heap.size w4 w8) := below_tr HB7.out hb8
    have HR8 : Hid (irows.Row w8 V3.heap.size v4 xs) := HR4.out.later HB48.out
    have HH8 : Hid (Held w8 w4.heap.size w5.heap.size (m', ys, p, q) (.slice a6 L5 c6) ys) := HH7.out.below hb8
    have HB38 : Hid (Below V3.heap.size V3 w8) := below_tr HB4.out HB48.out
    clear hb8 HR7 HB7 HH7
    go_wp2_with fail
    refine Calls.mono (irows.mark_ints HR8.out HNX.out (by omega) (by omega)) ?_
    intro e w9 hm9
    have HB9 : Hid (Below V3.heap.size V3 w9) := HB38.out.grown hm9.2.2 HB38.out.size (fun j hj => (int_block HR8.out hj).1)
    have HH9 : Hid (Held w9 w4.heap.size w5.heap.size (m', ys, p, q) (.slice a6 L5 c6) ys) := HH8.out.other hm9.2.2 (fun g hg => (int_block HR4.out hg).2) HRW.out
    have HK9 : Hid (Kept w9 w3.heap.size (m', ys, p, q) (.slice a3 L3 c3)) := HK3.out.below HB9.out
    obtain ⟨rfl, _⟩ := hm9
    obtain ⟨g0, g1, g2, g3⟩ := HH9.out.box.cells
    obtain ⟨r0, r1, r2, r3⟩ := HK9.out.box.cells
    clear HR8 HH8 HB38 HB48
    rw [← HXL.out]
    go_wp2_with fail
    refine Calls.mono (eq_out m' p q HH9.out.row.rd HK9.out.row) ?_
    rintro e w10 ⟨rfl, hb10⟩
    have HH10 : Hid (Held w10 w4.heap.size w5.heap.size (m', ys, p, q) (.slice a6 L5 c6) ys) := HH9.out.below hb10
    have HB10 : Hid (Below V3.heap.size V3 w10) := below_tr HB9.out hb10
    obtain ⟨g0, g1, g2, g3⟩ := HH10.out.box.cells
    clear hb10 HH9 HK9 HB9 r0 r1 r2 r3
    go_wp2_with fail
    refine Calls.mono (mark_out m' p q HH10.out.row HN.out (by omega) (by omega)) ?_
    intro e w11 hm11
    have HH11 : Hid (Held w11 w4.heap.size w5.heap.size (m', ys, p, q) (.slice a6 L5 c6) (runB 1 ys.length)) := HH10.out.marked hm11
    have HB11 : Hid (Below V3.heap.size V3 w11) := marked_below HH10.out.row hm11 HB10.out HB4.out.size
    obtain ⟨rfl, _⟩ := hm11
    obtain ⟨h0, h1, h2, h3⟩ := HH11.out.box.cells
    clear HH10 HB10 g0 g1 g2 g3
    go_wp2_with fail
    refine Calls.mono (held_out m' p q HH11.out.row HN.out (by omega) (by omega)) ?_
    rintro e w12 ⟨rfl, hb12⟩
    have HH12 : Hid (Held w12 w4.heap.size w5.heap.size (m', ys, p, q) (.slice a6 L5 c6) (runB 1 ys.length)) := HH11.out.below hb12
    have HB12 : Hid (Below V3.heap.size V3 w12) := below_tr HB11.out hb12
    clear hb12 HH11 HB11 h0 h1 h2 h3
    have hnn : ys.length ≤ 1000000000 := HN.out
    go_wp2_with fail
    refine Calls.mono (HT.out _ (below_tr HBV.out HB12.out)) ?_
    rintro e w13 ⟨v13, rfl, hr13, hb13⟩
    have HR13 : Hid (IRd w13 v13 xs) := IRd.of hr13
    have HH13 : Hid (Held w13 w4.heap.size w5.heap.size (m', ys, p, q) (.slice a6 L5 c6) (runB 1 ys.length)) := HH12.out.below hb13
    have HB13 : Hid (Below V3.heap.size V3 w13) := below_tr HB12.out hb13
    clear hb13 hr13 HH12 HB12
    go_wp2_with fail
    refine Calls.mono (HI.out _ _ HR13.out) ?_
    rintro e w14 ⟨a14, v14, ha14, rfl, hrow14, hb14⟩
    obtain rfl := HONE.out _ _ HA.out ha14
    have HH14 : Hid (Held w14 w4.heap.size w5.heap.size (m', ys, p, q) (.slice a6 L5 c6) (runB 1 ys.length)) := HH13.out.below hb14
    have HB14 : Hid (Below V3.heap.size V3 w14) := below_tr HB13.out hb14
    have HK14 : Hid (Kept w14 w3.heap.size (m', ys, p, q) (.slice a3 L3 c3)) := HK3.out.below HB14.out
    have HR14 : Hid (Row w14 w13.heap.size v14 ys) := hrow14
    obtain ⟨a15, c15, hv14, _⟩ := hrow14.rd.form
    obtain ⟨L6, hL6⟩ : ∃ L, L = ys.length := ⟨_, rfl⟩
    rw [← hL6] at hv14
    subst hv14
    obtain ⟨r0, r1, r2, r3⟩ := HK14.out.box.cells
    have hlt14 := HK14.out.box.lt
    clear ha14 hrow14 hb14 hL6 HH13 HB13 HR13
    simp only [outV]
    go_wp2_with fail
    obtain ⟨V6, hV6⟩ : ∃ V, V = w14.alloc (.cells #[.int .i64 m', .slice a15 L6 c15, .int .i64 p, .int .i64 q] 34) := ⟨_, rfl⟩
    have HB15 : Hid (Below w14.heap.size w14 V6) := by rw [hV6]; exact below_one _ _
    rw [← hV6]
    clear hV6 r0 r1 r2 r3
    refine Calls.mono (eq_out m' p q (HR14.out.later HB15.out).rd (HK14.out.below HB15.out).row) ?_
    rintro e w16 ⟨rfl, hb16⟩
    have HB16 : Hid (Below w14.heap.size w14 w16) := below_tr HB15.out hb16
    have HH16 : Hid (Held w16 w4.heap.size w5.heap.size (m', ys, p, q) (.slice a6 L5 c6) (runB 1 ys.length)) := HH14.out.below HB16.out
    obtain ⟨h0, h1, h2, h3⟩ := HH16.out.box.cells
    clear hb16
    go_wp2_with fail
    refine Calls.mono (held_out m' p q HH16.out.row HN.out (by omega) (by omega)) ?_
    rintro e w17 ⟨rfl, hb17⟩
    have HEND : Hid (Below w.heap.size w w17) := below_tr (below_tr (below_tr HBV.out HB14.out) HB16.out) hb17
    clear hb17
    go_wp2_with fail
    go_ret
    exact ⟨rfl, HEND.out⟩
  · subst hv
    generalize xs.length = L at *
    go_enter Try.func8, Try.ntmps8
    go_wp2_with fail
    go_ret
    exact ⟨rfl, Below.refl _ _⟩

set_option maxRecDepth 100000 in
theorem lifted (os : Os) (started : os.Started) (H : Type) (enc : TypeId × Value → H) :
    ReturnsInHanded {} Try.checked os 8 .any (Rows.fnExactBuddyOfSpec.pre6 enc Try.prog Try.f8 Rows.fnExactBuddyOfRow.domain false) (Rows.fnExactBuddyOfSpec.post enc Try.prog Try.f8 false true false false) := by
  refine returnsInHanded_of_change (C := Try.checked) own started (by kernel_rfl) Try.func8
    (ChangeSpec.witness6 (enc := enc) (C := Try.checked) false ⟨#[], #[.int .i64 0, .slice none 0 0], []⟩ 8 (by kernel_rfl) (by kernel_rfl) (by kernel_rfl) (by kernel_rfl)) ?_
  intro W base args ds gs before hval0 hW hcnd _
  have hval : ∀ (j : Nat) t v, Try.f8.params[j]? = some t → args[j]? = some v → Value.okWide Try.prog W .any base t v := hval0
  have hW' := hW
  obtain ⟨p, q, hA0, hV, rfl, hfz, hnd⟩ := hW
  have hA : DataW.TrodAll enc Try.prog W 0 (fun _ => true) true Try.f8.params.toList args.toList ds p := hA0
  rw [Try.params8] at hA hval
  obtain ⟨v0, vs0, d0, ds0, p0, q0, hargs0, rfl, rfl, h0, r0⟩ := trodAll_cons hA
  obtain ⟨v1, vs1, d1, ds1, p1, q1, hargs1, rfl, rfl, h1, r1⟩ := trodAll_cons r0
  obtain ⟨rfl, rfl, rfl⟩ := trodAll_nil r1
  obtain rfl : args = #[v0, v1] := by cases args; simp_all
  obtain ⟨rfl, rfl⟩ := trodVars_none hV
  obtain ⟨b0, rfl, rfl, rfl, w0⟩ := open_int Try.underlying2 (hval 0 2 v0 rfl rfl) h0
  obtain ⟨a1, len1, cap1, rfl⟩ := okWide_slice Try.underlying44 (hval 1 44 v1 rfl rfl)
  obtain ⟨xs, hxs⟩ := irows.opened h1
  clear hA0 hval0
  simp only [List.append_nil] at hW'
  have hlt : ∀ x ∈ p1, x.block < W.heap.size := fun x hx => by simpa using hW'.lt x (by simpa using hx)
  refine (walk b0 _ xs W hxs).mono fun e W' ⟨he, hg⟩ => ?_
  subst he
  have harg1 : DataW.Trod enc Try.prog W' 0 (fun b => decide (b < W.heap.size)) true 44 (.slice a1 len1 cap1) d1 p1 :=
    Below.trod irows.laidOut (by kernel_rfl) (of_decide_eq_true (by kernel_rfl)) h1 hg (fun x hx => hlt x hx)
  exact ⟨_, rfl, _, _, _, [], _, [], hW', (trodAll_cons_mk (shut_bool Try.underlying4 _) trodAll_mk0), (trodAll_cons_mk (shut_int Try.underlying2 w0) (trodAll_cons_mk harg1 trodAll_mk0)), rfl, hg.frame _, fun h => by cases h⟩

/-- the statement -/
theorem proved : Rows.FnExactBuddyOfSaid :=
  OpenClaim.holds_of_wide 8 Try.f8 rfl rfl rfl rfl rfl rfl rfl ⟨rfl, rfl, rfl, rfl, rfl⟩ rfl rfl rfl rfl rfl (by kernel_rfl) Try.func8 (by kernel_rfl)
    (of_decide_eq_true (by kernel_rfl)) (by unfold Func.isWrapper; first | (rw [if_pos (by decide +kernel)]; kernel_rfl) | (rw [if_neg (by decide +kernel)]; exact ⟨rfl, rfl⟩))
    (fun os started H enc _ => lifted os started H enc)
#print axioms proved
end Go.Proofs.Ytcokchfedaoccaa.fnExactBuddyOf
