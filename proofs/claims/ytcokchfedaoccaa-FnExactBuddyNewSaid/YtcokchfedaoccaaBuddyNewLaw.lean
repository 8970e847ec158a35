/-
  The law FnExactBuddyNew answers true at every number of 64 bits: BuddyNew answers as the specification, and its answer owns its memory. Conditions: none.
-/
import Derived.Test.YtcokchfedaoccaaBuddyLaws2
namespace Go.Proofs.Ytcokchfedaoccaa.fnExactBuddyNew
open Go.ChangeShapes Go.WideShapes Go.ChangeAt Go.RowKit
open Go.Proofs.Ytcokchfedaoccaa
open Go.Proofs.Ytcokchfedaoccaa.brows
open Go.Proofs.Ytcokchfedaoccaa.bspec
open Go.Proofs.Ytcokchfedaoccaa.blaws
open Go.Proofs.Ytcokchfedaoccaa.btop (impl_new)
set_option linter.unusedVariables false

theorem own : ownKnob Try.prog.godebug = none := by kernel_rfl

set_option maxHeartbeats 4000000 in
theorem walk (o : Int) (w : World) :
    Calls Try.prog 4 #[.int .i64 o] w fun e w' => e = .returned (.bool true) ∧ Below w.heap.size w w' := by
  have HS : Hid (∀ W, Calls Try.prog 14 #[.int .i64 o] W (Says (NewAns o) W)) := fun W => says_new o W
  have HI : Hid (∀ W, Calls Try.prog 15 #[.int .i64 o] W (Owns (NewAns o) W)) := fun W => impl_new o W
  have HONE : Hid (∀ a b, NewAns o a → NewAns o b → a = b) := fun a b => new_one
  have HLEN : Hid (∀ a, NewAns o a → a.2.1.length ≤ 32) := fun a => new_len
  generalize NewAns o = A at HS HI HONE HLEN
  go_enter Try.func4, Try.ntmps4
  go_wp2_with fail
  refine Calls.mono (HS.out _) ?_
  rintro e w1 ⟨⟨m, xs, p, q⟩, v1, ha, rfl, hrd1, hb1⟩
  have HA : Hid (A (m, xs, p, q)) := ha
  have hlen : xs.length ≤ 32 := HLEN.out _ ha
  have HN : Hid (xs.length ≤ 1000000000) := by show xs.length ≤ 1000000000; omega
  have HB1 : Hid (Below w.heap.size w w1) := hb1
  have HD1 : Hid (Rd w1 v1 xs) := hrd1
  obtain ⟨a1, c1, hv1, _⟩ := hrd1.form
  generalize xs.length = L1 at hv1
  subst hv1
  clear ha hrd1 hb1 hlen
  simp only [outV]
  go_wp2_with fail
  obtain ⟨V1, hV1⟩ : ∃ V, V = w1.alloc (.cells #[.int .i64 m, .slice a1 L1 c1, .int .i64 p, .int .i64 q] 34) := ⟨_, rfl⟩
  have HK1 : Hid (Kept V1 w1.heap.size (m, xs, p, q) (.slice a1 L1 c1)) := by rw [hV1]; exact kept_new HD1.out
  have HBV1 : Hid (Below w.heap.size w V1) := by rw [hV1]; exact below_tr HB1.out (below_one _ _)
  rw [← hV1]
  clear hV1 HB1 HD1 HS
  refine Calls.mono (HI.out _) ?_
  rintro e w2 ⟨a2, v2, ha2, rfl, hrow2, hb2⟩
  obtain rfl := HONE.out _ _ HA.out ha2
  have HK2 : Hid (Kept w2 w1.heap.size (m, xs, p, q) (.slice a1 L1 c1)) := HK1.out.below hb2
  have HR2 : Hid (Row w2 V1.heap.size v2 xs) := hrow2
  have HB2 : Hid (Below V1.heap.size V1 w2) := hb2
  obtain ⟨a3, c3, hv2, _⟩ := hrow2.rd.form
  generalize xs.length = L2 at hv2
  subst hv2
  clear ha2 hrow2 hb2
  obtain ⟨r0, r1, r2, r3⟩ := HK2.out.box.cells
  have hlt2 := HK2.out.box.lt
  simp only [outV]
  go_wp2_with fail
  obtain ⟨V2, hV2⟩ : ∃ V, V = w2.alloc (.cells #[.int .i64 m, .slice a3 L2 c3, .int .i64 p, .int .i64 q] 34) := ⟨_, rfl⟩
  have HH2 : Hid (Held V2 V1.heap.size w2.heap.size (m, xs, p, q) (.slice a3 L2 c3) xs) := by rw [hV2]; exact held_new HR2.out
  have HK3 : Hid (Kept V2 w1.heap.size (m, xs, p, q) (.slice a1 L1 c1)) := by rw [hV2]; exact HK2.out.below (below_one _ _)
  have HBV2 : Hid (Below V1.heap.size V1 V2) := by rw [hV2]; exact below_tr HB2.out (below_one _ _)
  rw [← hV2]
  clear hV2 HB2 HR2 HK2 r0 r1 r2 r3 hlt2
  refine Calls.mono (eq_out m p q HH2.out.row.rd HK3.out.row) ?_
  rintro e w3 ⟨rfl, hb3⟩
  have HH3 : Hid (Held w3 V1.heap.size w2.heap.size (m, xs, p, q) (.slice a3 L2 c3) xs) := HH2.out.below hb3
  have HB3 : Hid (Below V1.heap.size V1 w3) := below_tr HBV2.out hb3
  obtain ⟨g0, g1, g2, g3⟩ := HH3.out.box.cells
  clear hb3 HH2 HK3 HBV2
  go_wp2_with fail
  refine Calls.mono (mark_out m p q HH3.out.row HN.out (by omega) (by omega)) ?_
  intro e w4 hm4
  have HH4 : Hid (Held w4 V1.heap.size w2.heap.size (m, xs, p, q) (.slice a3 L2 c3) (runB 1 xs.length)) := HH3.out.marked hm4
  have HB4 : Hid (Below V1.heap.size V1 w4) := marked_below HH3.out.row hm4 HB3.out (Nat.le_refl _)
  obtain ⟨rfl, _⟩ := hm4
  obtain ⟨h0, h1, h2, h3⟩ := HH4.out.box.cells
  clear HH3 HB3 g0 g1 g2 g3
  go_wp2_with fail
  refine Calls.mono (held_out m p q HH4.out.row HN.out (by omega) (by omega)) ?_
  rintro e w5 ⟨rfl, hb5⟩
  have HH5 : Hid (Held w5 V1.heap.size w2.heap.size (m, xs, p, q) (.slice a3 L2 c3) (runB 1 xs.length)) := HH4.out.below hb5
  have HB5 : Hid (Below V1.heap.size V1 w5) := below_tr HB4.out hb5
  clear hb5 HH4 HB4 h0 h1 h2 h3
  have hnn : xs.length ≤ 1000000000 := HN.out
  go_wp2_with fail
  refine Calls.mono (HI.out _) ?_
  rintro e w6 ⟨a6, v6, ha6, rfl, hrow6, hb6⟩
  obtain rfl := HONE.out _ _ HA.out ha6
  have HH6 : Hid (Held w6 V1.heap.size w2.heap.size (m, xs, p, q) (.slice a3 L2 c3) (runB 1 xs.length)) := HH5.out.below hb6
  have HB6 : Hid (Below V1.heap.size V1 w6) := below_tr HB5.out hb6
  have HK6 : Hid (Kept w6 w1.heap.size (m, xs, p, q) (.slice a1 L1 c1)) := HK1.out.below HB6.out
  have HR6 : Hid (Row w6 w5.heap.size v6 xs) := hrow6
  obtain ⟨a7, c7, hv6, _⟩ := hrow6.rd.form
  obtain ⟨L6, hL6⟩ : ∃ L, L = xs.length := ⟨_, rfl⟩
  rw [← hL6] at hv6
  subst hv6
  obtain ⟨r0, r1, r2, r3⟩ := HK6.out.box.cells
  have hlt6 := HK6.out.box.lt
  clear ha6 hrow6 hb6 hL6
  simp only [outV]
  go_wp2_with fail
  obtain ⟨V6, hV6⟩ : ∃ V, V = w6.alloc (.cells #[.int .i64 m, .slice a7 L6 c7, .int .i64 p, .int .i64 q] 34) := ⟨_, rfl⟩
  have HB7 : Hid (Below w6.heap.size w6 V6) := by rw [hV6]; exact below_one _ _
  rw [← hV6]
  clear hV6 r0 r1 r2 r3
  refine Calls.mono (eq_out m p q (HR6.out.later HB7.out).rd (HK6.out.below HB7.out).row) ?_
  rintro e w8 ⟨rfl, hb8⟩
  have HB8 : Hid (Below w6.heap.size w6 w8) := below_tr HB7.out hb8
  have HH8 : Hid (Held w8 V1.heap.size w2.heap.size (m, xs, p, q) (.slice a3 L2 c3) (runB 1 xs.length)) := HH6.out.below HB8.out
  obtain ⟨h0, h1, h2, h3⟩ := HH8.out.box.cells
  clear hb8
  go_wp2_with fail
  refine Calls.mono (held_out m p q HH8.out.row HN.out (by omega) (by omega)) ?_
  rintro e w9 ⟨rfl, hb9⟩
  have HEND : Hid (Below w.heap.size w w9) := below_tr (below_tr (below_tr HBV1.out HB6.out) HB8.out) hb9
  clear hb9
  go_wp2_with fail
  go_ret
  exact ⟨rfl, HEND.out⟩

set_option maxRecDepth 100000 in
theorem lifted (os : Os) (started : os.Started) (H : Type) (enc : TypeId × Value → H) :
    ReturnsInHanded {} Try.checked os 4 .any (Rows.fnExactBuddyNewSpec.pre6 enc Try.prog Try.f4 Rows.fnExactBuddyNewRow.domain false) (Rows.fnExactBuddyNewSpec.post enc Try.prog Try.f4 false true false false) := by
  refine returnsInHanded_of_change (C := Try.checked) own started (by kernel_rfl) Try.func4
    (ChangeSpec.witness6 (enc := enc) (C := Try.checked) false ⟨#[], #[.int .i64 0], []⟩ 8 (by kernel_rfl) (by kernel_rfl) (by kernel_rfl) (by kernel_rfl)) ?_
  intro W base args ds gs before hval0 hW hcnd _
  have hval : ∀ (j : Nat) t v, Try.f4.params[j]? = some t → args[j]? = some v → Value.okWide Try.prog W .any base t v := hval0
  have hW' := hW
  obtain ⟨p, q, hA0, hV, rfl, hfz, hnd⟩ := hW
  have hA : DataW.TrodAll enc Try.prog W 0 (fun _ => true) true Try.f4.params.toList args.toList ds p := hA0
  rw [Try.params4] at hA hval
  obtain ⟨v0, vs0, d0, ds0, p0, q0, hargs, rfl, rfl, h0, r0⟩ := trodAll_cons hA
  obtain ⟨rfl, rfl, rfl⟩ := trodAll_nil r0
  obtain rfl : args = #[v0] := by cases args; simp_all
  obtain ⟨rfl, rfl⟩ := trodVars_none hV
  obtain ⟨a0, rfl, rfl, rfl, w0⟩ := open_int Try.underlying2 (hval 0 2 v0 rfl rfl) h0
  clear hA0 hval0
  simp only [List.append_nil] at hW'
  refine (walk a0 W).mono fun e W' ⟨he, hg⟩ => ?_
  subst he
  exact ⟨_, rfl, _, _, _, [], [], [], hW', (trodAll_cons_mk (shut_bool Try.underlying4 _) trodAll_mk0), (trodAll_cons_mk (shut_int Try.underlying2 w0) trodAll_mk0), rfl, hg.frame _, fun h => by cases h⟩

/-- the statement -/
theorem proved : Rows.FnExactBuddyNewSaid :=
  OpenClaim.holds_of_wide 4 Try.f4 rfl rfl rfl rfl rfl rfl rfl ⟨rfl, rfl, rfl, rfl, rfl⟩ rfl rfl rfl rfl rfl (by kernel_rfl) Try.func4 (by kernel_rfl)
    (of_decide_eq_true (by kernel_rfl)) (by unfold Func.isWrapper; first | (rw [if_pos (by decide +kernel)]; kernel_rfl) | (rw [if_neg (by decide +kernel)]; exact ⟨rfl, rfl⟩))
    (fun os started H enc _ => lifted os started H enc)
#print axioms proved
end Go.Proofs.Ytcokchfedaoccaa.fnExactBuddyNew
