/-
  The law FnExactCallRight answers true at every call: CallRight answers as the specification. Conditions: none.
-/
import Derived.Test.YtdkhmafpmopgmaaCall
import Derived.Test.YtdkhmafpmopgmaaCallOpen
import Derived.OpenShut
namespace Go.Proofs.Ytdkhmafpmopgmaa.fnExactCallRight
open Go.ChangeShapes Go.WideShapes Go.ChangeAt Go.RowKit
open Go.Proofs.Ytdkhmafpmopgmaa
open Go.Proofs.Ytdkhmafpmopgmaa.deep
open Go.Proofs.Ytdkhmafpmopgmaa.call
set_option linter.unusedVariables false

theorem own : ownKnob Try.prog.godebug = none := by kernel_rfl
theorem laidOutL : laidOutB Try.prog = true := by kernel_rfl
theorem nine {W : World} {B t : Nat} {q0 q1 q2 q3 q4 q5 q6 q7 q8 : Int} (h : Blk W B t [.int .i64 q0, .int .i64 q1, .int .i64 q2, .int .i64 q3, .int .i64 q4, .int .i64 q5, .int .i64 q6, .int .i64 q7, .int .i64 q8]) : W.cell? ⟨B, 0, none⟩ = some (.int .i64 q0) ∧ W.cell? ⟨B, 1, none⟩ = some (.int .i64 q1) ∧ W.cell? ⟨B, 2, none⟩ = some (.int .i64 q2) ∧ W.cell? ⟨B, 3, none⟩ = some (.int .i64 q3) ∧ W.cell? ⟨B, 4, none⟩ = some (.int .i64 q4) ∧ W.cell? ⟨B, 5, none⟩ = some (.int .i64 q5) ∧ W.cell? ⟨B, 6, none⟩ = some (.int .i64 q6) ∧ W.cell? ⟨B, 7, none⟩ = some (.int .i64 q7) ∧ W.cell? ⟨B, 8, none⟩ = some (.int .i64 q8) :=
  ⟨h.cell 0, h.cell 1, h.cell 2, h.cell 3, h.cell 4, h.cell 5, h.cell 6, h.cell 7, h.cell 8⟩

set_option maxHeartbeats 4000000 in
theorem walk (q0 q1 q2 q3 q4 q5 q6 q7 q8 : Int) (w : World) :
    Calls Try.prog 3 #[.agg #[.int .i64 q0, .int .i64 q1, .int .i64 q2, .int .i64 q3, .int .i64 q4, .int .i64 q5, .int .i64 q6, .int .i64 q7, .int .i64 q8]] w fun e w' => e = .returned (.bool true) ∧ Below w.heap.size w w' := by
  have HT : Hid (∀ W, _) := fun W => to_call q0 q1 q2 q3 q4 q5 q6 q7 q8 W
  have HS : Hid (∀ W, _) := fun W => spec_call q0 q1 q2 q3 q4 q5 q6 q7 q8 W
  have HI : Hid (∀ W, _) := fun W => impl_call q0 q1 q2 q3 q4 q5 q6 q7 q8 W
  generalize callB q0 q1 q2 q3 q4 q5 q6 q7 q8 = x at HS HI
  go_enter Try.func3, Try.ntmps3
  go_wp2_with fail
  refine Calls.mono (HT.out _) ?_
  rintro e w1 ⟨rfl, hb1⟩
  have HA1 : Hid (Blk w1 w.heap.size 25 [.int .i64 q0, .int .i64 q1, .int .i64 q2, .int .i64 q3, .int .i64 q4, .int .i64 q5, .int .i64 q6, .int .i64 q7, .int .i64 q8]) := (blk_new w _ _).later hb1
  have HB1 : Hid (Below w.heap.size w w1) := below_tr (below_one w _) hb1
  clear hb1
  go_wp2_with fail
  refine Calls.mono (HS.out _) ?_
  rintro e w2 ⟨rfl, hb2⟩
  have HA2 : Hid (Blk w2 w.heap.size 25 [.int .i64 q0, .int .i64 q1, .int .i64 q2, .int .i64 q3, .int .i64 q4, .int .i64 q5, .int .i64 q6, .int .i64 q7, .int .i64 q8]) := HA1.out.later hb2
  have HB2 : Hid (Below w.heap.size w w2) := below_tr HB1.out hb2
  clear hb2 HA1 HB1
  obtain ⟨c0, c1, c2, c3, c4, c5, c6, c7, c8⟩ := nine HA2.out
  go_wp2_with fail
  refine Calls.mono (HT.out _) ?_
  rintro e w3 ⟨rfl, hb3⟩
  have HB3 : Hid (Below w.heap.size w w3) := below_tr HB2.out hb3
  clear hb3
  go_wp2_with fail
  refine Calls.mono (HI.out _) ?_
  rintro e w4 ⟨rfl, hb4⟩
  have HB4 : Hid (Below w.heap.size w w4) := below_tr HB3.out hb4
  clear hb4
  go_wp2
  go_ret
  exact ⟨rfl, HB4.out⟩

set_option maxRecDepth 100000 in
/-- a value of that struct type is its cells -/
theorem agg_of {W : World} {base : Nat} {v : Value} {cs : List Value} (h : Value.okWide Try.prog W .any base 25 v) (hc : v.cells.toList = cs) : v = .agg cs.toArray := by
  cases v with
  | agg c =>
    have e : c.toList = cs := hc
    rw [← e]
  | _ => simp [Value.okWide, Try.underlying25] at h

set_option maxRecDepth 100000 in
theorem lifted (os : Os) (started : os.Started) (H : Type) (enc : TypeId × Value → H) :
    ReturnsInHanded {} Try.checked os 3 .any (Rows.fnExactCallRightSpec.pre6 enc Try.prog Try.f3 Rows.fnExactCallRightRow.domain false) (Rows.fnExactCallRightSpec.post enc Try.prog Try.f3 false true false false) := by
  refine returnsInHanded_of_change (C := Try.checked) own started (by kernel_rfl) Try.func3
    (ChangeSpec.witness6 (enc := enc) (C := Try.checked) false ⟨#[], #[.agg #[.int .i64 0, .int .i64 0, .int .i64 0, .int .i64 0, .int .i64 0, .int .i64 0, .int .i64 0, .int .i64 0, .int .i64 0]], []⟩ 8 (by kernel_rfl) (by kernel_rfl) (by kernel_rfl) (by kernel_rfl)) ?_
  intro W base args ds gs before hval0 hW hcnd _
  have hval : ∀ (j : Nat) t v, Try.f3.params[j]? = some t → args[j]? = some v → Value.okWide Try.prog W .any base t v := hval0
  have hW' := hW
  obtain ⟨p, q, hA0, hV, rfl, hfz, hnd⟩ := hW
  have hA : DataW.TrodAll enc Try.prog W 0 (fun _ => true) true Try.f3.params.toList args.toList ds p := hA0
  rw [Try.params3] at hA hval
  obtain ⟨v0, vs0, d0, ds0, p0, q0, hargs, rfl, rfl, h0, r0⟩ := trodAll_cons hA
  obtain ⟨rfl, rfl, rfl⟩ := trodAll_nil r0
  obtain rfl : args = #[v0] := by cases args; simp_all
  obtain ⟨rfl, rfl⟩ := trodVars_none hV
  have h0k := h0
  obtain ⟨fuel, hf⟩ := h0k
  obtain ⟨hlen, _⟩ := open_struct Try.underlying25 hf
  rw [cells_cl] at hlen
  obtain ⟨x, hcs⟩ := open_cl fuel _ _ hlen hf
  obtain rfl : v0 = .agg (ccall x).toArray := agg_of (hval 0 25 v0 rfl rfl) hcs
  clear hA0 hval0 hf
  simp only [List.append_nil] at hW'
  have hlt : ∀ y ∈ p0, y.block < W.heap.size := fun y hy => by simpa using hW'.lt y hy
  obtain ⟨x0, x1, x2, x3, x4, x5, x6, x7, x8⟩ := x
  refine (walk x0 x1 x2 x3 x4 x5 x6 x7 x8 W).mono fun e W' ⟨he, hg⟩ => ?_
  subst he
  have harg0 : DataW.Trod enc Try.prog W' 0 (fun b => decide (b < W.heap.size)) true 25 (.agg (ccall ⟨x0, x1, x2, x3, x4, x5, x6, x7, x8⟩).toArray) d0 p0 :=
    Below.trod laidOutL (by kernel_rfl) (of_decide_eq_true (by kernel_rfl)) h0 hg (fun y hy => hlt y hy)
  exact ⟨_, rfl, _, _, _, [], _, [], hW', (trodAll_cons_mk (shut_bool Try.underlying4 _) trodAll_mk0), (trodAll_cons_mk harg0 trodAll_mk0), rfl, hg.frame _, fun h => by cases h⟩

/-- the statement -/
theorem proved : Rows.FnExactCallRightSaid :=
  OpenClaim.holds_of_wide 3 Try.f3 rfl rfl rfl rfl rfl rfl rfl ⟨rfl, rfl, rfl, rfl, rfl⟩ rfl rfl rfl rfl rfl (by kernel_rfl) Try.func3 (by kernel_rfl)
    (of_decide_eq_true (by kernel_rfl)) (by unfold Func.isWrapper; first | (rw [if_pos (by decide +kernel)]; kernel_rfl) | (rw [if_neg (by decide +kernel)]; exact ⟨rfl, rfl⟩))
    (fun os started H enc _ => lifted os started H enc)
#print axioms proved
end Go.Proofs.Ytdkhmafpmopgmaa.fnExactCallRight
