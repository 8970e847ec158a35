/-
  The law FnExactCallText answers true at every call, and leaves it as it was: CallText answers as the specification. Conditions: the library's table of powers and the program's tables start as their texts lay them; the card ties that to the texts.
-/
import Derived.Test.YtlojigfhbfemfaaDoorCards
import Derived.Test.YtlojigfhbfemfaaDoorTie
import Derived.Test.YtlojigfhbfemfaaDoorScrLaid2
import Derived.Test.YtlojigfhbfemfaaDoorScrCText
import Derived.Test.YtlojigfhbfemfaaDoorCallOpen
import Derived.OpenShut
import Derived.OpenVars
import Derived.ShutString
import Derived.Deep.DeepHandedRow
namespace Go.Proofs.YtlojigfhbfemfaaDoor.fnExactCallText
open Go.ChangeShapes Go.WideShapes Go.ChangeAt Go.RowKit
open Go.ChangeMaps (open_string shut_string)
open Go.Proofs.YtlojigfhbfemfaaDoor
open Go.Proofs.YtlojigfhbfemfaaDoor.scr
open Go.Proofs.YtlojigfhbfemfaaDoor.call (CallD ccall)
open Go.Proofs.YtlojigfhbfemfaaDoor.deep
set_option linter.unusedVariables false

theorem own : ownKnob Tryd.prog.godebug = none := by kernel_rfl
theorem laidOutL : laidOutB Tryd.prog = true := by kernel_rfl

set_option maxHeartbeats 4000000 in
theorem walk (x : CallD) (w : World) (hf : Pow w ∧ Say w) :
    Calls Tryd.prog 4 #[.agg (ccall x).toArray] w fun e w' => e = .returned (.bool true) ∧ Below w.heap.size w w' := by
  obtain ⟨hp, hS⟩ := hf
  have HT : Hid (∀ W, Calls Tryd.prog 11 #[.agg (ccall x).toArray] W fun e w' => e = .returned (.agg (ccall x).toArray) ∧ Below W.heap.size W w') := fun W => call.to_call _ _ _ _ _ _ _ _ _ W
  have HSP : Hid (∀ W, Calls Tryd.prog 10 #[.agg (ccall x).toArray] W fun e w' => e = .returned (.string (callT x)) ∧ Below W.heap.size W w') := fun W => spec_callt x W
  have HIM : Hid (∀ W, Pow W → Say W → Calls Tryd.prog 12 #[.agg (ccall x).toArray] W fun e w' => e = .returned (.string (callT x)) ∧ Below W.heap.size W w') := fun W h k => impl_callt x W h k
  have HP : Hid (Pow w) := hp
  have HS : Hid (Say w) := hS
  clear hp hS
  generalize callT x = T at *
  obtain ⟨q0, q1, q2, q3, q4, q5, q6, q7, q8⟩ := x
  simp only [ccall] at *
  go_enter Tryd.func4, Tryd.ntmps4
  go_wp2_with fail
  refine Calls.mono (HT.out _) ?_
  rintro e w1 ⟨rfl, hb1⟩
  have HX1 : Hid (Blk w1 w.heap.size 29 [.int .i64 q0, .int .i64 q1, .int .i64 q2, .int .i64 q3, .int .i64 q4, .int .i64 q5, .int .i64 q6, .int .i64 q7, .int .i64 q8]) := (blk_new w _ _).later hb1
  have HB1 : Hid (Below w.heap.size w w1) := deep.below_tr (deep.below_one w _) hb1
  clear hb1
  go_wp2_with fail
  refine Calls.mono (HSP.out _) ?_
  rintro e w2 ⟨rfl, hb2⟩
  have HX2 : Hid (Blk w2 w.heap.size 29 [.int .i64 q0, .int .i64 q1, .int .i64 q2, .int .i64 q3, .int .i64 q4, .int .i64 q5, .int .i64 q6, .int .i64 q7, .int .i64 q8]) := HX1.out.later hb2
  have HB2 : Hid (Below w.heap.size w w2) := deep.below_tr HB1.out hb2
  clear hb2 HX1 HB1
  have c0 : w2.cell? ⟨w.heap.size, 0, none⟩ = some (.int .i64 q0) := HX2.out.cell 0
  have c1 : w2.cell? ⟨w.heap.size, 1, none⟩ = some (.int .i64 q1) := HX2.out.cell 1
  have c2 : w2.cell? ⟨w.heap.size, 2, none⟩ = some (.int .i64 q2) := HX2.out.cell 2
  have c3 : w2.cell? ⟨w.heap.size, 3, none⟩ = some (.int .i64 q3) := HX2.out.cell 3
  have c4 : w2.cell? ⟨w.heap.size, 4, none⟩ = some (.int .i64 q4) := HX2.out.cell 4
  have c5 : w2.cell? ⟨w.heap.size, 5, none⟩ = some (.int .i64 q5) := HX2.out.cell 5
  have c6 : w2.cell? ⟨w.heap.size, 6, none⟩ = some (.int .i64 q6) := HX2.out.cell 6
  have c7 : w2.cell? ⟨w.heap.size, 7, none⟩ = some (.int .i64 q7) := HX2.out.cell 7
  have c8 : w2.cell? ⟨w.heap.size, 8, none⟩ = some (.int .i64 q8) := HX2.out.cell 8
  go_wp2_with fail
  refine Calls.mono (HT.out _) ?_
  rintro e w3 ⟨rfl, hb3⟩
  have HB3 : Hid (Below w.heap.size w w3) := deep.below_tr HB2.out hb3
  clear hb3
  go_wp2_with fail
  refine Calls.mono (HIM.out _ (HP.out.later HB3.out) (HS.out.later HB3.out)) ?_
  rintro e w4 ⟨rfl, hb4⟩
  have HB4 : Hid (Below w.heap.size w w4) := deep.below_tr HB3.out hb4
  clear hb4
  go_wp2
  go_ret
  exact ⟨rfl, HB4.out⟩

set_option maxRecDepth 100000 in
theorem agg_of_call {W : World} {base : Nat} {v : Value} {cs : List Value} (h : Value.okWide Tryd.prog W .any base 29 v) (hc : v.cells.toList = cs) : v = .agg cs.toArray := by
  cases v with
  | agg c =>
    have e : c.toList = cs := hc
    rw [← e]
  | _ => simp [Value.okWide, Tryd.underlying29] at h

set_option maxRecDepth 100000 in
theorem contract (H : Type) (enc : TypeId × Value → H) (W : World) (base : Nat) (args : Array Value) (ds gs : List (DataW H)) (before : List MemPlace)
    (hval : ∀ (j : Nat) t v, Tryd.f4.params[j]? = some t → args[j]? = some v → Value.okWide Tryd.prog W .any base t v)
    (hW : DataW.Whole enc Tryd.prog Tryd.f4.params.toList Rows.fnExactCallTextSpec.vars false W args.toList ds gs before) (hL : laidMet Tryd.prog Rows.fnExactCallTextRow.laid W) (hsh : World.ShapedOpen Tryd.prog W) :
    Calls Tryd.prog 4 args W fun e W' => ∃ v, e = .returned v ∧ Rows.fnExactCallTextSpec.post enc Tryd.prog Tryd.f4 false true false false W args v W' := by
  have hW' := hW
  obtain ⟨p, q, hA0, hV, rfl, hfz, hnd⟩ := hW
  have hA : DataW.TrodAll enc Tryd.prog W 0 (fun _ => true) true Tryd.f4.params.toList args.toList ds p := hA0
  rw [Tryd.params4] at hA hval
  obtain ⟨v0, vs0, d0, ds0, p0, q0, hargs, rfl, rfl, h0, r0⟩ := trodAll_cons hA
  obtain ⟨rfl, rfl, rfl⟩ := trodAll_nil r0
  obtain rfl : args = #[v0] := by cases args; simp_all
  obtain ⟨_, _, _, _, y0, _, _, _, _, _, y1, _, hgs, _⟩ := trodVars_two hV
  subst hgs
  have k0 := h0
  obtain ⟨fuel0, hf0⟩ := k0
  obtain ⟨hlen0, _⟩ := open_struct Tryd.underlying29 hf0
  rw [call.cells_cl] at hlen0
  obtain ⟨x0, hcs0⟩ := call.open_cl fuel0 _ _ hlen0 hf0
  obtain rfl : v0 = .agg (ccall x0).toArray := agg_of_call (hval 0 29 v0 rfl rfl) hcs0
  clear hA0
  simp only [List.append_nil] at hW'
  have hlt0 : ∀ y ∈ p0, y.block < W.heap.size := fun y hy => by
    refine hW'.lt y ?_
    simp [hy]
  refine (walk x0 W ⟨⟨pow_third hL⟩, say_of hL.tail.tail.tail.tail hsh⟩).mono fun e W' ⟨he, hg⟩ => ?_
  subst he
  have harg0 : DataW.Trod enc Tryd.prog W' 0 (fun b => decide (b < W.heap.size)) true 29 (.agg (ccall x0).toArray) d0 p0 :=
    Below.trod laidOutL (by kernel_rfl) (of_decide_eq_true (by kernel_rfl)) h0 hg (fun y hy => hlt0 y hy)
  exact ⟨_, rfl, _, _, _, [], _, _, hW', (trodAll_cons_mk (shut_bool Tryd.underlying4 _) trodAll_mk0), (trodAll_cons_mk harg0 trodAll_mk0), Below.trodVars laidOutL hg (by kernel_rfl) hV, hg.frame _, fun h => by cases h⟩

set_option maxRecDepth 100000 in
theorem lifted (os : Os) (started : os.Started) (H : Type) (enc : TypeId × Value → H) (F : Stop.Interp) :
    ReturnsInHanded {} Tryd.checked os 4 .any ((OpenSpec.ofChange Rows.fnExactCallTextSpec).preRow enc Tryd.prog Tryd.f4 Rows.fnExactCallTextRow.domain false Rows.fnExactCallTextRow.laid) (((OpenSpec.ofChange Rows.fnExactCallTextSpec).at F).post enc Tryd.prog Tryd.f4 false true false false) := by
  refine returnsInHanded_of_row (C := Tryd.checked) (s := OpenSpec.ofChange Rows.fnExactCallTextSpec) own started (by kernel_rfl) Tryd.func4
    (witness_row_at (enc := enc) (C := Tryd.checked) false (laidWorld2 os) #[.agg #[.int .i64 0, .int .i64 0, .int .i64 0, .int .i64 0, .int .i64 0, .int .i64 0, .int .i64 0, .int .i64 0, .int .i64 0]] rfl (by kernel_rfl) (by kernel_rfl) (by kernel_rfl)
      (OpenSpec.preRow_of_B rfl 8 (by kernel_rfl) (by kernel_rfl) (met_callt os _))) ?_
  intro W base args ds gs before hval hW _ _ _ hL hsh _
  exact contract H enc W base args ds gs before hval hW hL hsh

theorem said : Rows.FnExactCallTextSaid :=
  OpenClaim.holds_of_cond 4 Tryd.f4 rfl rfl rfl rfl rfl rfl rfl ⟨rfl, rfl, rfl, rfl, rfl⟩ rfl rfl rfl rfl rfl (by kernel_rfl) Tryd.func4 (by kernel_rfl)
    (of_decide_eq_true (by kernel_rfl)) (by unfold Func.isWrapper; first | (rw [if_pos (by decide +kernel)]; kernel_rfl) | (rw [if_neg (by decide +kernel)]; exact ⟨rfl, rfl⟩))
    (fun os started H enc _ F => by rw [OpenClaim.pre_eq_preRow]; exact lifted os started H enc F)

theorem plain (f : FuncId) (fn : Func) (hf : Tryd.pinned.checked.prog.funcNamed "loop.example/g00740/laws.FnExactCallText" = some f) (hfn : Tryd.pinned.checked.prog.funcs[f]? = some fn) :
    true = Tryd.pinned.checked.prog.looks [] ∧ ∀ (j : Nat) t, fn.params[j]? = some t → Tryd.pinned.checked.prog.wantsStandIn t = false := by
  obtain rfl : f = 4 := Option.some.inj ((show Tryd.prog.funcNamed "loop.example/g00740/laws.FnExactCallText" = some 4 by kernel_rfl).symm.trans hf) |>.symm
  obtain rfl : fn = Tryd.f4 := (Option.some.inj (Tryd.func4.symm.trans hfn)).symm
  refine ⟨by kernel_rfl, fun j t ht => ?_⟩
  rw [Tryd.params4] at ht
  have h2 : t = 29 := by simpa using Array.mem_of_getElem? ht
  obtain rfl := h2
  exact (show Tryd.prog.wantsStandIn 29 = false by kernel_rfl)

/-- the card -/
theorem proved : Rows.FnExactCallTextCardSaid :=
  Claim7.holds_tied_plain_at .later [] _ _ _ _ said (fun _ h => by cases h) (by kernel_rfl) (fun _ h => by cases h) fnExactCallText_row_tie rfl ⟨rfl, rfl⟩ (by kernel_rfl) rfl plain (by kernel_rfl)
#print axioms proved
end Go.Proofs.YtlojigfhbfemfaaDoor.fnExactCallText
