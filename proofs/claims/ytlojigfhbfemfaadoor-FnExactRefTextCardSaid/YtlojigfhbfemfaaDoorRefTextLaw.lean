/-
  The law FnExactRefText answers true at every Ref, and leaves it as it was: RefText answers as the specification. Condition: the library's table of powers starts as the library's text lays it; the card ties that to the text.
-/
import Derived.Test.YtlojigfhbfemfaaDoorCards
import Derived.Test.YtlojigfhbfemfaaDoorTie
import Derived.Test.YtlojigfhbfemfaaDoorScrLaid
import Derived.Test.YtlojigfhbfemfaaDoorCallOpen
import Derived.OpenShut
import Derived.ShutString
import Derived.Deep.DeepHandedRow
namespace Go.Proofs.YtlojigfhbfemfaaDoor.fnExactRefText
open Go.ChangeShapes Go.WideShapes Go.ChangeAt Go.RowKit
open Go.ChangeMaps (open_string shut_string)
open Go.Proofs.YtlojigfhbfemfaaDoor
open Go.Proofs.YtlojigfhbfemfaaDoor.scr
open Go.Proofs.YtlojigfhbfemfaaDoor.call (CallD ccall)
open Go.Proofs.YtlojigfhbfemfaaDoor.deep
set_option linter.unusedVariables false

theorem own : ownKnob Tryd.prog.godebug = none := by kernel_rfl
theorem laidOutL : laidOutB Tryd.prog = true := by kernel_rfl

set_option maxHeartbeats 4000000 in
theorem walk (l n : Int) (w : World) (hp : Pow w) :
    Calls Tryd.prog 3 #[.agg #[.int .i64 l, .int .i64 n]] w fun e w' => e = .returned (.bool true) ∧ Below w.heap.size w w' := by
  have HT : Hid (∀ W, _) := fun W => call.to_ref l n W
  have HS : Hid (∀ W, _) := fun W => spec_reft l n W
  have HI : Hid (∀ W, Pow W → _) := fun W h => impl_reft l n W h
  have HP : Hid (Pow w) := hp
  clear hp
  generalize refT l n = x at HS HI
  go_enter Tryd.func3, Tryd.ntmps3
  go_wp2_with fail
  refine Calls.mono (HT.out _) ?_
  rintro e w1 ⟨rfl, hb1⟩
  have HA1 : Hid (Blk w1 w.heap.size 23 [.int .i64 l, .int .i64 n]) := (blk_new w _ _).later hb1
  have HB1 : Hid (Below w.heap.size w w1) := deep.below_tr (deep.below_one w _) hb1
  clear hb1
  go_wp2_with fail
  refine Calls.mono (HS.out _) ?_
  rintro e w2 ⟨rfl, hb2⟩
  have HA2 : Hid (Blk w2 w.heap.size 23 [.int .i64 l, .int .i64 n]) := HA1.out.later hb2
  have HB2 : Hid (Below w.heap.size w w2) := deep.below_tr HB1.out hb2
  clear hb2 HA1 HB1
  have c0 : w2.cell? ⟨w.heap.size, 0, none⟩ = some (.int .i64 l) := HA2.out.cell 0
  have c1 : w2.cell? ⟨w.heap.size, 1, none⟩ = some (.int .i64 n) := HA2.out.cell 1
  go_wp2_with fail
  refine Calls.mono (HT.out _) ?_
  rintro e w3 ⟨rfl, hb3⟩
  have HB3 : Hid (Below w.heap.size w w3) := deep.below_tr HB2.out hb3
  clear hb3
  go_wp2_with fail
  refine Calls.mono (HI.out _ (HP.out.later HB3.out)) ?_
  rintro e w4 ⟨rfl, hb4⟩
  have HB4 : Hid (Below w.heap.size w w4) := deep.below_tr HB3.out hb4
  clear hb4
  go_wp2
  go_ret
  exact ⟨rfl, HB4.out⟩

set_option maxRecDepth 100000 in
theorem agg_of_ref {W : World} {base : Nat} {v : Value} {cs : List Value} (h : Value.okWide Tryd.prog W .any base 23 v) (hc : v.cells.toList = cs) : v = .agg cs.toArray := by
  cases v with
  | agg c =>
    have e : c.toList = cs := hc
    rw [← e]
  | _ => simp [Value.okWide, Tryd.underlying23] at h

set_option maxRecDepth 100000 in
theorem contract (H : Type) (enc : TypeId × Value → H) (W : World) (base : Nat) (args : Array Value) (ds gs : List (DataW H)) (before : List MemPlace)
    (hval : ∀ (j : Nat) t v, Tryd.f3.params[j]? = some t → args[j]? = some v → Value.okWide Tryd.prog W .any base t v)
    (hW : DataW.Whole enc Tryd.prog Tryd.f3.params.toList Rows.fnExactRefTextSpec.vars false W args.toList ds gs before) (hL : laidMet Tryd.prog Rows.fnExactRefTextRow.laid W) (hsh : World.ShapedOpen Tryd.prog W) :
    Calls Tryd.prog 3 args W fun e W' => ∃ v, e = .returned v ∧ Rows.fnExactRefTextSpec.post enc Tryd.prog Tryd.f3 false true false false W args v W' := by
  have hW' := hW
  obtain ⟨p, q, hA0, hV, rfl, hfz, hnd⟩ := hW
  have hA : DataW.TrodAll enc Tryd.prog W 0 (fun _ => true) true Tryd.f3.params.toList args.toList ds p := hA0
  rw [Tryd.params3] at hA hval
  obtain ⟨v0, vs0, d0, ds0, p0, q0, hargs, rfl, rfl, h0, r0⟩ := trodAll_cons hA
  obtain ⟨rfl, rfl, rfl⟩ := trodAll_nil r0
  obtain rfl : args = #[v0] := by cases args; simp_all
  obtain ⟨rfl, rfl⟩ := trodVars_none hV
  have k0 := h0
  obtain ⟨fuel0, hf0⟩ := k0
  obtain ⟨hlen0, _⟩ := open_struct Tryd.underlying23 hf0
  rw [call.cells_rf] at hlen0
  obtain ⟨a0, b0, hcs0⟩ := call.open_rf fuel0 _ _ hlen0 hf0
  obtain rfl : v0 = .agg #[.int .i64 a0, .int .i64 b0] := agg_of_ref (hval 0 23 v0 rfl rfl) hcs0
  clear hA0
  simp only [List.append_nil] at hW'
  have hlt0 : ∀ y ∈ p0, y.block < W.heap.size := fun y hy => by
    refine hW'.lt y ?_
    simp [hy]
  refine (walk a0 b0 W ⟨pow_third hL⟩).mono fun e W' ⟨he, hg⟩ => ?_
  subst he
  have harg0 : DataW.Trod enc Tryd.prog W' 0 (fun b => decide (b < W.heap.size)) true 23 (.agg #[.int .i64 a0, .int .i64 b0]) d0 p0 :=
    Below.trod laidOutL (by kernel_rfl) (of_decide_eq_true (by kernel_rfl)) h0 hg (fun y hy => hlt0 y hy)
  exact ⟨_, rfl, _, _, _, [], _, [], hW', (trodAll_cons_mk (shut_bool Tryd.underlying4 _) trodAll_mk0), (trodAll_cons_mk harg0 trodAll_mk0), rfl, hg.frame _, fun h => by cases h⟩

set_option maxRecDepth 100000 in
theorem lifted (os : Os) (started : os.Started) (H : Type) (enc : TypeId × Value → H) (F : Stop.Interp) :
    ReturnsInHanded {} Tryd.checked os 3 .any ((OpenSpec.ofChange Rows.fnExactRefTextSpec).preRow enc Tryd.prog Tryd.f3 Rows.fnExactRefTextRow.domain false Rows.fnExactRefTextRow.laid) (((OpenSpec.ofChange Rows.fnExactRefTextSpec).at F).post enc Tryd.prog Tryd.f3 false true false false) := by
  refine returnsInHanded_of_row (C := Tryd.checked) (s := OpenSpec.ofChange Rows.fnExactRefTextSpec) own started (by kernel_rfl) Tryd.func3
    (witness_row_at (enc := enc) (C := Tryd.checked) false (laidWorld os) #[.agg #[.int .i64 0, .int .i64 0]] rfl (by kernel_rfl) (by kernel_rfl) (by kernel_rfl)
      (OpenSpec.preRow_of_B rfl 8 (by kernel_rfl) (by kernel_rfl) (met_reft os _))) ?_
  intro W base args ds gs before hval hW _ _ _ hL hsh _
  exact contract H enc W base args ds gs before hval hW hL hsh

theorem said : Rows.FnExactRefTextSaid :=
  OpenClaim.holds_of_cond 3 Tryd.f3 rfl rfl rfl rfl rfl rfl rfl ⟨rfl, rfl, rfl, rfl, rfl⟩ rfl rfl rfl rfl rfl (by kernel_rfl) Tryd.func3 (by kernel_rfl)
    (of_decide_eq_true (by kernel_rfl)) (by unfold Func.isWrapper; first | (rw [if_pos (by decide +kernel)]; kernel_rfl) | (rw [if_neg (by decide +kernel)]; exact ⟨rfl, rfl⟩))
    (fun os started H enc _ F => by rw [OpenClaim.pre_eq_preRow]; exact lifted os started H enc F)

theorem plain (f : FuncId) (fn : Func) (hf : Tryd.pinned.checked.prog.funcNamed "loop.example/g00740/laws.FnExactRefText" = some f) (hfn : Tryd.pinned.checked.prog.funcs[f]? = some fn) :
    true = Tryd.pinned.checked.prog.looks [] ∧ ∀ (j : Nat) t, fn.params[j]? = some t → Tryd.pinned.checked.prog.wantsStandIn t = false := by
  obtain rfl : f = 3 := Option.some.inj ((show Tryd.prog.funcNamed "loop.example/g00740/laws.FnExactRefText" = some 3 by kernel_rfl).symm.trans hf) |>.symm
  obtain rfl : fn = Tryd.f3 := (Option.some.inj (Tryd.func3.symm.trans hfn)).symm
  refine ⟨by kernel_rfl, fun j t ht => ?_⟩
  rw [Tryd.params3] at ht
  have h2 : t = 23 := by simpa using Array.mem_of_getElem? ht
  obtain rfl := h2
  exact (show Tryd.prog.wantsStandIn 23 = false by kernel_rfl)

/-- the card -/
theorem proved : Rows.FnExactRefTextCardSaid :=
  Claim7.holds_tied_plain_at .later [] _ _ _ _ said (fun _ h => by cases h) (by kernel_rfl) (fun _ h => by cases h) fnExactRefText_row_tie rfl ⟨rfl, rfl⟩ (by kernel_rfl) rfl plain (by kernel_rfl)
#print axioms proved
end Go.Proofs.YtlojigfhbfemfaaDoor.fnExactRefText
