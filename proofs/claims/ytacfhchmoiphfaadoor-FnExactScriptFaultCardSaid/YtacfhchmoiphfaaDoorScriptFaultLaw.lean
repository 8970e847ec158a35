/-
  The law FnExactScriptFault answers true at every text, and leaves it as it was: ScriptFault answers as the specification. Condition: the program's tables start as its text lays them; the card ties that to the text.
-/
import Derived.Test.YtacfhchmoiphfaaDoorCards
import Derived.Test.YtacfhchmoiphfaaDoorTie
import Derived.Test.YtacfhchmoiphfaaDoorScrLaid2
import Derived.Test.YtacfhchmoiphfaaDoorScrSFault
import Derived.Test.YtacfhchmoiphfaaDoorCallOpen
import Derived.OpenShut
import Derived.OpenVars
import Derived.ShutString
import Derived.Deep.DeepHandedRow
namespace Go.Proofs.YtacfhchmoiphfaaDoor.fnExactScriptFault
open Go.ChangeShapes Go.WideShapes Go.ChangeAt Go.RowKit
open Go.ChangeMaps (open_string shut_string)
open Go.Proofs.YtacfhchmoiphfaaDoor
open Go.Proofs.YtacfhchmoiphfaaDoor.scr
open Go.Proofs.YtacfhchmoiphfaaDoor.call (CallD ccall)
open Go.Proofs.YtacfhchmoiphfaaDoor.deep
set_option linter.unusedVariables false

theorem own : ownKnob Tryd.prog.godebug = none := by kernel_rfl
theorem laidOutL : laidOutB Tryd.prog = true := by kernel_rfl

set_option maxHeartbeats 4000000 in
theorem walk (s : ByteArray) (hs0 : s.size ≤ maxLen) (w : World) (hS : Say w) :
    Calls Tryd.prog 4 #[.string s] w fun e w' => e = .returned (.bool true) ∧ Below w.heap.size w w' := by
  have hs : s.size ≤ 9223372036854775807 := by unfold maxLen at hs0; omega
  clear hs0
  by_cases hb : 1048576 < s.size
  · go_enter Tryd.func4, Tryd.ntmps4
    go_wp2
    go_ret
    exact ⟨rfl, Below.refl _ _⟩
  have HSP : Hid (∀ W, Calls Tryd.prog 17 #[.string s] W (FaultP s W)) := fun W => spec_sfault s W hs
  have HIM : Hid (∀ W, Say W → Calls Tryd.prog 18 #[.string s] W (FaultP s W)) := fun W h => impl_sfault s W h
  have HEQ : Hid (∀ line code W, Calls Tryd.prog 19 #[.agg #[.string ⟨#[]⟩, .int .i64 line, .int .i64 code], .agg #[.string ⟨#[]⟩, .int .i64 line, .int .i64 code]] W fun e w' => e = .returned (.bool true) ∧ Below W.heap.size W w') := fun line code W => eq_sout line code W
  have HS : Hid (Say w) := hS
  clear hS
  unfold FaultP at HSP HIM
  have HON : Hid (∀ c d a b, scr.Told s c a → scr.Told s d b → c = d ∧ a = b) := fun c d a b h k => told_one h k
  generalize scr.Told s = R at *
  go_enter Tryd.func4, Tryd.ntmps4
  go_wp2_with fail
  refine Calls.mono (HSP.out _) ?_
  rintro e w1 ⟨line, code, rfl, hr, hb1⟩
  have HR1 : Hid (R line code) := hr
  have HB1 : Hid (Below w.heap.size w w1) := hb1
  have HS1 : Hid (Say w1) := HS.out.later hb1
  clear hr hb1
  have HL1 : Hid (Blk (w1.alloc (.cells #[.string ⟨#[]⟩, .int .i64 line, .int .i64 code] 45)) w1.heap.size 45 [.string ⟨#[]⟩, .int .i64 line, .int .i64 code]) := blk_new w1 _ _
  have HB2 : Hid (Below w.heap.size w (w1.alloc (.cells #[.string ⟨#[]⟩, .int .i64 line, .int .i64 code] 45))) := deep.below_tr HB1.out (deep.below_one _ _)
  have HS2 : Hid (Say (w1.alloc (.cells #[.string ⟨#[]⟩, .int .i64 line, .int .i64 code] 45))) := HS1.out.alloc _
  go_wp2_with fail
  refine Calls.mono (HIM.out _ HS2.out) ?_
  rintro e w3 ⟨d, b, rfl, hr, hb3⟩
  obtain ⟨rfl, rfl⟩ := HON.out _ _ _ _ HR1.out hr
  have HL3 : Hid (Blk w3 w1.heap.size 45 [.string ⟨#[]⟩, .int .i64 line, .int .i64 code]) := HL1.out.later hb3
  have HB3 : Hid (Below w.heap.size w w3) := deep.below_tr HB2.out hb3
  have hlt : w1.heap.size < w3.heap.size := HL3.out.lt
  clear hr hb3 HL1 HB2 HS2 HR1
  have c0 : w3.cell? ⟨w1.heap.size, 0, none⟩ = some (.string ⟨#[]⟩) := HL3.out.cell 0
  have c1 : w3.cell? ⟨w1.heap.size, 1, none⟩ = some (.int .i64 line) := HL3.out.cell 1
  have c2 : w3.cell? ⟨w1.heap.size, 2, none⟩ = some (.int .i64 code) := HL3.out.cell 2
  have HB4 : Hid (∀ o, Below w.heap.size w (w3.alloc o)) := fun o => deep.below_tr HB3.out (deep.below_one _ _)
  go_wp2_with fail
  refine Calls.mono (HEQ.out _ _ _) ?_
  rintro e w5 ⟨rfl, hb5⟩
  have HB5 : Hid (Below w.heap.size w w5) := deep.below_tr (HB4.out _) hb5
  clear hb5
  go_wp2_with fail
  go_ret
  exact ⟨rfl, HB5.out⟩

set_option maxRecDepth 100000 in
theorem contract (H : Type) (enc : TypeId × Value → H) (W : World) (base : Nat) (args : Array Value) (ds gs : List (DataW H)) (before : List MemPlace)
    (hval : ∀ (j : Nat) t v, Tryd.f4.params[j]? = some t → args[j]? = some v → Value.okWide Tryd.prog W .any base t v)
    (hW : DataW.Whole enc Tryd.prog Tryd.f4.params.toList Rows.fnExactScriptFaultSpec.vars false W args.toList ds gs before) (hL : laidMet Tryd.prog Rows.fnExactScriptFaultRow.laid W) (hsh : World.ShapedOpen Tryd.prog W) :
    Calls Tryd.prog 4 args W fun e W' => ∃ v, e = .returned v ∧ Rows.fnExactScriptFaultSpec.post enc Tryd.prog Tryd.f4 false true false false W args v W' := by
  have hW' := hW
  obtain ⟨p, q, hA0, hV, rfl, hfz, hnd⟩ := hW
  have hA : DataW.TrodAll enc Tryd.prog W 0 (fun _ => true) true Tryd.f4.params.toList args.toList ds p := hA0
  rw [Tryd.params4] at hA hval
  obtain ⟨v0, vs0, d0, ds0, p0, q0, hargs, rfl, rfl, h0, r0⟩ := trodAll_cons hA
  obtain ⟨rfl, rfl, rfl⟩ := trodAll_nil r0
  obtain rfl : args = #[v0] := by cases args; simp_all
  obtain ⟨_, _, _, _, y0, _, _, _, _, _, y1, _, hgs, _⟩ := trodVars_two hV
  subst hgs
  obtain ⟨a0, rfl, rfl, rfl, w0⟩ := open_string Tryd.underlying9 (hval 0 9 v0 rfl rfl) h0
  clear hA0
  simp only [List.append_nil] at hW'
  refine (walk a0 w0 W (say_of hL.tail hsh)).mono fun e W' ⟨he, hg⟩ => ?_
  subst he
  exact ⟨_, rfl, _, _, _, [], [], _, hW', (trodAll_cons_mk (shut_bool Tryd.underlying4 _) trodAll_mk0), (trodAll_cons_mk (shut_string Tryd.underlying9 w0) trodAll_mk0), Below.trodVars laidOutL hg (by kernel_rfl) hV, hg.frame _, fun h => by cases h⟩

set_option maxRecDepth 100000 in
theorem lifted (os : Os) (started : os.Started) (H : Type) (enc : TypeId × Value → H) (F : Stop.Interp) :
    ReturnsInHanded {} Tryd.checked os 4 .any ((OpenSpec.ofChange Rows.fnExactScriptFaultSpec).preRow enc Tryd.prog Tryd.f4 Rows.fnExactScriptFaultRow.domain false Rows.fnExactScriptFaultRow.laid) (((OpenSpec.ofChange Rows.fnExactScriptFaultSpec).at F).post enc Tryd.prog Tryd.f4 false true false false) := by
  refine returnsInHanded_of_row (C := Tryd.checked) (s := OpenSpec.ofChange Rows.fnExactScriptFaultSpec) own started (by kernel_rfl) Tryd.func4
    (witness_row_at (enc := enc) (C := Tryd.checked) false (laidWorld2 os) #[.string ByteArray.empty] rfl (by kernel_rfl) (by kernel_rfl) (by kernel_rfl)
      (OpenSpec.preRow_of_B rfl 8 (by kernel_rfl) (by kernel_rfl) (met_scriptf os _))) ?_
  intro W base args ds gs before hval hW _ _ _ hL hsh _
  exact contract H enc W base args ds gs before hval hW hL hsh

theorem said : Rows.FnExactScriptFaultSaid :=
  OpenClaim.holds_of_cond 4 Tryd.f4 rfl rfl rfl rfl rfl rfl rfl ⟨rfl, rfl, rfl, rfl, rfl⟩ rfl rfl rfl rfl rfl (by kernel_rfl) Tryd.func4 (by kernel_rfl)
    (of_decide_eq_true (by kernel_rfl)) (by unfold Func.isWrapper; first | (rw [if_pos (by decide +kernel)]; kernel_rfl) | (rw [if_neg (by decide +kernel)]; exact ⟨rfl, rfl⟩))
    (fun os started H enc _ F => by rw [OpenClaim.pre_eq_preRow]; exact lifted os started H enc F)

theorem plain (f : FuncId) (fn : Func) (hf : Tryd.pinned.checked.prog.funcNamed "loop.example/g00740/laws.FnExactScriptFault" = some f) (hfn : Tryd.pinned.checked.prog.funcs[f]? = some fn) :
    true = Tryd.pinned.checked.prog.looks [] ∧ ∀ (j : Nat) t, fn.params[j]? = some t → Tryd.pinned.checked.prog.wantsStandIn t = false := by
  obtain rfl : f = 4 := Option.some.inj ((show Tryd.prog.funcNamed "loop.example/g00740/laws.FnExactScriptFault" = some 4 by kernel_rfl).symm.trans hf) |>.symm
  obtain rfl : fn = Tryd.f4 := (Option.some.inj (Tryd.func4.symm.trans hfn)).symm
  refine ⟨by kernel_rfl, fun j t ht => ?_⟩
  rw [Tryd.params4] at ht
  have h2 : t = 9 := by simpa using Array.mem_of_getElem? ht
  obtain rfl := h2
  exact (show Tryd.prog.wantsStandIn 9 = false by kernel_rfl)

/-- the card -/
theorem proved : Rows.FnExactScriptFaultCardSaid :=
  Claim7.holds_tied_plain_at .later [] _ _ _ _ said (fun _ h => by cases h) (by kernel_rfl) (fun _ h => by cases h) fnExactScriptFault_row_tie rfl ⟨rfl, rfl⟩ (by kernel_rfl) rfl plain (by kernel_rfl)
#print axioms proved
end Go.Proofs.YtacfhchmoiphfaaDoor.fnExactScriptFault
