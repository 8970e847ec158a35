/-
  The law FnExactLabelsTo answers true at every number of 64 bits: LabelsTo answers as the specification, and its answer owns its memory. Conditions: none.
-/
import Derived.Test.YtpiankpopgndhabRows
import Derived.Test.YtpiankpopgndhabLabelsTo
import Derived.Test.YtpiankpopgndhabIntRows
import Derived.WalkKit
import Derived.ProofKit
import Derived.OpenShut
import Derived.ShutString
import Derived.Below
namespace Go.Proofs.Ytpiankpopgndhab.fnExactLabelsTo
open Go.ChangeShapes Go.WideShapes Go.ChangeAt Go.RowKit
open Go.ChangeMaps (open_string shut_string)
set_option linter.unusedVariables false      -- a walk need not use every 'w<i>' (that an integer argument fits its kind)

theorem own : ownKnob Try.prog.godebug = none := by kernel_rfl

theorem walk (a0 : Int) (w0 : (Lit.int .i64 a0).wf = true) (w : World) :
    Calls Try.prog 3 #[.int .i64 a0] w fun e w' => e = .returned (.bool true) ∧ Below w.heap.size w w' := by
  have hs := fun W => lto.spec_to a0 W
  have hi := fun W => lto.impl_to a0 W
  have hl : (lto.numsTo a0).length ≤ 16 := lto.upto_len a0 16
  generalize lto.numsTo a0 = xs at hs hi hl
  have HS : Hid _ := hs
  have HI : Hid _ := hi
  have hn : xs.length ≤ 1000000000 := by omega
  have HN : Hid _ := hn
  clear hs hi hn
  go_enter Try.func3, Try.ntmps3
  go_wp2_with fail
  refine (HS.out _).mono ?_
  rintro e w1 ⟨v1, rfl, r1, b1⟩
  go_wp2_with fail
  refine (HI.out _).mono ?_
  rintro e w2 ⟨v2, rfl, r2, b2⟩
  have R1 : Hid (irows.Row w1 w.heap.size v1 xs) := r1
  have R2 : Hid (irows.Row w2 w1.heap.size v2 xs) := r2
  have B1 : Hid _ := b1
  have B2 : Hid _ := b2
  clear r1 r2 b1 b2
  go_wp2_with fail
  refine (irows.eq_rows R2.out (R1.out.later B2.out) HN.out).mono ?_
  rintro e w3 ⟨rfl, b3⟩
  have B3 : Hid _ := b3
  clear b3
  go_wp2_with fail
  refine (irows.mark_row (k := 1) (R2.out.later B3.out) HN.out (by omega) (by omega)).mono ?_
  rintro e w4 ⟨rfl, r4, b4, s4⟩
  have R4 : Hid (irows.Row w4 w1.heap.size v2 (irows.run 1 xs.length)) := r4
  have B14 : Hid (Below w1.heap.size w1 w4) := (B2.out.trans (B3.out.mono B2.out.size)).trans b4
  clear r4 b4 s4
  go_wp2_with fail
  refine (irows.held_row (k := 1) R4.out HN.out (by omega) (by omega)).mono ?_
  rintro e w5 ⟨rfl, rfl⟩
  go_wp2_with fail
  refine (HI.out _).mono ?_
  rintro e w6 ⟨v6, rfl, r6, b6⟩
  have R6 : Hid (irows.Row w6 w5.heap.size v6 xs) := r6
  have B6 : Hid _ := b6
  clear r6 b6
  go_wp2_with fail
  refine (irows.eq_rows R6.out (R1.out.later (B14.out.trans (B6.out.mono B14.out.size))) HN.out).mono ?_
  rintro e w7 ⟨rfl, b7⟩
  have B7 : Hid _ := b7
  clear b7
  go_wp2_with fail
  refine (irows.held_row (k := 1) ((R4.out.later B6.out).later B7.out) HN.out (by omega) (by omega)).mono ?_
  rintro e w8 ⟨rfl, rfl⟩
  go_wp2
  go_ret
  have s1 := B1.out.size
  have s14 := B14.out.size
  have s6 := B6.out.size
  exact ⟨rfl, ((B1.out.trans (B14.out.mono s1)).trans (B6.out.mono (by omega))).trans (B7.out.mono (by omega))⟩

set_option maxRecDepth 100000 in
theorem lifted (os : Os) (started : os.Started) (H : Type) (enc : TypeId × Value → H) :
    ReturnsInHanded {} Try.checked os 3 .any (Rows.fnExactLabelsToSpec.pre6 enc Try.prog Try.f3 Rows.fnExactLabelsToRow.domain false) (Rows.fnExactLabelsToSpec.post enc Try.prog Try.f3 false true false false) := by
  refine returnsInHanded_of_change (C := Try.checked) own started (by kernel_rfl) Try.func3
    (ChangeSpec.witness6 (enc := enc) (C := Try.checked) false ⟨#[], #[.int .i64 0], []⟩ 8 (by kernel_rfl) (by kernel_rfl) (by kernel_rfl) (by kernel_rfl)) ?_
  intro W base args ds gs before hval0 hW hcnd _
  have hval : ∀ (j : Nat) t v, Try.f3.params[j]? = some t → args[j]? = some v → Value.okWide Try.prog W .any base t v := hval0
  have hW' := hW
  obtain ⟨p, q, hA0, hV, rfl, hfz, hnd⟩ := hW
  have hA : DataW.TrodAll enc Try.prog W 0 (fun _ => true) true Try.f3.params.toList args.toList ds p := hA0
  rw [Try.params3] at hA hval
  obtain ⟨v0, vs0, d0, ds0, p0, q0, hargs, rfl, rfl, h0, r0⟩ := trodAll_cons hA
  obtain ⟨rfl, rfl, rfl⟩ := trodAll_nil r0
  obtain rfl : args = #[v0] := by cases args; simp_all
  obtain ⟨rfl, rfl⟩ := trodVars_none hV
  obtain ⟨a0, rfl, rfl, rfl, w0⟩ := open_int Try.underlying2 (hval 0 2 v0 rfl rfl) h0
  clear hA0 hval0
  simp only [List.append_nil] at hW'
  refine (walk a0 w0 W).mono fun e W' ⟨he, hg⟩ => ?_
  subst he
  exact ⟨_, rfl, _, _, _, [], [], [], hW', (trodAll_cons_mk (shut_bool Try.underlying4 _) trodAll_mk0), (trodAll_cons_mk (shut_int Try.underlying2 w0) trodAll_mk0), rfl, hg.frame _, fun h => by cases h⟩

theorem over : Rows.fnExactLabelsToRow.holds Try.pinned (OpenSpec.ofChange Rows.fnExactLabelsToSpec) :=
  OpenClaim.holds_of_wide 3 Try.f3 rfl rfl rfl rfl rfl rfl rfl ⟨rfl, rfl, rfl, rfl, rfl⟩ rfl rfl rfl rfl rfl (by kernel_rfl) Try.func3 (by kernel_rfl)
    (of_decide_eq_true (by kernel_rfl)) (by unfold Func.isWrapper; first | (rw [if_pos (by decide +kernel)]; kernel_rfl) | (rw [if_neg (by decide +kernel)]; exact ⟨rfl, rfl⟩))
    (fun os started H enc _ => lifted os started H enc)

/-- the statement -/
theorem proved : Rows.FnExactLabelsToSaid :=
  over
#print axioms proved
end Go.Proofs.Ytpiankpopgndhab.fnExactLabelsTo
