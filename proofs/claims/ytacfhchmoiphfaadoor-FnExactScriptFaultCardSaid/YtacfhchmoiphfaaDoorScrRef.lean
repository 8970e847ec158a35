/-
  RefText of the specification, at every Ref. No condition.
-/
import Derived.Test.YtacfhchmoiphfaaDoorScrDec
import Derived.Test.YtacfhchmoiphfaaDoorCall
import Derived.Test.YtacfhchmoiphfaaDoorLabelText
import Derived.Deep.RegionHeld3
import Derived.Lib.QuietBelow
import Derived.BigQuiet
namespace Go.Proofs.YtacfhchmoiphfaaDoor.scr
open Go.RowKit Go.Deep Go.Sort
open Go.Proofs.YtacfhchmoiphfaaDoor
set_option linter.unusedVariables false
set_option maxRecDepth 100000

/-- a number in digits -/
def decB (n : Int) : ByteArray := ⟨(Lib.itoa n).toArray⟩
def dot : ByteArray := ⟨#[46]⟩
/-- the text of a Ref -/
def refT (l n : Int) : ByteArray := if call.refB l n then ltext.textS l ++ dot ++ decB n else ⟨#[]⟩
theorem text_size (l : Int) : (ltext.textS l).size ≤ 4 := by
  unfold ltext.textS
  split
  · rename_i h
    have h1 := label.right_yes l h
    have h2 : l.toNat < 16 := by omega
    unfold ltext.textN
    split
    · decide
    · exact ltext.size_all l.toNat h2 4 (by decide)
  · decide
theorem dec_size (n : Int) (h0 : -9223372036854775808 ≤ n) (h1 : n ≤ 9223372036854775807) : (decB n).size ≤ 21 := by
  have := Lib.itoa_length_le n h0 h1
  show (Lib.itoa n).toArray.size ≤ 21
  simpa using this
set_option maxHeartbeats 2000000 in
theorem spec_reft (l n : Int) (w : World) : Calls Tryd.prog 16 #[.agg #[.int .i64 l, .int .i64 n]] w fun e w' => e = .returned (.string (refT l n)) ∧ Below w.heap.size w w' := by
  have HR : Hid (∀ W, Calls Tryd.prog 43 #[.agg #[.int .i64 l, .int .i64 n]] W fun e w' => e = .returned (.bool (call.refB l n)) ∧ Below W.heap.size W w') := fun W => call.spec_ref l n W
  cases h : call.refB l n with
  | false =>
    rw [h] at HR
    have e : refT l n = ⟨#[]⟩ := by simp [refT, h]
    rw [e]
    clear h e
    go_enter Tryd.func16, Tryd.ntmps16
    go_wp2_with fail
    refine Calls.mono (HR.out _) ?_
    rintro e w1 ⟨rfl, hb1⟩
    have HB1 : Hid (Below w.heap.size w w1) := below_tr (below_one w _) hb1
    clear hb1
    go_wp2_with fail
    go_ret
    exact ⟨rfl, HB1.out⟩
  | true =>
    rw [h] at HR
    have hn : 0 ≤ n ∧ n ≤ 999 := by
      simp only [call.refB, Bool.and_eq_true] at h
      exact call.isB_yes h.2
    have e : refT l n = ltext.textS l ++ dot ++ decB n := by simp [refT, h]
    rw [e]
    have HT : Hid (∀ W, Calls Tryd.prog 33 #[.int .i64 l] W fun e w' => e = .returned (.string (ltext.textS l)) ∧ Below W.heap.size W w') := fun W => (ltext.spec_text l W).mono fun e w' h => ⟨h.1, by rw [h.2]; exact Below.refl _ _⟩
    have HD : Hid (∀ W, Calls Tryd.prog 40 #[.int .i64 n] W fun e w' => e = .returned (.string (decB n)) ∧ Below W.heap.size W w') := fun W => spec_dec n (by omega) (by omega) W
    have hz1 := text_size l
    have hz2 := dec_size n (by omega) (by omega)
    generalize ltext.textS l = s1 at *
    generalize decB n = s2 at *
    unfold dot
    clear h e hn
    go_enter Tryd.func16, Tryd.ntmps16
    go_wp2_with fail
    refine Calls.mono (HR.out _) ?_
    rintro e w1 ⟨rfl, hb1⟩
    have HB1 : Hid (Below w.heap.size w w1) := below_tr (below_one w _) hb1
    have HX : Hid (deep.Blk w1 w.heap.size 24 [.int .i64 l, .int .i64 n]) := (deep.blk_new w _ _).later hb1
    have e0 : w1.cell? ⟨w.heap.size, 0, none⟩ = some (.int .i64 l) := HX.out.cell 0
    have e1 : w1.cell? ⟨w.heap.size, 1, none⟩ = some (.int .i64 n) := HX.out.cell 1
    have ke0 := cell_regrown e0
    have ke1 := cell_regrown e1
    have cT : ∀ d os, _ := fun d os => Calls.regrown_of (w := w1) (d := d) (os := os) (HT.out _)
    have cD : ∀ d os, _ := fun d os => Calls.regrown_of (w := w1) (d := d) (os := os) (HD.out _)
    clear hb1
    go_wp2_with fail
    refine wp_region_quiet_below (by kernel_rfl) (by kernel_rfl) ?_
    repeat (go_big_quiet_step (first | (go_at_call 33; exact cT _ _) | (go_at_call 40; exact cD _ _)))
    refine wpQuiet_nil ?_
    intro _ hw'
    obtain ⟨⟨dq, osq⟩, hw''⟩ := hw'
    subst hw''
    have HB2 : Hid (Below w.heap.size w (grow (redrawn w1 dq) osq)) := HB1.out.trans ((below_regrown w1 dq osq).mono HB1.out.size)
    go_wp2_with fail
    go_ret
    exact ⟨rfl, HB2.out⟩
end Go.Proofs.YtacfhchmoiphfaaDoor.scr
