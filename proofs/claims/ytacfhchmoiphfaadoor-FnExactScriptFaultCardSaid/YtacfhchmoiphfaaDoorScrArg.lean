/-
  What stands for a letter in a call's text: the specification's l12Arg. Conditions: the numbers are numbers of 64 bits.
-/
import Derived.Test.YtacfhchmoiphfaaDoorScrName
namespace Go.Proofs.YtacfhchmoiphfaaDoor.scr
open Go.RowKit Go.Deep Go.Sort
open Go.Proofs.YtacfhchmoiphfaaDoor
open Go.Proofs.YtacfhchmoiphfaaDoor.deep (Blk)
open Go.Proofs.YtacfhchmoiphfaaDoor.call (CallD ccall)
set_option linter.unusedVariables false
set_option maxRecDepth 100000

/-- what stands for a letter -/
def argT (c : CallD) (a : Int) : ByteArray :=
  if a = 65 then refT c.q2 c.q3 else if a = 66 then refT c.q4 c.q5 else if a = 75 then kindB c.q6 else if a = 76 then ltext.textS c.q7 else if a = 88 then decB c.q6 else if a = 89 then decB c.q7 else decB c.q8
def I64 (n : Int) : Prop := -9223372036854775808 ≤ n ∧ n ≤ 9223372036854775807
structure Small (c : CallD) : Prop where
  q3 : I64 c.q3
  q5 : I64 c.q5
  q6 : I64 c.q6
  q7 : I64 c.q7
  q8 : I64 c.q8
theorem ref_size (l n : Int) : (refT l n).size ≤ 26 := by
  unfold refT
  split
  · rename_i h
    have hn : 0 ≤ n ∧ n ≤ 999 := by
      simp only [call.refB, Bool.and_eq_true] at h
      exact call.isB_yes h.2
    have h1 := text_size l
    have h2 := dec_size n (by omega) (by omega)
    rw [ByteArray.size_append, ByteArray.size_append]
    have : dot.size = 1 := rfl
    omega
  · decide
theorem arg_size (c : CallD) (h : Small c) (a : Int) : (argT c a).size ≤ 26 := by
  unfold argT
  have h6 := dec_size c.q6 h.q6.1 h.q6.2
  have h7 := dec_size c.q7 h.q7.1 h.q7.2
  have h8 := dec_size c.q8 h.q8.1 h.q8.2
  have := kind_size c.q6
  have := text_size c.q7
  split; exact ref_size _ _
  split; exact ref_size _ _
  split; omega
  split; omega
  split; omega
  split; omega
  omega

set_option maxHeartbeats 4000000 in
theorem spec_arg (c : CallD) (h : Small c) (a : Int) (h0 : 0 ≤ a) (h1 : a < 256) (w : World) : Calls Tryd.prog 34 #[.agg (ccall c).toArray, .int .u8 a] w fun e w' => e = .returned (.string (argT c a)) ∧ Below w.heap.size w w' := by
  have HR : Hid (∀ l n W, Calls Tryd.prog 16 #[.agg #[.int .i64 l, .int .i64 n]] W fun e w' => e = .returned (.string (refT l n)) ∧ Below W.heap.size W w') := fun l n W => spec_reft l n W
  have HT : Hid (∀ l W, Calls Tryd.prog 33 #[.int .i64 l] W fun e w' => e = .returned (.string (ltext.textS l)) ∧ w' = W) := fun l W => ltext.spec_text l W
  have HK : Hid (∀ l W, Calls Tryd.prog 56 #[.int .i64 l] W fun e w' => e = .returned (.string (kindB l)) ∧ w' = W) := fun l W => spec_kind l W
  have HD : Hid (∀ n W, I64 n → Calls Tryd.prog 40 #[.int .i64 n] W fun e w' => e = .returned (.string (decB n)) ∧ Below W.heap.size W w') := fun n W h => spec_dec n h.1 h.2 W
  have H6 : Hid (I64 c.q6) := h.q6
  have H7 : Hid (I64 c.q7) := h.q7
  have H8 : Hid (I64 c.q8) := h.q8
  clear h
  obtain ⟨q0, q1, q2, q3, q4, q5, q6, q7, q8⟩ := c
  simp only [ccall, argT] at *
  have HB : Hid (Below w.heap.size w (w.alloc (.cells #[.int .i64 q0, .int .i64 q1, .int .i64 q2, .int .i64 q3, .int .i64 q4, .int .i64 q5, .int .i64 q6, .int .i64 q7, .int .i64 q8] 26))) := below_one w _
  by_cases e65 : a = 65
  · subst e65
    have er : (if (65 : Int) = 65 then refT q2 q3 else if (65 : Int) = 66 then refT q4 q5 else if (65 : Int) = 75 then kindB q6 else if (65 : Int) = 76 then ltext.textS q7 else if (65 : Int) = 88 then decB q6 else if (65 : Int) = 89 then decB q7 else decB q8) = refT q2 q3 := by simp
    rw [er]
    clear er
    go_enter Tryd.func34, Tryd.ntmps34
    go_wp2_with fail
    refine Calls.mono (HR.out _ _ _) ?_
    rintro e w1 ⟨rfl, hb1⟩
    have HB1 : Hid (Below w.heap.size w w1) := below_tr HB.out hb1
    clear hb1
    go_wp2_with fail
    go_ret
    exact ⟨rfl, HB1.out⟩
  by_cases e66 : a = 66
  · subst e66
    have er : (if (66 : Int) = 65 then refT q2 q3 else if (66 : Int) = 66 then refT q4 q5 else if (66 : Int) = 75 then kindB q6 else if (66 : Int) = 76 then ltext.textS q7 else if (66 : Int) = 88 then decB q6 else if (66 : Int) = 89 then decB q7 else decB q8) = refT q4 q5 := by simp
    rw [er]
    clear er
    go_enter Tryd.func34, Tryd.ntmps34
    go_wp2_with fail
    refine Calls.mono (HR.out _ _ _) ?_
    rintro e w1 ⟨rfl, hb1⟩
    have HB1 : Hid (Below w.heap.size w w1) := below_tr HB.out hb1
    clear hb1
    go_wp2_with fail
    go_ret
    exact ⟨rfl, HB1.out⟩
  by_cases e75 : a = 75
  · subst e75
    have er : (if (75 : Int) = 65 then refT q2 q3 else if (75 : Int) = 66 then refT q4 q5 else if (75 : Int) = 75 then kindB q6 else if (75 : Int) = 76 then ltext.textS q7 else if (75 : Int) = 88 then decB q6 else if (75 : Int) = 89 then decB q7 else decB q8) = kindB q6 := by simp
    rw [er]
    clear er
    go_enter Tryd.func34, Tryd.ntmps34
    go_wp2_with fail
    refine Calls.mono (HK.out _ _) ?_
    rintro e w1 ⟨rfl, rfl⟩
    have HB1 : Hid _ := HB
    go_wp2_with fail
    go_ret
    exact ⟨rfl, HB1.out⟩
  by_cases e76 : a = 76
  · subst e76
    have er : (if (76 : Int) = 65 then refT q2 q3 else if (76 : Int) = 66 then refT q4 q5 else if (76 : Int) = 75 then kindB q6 else if (76 : Int) = 76 then ltext.textS q7 else if (76 : Int) = 88 then decB q6 else if (76 : Int) = 89 then decB q7 else decB q8) = ltext.textS q7 := by simp
    rw [er]
    clear er
    go_enter Tryd.func34, Tryd.ntmps34
    go_wp2_with fail
    refine Calls.mono (HT.out _ _) ?_
    rintro e w1 ⟨rfl, rfl⟩
    have HB1 : Hid _ := HB
    go_wp2_with fail
    go_ret
    exact ⟨rfl, HB1.out⟩
  by_cases e88 : a = 88
  · subst e88
    have er : (if (88 : Int) = 65 then refT q2 q3 else if (88 : Int) = 66 then refT q4 q5 else if (88 : Int) = 75 then kindB q6 else if (88 : Int) = 76 then ltext.textS q7 else if (88 : Int) = 88 then decB q6 else if (88 : Int) = 89 then decB q7 else decB q8) = decB q6 := by simp
    rw [er]
    clear er
    go_enter Tryd.func34, Tryd.ntmps34
    go_wp2_with fail
    refine Calls.mono (HD.out _ _ H6.out) ?_
    rintro e w1 ⟨rfl, hb1⟩
    have HB1 : Hid (Below w.heap.size w w1) := below_tr HB.out hb1
    clear hb1
    go_wp2_with fail
    go_ret
    exact ⟨rfl, HB1.out⟩
  by_cases e89 : a = 89
  · subst e89
    have er : (if (89 : Int) = 65 then refT q2 q3 else if (89 : Int) = 66 then refT q4 q5 else if (89 : Int) = 75 then kindB q6 else if (89 : Int) = 76 then ltext.textS q7 else if (89 : Int) = 88 then decB q6 else if (89 : Int) = 89 then decB q7 else decB q8) = decB q7 := by simp
    rw [er]
    clear er
    go_enter Tryd.func34, Tryd.ntmps34
    go_wp2_with fail
    refine Calls.mono (HD.out _ _ H7.out) ?_
    rintro e w1 ⟨rfl, hb1⟩
    have HB1 : Hid (Below w.heap.size w w1) := below_tr HB.out hb1
    clear hb1
    go_wp2_with fail
    go_ret
    exact ⟨rfl, HB1.out⟩
  rw [if_neg e65, if_neg e66, if_neg e75, if_neg e76, if_neg e88, if_neg e89]
  have g65 : (a == 65) = false := by simp; omega
  have g66 : (a == 66) = false := by simp; omega
  have g75 : (a == 75) = false := by simp; omega
  have g76 : (a == 76) = false := by simp; omega
  have g88 : (a == 88) = false := by simp; omega
  have g89 : (a == 89) = false := by simp; omega
  clear e65 e66 e75 e76 e88 e89
  go_enter Tryd.func34, Tryd.ntmps34
  go_wp2_with fail
  refine Calls.mono (HD.out _ _ H8.out) ?_
  rintro e w1 ⟨rfl, hb1⟩
  have HB1 : Hid (Below w.heap.size w w1) := below_tr HB.out hb1
  clear hb1
  go_wp2_with fail
  go_ret
  exact ⟨rfl, HB1.out⟩
end Go.Proofs.YtacfhchmoiphfaaDoor.scr
