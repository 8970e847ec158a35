/-
  What stands for a letter in a call's text: the program's part. Conditions: the numbers are numbers of 64 bits; the library's table of powers and the program's tables read as their texts lay them.
-/
import Derived.Test.YtlojigfhbfemfaaDoorScrPow
import Derived.Test.YtlojigfhbfemfaaDoorScrSay
namespace Go.Proofs.YtlojigfhbfemfaaDoor.scr
open Go.RowKit Go.Deep Go.Sort
open Go.Proofs.YtlojigfhbfemfaaDoor
open Go.Proofs.YtlojigfhbfemfaaDoor.deep (Blk)
open Go.Proofs.YtlojigfhbfemfaaDoor.call (CallD ccall)
set_option linter.unusedVariables false
set_option maxRecDepth 100000

set_option maxHeartbeats 2000000 in
theorem ipart_A (c : CallD) (h : Small c) (w : World) (hp : Pow w) (hS : Say w) : Calls Tryd.prog 51 #[.agg (ccall c).toArray, .int .i32 65] w fun e w' => e = .returned (.string (argT c 65)) ∧ Below w.heap.size w w' := by
  obtain ⟨q0, q1, q2, q3, q4, q5, q6, q7, q8⟩ := c
  simp only [ccall] at *
  have er : argT ⟨q0, q1, q2, q3, q4, q5, q6, q7, q8⟩ 65 = refT q2 q3 := by simp [argT]
  rw [er]
  have HB : Hid (Below w.heap.size w (w.alloc (.cells #[.int .i64 q0, .int .i64 q1, .int .i64 q2, .int .i64 q3, .int .i64 q4, .int .i64 q5, .int .i64 q6, .int .i64 q7, .int .i64 q8] 32))) := below_one w _
  have HP : Hid (Pow (w.alloc (.cells #[.int .i64 q0, .int .i64 q1, .int .i64 q2, .int .i64 q3, .int .i64 q4, .int .i64 q5, .int .i64 q6, .int .i64 q7, .int .i64 q8] 32))) := hp.alloc _
  have HS : Hid (Say (w.alloc (.cells #[.int .i64 q0, .int .i64 q1, .int .i64 q2, .int .i64 q3, .int .i64 q4, .int .i64 q5, .int .i64 q6, .int .i64 q7, .int .i64 q8] 32))) := hS.alloc _
  clear er h hp hS
  go_enter Tryd.func51, Tryd.ntmps51
  go_wp2_with fail
  refine Calls.mono (impl_reft _ _ _ HP.out) ?_
  rintro e w1 ⟨rfl, hb1⟩
  have HB1 : Hid (Below w.heap.size w w1) := below_tr HB.out hb1
  clear hb1
  go_wp2_with fail
  go_ret
  exact ⟨rfl, HB1.out⟩
set_option maxHeartbeats 2000000 in
theorem ipart_B (c : CallD) (h : Small c) (w : World) (hp : Pow w) (hS : Say w) : Calls Tryd.prog 51 #[.agg (ccall c).toArray, .int .i32 66] w fun e w' => e = .returned (.string (argT c 66)) ∧ Below w.heap.size w w' := by
  obtain ⟨q0, q1, q2, q3, q4, q5, q6, q7, q8⟩ := c
  simp only [ccall] at *
  have er : argT ⟨q0, q1, q2, q3, q4, q5, q6, q7, q8⟩ 66 = refT q4 q5 := by simp [argT]
  rw [er]
  have HB : Hid (Below w.heap.size w (w.alloc (.cells #[.int .i64 q0, .int .i64 q1, .int .i64 q2, .int .i64 q3, .int .i64 q4, .int .i64 q5, .int .i64 q6, .int .i64 q7, .int .i64 q8] 32))) := below_one w _
  have HP : Hid (Pow (w.alloc (.cells #[.int .i64 q0, .int .i64 q1, .int .i64 q2, .int .i64 q3, .int .i64 q4, .int .i64 q5, .int .i64 q6, .int .i64 q7, .int .i64 q8] 32))) := hp.alloc _
  have HS : Hid (Say (w.alloc (.cells #[.int .i64 q0, .int .i64 q1, .int .i64 q2, .int .i64 q3, .int .i64 q4, .int .i64 q5, .int .i64 q6, .int .i64 q7, .int .i64 q8] 32))) := hS.alloc _
  clear er h hp hS
  go_enter Tryd.func51, Tryd.ntmps51
  go_wp2_with fail
  refine Calls.mono (impl_reft _ _ _ HP.out) ?_
  rintro e w1 ⟨rfl, hb1⟩
  have HB1 : Hid (Below w.heap.size w w1) := below_tr HB.out hb1
  clear hb1
  go_wp2_with fail
  go_ret
  exact ⟨rfl, HB1.out⟩
set_option maxHeartbeats 2000000 in
theorem ipart_K (c : CallD) (h : Small c) (w : World) (hp : Pow w) (hS : Say w) : Calls Tryd.prog 51 #[.agg (ccall c).toArray, .int .i32 75] w fun e w' => e = .returned (.string (argT c 75)) ∧ Below w.heap.size w w' := by
  obtain ⟨q0, q1, q2, q3, q4, q5, q6, q7, q8⟩ := c
  simp only [ccall] at *
  have er : argT ⟨q0, q1, q2, q3, q4, q5, q6, q7, q8⟩ 75 = kindB q6 := by simp [argT]
  rw [er]
  have HB : Hid (Below w.heap.size w (w.alloc (.cells #[.int .i64 q0, .int .i64 q1, .int .i64 q2, .int .i64 q3, .int .i64 q4, .int .i64 q5, .int .i64 q6, .int .i64 q7, .int .i64 q8] 32))) := below_one w _
  have HP : Hid (Pow (w.alloc (.cells #[.int .i64 q0, .int .i64 q1, .int .i64 q2, .int .i64 q3, .int .i64 q4, .int .i64 q5, .int .i64 q6, .int .i64 q7, .int .i64 q8] 32))) := hp.alloc _
  have HS : Hid (Say (w.alloc (.cells #[.int .i64 q0, .int .i64 q1, .int .i64 q2, .int .i64 q3, .int .i64 q4, .int .i64 q5, .int .i64 q6, .int .i64 q7, .int .i64 q8] 32))) := hS.alloc _
  clear er h hp hS
  go_enter Tryd.func51, Tryd.ntmps51
  go_wp2_with fail
  refine Calls.mono (impl_kind _ _ HS.out) ?_
  rintro e w1 ⟨rfl, rfl⟩
  go_wp2_with fail
  go_ret
  exact ⟨rfl, HB.out⟩
set_option maxHeartbeats 2000000 in
theorem ipart_L (c : CallD) (h : Small c) (w : World) (hp : Pow w) (hS : Say w) : Calls Tryd.prog 51 #[.agg (ccall c).toArray, .int .i32 76] w fun e w' => e = .returned (.string (argT c 76)) ∧ Below w.heap.size w w' := by
  obtain ⟨q0, q1, q2, q3, q4, q5, q6, q7, q8⟩ := c
  simp only [ccall] at *
  have er : argT ⟨q0, q1, q2, q3, q4, q5, q6, q7, q8⟩ 76 = ltext.textS q7 := by simp [argT]
  rw [er]
  have HB : Hid (Below w.heap.size w (w.alloc (.cells #[.int .i64 q0, .int .i64 q1, .int .i64 q2, .int .i64 q3, .int .i64 q4, .int .i64 q5, .int .i64 q6, .int .i64 q7, .int .i64 q8] 32))) := below_one w _
  have HP : Hid (Pow (w.alloc (.cells #[.int .i64 q0, .int .i64 q1, .int .i64 q2, .int .i64 q3, .int .i64 q4, .int .i64 q5, .int .i64 q6, .int .i64 q7, .int .i64 q8] 32))) := hp.alloc _
  have HS : Hid (Say (w.alloc (.cells #[.int .i64 q0, .int .i64 q1, .int .i64 q2, .int .i64 q3, .int .i64 q4, .int .i64 q5, .int .i64 q6, .int .i64 q7, .int .i64 q8] 32))) := hS.alloc _
  clear er h hp hS
  go_enter Tryd.func51, Tryd.ntmps51
  go_wp2_with fail
  refine Calls.mono (ltext.impl_text _ _) ?_
  rintro e w1 ⟨rfl, hb1⟩
  have HB1 : Hid (Below w.heap.size w w1) := below_tr HB.out hb1
  clear hb1
  go_wp2_with fail
  go_ret
  exact ⟨rfl, HB1.out⟩
set_option maxHeartbeats 2000000 in
theorem ipart_X (c : CallD) (h : Small c) (w : World) (hp : Pow w) (hS : Say w) : Calls Tryd.prog 51 #[.agg (ccall c).toArray, .int .i32 88] w fun e w' => e = .returned (.string (argT c 88)) ∧ Below w.heap.size w w' := by
  have HI : Hid (I64 c.q6) := h.q6
  obtain ⟨q0, q1, q2, q3, q4, q5, q6, q7, q8⟩ := c
  simp only [ccall] at *
  have er : argT ⟨q0, q1, q2, q3, q4, q5, q6, q7, q8⟩ 88 = decB q6 := by simp [argT]
  rw [er]
  have HB : Hid (Below w.heap.size w (w.alloc (.cells #[.int .i64 q0, .int .i64 q1, .int .i64 q2, .int .i64 q3, .int .i64 q4, .int .i64 q5, .int .i64 q6, .int .i64 q7, .int .i64 q8] 32))) := below_one w _
  have HP : Hid (Pow (w.alloc (.cells #[.int .i64 q0, .int .i64 q1, .int .i64 q2, .int .i64 q3, .int .i64 q4, .int .i64 q5, .int .i64 q6, .int .i64 q7, .int .i64 q8] 32))) := hp.alloc _
  have HS : Hid (Say (w.alloc (.cells #[.int .i64 q0, .int .i64 q1, .int .i64 q2, .int .i64 q3, .int .i64 q4, .int .i64 q5, .int .i64 q6, .int .i64 q7, .int .i64 q8] 32))) := hS.alloc _
  clear er h hp hS
  go_enter Tryd.func51, Tryd.ntmps51
  go_wp2_with fail
  refine Calls.mono (impl_dec _ HI.out.1 HI.out.2 _ HP.out) ?_
  rintro e w1 ⟨rfl, hb1⟩
  have HB1 : Hid (Below w.heap.size w w1) := below_tr HB.out hb1
  clear hb1
  go_wp2_with fail
  go_ret
  exact ⟨rfl, HB1.out⟩
set_option maxHeartbeats 2000000 in
theorem ipart_Y (c : CallD) (h : Small c) (w : World) (hp : Pow w) (hS : Say w) : Calls Tryd.prog 51 #[.agg (ccall c).toArray, .int .i32 89] w fun e w' => e = .returned (.string (argT c 89)) ∧ Below w.heap.size w w' := by
  have HI : Hid (I64 c.q7) := h.q7
  obtain ⟨q0, q1, q2, q3, q4, q5, q6, q7, q8⟩ := c
  simp only [ccall] at *
  have er : argT ⟨q0, q1, q2, q3, q4, q5, q6, q7, q8⟩ 89 = decB q7 := by simp [argT]
  rw [er]
  have HB : Hid (Below w.heap.size w (w.alloc (.cells #[.int .i64 q0, .int .i64 q1, .int .i64 q2, .int .i64 q3, .int .i64 q4, .int .i64 q5, .int .i64 q6, .int .i64 q7, .int .i64 q8] 32))) := below_one w _
  have HP : Hid (Pow (w.alloc (.cells #[.int .i64 q0, .int .i64 q1, .int .i64 q2, .int .i64 q3, .int .i64 q4, .int .i64 q5, .int .i64 q6, .int .i64 q7, .int .i64 q8] 32))) := hp.alloc _
  have HS : Hid (Say (w.alloc (.cells #[.int .i64 q0, .int .i64 q1, .int .i64 q2, .int .i64 q3, .int .i64 q4, .int .i64 q5, .int .i64 q6, .int .i64 q7, .int .i64 q8] 32))) := hS.alloc _
  clear er h hp hS
  go_enter Tryd.func51, Tryd.ntmps51
  go_wp2_with fail
  refine Calls.mono (impl_dec _ HI.out.1 HI.out.2 _ HP.out) ?_
  rintro e w1 ⟨rfl, hb1⟩
  have HB1 : Hid (Below w.heap.size w w1) := below_tr HB.out hb1
  clear hb1
  go_wp2_with fail
  go_ret
  exact ⟨rfl, HB1.out⟩
set_option maxHeartbeats 2000000 in
theorem ipart_Z (c : CallD) (h : Small c) (w : World) (hp : Pow w) (hS : Say w) : Calls Tryd.prog 51 #[.agg (ccall c).toArray, .int .i32 90] w fun e w' => e = .returned (.string (argT c 90)) ∧ Below w.heap.size w w' := by
  have HI : Hid (I64 c.q8) := h.q8
  obtain ⟨q0, q1, q2, q3, q4, q5, q6, q7, q8⟩ := c
  simp only [ccall] at *
  have er : argT ⟨q0, q1, q2, q3, q4, q5, q6, q7, q8⟩ 90 = decB q8 := by simp [argT]
  rw [er]
  have HB : Hid (Below w.heap.size w (w.alloc (.cells #[.int .i64 q0, .int .i64 q1, .int .i64 q2, .int .i64 q3, .int .i64 q4, .int .i64 q5, .int .i64 q6, .int .i64 q7, .int .i64 q8] 32))) := below_one w _
  have HP : Hid (Pow (w.alloc (.cells #[.int .i64 q0, .int .i64 q1, .int .i64 q2, .int .i64 q3, .int .i64 q4, .int .i64 q5, .int .i64 q6, .int .i64 q7, .int .i64 q8] 32))) := hp.alloc _
  have HS : Hid (Say (w.alloc (.cells #[.int .i64 q0, .int .i64 q1, .int .i64 q2, .int .i64 q3, .int .i64 q4, .int .i64 q5, .int .i64 q6, .int .i64 q7, .int .i64 q8] 32))) := hS.alloc _
  clear er h hp hS
  go_enter Tryd.func51, Tryd.ntmps51
  go_wp2_with fail
  refine Calls.mono (impl_dec _ HI.out.1 HI.out.2 _ HP.out) ?_
  rintro e w1 ⟨rfl, hb1⟩
  have HB1 : Hid (Below w.heap.size w w1) := below_tr HB.out hb1
  clear hb1
  go_wp2_with fail
  go_ret
  exact ⟨rfl, HB1.out⟩
theorem impl_part (c : CallD) (h : Small c) (a : Int) (ha : Letter a) (w : World) (hp : Pow w) (hS : Say w) : Calls Tryd.prog 51 #[.agg (ccall c).toArray, .int .i32 a] w fun e w' => e = .returned (.string (argT c a)) ∧ Below w.heap.size w w' := by
  rcases ha with rfl | rfl | rfl | rfl | rfl | rfl | rfl
  · exact ipart_A c h w hp hS
  · exact ipart_B c h w hp hS
  · exact ipart_K c h w hp hS
  · exact ipart_L c h w hp hS
  · exact ipart_X c h w hp hS
  · exact ipart_Y c h w hp hS
  · exact ipart_Z c h w hp hS
end Go.Proofs.YtlojigfhbfemfaaDoor.scr
