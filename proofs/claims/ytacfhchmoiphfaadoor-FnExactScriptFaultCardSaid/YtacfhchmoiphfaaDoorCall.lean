/-
  A call made anew by the laws' helpers, and CallRight, the specification's and the program's, at every call. No condition.
-/
import Derived.Test.YtacfhchmoiphfaaDoorDeep
import Derived.Test.YtacfhchmoiphfaaDoorLabel
namespace Go.Proofs.YtacfhchmoiphfaaDoor.call
open Go.RowKit Go.Deep
open Go.Proofs.YtacfhchmoiphfaaDoor
open Go.Proofs.YtacfhchmoiphfaaDoor.deep
set_option linter.unusedVariables false


/-- is that a number from a to b? -/
def isB (n a b : Int) : Bool := decide (a ≤ n ∧ n ≤ b)
theorem isB_yes {n a b : Int} (h : isB n a b = true) : a ≤ n ∧ n ≤ b := by simpa [isB] using h
theorem isB_no {n a b : Int} (h : isB n a b = false) : n < a ∨ b < n := by simp [isB] at h; omega
def refB (l n : Int) : Bool := label.rightB l && isB n 0 999
/-- is a call right? -/
def callB (q0 q1 q2 q3 q4 q5 q6 q7 q8 : Int) : Bool := label.rightB q0 && (isB q1 1 12 && (refB q2 q3 && (refB q4 q5 && (isB q6 0 999999 && (isB q7 0 999999 && isB q8 0 999999)))))

theorem spec_is (n a b : Int) (w : World) : Calls Tryd.prog 55 #[.int .i64 n, .int .i64 a, .int .i64 b] w fun e w' => e = .returned (.bool (isB n a b)) ∧ w' = w := by
  by_cases h0 : a ≤ n
  · by_cases h1 : n ≤ b
    · rw [show isB n a b = true by simp [isB, h0, h1]]
      go_enter Tryd.func55, Tryd.ntmps55
      go_wp2
      go_ret
      exact ⟨by simp, rfl⟩
    · rw [show isB n a b = false by simp [isB, h0, h1]]
      go_enter Tryd.func55, Tryd.ntmps55
      go_wp2
      go_ret
      exact ⟨by simp, rfl⟩
  · rw [show isB n a b = false by simp [isB, h0]]
    go_enter Tryd.func55, Tryd.ntmps55
    go_wp2
    go_ret
    exact ⟨by simp, rfl⟩

theorem spec_ref (l n : Int) (w : World) : Calls Tryd.prog 43 #[.agg #[.int .i64 l, .int .i64 n]] w fun e w' => e = .returned (.bool (refB l n)) ∧ Below w.heap.size w w' := by
  have HL : Hid (∀ W, _) := fun W => label.spec_right l W
  have HI : Hid (∀ W, Calls Tryd.prog 55 #[.int .i64 n, .int .i64 0, .int .i64 999] W fun e w' => e = .returned (.bool (isB n 0 999)) ∧ w' = W) := fun W => spec_is n 0 999 W
  unfold refB
  generalize label.rightB l = b1 at *
  generalize isB n 0 999 = b2 at *
  cases b1 with
  | false =>
    go_enter Tryd.func43, Tryd.ntmps43
    go_wp2_with (first | (go_at_call 54; refine Calls.mono (HL.out _) ?_; rintro e w' ⟨rfl, rfl⟩))
    go_ret
    exact ⟨rfl, below_one _ _⟩
  | true =>
    go_enter Tryd.func43, Tryd.ntmps43
    go_wp2_with (first | (go_at_call 54; refine Calls.mono (HL.out _) ?_; rintro e w' ⟨rfl, rfl⟩) | (go_at_call 55; refine Calls.mono (HI.out _) ?_; rintro e w' ⟨rfl, rfl⟩))
    go_ret
    exact ⟨rfl, below_one _ _⟩

theorem impl_arg (n : Int) (w : World) : Calls Tryd.prog 47 #[.int .i64 n] w fun e w' => e = .returned (.bool (isB n 0 999999)) ∧ w' = w := by
  by_cases h0 : 0 ≤ n
  · have e1 : isB n 0 999999 = decide (n ≤ 999999) := by simp [isB, h0]
    rw [e1]
    go_enter Tryd.func47, Tryd.ntmps47
    go_wp2
    go_ret
    exact ⟨rfl, rfl⟩
  · have e1 : isB n 0 999999 = false := by simp [isB, h0]
    rw [e1]
    go_enter Tryd.func47, Tryd.ntmps47
    go_wp2
    go_ret
    exact ⟨rfl, rfl⟩

theorem impl_ref (l n : Int) (w : World) : Calls Tryd.prog 41 #[.agg #[.int .i64 l, .int .i64 n]] w fun e w' => e = .returned (.bool (refB l n)) ∧ Below w.heap.size w w' := by
  have HL : Hid (∀ W, _) := fun W => label.impl_right l W
  unfold refB
  generalize label.rightB l = b1 at *
  cases b1 with
  | false =>
    go_enter Tryd.func41, Tryd.ntmps41
    go_wp2_with (first | (go_at_call 46; refine Calls.mono (HL.out _) ?_; rintro e w' ⟨rfl, rfl⟩))
    go_ret
    exact ⟨rfl, below_one _ _⟩
  | true =>
    by_cases h0 : 0 ≤ n
    · have e1 : isB n 0 999 = decide (n ≤ 999) := by simp [isB, h0]
      rw [e1]
      go_enter Tryd.func41, Tryd.ntmps41
      go_wp2_with (first | (go_at_call 46; refine Calls.mono (HL.out _) ?_; rintro e w' ⟨rfl, rfl⟩))
      go_ret
      exact ⟨rfl, below_one _ _⟩
    · have e1 : isB n 0 999 = false := by simp [isB, h0]
      rw [e1]
      go_enter Tryd.func41, Tryd.ntmps41
      go_wp2_with (first | (go_at_call 46; refine Calls.mono (HL.out _) ?_; rintro e w' ⟨rfl, rfl⟩))
      go_ret
      exact ⟨rfl, below_one _ _⟩

set_option maxHeartbeats 400000 in
theorem spec_call (q0 q1 q2 q3 q4 q5 q6 q7 q8 : Int) (w : World) : Calls Tryd.prog 30 #[.agg #[.int .i64 q0, .int .i64 q1, .int .i64 q2, .int .i64 q3, .int .i64 q4, .int .i64 q5, .int .i64 q6, .int .i64 q7, .int .i64 q8]] w fun e w' => e = .returned (.bool (callB q0 q1 q2 q3 q4 q5 q6 q7 q8)) ∧ Below w.heap.size w w' := by
  have H1 : Hid (∀ W, Calls Tryd.prog 54 #[.int .i64 q0] W fun e w' => e = .returned (.bool (label.rightB q0)) ∧ w' = W) := fun W => label.spec_right q0 W
  have H2 : Hid (∀ W, Calls Tryd.prog 55 #[.int .i64 q1, .int .i64 1, .int .i64 12] W fun e w' => e = .returned (.bool (isB q1 1 12)) ∧ w' = W) := fun W => spec_is q1 1 12 W
  have H3 : Hid (∀ W, Calls Tryd.prog 43 #[.agg #[.int .i64 q2, .int .i64 q3]] W fun e w' => e = .returned (.bool (refB q2 q3)) ∧ Below W.heap.size W w') := fun W => spec_ref q2 q3 W
  have H4 : Hid (∀ W, Calls Tryd.prog 43 #[.agg #[.int .i64 q4, .int .i64 q5]] W fun e w' => e = .returned (.bool (refB q4 q5)) ∧ Below W.heap.size W w') := fun W => spec_ref q4 q5 W
  have H5 : Hid (∀ W, Calls Tryd.prog 55 #[.int .i64 q6, .int .i64 0, .int .i64 999999] W fun e w' => e = .returned (.bool (isB q6 0 999999)) ∧ w' = W) := fun W => spec_is q6 0 999999 W
  have H6 : Hid (∀ W, Calls Tryd.prog 55 #[.int .i64 q7, .int .i64 0, .int .i64 999999] W fun e w' => e = .returned (.bool (isB q7 0 999999)) ∧ w' = W) := fun W => spec_is q7 0 999999 W
  have H7 : Hid (∀ W, Calls Tryd.prog 55 #[.int .i64 q8, .int .i64 0, .int .i64 999999] W fun e w' => e = .returned (.bool (isB q8 0 999999)) ∧ w' = W) := fun W => spec_is q8 0 999999 W
  unfold callB
  generalize label.rightB q0 = b1 at *
  generalize isB q1 1 12 = b2 at *
  generalize refB q2 q3 = b3 at *
  generalize refB q4 q5 = b4 at *
  generalize isB q6 0 999999 = b5 at *
  generalize isB q7 0 999999 = b6 at *
  generalize isB q8 0 999999 = b7 at *
  cases b1 with
  | false =>
    go_enter Tryd.func30, Tryd.ntmps30
    go_wp2_with fail
    refine Calls.mono (H1.out _) ?_
    rintro e w' ⟨rfl, rfl⟩
    go_wp2_with fail
    go_ret
    exact ⟨rfl, below_one _ _⟩
  | true =>
    cases b2 with
    | false =>
      go_enter Tryd.func30, Tryd.ntmps30
      go_wp2_with fail
      refine Calls.mono (H1.out _) ?_
      rintro e w' ⟨rfl, rfl⟩
      go_wp2_with fail
      refine Calls.mono (H2.out _) ?_
      rintro e w' ⟨rfl, rfl⟩
      go_wp2_with fail
      go_ret
      exact ⟨rfl, below_one _ _⟩
    | true =>
      cases b3 with
      | false =>
        go_enter Tryd.func30, Tryd.ntmps30
        go_wp2_with fail
        refine Calls.mono (H1.out _) ?_
        rintro e w' ⟨rfl, rfl⟩
        go_wp2_with fail
        refine Calls.mono (H2.out _) ?_
        rintro e w' ⟨rfl, rfl⟩
        go_wp2_with fail
        refine Calls.mono (H3.out _) ?_
        rintro e w3 ⟨rfl, hb3⟩
        have HK3 : Hid (Blk w3 w.heap.size 26 [.int .i64 q0, .int .i64 q1, .int .i64 q2, .int .i64 q3, .int .i64 q4, .int .i64 q5, .int .i64 q6, .int .i64 q7, .int .i64 q8]) := (blk_new w _ _).later hb3
        have HB3 : Hid (Below w.heap.size w w3) := below_tr (below_one w _) hb3
        have k4 : w3.cell? ⟨w.heap.size, 4, none⟩ = some (.int .i64 q4) := HK3.out.cell 4
        have k5 : w3.cell? ⟨w.heap.size, 5, none⟩ = some (.int .i64 q5) := HK3.out.cell 5
        clear hb3
        go_wp2_with fail
        go_ret
        exact ⟨rfl, HB3.out⟩
      | true =>
        cases b4 with
        | false =>
          go_enter Tryd.func30, Tryd.ntmps30
          go_wp2_with fail
          refine Calls.mono (H1.out _) ?_
          rintro e w' ⟨rfl, rfl⟩
          go_wp2_with fail
          refine Calls.mono (H2.out _) ?_
          rintro e w' ⟨rfl, rfl⟩
          go_wp2_with fail
          refine Calls.mono (H3.out _) ?_
          rintro e w3 ⟨rfl, hb3⟩
          have HK3 : Hid (Blk w3 w.heap.size 26 [.int .i64 q0, .int .i64 q1, .int .i64 q2, .int .i64 q3, .int .i64 q4, .int .i64 q5, .int .i64 q6, .int .i64 q7, .int .i64 q8]) := (blk_new w _ _).later hb3
          have HB3 : Hid (Below w.heap.size w w3) := below_tr (below_one w _) hb3
          have k4 : w3.cell? ⟨w.heap.size, 4, none⟩ = some (.int .i64 q4) := HK3.out.cell 4
          have k5 : w3.cell? ⟨w.heap.size, 5, none⟩ = some (.int .i64 q5) := HK3.out.cell 5
          clear hb3
          go_wp2_with fail
          refine Calls.mono (H4.out _) ?_
          rintro e w4 ⟨rfl, hb4⟩
          have HK4 : Hid (Blk w4 w.heap.size 26 [.int .i64 q0, .int .i64 q1, .int .i64 q2, .int .i64 q3, .int .i64 q4, .int .i64 q5, .int .i64 q6, .int .i64 q7, .int .i64 q8]) := HK3.out.later hb4
          have HB4 : Hid (Below w.heap.size w w4) := below_tr HB3.out hb4
          have m6 : w4.cell? ⟨w.heap.size, 6, none⟩ = some (.int .i64 q6) := HK4.out.cell 6
          have m7 : w4.cell? ⟨w.heap.size, 7, none⟩ = some (.int .i64 q7) := HK4.out.cell 7
          have m8 : w4.cell? ⟨w.heap.size, 8, none⟩ = some (.int .i64 q8) := HK4.out.cell 8
          clear hb4 k4 k5
          go_wp2_with fail
          go_ret
          exact ⟨rfl, HB4.out⟩
        | true =>
          cases b5 with
          | false =>
            go_enter Tryd.func30, Tryd.ntmps30
            go_wp2_with fail
            refine Calls.mono (H1.out _) ?_
            rintro e w' ⟨rfl, rfl⟩
            go_wp2_with fail
            refine Calls.mono (H2.out _) ?_
            rintro e w' ⟨rfl, rfl⟩
            go_wp2_with fail
            refine Calls.mono (H3.out _) ?_
            rintro e w3 ⟨rfl, hb3⟩
            have HK3 : Hid (Blk w3 w.heap.size 26 [.int .i64 q0, .int .i64 q1, .int .i64 q2, .int .i64 q3, .int .i64 q4, .int .i64 q5, .int .i64 q6, .int .i64 q7, .int .i64 q8]) := (blk_new w _ _).later hb3
            have HB3 : Hid (Below w.heap.size w w3) := below_tr (below_one w _) hb3
            have k4 : w3.cell? ⟨w.heap.size, 4, none⟩ = some (.int .i64 q4) := HK3.out.cell 4
            have k5 : w3.cell? ⟨w.heap.size, 5, none⟩ = some (.int .i64 q5) := HK3.out.cell 5
            clear hb3
            go_wp2_with fail
            refine Calls.mono (H4.out _) ?_
            rintro e w4 ⟨rfl, hb4⟩
            have HK4 : Hid (Blk w4 w.heap.size 26 [.int .i64 q0, .int .i64 q1, .int .i64 q2, .int .i64 q3, .int .i64 q4, .int .i64 q5, .int .i64 q6, .int .i64 q7, .int .i64 q8]) := HK3.out.later hb4
            have HB4 : Hid (Below w.heap.size w w4) := below_tr HB3.out hb4
            have m6 : w4.cell? ⟨w.heap.size, 6, none⟩ = some (.int .i64 q6) := HK4.out.cell 6
            have m7 : w4.cell? ⟨w.heap.size, 7, none⟩ = some (.int .i64 q7) := HK4.out.cell 7
            have m8 : w4.cell? ⟨w.heap.size, 8, none⟩ = some (.int .i64 q8) := HK4.out.cell 8
            clear hb4 k4 k5
            go_wp2_with fail
            refine Calls.mono (H5.out _) ?_
            rintro e w' ⟨rfl, rfl⟩
            go_wp2_with fail
            go_ret
            exact ⟨rfl, HB4.out⟩
          | true =>
            cases b6 with
            | false =>
              go_enter Tryd.func30, Tryd.ntmps30
              go_wp2_with fail
              refine Calls.mono (H1.out _) ?_
              rintro e w' ⟨rfl, rfl⟩
              go_wp2_with fail
              refine Calls.mono (H2.out _) ?_
              rintro e w' ⟨rfl, rfl⟩
              go_wp2_with fail
              refine Calls.mono (H3.out _) ?_
              rintro e w3 ⟨rfl, hb3⟩
              have HK3 : Hid (Blk w3 w.heap.size 26 [.int .i64 q0, .int .i64 q1, .int .i64 q2, .int .i64 q3, .int .i64 q4, .int .i64 q5, .int .i64 q6, .int .i64 q7, .int .i64 q8]) := (blk_new w _ _).later hb3
              have HB3 : Hid (Below w.heap.size w w3) := below_tr (below_one w _) hb3
              have k4 : w3.cell? ⟨w.heap.size, 4, none⟩ = some (.int .i64 q4) := HK3.out.cell 4
              have k5 : w3.cell? ⟨w.heap.size, 5, none⟩ = some (.int .i64 q5) := HK3.out.cell 5
              clear hb3
              go_wp2_with fail
              refine Calls.mono (H4.out _) ?_
              rintro e w4 ⟨rfl, hb4⟩
              have HK4 : Hid (Blk w4 w.heap.size 26 [.int .i64 q0, .int .i64 q1, .int .i64 q2, .int .i64 q3, .int .i64 q4, .int .i64 q5, .int .i64 q6, .int .i64 q7, .int .i64 q8]) := HK3.out.later hb4
              have HB4 : Hid (Below w.heap.size w w4) := below_tr HB3.out hb4
              have m6 : w4.cell? ⟨w.heap.size, 6, none⟩ = some (.int .i64 q6) := HK4.out.cell 6
              have m7 : w4.cell? ⟨w.heap.size, 7, none⟩ = some (.int .i64 q7) := HK4.out.cell 7
              have m8 : w4.cell? ⟨w.heap.size, 8, none⟩ = some (.int .i64 q8) := HK4.out.cell 8
              clear hb4 k4 k5
              go_wp2_with fail
              refine Calls.mono (H5.out _) ?_
              rintro e w' ⟨rfl, rfl⟩
              go_wp2_with fail
              refine Calls.mono (H6.out _) ?_
              rintro e w' ⟨rfl, rfl⟩
              go_wp2_with fail
              go_ret
              exact ⟨rfl, HB4.out⟩
            | true =>
              go_enter Tryd.func30, Tryd.ntmps30
              go_wp2_with fail
              refine Calls.mono (H1.out _) ?_
              rintro e w' ⟨rfl, rfl⟩
              go_wp2_with fail
              refine Calls.mono (H2.out _) ?_
              rintro e w' ⟨rfl, rfl⟩
              go_wp2_with fail
              refine Calls.mono (H3.out _) ?_
              rintro e w3 ⟨rfl, hb3⟩
              have HK3 : Hid (Blk w3 w.heap.size 26 [.int .i64 q0, .int .i64 q1, .int .i64 q2, .int .i64 q3, .int .i64 q4, .int .i64 q5, .int .i64 q6, .int .i64 q7, .int .i64 q8]) := (blk_new w _ _).later hb3
              have HB3 : Hid (Below w.heap.size w w3) := below_tr (below_one w _) hb3
              have k4 : w3.cell? ⟨w.heap.size, 4, none⟩ = some (.int .i64 q4) := HK3.out.cell 4
              have k5 : w3.cell? ⟨w.heap.size, 5, none⟩ = some (.int .i64 q5) := HK3.out.cell 5
              clear hb3
              go_wp2_with fail
              refine Calls.mono (H4.out _) ?_
              rintro e w4 ⟨rfl, hb4⟩
              have HK4 : Hid (Blk w4 w.heap.size 26 [.int .i64 q0, .int .i64 q1, .int .i64 q2, .int .i64 q3, .int .i64 q4, .int .i64 q5, .int .i64 q6, .int .i64 q7, .int .i64 q8]) := HK3.out.later hb4
              have HB4 : Hid (Below w.heap.size w w4) := below_tr HB3.out hb4
              have m6 : w4.cell? ⟨w.heap.size, 6, none⟩ = some (.int .i64 q6) := HK4.out.cell 6
              have m7 : w4.cell? ⟨w.heap.size, 7, none⟩ = some (.int .i64 q7) := HK4.out.cell 7
              have m8 : w4.cell? ⟨w.heap.size, 8, none⟩ = some (.int .i64 q8) := HK4.out.cell 8
              clear hb4 k4 k5
              go_wp2_with fail
              refine Calls.mono (H5.out _) ?_
              rintro e w' ⟨rfl, rfl⟩
              go_wp2_with fail
              refine Calls.mono (H6.out _) ?_
              rintro e w' ⟨rfl, rfl⟩
              go_wp2_with fail
              refine Calls.mono (H7.out _) ?_
              rintro e w' ⟨rfl, rfl⟩
              go_wp2_with fail
              go_ret
              exact ⟨rfl, HB4.out⟩

set_option maxHeartbeats 400000 in
theorem impl_call (q0 q1 q2 q3 q4 q5 q6 q7 q8 : Int) (w : World) : Calls Tryd.prog 22 #[.agg #[.int .i64 q0, .int .i64 q1, .int .i64 q2, .int .i64 q3, .int .i64 q4, .int .i64 q5, .int .i64 q6, .int .i64 q7, .int .i64 q8]] w fun e w' => e = .returned (.bool (callB q0 q1 q2 q3 q4 q5 q6 q7 q8)) ∧ Below w.heap.size w w' := by
  have H1 : Hid (∀ W, Calls Tryd.prog 46 #[.int .i64 q0] W fun e w' => e = .returned (.bool (label.rightB q0)) ∧ w' = W) := fun W => label.impl_right q0 W
  have H3 : Hid (∀ W, Calls Tryd.prog 41 #[.agg #[.int .i64 q2, .int .i64 q3]] W fun e w' => e = .returned (.bool (refB q2 q3)) ∧ Below W.heap.size W w') := fun W => impl_ref q2 q3 W
  have H4 : Hid (∀ W, Calls Tryd.prog 41 #[.agg #[.int .i64 q4, .int .i64 q5]] W fun e w' => e = .returned (.bool (refB q4 q5)) ∧ Below W.heap.size W w') := fun W => impl_ref q4 q5 W
  have H5 : Hid (∀ W, Calls Tryd.prog 47 #[.int .i64 q6] W fun e w' => e = .returned (.bool (isB q6 0 999999)) ∧ w' = W) := fun W => impl_arg q6 W
  have H6 : Hid (∀ W, Calls Tryd.prog 47 #[.int .i64 q7] W fun e w' => e = .returned (.bool (isB q7 0 999999)) ∧ w' = W) := fun W => impl_arg q7 W
  have H7 : Hid (∀ W, Calls Tryd.prog 47 #[.int .i64 q8] W fun e w' => e = .returned (.bool (isB q8 0 999999)) ∧ w' = W) := fun W => impl_arg q8 W
  unfold callB
  generalize label.rightB q0 = b1 at *
  generalize refB q2 q3 = b3 at *
  generalize refB q4 q5 = b4 at *
  generalize isB q6 0 999999 = b5 at *
  generalize isB q7 0 999999 = b6 at *
  generalize isB q8 0 999999 = b7 at *
  cases b1 with
  | false =>
    go_enter Tryd.func22, Tryd.ntmps22
    go_wp2_with fail
    refine Calls.mono (H1.out _) ?_
    rintro e w' ⟨rfl, rfl⟩
    go_wp2_with fail
    go_ret
    exact ⟨rfl, below_one _ _⟩
  | true =>
    by_cases h0 : 1 ≤ q1
    · by_cases h1 : q1 ≤ 12
      · have e1 : isB q1 1 12 = true := by simp [isB, h0, h1]
        rw [e1]
        cases b3 with
        | false =>
          go_enter Tryd.func22, Tryd.ntmps22
          go_wp2_with fail
          refine Calls.mono (H1.out _) ?_
          rintro e w' ⟨rfl, rfl⟩
          go_wp2_with fail
          refine Calls.mono (H3.out _) ?_
          rintro e w3 ⟨rfl, hb3⟩
          have HK3 : Hid (Blk w3 w.heap.size 26 [.int .i64 q0, .int .i64 q1, .int .i64 q2, .int .i64 q3, .int .i64 q4, .int .i64 q5, .int .i64 q6, .int .i64 q7, .int .i64 q8]) := (blk_new w _ _).later hb3
          have HB3 : Hid (Below w.heap.size w w3) := below_tr (below_one w _) hb3
          have k4 : w3.cell? ⟨w.heap.size, 4, none⟩ = some (.int .i64 q4) := HK3.out.cell 4
          have k5 : w3.cell? ⟨w.heap.size, 5, none⟩ = some (.int .i64 q5) := HK3.out.cell 5
          clear hb3
          go_wp2_with fail
          go_ret
          exact ⟨rfl, HB3.out⟩
        | true =>
          cases b4 with
          | false =>
            go_enter Tryd.func22, Tryd.ntmps22
            go_wp2_with fail
            refine Calls.mono (H1.out _) ?_
            rintro e w' ⟨rfl, rfl⟩
            go_wp2_with fail
            refine Calls.mono (H3.out _) ?_
            rintro e w3 ⟨rfl, hb3⟩
            have HK3 : Hid (Blk w3 w.heap.size 26 [.int .i64 q0, .int .i64 q1, .int .i64 q2, .int .i64 q3, .int .i64 q4, .int .i64 q5, .int .i64 q6, .int .i64 q7, .int .i64 q8]) := (blk_new w _ _).later hb3
            have HB3 : Hid (Below w.heap.size w w3) := below_tr (below_one w _) hb3
            have k4 : w3.cell? ⟨w.heap.size, 4, none⟩ = some (.int .i64 q4) := HK3.out.cell 4
            have k5 : w3.cell? ⟨w.heap.size, 5, none⟩ = some (.int .i64 q5) := HK3.out.cell 5
            clear hb3
            go_wp2_with fail
            refine Calls.mono (H4.out _) ?_
            rintro e w4 ⟨rfl, hb4⟩
            have HK4 : Hid (Blk w4 w.heap.size 26 [.int .i64 q0, .int .i64 q1, .int .i64 q2, .int .i64 q3, .int .i64 q4, .int .i64 q5, .int .i64 q6, .int .i64 q7, .int .i64 q8]) := HK3.out.later hb4
            have HB4 : Hid (Below w.heap.size w w4) := below_tr HB3.out hb4
            have m6 : w4.cell? ⟨w.heap.size, 6, none⟩ = some (.int .i64 q6) := HK4.out.cell 6
            have m7 : w4.cell? ⟨w.heap.size, 7, none⟩ = some (.int .i64 q7) := HK4.out.cell 7
            have m8 : w4.cell? ⟨w.heap.size, 8, none⟩ = some (.int .i64 q8) := HK4.out.cell 8
            clear hb4 k4 k5
            go_wp2_with fail
            go_ret
            exact ⟨rfl, HB4.out⟩
          | true =>
            cases b5 with
            | false =>
              go_enter Tryd.func22, Tryd.ntmps22
              go_wp2_with fail
              refine Calls.mono (H1.out _) ?_
              rintro e w' ⟨rfl, rfl⟩
              go_wp2_with fail
              refine Calls.mono (H3.out _) ?_
              rintro e w3 ⟨rfl, hb3⟩
              have HK3 : Hid (Blk w3 w.heap.size 26 [.int .i64 q0, .int .i64 q1, .int .i64 q2, .int .i64 q3, .int .i64 q4, .int .i64 q5, .int .i64 q6, .int .i64 q7, .int .i64 q8]) := (blk_new w _ _).later hb3
              have HB3 : Hid (Below w.heap.size w w3) := below_tr (below_one w _) hb3
              have k4 : w3.cell? ⟨w.heap.size, 4, none⟩ = some (.int .i64 q4) := HK3.out.cell 4
              have k5 : w3.cell? ⟨w.heap.size, 5, none⟩ = some (.int .i64 q5) := HK3.out.cell 5
              clear hb3
              go_wp2_with fail
              refine Calls.mono (H4.out _) ?_
              rintro e w4 ⟨rfl, hb4⟩
              have HK4 : Hid (Blk w4 w.heap.size 26 [.int .i64 q0, .int .i64 q1, .int .i64 q2, .int .i64 q3, .int .i64 q4, .int .i64 q5, .int .i64 q6, .int .i64 q7, .int .i64 q8]) := HK3.out.later hb4
              have HB4 : Hid (Below w.heap.size w w4) := below_tr HB3.out hb4
              have m6 : w4.cell? ⟨w.heap.size, 6, none⟩ = some (.int .i64 q6) := HK4.out.cell 6
              have m7 : w4.cell? ⟨w.heap.size, 7, none⟩ = some (.int .i64 q7) := HK4.out.cell 7
              have m8 : w4.cell? ⟨w.heap.size, 8, none⟩ = some (.int .i64 q8) := HK4.out.cell 8
              clear hb4 k4 k5
              go_wp2_with fail
              refine Calls.mono (H5.out _) ?_
              rintro e w' ⟨rfl, rfl⟩
              go_wp2_with fail
              go_ret
              exact ⟨rfl, HB4.out⟩
            | true =>
              cases b6 with
              | false =>
                go_enter Tryd.func22, Tryd.ntmps22
                go_wp2_with fail
                refine Calls.mono (H1.out _) ?_
                rintro e w' ⟨rfl, rfl⟩
                go_wp2_with fail
                refine Calls.mono (H3.out _) ?_
                rintro e w3 ⟨rfl, hb3⟩
                have HK3 : Hid (Blk w3 w.heap.size 26 [.int .i64 q0, .int .i64 q1, .int .i64 q2, .int .i64 q3, .int .i64 q4, .int .i64 q5, .int .i64 q6, .int .i64 q7, .int .i64 q8]) := (blk_new w _ _).later hb3
                have HB3 : Hid (Below w.heap.size w w3) := below_tr (below_one w _) hb3
                have k4 : w3.cell? ⟨w.heap.size, 4, none⟩ = some (.int .i64 q4) := HK3.out.cell 4
                have k5 : w3.cell? ⟨w.heap.size, 5, none⟩ = some (.int .i64 q5) := HK3.out.cell 5
                clear hb3
                go_wp2_with fail
                refine Calls.mono (H4.out _) ?_
                rintro e w4 ⟨rfl, hb4⟩
                have HK4 : Hid (Blk w4 w.heap.size 26 [.int .i64 q0, .int .i64 q1, .int .i64 q2, .int .i64 q3, .int .i64 q4, .int .i64 q5, .int .i64 q6, .int .i64 q7, .int .i64 q8]) := HK3.out.later hb4
                have HB4 : Hid (Below w.heap.size w w4) := below_tr HB3.out hb4
                have m6 : w4.cell? ⟨w.heap.size, 6, none⟩ = some (.int .i64 q6) := HK4.out.cell 6
                have m7 : w4.cell? ⟨w.heap.size, 7, none⟩ = some (.int .i64 q7) := HK4.out.cell 7
                have m8 : w4.cell? ⟨w.heap.size, 8, none⟩ = some (.int .i64 q8) := HK4.out.cell 8
                clear hb4 k4 k5
                go_wp2_with fail
                refine Calls.mono (H5.out _) ?_
                rintro e w' ⟨rfl, rfl⟩
                go_wp2_with fail
                refine Calls.mono (H6.out _) ?_
                rintro e w' ⟨rfl, rfl⟩
                go_wp2_with fail
                go_ret
                exact ⟨rfl, HB4.out⟩
              | true =>
                go_enter Tryd.func22, Tryd.ntmps22
                go_wp2_with fail
                refine Calls.mono (H1.out _) ?_
                rintro e w' ⟨rfl, rfl⟩
                go_wp2_with fail
                refine Calls.mono (H3.out _) ?_
                rintro e w3 ⟨rfl, hb3⟩
                have HK3 : Hid (Blk w3 w.heap.size 26 [.int .i64 q0, .int .i64 q1, .int .i64 q2, .int .i64 q3, .int .i64 q4, .int .i64 q5, .int .i64 q6, .int .i64 q7, .int .i64 q8]) := (blk_new w _ _).later hb3
                have HB3 : Hid (Below w.heap.size w w3) := below_tr (below_one w _) hb3
                have k4 : w3.cell? ⟨w.heap.size, 4, none⟩ = some (.int .i64 q4) := HK3.out.cell 4
                have k5 : w3.cell? ⟨w.heap.size, 5, none⟩ = some (.int .i64 q5) := HK3.out.cell 5
                clear hb3
                go_wp2_with fail
                refine Calls.mono (H4.out _) ?_
                rintro e w4 ⟨rfl, hb4⟩
                have HK4 : Hid (Blk w4 w.heap.size 26 [.int .i64 q0, .int .i64 q1, .int .i64 q2, .int .i64 q3, .int .i64 q4, .int .i64 q5, .int .i64 q6, .int .i64 q7, .int .i64 q8]) := HK3.out.later hb4
                have HB4 : Hid (Below w.heap.size w w4) := below_tr HB3.out hb4
                have m6 : w4.cell? ⟨w.heap.size, 6, none⟩ = some (.int .i64 q6) := HK4.out.cell 6
                have m7 : w4.cell? ⟨w.heap.size, 7, none⟩ = some (.int .i64 q7) := HK4.out.cell 7
                have m8 : w4.cell? ⟨w.heap.size, 8, none⟩ = some (.int .i64 q8) := HK4.out.cell 8
                clear hb4 k4 k5
                go_wp2_with fail
                refine Calls.mono (H5.out _) ?_
                rintro e w' ⟨rfl, rfl⟩
                go_wp2_with fail
                refine Calls.mono (H6.out _) ?_
                rintro e w' ⟨rfl, rfl⟩
                go_wp2_with fail
                refine Calls.mono (H7.out _) ?_
                rintro e w' ⟨rfl, rfl⟩
                go_wp2_with fail
                go_ret
                exact ⟨rfl, HB4.out⟩
      · have e1 : isB q1 1 12 = false := by simp [isB, h0, h1]
        rw [e1]
        go_enter Tryd.func22, Tryd.ntmps22
        go_wp2_with fail
        refine Calls.mono (H1.out _) ?_
        rintro e w' ⟨rfl, rfl⟩
        go_wp2_with fail
        go_ret
        exact ⟨rfl, below_one _ _⟩
    · have e1 : isB q1 1 12 = false := by simp [isB, h0]
      rw [e1]
      go_enter Tryd.func22, Tryd.ntmps22
      go_wp2_with fail
      refine Calls.mono (H1.out _) ?_
      rintro e w' ⟨rfl, rfl⟩
      go_wp2_with fail
      go_ret
      exact ⟨rfl, below_one _ _⟩
end Go.Proofs.YtacfhchmoiphfaaDoor.call
