/-
  A call made anew by the laws' helpers, and CallRight, the specification's and the program's, at every call. No condition.
-/
import Derived.Test.YtlojigfhbfemfaaDoorDeep
import Derived.Test.YtlojigfhbfemfaaDoorLabel
namespace Go.Proofs.YtlojigfhbfemfaaDoor.call
open Go.RowKit Go.Deep
open Go.Proofs.YtlojigfhbfemfaaDoor
open Go.Proofs.YtlojigfhbfemfaaDoor.deep
set_option linter.unusedVariables false

theorem to_ref (p0 p1 : Int) (w : World) : Calls Tryd.prog 8 #[.agg #[.int .i64 p0, .int .i64 p1]] w fun e w' => e = .returned (.agg #[.int .i64 p0, .int .i64 p1]) ∧ Below w.heap.size w w' := by
  go_enter Tryd.func8, Tryd.ntmps8
  go_wp2
  exact bodyPost_ret (v := .agg #[.int .i64 p0, .int .i64 p1]) (by simp [results, Tryd.results8, go_sem]) rfl ⟨rfl, below3 _ _ _ _⟩

set_option maxHeartbeats 400000 in
theorem to_call (q0 q1 q2 q3 q4 q5 q6 q7 q8 : Int) (w : World) : Calls Tryd.prog 11 #[.agg #[.int .i64 q0, .int .i64 q1, .int .i64 q2, .int .i64 q3, .int .i64 q4, .int .i64 q5, .int .i64 q6, .int .i64 q7, .int .i64 q8]] w fun e w' => e = .returned (.agg #[.int .i64 q0, .int .i64 q1, .int .i64 q2, .int .i64 q3, .int .i64 q4, .int .i64 q5, .int .i64 q6, .int .i64 q7, .int .i64 q8]) ∧ Below w.heap.size w w' := by
  have HT : Hid (∀ p q W, Calls Tryd.prog 8 #[.agg #[.int .i64 p, .int .i64 q]] W fun e w' => e = .returned (.agg #[.int .i64 p, .int .i64 q]) ∧ Below W.heap.size W w') := fun p q W => to_ref p q W
  go_enter Tryd.func11, Tryd.ntmps11
  go_wp2_with fail
  refine Calls.mono (HT.out _ _ _) ?_
  rintro e w1 ⟨rfl, hb1⟩
  have F := blk3 w [.int .i64 q0, .int .i64 q1, .int .i64 q2, .int .i64 q3, .int .i64 q4, .int .i64 q5, .int .i64 q6, .int .i64 q7, .int .i64 q8] [.int .i64 0, .int .i64 0, .int .i64 0, .int .i64 0, .int .i64 0, .int .i64 0, .int .i64 0, .int .i64 0, .int .i64 0] [.int .i64 q0, .int .i64 q1, .int .i64 0, .int .i64 0, .int .i64 0, .int .i64 0, .int .i64 0, .int .i64 0, .int .i64 0] 29 32 32
  have HA1 : Hid (Blk w1 (w.heap.size) 29 [.int .i64 q0, .int .i64 q1, .int .i64 q2, .int .i64 q3, .int .i64 q4, .int .i64 q5, .int .i64 q6, .int .i64 q7, .int .i64 q8]) := F.1.later hb1
  have HR1 : Hid (Blk w1 (w.heap.size + 1) 32 [.int .i64 0, .int .i64 0, .int .i64 0, .int .i64 0, .int .i64 0, .int .i64 0, .int .i64 0, .int .i64 0, .int .i64 0]) := F.2.1.later hb1
  have HO1 : Hid (Blk w1 (w.heap.size + 1 + 1) 32 [.int .i64 q0, .int .i64 q1, .int .i64 0, .int .i64 0, .int .i64 0, .int .i64 0, .int .i64 0, .int .i64 0, .int .i64 0]) := F.2.2.later hb1
  have HB1 : Hid (Below w.heap.size w w1) := below_tr (below3 w _ _ _) hb1
  have hs1 : w.heap.size + 3 ≤ w1.heap.size := by have := hb1.size; simp at this; omega
  clear hb1 F
  have a4 : w1.cell? ⟨w.heap.size, 4, none⟩ = some (.int .i64 q4) := HA1.out.cell 4
  have a5 : w1.cell? ⟨w.heap.size, 5, none⟩ = some (.int .i64 q5) := HA1.out.cell 5
  have o2 : w1.cell? ⟨w.heap.size + 1 + 1, 2, none⟩ = some (.int .i64 0) := HO1.out.cell 2
  have y2 := HO1.out.free 2
  have o3 : w1.cell? ⟨w.heap.size + 1 + 1, 3, none⟩ = some (.int .i64 0) := HO1.out.cell 3
  have y3 := HO1.out.free 3
  go_wp2_with fail
  have HP1 : Hid (Below w.heap.size w (putW w1 (w.heap.size + 1 + 1) 2 [.int .i64 q2, .int .i64 q3])) := putW_below [.int .i64 q2, .int .i64 q3] HB1.out (by omega)
  refine Calls.mono (HT.out _ _ _) ?_
  rintro e w2 ⟨rfl, hb2⟩
  have HA2 : Hid (Blk w2 (w.heap.size) 29 [.int .i64 q0, .int .i64 q1, .int .i64 q2, .int .i64 q3, .int .i64 q4, .int .i64 q5, .int .i64 q6, .int .i64 q7, .int .i64 q8]) := (HA1.out.other [.int .i64 q2, .int .i64 q3] (w.heap.size + 1 + 1) 2 (by omega)).later hb2
  have HR2 : Hid (Blk w2 (w.heap.size + 1) 32 [.int .i64 0, .int .i64 0, .int .i64 0, .int .i64 0, .int .i64 0, .int .i64 0, .int .i64 0, .int .i64 0, .int .i64 0]) := (HR1.out.other [.int .i64 q2, .int .i64 q3] (w.heap.size + 1 + 1) 2 (by omega)).later hb2
  have HO2 : Hid (Blk w2 (w.heap.size + 1 + 1) 32 [.int .i64 q0, .int .i64 q1, .int .i64 q2, .int .i64 q3, .int .i64 0, .int .i64 0, .int .i64 0, .int .i64 0, .int .i64 0]) := (HO1.out.put [.int .i64 q2, .int .i64 q3] 2).later hb2
  have HB2 : Hid (Below w.heap.size w w2) := below_tr HP1.out hb2
  have hs2 : w.heap.size + 3 ≤ w2.heap.size := by have := hb2.size; simp at this; omega
  clear hb2 HA1 HR1 HO1 HP1 HB1 hs1 a4 a5 o2 o3 y2 y3
  have a6 : w2.cell? ⟨w.heap.size, 6, none⟩ = some (.int .i64 q6) := HA2.out.cell 6
  have a7 : w2.cell? ⟨w.heap.size, 7, none⟩ = some (.int .i64 q7) := HA2.out.cell 7
  have a8 : w2.cell? ⟨w.heap.size, 8, none⟩ = some (.int .i64 q8) := HA2.out.cell 8
  have o0 : w2.cell? ⟨w.heap.size + 1 + 1, 0, none⟩ = some (.int .i64 q0) := HO2.out.cell 0
  have y0 := HO2.out.free 0
  have o1 : w2.cell? ⟨w.heap.size + 1 + 1, 1, none⟩ = some (.int .i64 q1) := HO2.out.cell 1
  have y1 := HO2.out.free 1
  have o2 : w2.cell? ⟨w.heap.size + 1 + 1, 2, none⟩ = some (.int .i64 q2) := HO2.out.cell 2
  have y2 := HO2.out.free 2
  have o3 : w2.cell? ⟨w.heap.size + 1 + 1, 3, none⟩ = some (.int .i64 q3) := HO2.out.cell 3
  have y3 := HO2.out.free 3
  have o4 : w2.cell? ⟨w.heap.size + 1 + 1, 4, none⟩ = some (.int .i64 0) := HO2.out.cell 4
  have y4 := HO2.out.free 4
  have o5 : w2.cell? ⟨w.heap.size + 1 + 1, 5, none⟩ = some (.int .i64 0) := HO2.out.cell 5
  have y5 := HO2.out.free 5
  have o6 : w2.cell? ⟨w.heap.size + 1 + 1, 6, none⟩ = some (.int .i64 0) := HO2.out.cell 6
  have y6 := HO2.out.free 6
  have o7 : w2.cell? ⟨w.heap.size + 1 + 1, 7, none⟩ = some (.int .i64 0) := HO2.out.cell 7
  have y7 := HO2.out.free 7
  have o8 : w2.cell? ⟨w.heap.size + 1 + 1, 8, none⟩ = some (.int .i64 0) := HO2.out.cell 8
  have y8 := HO2.out.free 8
  have r0 : w2.cell? ⟨w.heap.size + 1, 0, none⟩ = some (.int .i64 0) := HR2.out.cell 0
  have u0 := HR2.out.free 0
  have r1 : w2.cell? ⟨w.heap.size + 1, 1, none⟩ = some (.int .i64 0) := HR2.out.cell 1
  have u1 := HR2.out.free 1
  have r2 : w2.cell? ⟨w.heap.size + 1, 2, none⟩ = some (.int .i64 0) := HR2.out.cell 2
  have u2 := HR2.out.free 2
  have r3 : w2.cell? ⟨w.heap.size + 1, 3, none⟩ = some (.int .i64 0) := HR2.out.cell 3
  have u3 := HR2.out.free 3
  have r4 : w2.cell? ⟨w.heap.size + 1, 4, none⟩ = some (.int .i64 0) := HR2.out.cell 4
  have u4 := HR2.out.free 4
  have r5 : w2.cell? ⟨w.heap.size + 1, 5, none⟩ = some (.int .i64 0) := HR2.out.cell 5
  have u5 := HR2.out.free 5
  have r6 : w2.cell? ⟨w.heap.size + 1, 6, none⟩ = some (.int .i64 0) := HR2.out.cell 6
  have u6 := HR2.out.free 6
  have r7 : w2.cell? ⟨w.heap.size + 1, 7, none⟩ = some (.int .i64 0) := HR2.out.cell 7
  have u7 := HR2.out.free 7
  have r8 : w2.cell? ⟨w.heap.size + 1, 8, none⟩ = some (.int .i64 0) := HR2.out.cell 8
  have u8 := HR2.out.free 8
  go_wp2_with fail
  refine bodyPost_ret (v := .agg #[.int .i64 q0, .int .i64 q1, .int .i64 q2, .int .i64 q3, .int .i64 q4, .int .i64 q5, .int .i64 q6, .int .i64 q7, .int .i64 q8]) (by simp [results, Tryd.results11, go_sem, r0, r1, r2, r3, r4, r5, r6, r7, r8]) rfl ⟨rfl, ?_⟩
  exact putW_below [.int .i64 q0, .int .i64 q1, .int .i64 q2, .int .i64 q3, .int .i64 q4, .int .i64 q5, .int .i64 q6, .int .i64 q7, .int .i64 q8] (putW_below [.int .i64 q4, .int .i64 q5, .int .i64 q6, .int .i64 q7, .int .i64 q8] (b := 4) HB2.out (g := w.heap.size + 1 + 1) (by omega)) (by omega) (b := 0)

/-- is that a number from a to b? -/
def isB (n a b : Int) : Bool := decide (a ≤ n ∧ n ≤ b)
theorem isB_yes {n a b : Int} (h : isB n a b = true) : a ≤ n ∧ n ≤ b := by simpa [isB] using h
theorem isB_no {n a b : Int} (h : isB n a b = false) : n < a ∨ b < n := by simp [isB] at h; omega
def refB (l n : Int) : Bool := label.rightB l && isB n 0 999
/-- is a call right? -/
def callB (q0 q1 q2 q3 q4 q5 q6 q7 q8 : Int) : Bool := label.rightB q0 && (isB q1 1 12 && (refB q2 q3 && (refB q4 q5 && (isB q6 0 999999 && (isB q7 0 999999 && isB q8 0 999999)))))

theorem spec_is (n a b : Int) (w : World) : Calls Tryd.prog 45 #[.int .i64 n, .int .i64 a, .int .i64 b] w fun e w' => e = .returned (.bool (isB n a b)) ∧ w' = w := by
  by_cases h0 : a ≤ n
  · by_cases h1 : n ≤ b
    · rw [show isB n a b = true by simp [isB, h0, h1]]
      go_enter Tryd.func45, Tryd.ntmps45
      go_wp2
      go_ret
      exact ⟨by simp, rfl⟩
    · rw [show isB n a b = false by simp [isB, h0, h1]]
      go_enter Tryd.func45, Tryd.ntmps45
      go_wp2
      go_ret
      exact ⟨by simp, rfl⟩
  · rw [show isB n a b = false by simp [isB, h0]]
    go_enter Tryd.func45, Tryd.ntmps45
    go_wp2
    go_ret
    exact ⟨by simp, rfl⟩

theorem spec_ref (l n : Int) (w : World) : Calls Tryd.prog 21 #[.agg #[.int .i64 l, .int .i64 n]] w fun e w' => e = .returned (.bool (refB l n)) ∧ Below w.heap.size w w' := by
  have HL : Hid (∀ W, _) := fun W => label.spec_right l W
  have HI : Hid (∀ W, Calls Tryd.prog 45 #[.int .i64 n, .int .i64 0, .int .i64 999] W fun e w' => e = .returned (.bool (isB n 0 999)) ∧ w' = W) := fun W => spec_is n 0 999 W
  unfold refB
  generalize label.rightB l = b1 at *
  generalize isB n 0 999 = b2 at *
  cases b1 with
  | false =>
    go_enter Tryd.func21, Tryd.ntmps21
    go_wp2_with (first | (go_at_call 44; refine Calls.mono (HL.out _) ?_; rintro e w' ⟨rfl, rfl⟩))
    go_ret
    exact ⟨rfl, below_one _ _⟩
  | true =>
    go_enter Tryd.func21, Tryd.ntmps21
    go_wp2_with (first | (go_at_call 44; refine Calls.mono (HL.out _) ?_; rintro e w' ⟨rfl, rfl⟩) | (go_at_call 45; refine Calls.mono (HI.out _) ?_; rintro e w' ⟨rfl, rfl⟩))
    go_ret
    exact ⟨rfl, below_one _ _⟩

theorem impl_arg (n : Int) (w : World) : Calls Tryd.prog 50 #[.int .i64 n] w fun e w' => e = .returned (.bool (isB n 0 999999)) ∧ w' = w := by
  by_cases h0 : 0 ≤ n
  · have e1 : isB n 0 999999 = decide (n ≤ 999999) := by simp [isB, h0]
    rw [e1]
    go_enter Tryd.func50, Tryd.ntmps50
    go_wp2
    go_ret
    exact ⟨rfl, rfl⟩
  · have e1 : isB n 0 999999 = false := by simp [isB, h0]
    rw [e1]
    go_enter Tryd.func50, Tryd.ntmps50
    go_wp2
    go_ret
    exact ⟨rfl, rfl⟩

theorem impl_ref (l n : Int) (w : World) : Calls Tryd.prog 24 #[.agg #[.int .i64 l, .int .i64 n]] w fun e w' => e = .returned (.bool (refB l n)) ∧ Below w.heap.size w w' := by
  have HL : Hid (∀ W, _) := fun W => label.impl_right l W
  unfold refB
  generalize label.rightB l = b1 at *
  cases b1 with
  | false =>
    go_enter Tryd.func24, Tryd.ntmps24
    go_wp2_with (first | (go_at_call 46; refine Calls.mono (HL.out _) ?_; rintro e w' ⟨rfl, rfl⟩))
    go_ret
    exact ⟨rfl, below_one _ _⟩
  | true =>
    by_cases h0 : 0 ≤ n
    · have e1 : isB n 0 999 = decide (n ≤ 999) := by simp [isB, h0]
      rw [e1]
      go_enter Tryd.func24, Tryd.ntmps24
      go_wp2_with (first | (go_at_call 46; refine Calls.mono (HL.out _) ?_; rintro e w' ⟨rfl, rfl⟩))
      go_ret
      exact ⟨rfl, below_one _ _⟩
    · have e1 : isB n 0 999 = false := by simp [isB, h0]
      rw [e1]
      go_enter Tryd.func24, Tryd.ntmps24
      go_wp2_with (first | (go_at_call 46; refine Calls.mono (HL.out _) ?_; rintro e w' ⟨rfl, rfl⟩))
      go_ret
      exact ⟨rfl, below_one _ _⟩

set_option maxHeartbeats 400000 in
theorem spec_call (q0 q1 q2 q3 q4 q5 q6 q7 q8 : Int) (w : World) : Calls Tryd.prog 27 #[.agg #[.int .i64 q0, .int .i64 q1, .int .i64 q2, .int .i64 q3, .int .i64 q4, .int .i64 q5, .int .i64 q6, .int .i64 q7, .int .i64 q8]] w fun e w' => e = .returned (.bool (callB q0 q1 q2 q3 q4 q5 q6 q7 q8)) ∧ Below w.heap.size w w' := by
  have H1 : Hid (∀ W, Calls Tryd.prog 44 #[.int .i64 q0] W fun e w' => e = .returned (.bool (label.rightB q0)) ∧ w' = W) := fun W => label.spec_right q0 W
  have H2 : Hid (∀ W, Calls Tryd.prog 45 #[.int .i64 q1, .int .i64 1, .int .i64 12] W fun e w' => e = .returned (.bool (isB q1 1 12)) ∧ w' = W) := fun W => spec_is q1 1 12 W
  have H3 : Hid (∀ W, Calls Tryd.prog 21 #[.agg #[.int .i64 q2, .int .i64 q3]] W fun e w' => e = .returned (.bool (refB q2 q3)) ∧ Below W.heap.size W w') := fun W => spec_ref q2 q3 W
  have H4 : Hid (∀ W, Calls Tryd.prog 21 #[.agg #[.int .i64 q4, .int .i64 q5]] W fun e w' => e = .returned (.bool (refB q4 q5)) ∧ Below W.heap.size W w') := fun W => spec_ref q4 q5 W
  have H5 : Hid (∀ W, Calls Tryd.prog 45 #[.int .i64 q6, .int .i64 0, .int .i64 999999] W fun e w' => e = .returned (.bool (isB q6 0 999999)) ∧ w' = W) := fun W => spec_is q6 0 999999 W
  have H6 : Hid (∀ W, Calls Tryd.prog 45 #[.int .i64 q7, .int .i64 0, .int .i64 999999] W fun e w' => e = .returned (.bool (isB q7 0 999999)) ∧ w' = W) := fun W => spec_is q7 0 999999 W
  have H7 : Hid (∀ W, Calls Tryd.prog 45 #[.int .i64 q8, .int .i64 0, .int .i64 999999] W fun e w' => e = .returned (.bool (isB q8 0 999999)) ∧ w' = W) := fun W => spec_is q8 0 999999 W
  unfold callB
  generalize label.rightB q0 = b1 at *
  generalize isB q1 1 12 = b2 at *
  generalize refB q2 q3 = b3 at *
  generalize refB q4 q5 = b4 at *
  generalize isB q6 0 999999 = b5 at *
  generalize isB q7 0 999999 = b6 at *
  generalize isB q8 0 999999 = b7 at *
  cases b1 with
  | false =>
    go_enter Tryd.func27, Tryd.ntmps27
    go_wp2_with fail
    refine Calls.mono (H1.out _) ?_
    rintro e w' ⟨rfl, rfl⟩
    go_wp2_with fail
    go_ret
    exact ⟨rfl, below_one _ _⟩
  | true =>
    cases b2 with
    | false =>
      go_enter Tryd.func27, Tryd.ntmps27
      go_wp2_with fail
      refine Calls.mono (H1.out _) ?_
      rintro e w' ⟨rfl, rfl⟩
      go_wp2_with fail
      refine Calls.mono (H2.out _) ?_
      rintro e w' ⟨rfl, rfl⟩
      go_wp2_with fail
      go_ret
      exact ⟨rfl, below_one _ _⟩
    | true =>
      cases b3 with
      | false =>
        go_enter Tryd.func27, Tryd.ntmps27
        go_wp2_with fail
        refine Calls.mono (H1.out _) ?_
        rintro e w' ⟨rfl, rfl⟩
        go_wp2_with fail
        refine Calls.mono (H2.out _) ?_
        rintro e w' ⟨rfl, rfl⟩
        go_wp2_with fail
        refine Calls.mono (H3.out _) ?_
        rintro e w3 ⟨rfl, hb3⟩
        have HK3 : Hid (Blk w3 w.heap.size 32 [.int .i64 q0, .int .i64 q1, .int .i64 q2, .int .i64 q3, .int .i64 q4, .int .i64 q5, .int .i64 q6, .int .i64 q7, .int .i64 q8]) := (blk_new w _ _).later hb3
        have HB3 : Hid (Below w.heap.size w w3) := below_tr (below_one w _) hb3
        have k4 : w3.cell? ⟨w.heap.size, 4, none⟩ = some (.int .i64 q4) := HK3.out.cell 4
        have k5 : w3.cell? ⟨w.heap.size, 5, none⟩ = some (.int .i64 q5) := HK3.out.cell 5
        clear hb3
        go_wp2_with fail
        go_ret
        exact ⟨rfl, HB3.out⟩
      | true =>
        cases b4 with
        | false =>
          go_enter Tryd.func27, Tryd.ntmps27
          go_wp2_with fail
          refine Calls.mono (H1.out _) ?_
          rintro e w' ⟨rfl, rfl⟩
          go_wp2_with fail
          refine Calls.mono (H2.out _) ?_
          rintro e w' ⟨rfl, rfl⟩
          go_wp2_with fail
          refine Calls.mono (H3.out _) ?_
          rintro e w3 ⟨rfl, hb3⟩
          have HK3 : Hid (Blk w3 w.heap.size 32 [.int .i64 q0, .int .i64 q1, .int .i64 q2, .int .i64 q3, .int .i64 q4, .int .i64 q5, .int .i64 q6, .int .i64 q7, .int .i64 q8]) := (blk_new w _ _).later hb3
          have HB3 : Hid (Below w.heap.size w w3) := below_tr (below_one w _) hb3
          have k4 : w3.cell? ⟨w.heap.size, 4, none⟩ = some (.int .i64 q4) := HK3.out.cell 4
          have k5 : w3.cell? ⟨w.heap.size, 5, none⟩ = some (.int .i64 q5) := HK3.out.cell 5
          clear hb3
          go_wp2_with fail
          refine Calls.mono (H4.out _) ?_
          rintro e w4 ⟨rfl, hb4⟩
          have HK4 : Hid (Blk w4 w.heap.size 32 [.int .i64 q0, .int .i64 q1, .int .i64 q2, .int .i64 q3, .int .i64 q4, .int .i64 q5, .int .i64 q6, .int .i64 q7, .int .i64 q8]) := HK3.out.later hb4
          have HB4 : Hid (Below w.heap.size w w4) := below_tr HB3.out hb4
          have m6 : w4.cell? ⟨w.heap.size, 6, none⟩ = some (.int .i64 q6) := HK4.out.cell 6
          have m7 : w4.cell? ⟨w.heap.size, 7, none⟩ = some (.int .i64 q7) := HK4.out.cell 7
          have m8 : w4.cell? ⟨w.heap.size, 8, none⟩ = some (.int .i64 q8) := HK4.out.cell 8
          clear hb4 k4 k5
          go_wp2_with fail
          go_ret
          exact ⟨rfl, HB4.out⟩
        | true =>
          cases b5 with
          | false =>
            go_enter Tryd.func27, Tryd.ntmps27
            go_wp2_with fail
            refine Calls.mono (H1.out _) ?_
            rintro e w' ⟨rfl, rfl⟩
            go_wp2_with fail
            refine Calls.mono (H2.out _) ?_
            rintro e w' ⟨rfl, rfl⟩
            go_wp2_with fail
            refine Calls.mono (H3.out _) ?_
            rintro e w3 ⟨rfl, hb3⟩
            have HK3 : Hid (Blk w3 w.heap.size 32 [.int .i64 q0, .int .i64 q1, .int .i64 q2, .int .i64 q3, .int .i64 q4, .int .i64 q5, .int .i64 q6, .int .i64 q7, .int .i64 q8]) := (blk_new w _ _).later hb3
            have HB3 : Hid (Below w.heap.size w w3) := below_tr (below_one w _) hb3
            have k4 : w3.cell? ⟨w.heap.size, 4, none⟩ = some (.int .i64 q4) := HK3.out.cell 4
            have k5 : w3.cell? ⟨w.heap.size, 5, none⟩ = some (.int .i64 q5) := HK3.out.cell 5
            clear hb3
            go_wp2_with fail
            refine Calls.mono (H4.out _) ?_
            rintro e w4 ⟨rfl, hb4⟩
            have HK4 : Hid (Blk w4 w.heap.size 32 [.int .i64 q0, .int .i64 q1, .int .i64 q2, .int .i64 q3, .int .i64 q4, .int .i64 q5, .int .i64 q6, .int .i64 q7, .int .i64 q8]) := HK3.out.later hb4
            have HB4 : Hid (Below w.heap.size w w4) := below_tr HB3.out hb4
            have m6 : w4.cell? ⟨w.heap.size, 6, none⟩ = some (.int .i64 q6) := HK4.out.cell 6
            have m7 : w4.cell? ⟨w.heap.size, 7, none⟩ = some (.int .i64 q7) := HK4.out.cell 7
            have m8 : w4.cell? ⟨w.heap.size, 8, none⟩ = some (.int .i64 q8) := HK4.out.cell 8
            clear hb4 k4 k5
            go_wp2_with fail
            refine Calls.mono (H5.out _) ?_
            rintro e w' ⟨rfl, rfl⟩
            go_wp2_with fail
            go_ret
            exact ⟨rfl, HB4.out⟩
          | true =>
            cases b6 with
            | false =>
              go_enter Tryd.func27, Tryd.ntmps27
              go_wp2_with fail
              refine Calls.mono (H1.out _) ?_
              rintro e w' ⟨rfl, rfl⟩
              go_wp2_with fail
              refine Calls.mono (H2.out _) ?_
              rintro e w' ⟨rfl, rfl⟩
              go_wp2_with fail
              refine Calls.mono (H3.out _) ?_
              rintro e w3 ⟨rfl, hb3⟩
              have HK3 : Hid (Blk w3 w.heap.size 32 [.int .i64 q0, .int .i64 q1, .int .i64 q2, .int .i64 q3, .int .i64 q4, .int .i64 q5, .int .i64 q6, .int .i64 q7, .int .i64 q8]) := (blk_new w _ _).later hb3
              have HB3 : Hid (Below w.heap.size w w3) := below_tr (below_one w _) hb3
              have k4 : w3.cell? ⟨w.heap.size, 4, none⟩ = some (.int .i64 q4) := HK3.out.cell 4
              have k5 : w3.cell? ⟨w.heap.size, 5, none⟩ = some (.int .i64 q5) := HK3.out.cell 5
              clear hb3
              go_wp2_with fail
              refine Calls.mono (H4.out _) ?_
              rintro e w4 ⟨rfl, hb4⟩
              have HK4 : Hid (Blk w4 w.heap.size 32 [.int .i64 q0, .int .i64 q1, .int .i64 q2, .int .i64 q3, .int .i64 q4, .int .i64 q5, .int .i64 q6, .int .i64 q7, .int .i64 q8]) := HK3.out.later hb4
              have HB4 : Hid (Below w.heap.size w w4) := below_tr HB3.out hb4
              have m6 : w4.cell? ⟨w.heap.size, 6, none⟩ = some (.int .i64 q6) := HK4.out.cell 6
              have m7 : w4.cell? ⟨w.heap.size, 7, none⟩ = some (.int .i64 q7) := HK4.out.cell 7
              have m8 : w4.cell? ⟨w.heap.size, 8, none⟩ = some (.int .i64 q8) := HK4.out.cell 8
              clear hb4 k4 k5
              go_wp2_with fail
              refine Calls.mono (H5.out _) ?_
              rintro e w' ⟨rfl, rfl⟩
              go_wp2_with fail
              refine Calls.mono (H6.out _) ?_
              rintro e w' ⟨rfl, rfl⟩
              go_wp2_with fail
              go_ret
              exact ⟨rfl, HB4.out⟩
            | true =>
              go_enter Tryd.func27, Tryd.ntmps27
              go_wp2_with fail
              refine Calls.mono (H1.out _) ?_
              rintro e w' ⟨rfl, rfl⟩
              go_wp2_with fail
              refine Calls.mono (H2.out _) ?_
              rintro e w' ⟨rfl, rfl⟩
              go_wp2_with fail
              refine Calls.mono (H3.out _) ?_
              rintro e w3 ⟨rfl, hb3⟩
              have HK3 : Hid (Blk w3 w.heap.size 32 [.int .i64 q0, .int .i64 q1, .int .i64 q2, .int .i64 q3, .int .i64 q4, .int .i64 q5, .int .i64 q6, .int .i64 q7, .int .i64 q8]) := (blk_new w _ _).later hb3
              have HB3 : Hid (Below w.heap.size w w3) := below_tr (below_one w _) hb3
              have k4 : w3.cell? ⟨w.heap.size, 4, none⟩ = some (.int .i64 q4) := HK3.out.cell 4
              have k5 : w3.cell? ⟨w.heap.size, 5, none⟩ = some (.int .i64 q5) := HK3.out.cell 5
              clear hb3
              go_wp2_with fail
              refine Calls.mono (H4.out _) ?_
              rintro e w4 ⟨rfl, hb4⟩
              have HK4 : Hid (Blk w4 w.heap.size 32 [.int .i64 q0, .int .i64 q1, .int .i64 q2, .int .i64 q3, .int .i64 q4, .int .i64 q5, .int .i64 q6, .int .i64 q7, .int .i64 q8]) := HK3.out.later hb4
              have HB4 : Hid (Below w.heap.size w w4) := below_tr HB3.out hb4
              have m6 : w4.cell? ⟨w.heap.size, 6, none⟩ = some (.int .i64 q6) := HK4.out.cell 6
              have m7 : w4.cell? ⟨w.heap.size, 7, none⟩ = some (.int .i64 q7) := HK4.out.cell 7
              have m8 : w4.cell? ⟨w.heap.size, 8, none⟩ = some (.int .i64 q8) := HK4.out.cell 8
              clear hb4 k4 k5
              go_wp2_with fail
              refine Calls.mono (H5.out _) ?_
              rintro e w' ⟨rfl, rfl⟩
              go_wp2_with fail
              refine Calls.mono (H6.out _) ?_
              rintro e w' ⟨rfl, rfl⟩
              go_wp2_with fail
              refine Calls.mono (H7.out _) ?_
              rintro e w' ⟨rfl, rfl⟩
              go_wp2_with fail
              go_ret
              exact ⟨rfl, HB4.out⟩

set_option maxHeartbeats 400000 in
theorem impl_call (q0 q1 q2 q3 q4 q5 q6 q7 q8 : Int) (w : World) : Calls Tryd.prog 31 #[.agg #[.int .i64 q0, .int .i64 q1, .int .i64 q2, .int .i64 q3, .int .i64 q4, .int .i64 q5, .int .i64 q6, .int .i64 q7, .int .i64 q8]] w fun e w' => e = .returned (.bool (callB q0 q1 q2 q3 q4 q5 q6 q7 q8)) ∧ Below w.heap.size w w' := by
  have H1 : Hid (∀ W, Calls Tryd.prog 46 #[.int .i64 q0] W fun e w' => e = .returned (.bool (label.rightB q0)) ∧ w' = W) := fun W => label.impl_right q0 W
  have H3 : Hid (∀ W, Calls Tryd.prog 24 #[.agg #[.int .i64 q2, .int .i64 q3]] W fun e w' => e = .returned (.bool (refB q2 q3)) ∧ Below W.heap.size W w') := fun W => impl_ref q2 q3 W
  have H4 : Hid (∀ W, Calls Tryd.prog 24 #[.agg #[.int .i64 q4, .int .i64 q5]] W fun e w' => e = .returned (.bool (refB q4 q5)) ∧ Below W.heap.size W w') := fun W => impl_ref q4 q5 W
  have H5 : Hid (∀ W, Calls Tryd.prog 50 #[.int .i64 q6] W fun e w' => e = .returned (.bool (isB q6 0 999999)) ∧ w' = W) := fun W => impl_arg q6 W
  have H6 : Hid (∀ W, Calls Tryd.prog 50 #[.int .i64 q7] W fun e w' => e = .returned (.bool (isB q7 0 999999)) ∧ w' = W) := fun W => impl_arg q7 W
  have H7 : Hid (∀ W, Calls Tryd.prog 50 #[.int .i64 q8] W fun e w' => e = .returned (.bool (isB q8 0 999999)) ∧ w' = W) := fun W => impl_arg q8 W
  unfold callB
  generalize label.rightB q0 = b1 at *
  generalize refB q2 q3 = b3 at *
  generalize refB q4 q5 = b4 at *
  generalize isB q6 0 999999 = b5 at *
  generalize isB q7 0 999999 = b6 at *
  generalize isB q8 0 999999 = b7 at *
  cases b1 with
  | false =>
    go_enter Tryd.func31, Tryd.ntmps31
    go_wp2_with fail
    refine Calls.mono (H1.out _) ?_
    rintro e w' ⟨rfl, rfl⟩
    go_wp2_with fail
    go_ret
    exact ⟨rfl, below_one _ _⟩
  | true =>
    by_cases h0 : 1 ≤ q1
    · by_cases h1 : q1 ≤ 12
      · have e1 : isB q1 1 12 = true := by simp [isB, h0, h1]
        rw [e1]
        cases b3 with
        | false =>
          go_enter Tryd.func31, Tryd.ntmps31
          go_wp2_with fail
          refine Calls.mono (H1.out _) ?_
          rintro e w' ⟨rfl, rfl⟩
          go_wp2_with fail
          refine Calls.mono (H3.out _) ?_
          rintro e w3 ⟨rfl, hb3⟩
          have HK3 : Hid (Blk w3 w.heap.size 32 [.int .i64 q0, .int .i64 q1, .int .i64 q2, .int .i64 q3, .int .i64 q4, .int .i64 q5, .int .i64 q6, .int .i64 q7, .int .i64 q8]) := (blk_new w _ _).later hb3
          have HB3 : Hid (Below w.heap.size w w3) := below_tr (below_one w _) hb3
          have k4 : w3.cell? ⟨w.heap.size, 4, none⟩ = some (.int .i64 q4) := HK3.out.cell 4
          have k5 : w3.cell? ⟨w.heap.size, 5, none⟩ = some (.int .i64 q5) := HK3.out.cell 5
          clear hb3
          go_wp2_with fail
          go_ret
          exact ⟨rfl, HB3.out⟩
        | true =>
          cases b4 with
          | false =>
            go_enter Tryd.func31, Tryd.ntmps31
            go_wp2_with fail
            refine Calls.mono (H1.out _) ?_
            rintro e w' ⟨rfl, rfl⟩
            go_wp2_with fail
            refine Calls.mono (H3.out _) ?_
            rintro e w3 ⟨rfl, hb3⟩
            have HK3 : Hid (Blk w3 w.heap.size 32 [.int .i64 q0, .int .i64 q1, .int .i64 q2, .int .i64 q3, .int .i64 q4, .int .i64 q5, .int .i64 q6, .int .i64 q7, .int .i64 q8]) := (blk_new w _ _).later hb3
            have HB3 : Hid (Below w.heap.size w w3) := below_tr (below_one w _) hb3
            have k4 : w3.cell? ⟨w.heap.size, 4, none⟩ = some (.int .i64 q4) := HK3.out.cell 4
            have k5 : w3.cell? ⟨w.heap.size, 5, none⟩ = some (.int .i64 q5) := HK3.out.cell 5
            clear hb3
            go_wp2_with fail
            refine Calls.mono (H4.out _) ?_
            rintro e w4 ⟨rfl, hb4⟩
            have HK4 : Hid (Blk w4 w.heap.size 32 [.int .i64 q0, .int .i64 q1, .int .i64 q2, .int .i64 q3, .int .i64 q4, .int .i64 q5, .int .i64 q6, .int .i64 q7, .int .i64 q8]) := HK3.out.later hb4
            have HB4 : Hid (Below w.heap.size w w4) := below_tr HB3.out hb4
            have m6 : w4.cell? ⟨w.heap.size, 6, none⟩ = some (.int .i64 q6) := HK4.out.cell 6
            have m7 : w4.cell? ⟨w.heap.size, 7, none⟩ = some (.int .i64 q7) := HK4.out.cell 7
            have m8 : w4.cell? ⟨w.heap.size, 8, none⟩ = some (.int .i64 q8) := HK4.out.cell 8
            clear hb4 k4 k5
            go_wp2_with fail
            go_ret
            exact ⟨rfl, HB4.out⟩
          | true =>
            cases b5 with
            | false =>
              go_enter Tryd.func31, Tryd.ntmps31
              go_wp2_with fail
              refine Calls.mono (H1.out _) ?_
              rintro e w' ⟨rfl, rfl⟩
              go_wp2_with fail
              refine Calls.mono (H3.out _) ?_
              rintro e w3 ⟨rfl, hb3⟩
              have HK3 : Hid (Blk w3 w.heap.size 32 [.int .i64 q0, .int .i64 q1, .int .i64 q2, .int .i64 q3, .int .i64 q4, .int .i64 q5, .int .i64 q6, .int .i64 q7, .int .i64 q8]) := (blk_new w _ _).later hb3
              have HB3 : Hid (Below w.heap.size w w3) := below_tr (below_one w _) hb3
              have k4 : w3.cell? ⟨w.heap.size, 4, none⟩ = some (.int .i64 q4) := HK3.out.cell 4
              have k5 : w3.cell? ⟨w.heap.size, 5, none⟩ = some (.int .i64 q5) := HK3.out.cell 5
              clear hb3
              go_wp2_with fail
              refine Calls.mono (H4.out _) ?_
              rintro e w4 ⟨rfl, hb4⟩
              have HK4 : Hid (Blk w4 w.heap.size 32 [.int .i64 q0, .int .i64 q1, .int .i64 q2, .int .i64 q3, .int .i64 q4, .int .i64 q5, .int .i64 q6, .int .i64 q7, .int .i64 q8]) := HK3.out.later hb4
              have HB4 : Hid (Below w.heap.size w w4) := below_tr HB3.out hb4
              have m6 : w4.cell? ⟨w.heap.size, 6, none⟩ = some (.int .i64 q6) := HK4.out.cell 6
              have m7 : w4.cell? ⟨w.heap.size, 7, none⟩ = some (.int .i64 q7) := HK4.out.cell 7
              have m8 : w4.cell? ⟨w.heap.size, 8, none⟩ = some (.int .i64 q8) := HK4.out.cell 8
              clear hb4 k4 k5
              go_wp2_with fail
              refine Calls.mono (H5.out _) ?_
              rintro e w' ⟨rfl, rfl⟩
              go_wp2_with fail
              go_ret
              exact ⟨rfl, HB4.out⟩
            | true =>
              cases b6 with
              | false =>
                go_enter Tryd.func31, Tryd.ntmps31
                go_wp2_with fail
                refine Calls.mono (H1.out _) ?_
                rintro e w' ⟨rfl, rfl⟩
                go_wp2_with fail
                refine Calls.mono (H3.out _) ?_
                rintro e w3 ⟨rfl, hb3⟩
                have HK3 : Hid (Blk w3 w.heap.size 32 [.int .i64 q0, .int .i64 q1, .int .i64 q2, .int .i64 q3, .int .i64 q4, .int .i64 q5, .int .i64 q6, .int .i64 q7, .int .i64 q8]) := (blk_new w _ _).later hb3
                have HB3 : Hid (Below w.heap.size w w3) := below_tr (below_one w _) hb3
                have k4 : w3.cell? ⟨w.heap.size, 4, none⟩ = some (.int .i64 q4) := HK3.out.cell 4
                have k5 : w3.cell? ⟨w.heap.size, 5, none⟩ = some (.int .i64 q5) := HK3.out.cell 5
                clear hb3
                go_wp2_with fail
                refine Calls.mono (H4.out _) ?_
                rintro e w4 ⟨rfl, hb4⟩
                have HK4 : Hid (Blk w4 w.heap.size 32 [.int .i64 q0, .int .i64 q1, .int .i64 q2, .int .i64 q3, .int .i64 q4, .int .i64 q5, .int .i64 q6, .int .i64 q7, .int .i64 q8]) := HK3.out.later hb4
                have HB4 : Hid (Below w.heap.size w w4) := below_tr HB3.out hb4
                have m6 : w4.cell? ⟨w.heap.size, 6, none⟩ = some (.int .i64 q6) := HK4.out.cell 6
                have m7 : w4.cell? ⟨w.heap.size, 7, none⟩ = some (.int .i64 q7) := HK4.out.cell 7
                have m8 : w4.cell? ⟨w.heap.size, 8, none⟩ = some (.int .i64 q8) := HK4.out.cell 8
                clear hb4 k4 k5
                go_wp2_with fail
                refine Calls.mono (H5.out _) ?_
                rintro e w' ⟨rfl, rfl⟩
                go_wp2_with fail
                refine Calls.mono (H6.out _) ?_
                rintro e w' ⟨rfl, rfl⟩
                go_wp2_with fail
                go_ret
                exact ⟨rfl, HB4.out⟩
              | true =>
                go_enter Tryd.func31, Tryd.ntmps31
                go_wp2_with fail
                refine Calls.mono (H1.out _) ?_
                rintro e w' ⟨rfl, rfl⟩
                go_wp2_with fail
                refine Calls.mono (H3.out _) ?_
                rintro e w3 ⟨rfl, hb3⟩
                have HK3 : Hid (Blk w3 w.heap.size 32 [.int .i64 q0, .int .i64 q1, .int .i64 q2, .int .i64 q3, .int .i64 q4, .int .i64 q5, .int .i64 q6, .int .i64 q7, .int .i64 q8]) := (blk_new w _ _).later hb3
                have HB3 : Hid (Below w.heap.size w w3) := below_tr (below_one w _) hb3
                have k4 : w3.cell? ⟨w.heap.size, 4, none⟩ = some (.int .i64 q4) := HK3.out.cell 4
                have k5 : w3.cell? ⟨w.heap.size, 5, none⟩ = some (.int .i64 q5) := HK3.out.cell 5
                clear hb3
                go_wp2_with fail
                refine Calls.mono (H4.out _) ?_
                rintro e w4 ⟨rfl, hb4⟩
                have HK4 : Hid (Blk w4 w.heap.size 32 [.int .i64 q0, .int .i64 q1, .int .i64 q2, .int .i64 q3, .int .i64 q4, .int .i64 q5, .int .i64 q6, .int .i64 q7, .int .i64 q8]) := HK3.out.later hb4
                have HB4 : Hid (Below w.heap.size w w4) := below_tr HB3.out hb4
                have m6 : w4.cell? ⟨w.heap.size, 6, none⟩ = some (.int .i64 q6) := HK4.out.cell 6
                have m7 : w4.cell? ⟨w.heap.size, 7, none⟩ = some (.int .i64 q7) := HK4.out.cell 7
                have m8 : w4.cell? ⟨w.heap.size, 8, none⟩ = some (.int .i64 q8) := HK4.out.cell 8
                clear hb4 k4 k5
                go_wp2_with fail
                refine Calls.mono (H5.out _) ?_
                rintro e w' ⟨rfl, rfl⟩
                go_wp2_with fail
                refine Calls.mono (H6.out _) ?_
                rintro e w' ⟨rfl, rfl⟩
                go_wp2_with fail
                refine Calls.mono (H7.out _) ?_
                rintro e w' ⟨rfl, rfl⟩
                go_wp2_with fail
                go_ret
                exact ⟨rfl, HB4.out⟩
      · have e1 : isB q1 1 12 = false := by simp [isB, h0, h1]
        rw [e1]
        go_enter Tryd.func31, Tryd.ntmps31
        go_wp2_with fail
        refine Calls.mono (H1.out _) ?_
        rintro e w' ⟨rfl, rfl⟩
        go_wp2_with fail
        go_ret
        exact ⟨rfl, below_one _ _⟩
    · have e1 : isB q1 1 12 = false := by simp [isB, h0]
      rw [e1]
      go_enter Tryd.func31, Tryd.ntmps31
      go_wp2_with fail
      refine Calls.mono (H1.out _) ?_
      rintro e w' ⟨rfl, rfl⟩
      go_wp2_with fail
      go_ret
      exact ⟨rfl, below_one _ _⟩
end Go.Proofs.YtlojigfhbfemfaaDoor.call
