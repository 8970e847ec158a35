/-
  A call made anew by the laws' helpers, and CallRight, the specification's and the program's, at every call. No condition.
-/
import Derived.Test.YtpehmphcnimegaaDeep
import Derived.Test.YtpehmphcnimegaaLabel
namespace Go.Proofs.Ytpehmphcnimegaa.call
open Go.RowKit Go.Deep
open Go.Proofs.Ytpehmphcnimegaa
open Go.Proofs.Ytpehmphcnimegaa.deep
set_option linter.unusedVariables false

theorem to_ref (p0 p1 : Int) (w : World) : Calls Try.prog 32 #[.agg #[.int .i64 p0, .int .i64 p1]] w fun e w' => e = .returned (.agg #[.int .i64 p0, .int .i64 p1]) ∧ Below w.heap.size w w' := by
  go_enter Try.func32, Try.ntmps32
  go_wp2
  exact bodyPost_ret (v := .agg #[.int .i64 p0, .int .i64 p1]) (by simp [results, Try.results32, go_sem]) rfl ⟨rfl, below3 _ _ _ _⟩

set_option maxHeartbeats 400000 in
theorem to_call (q0 q1 q2 q3 q4 q5 q6 q7 q8 : Int) (w : World) : Calls Try.prog 20 #[.agg #[.int .i64 q0, .int .i64 q1, .int .i64 q2, .int .i64 q3, .int .i64 q4, .int .i64 q5, .int .i64 q6, .int .i64 q7, .int .i64 q8]] w fun e w' => e = .returned (.agg #[.int .i64 q0, .int .i64 q1, .int .i64 q2, .int .i64 q3, .int .i64 q4, .int .i64 q5, .int .i64 q6, .int .i64 q7, .int .i64 q8]) ∧ Below w.heap.size w w' := by
  have HT : Hid (∀ p q W, Calls Try.prog 32 #[.agg #[.int .i64 p, .int .i64 q]] W fun e w' => e = .returned (.agg #[.int .i64 p, .int .i64 q]) ∧ Below W.heap.size W w') := fun p q W => to_ref p q W
  go_enter Try.func20, Try.ntmps20
  go_wp2_with fail
  refine Calls.mono (HT.out _ _ _) ?_
  rintro e w1 ⟨rfl, hb1⟩
  have F := blk3 w [.int .i64 q0, .int .i64 q1, .int .i64 q2, .int .i64 q3, .int .i64 q4, .int .i64 q5, .int .i64 q6, .int .i64 q7, .int .i64 q8] [.int .i64 0, .int .i64 0, .int .i64 0, .int .i64 0, .int .i64 0, .int .i64 0, .int .i64 0, .int .i64 0, .int .i64 0] [.int .i64 q0, .int .i64 q1, .int .i64 0, .int .i64 0, .int .i64 0, .int .i64 0, .int .i64 0, .int .i64 0, .int .i64 0] 46 42 42
  have HA1 : Hid (Blk w1 (w.heap.size) 46 [.int .i64 q0, .int .i64 q1, .int .i64 q2, .int .i64 q3, .int .i64 q4, .int .i64 q5, .int .i64 q6, .int .i64 q7, .int .i64 q8]) := F.1.later hb1
  have HR1 : Hid (Blk w1 (w.heap.size + 1) 42 [.int .i64 0, .int .i64 0, .int .i64 0, .int .i64 0, .int .i64 0, .int .i64 0, .int .i64 0, .int .i64 0, .int .i64 0]) := F.2.1.later hb1
  have HO1 : Hid (Blk w1 (w.heap.size + 1 + 1) 42 [.int .i64 q0, .int .i64 q1, .int .i64 0, .int .i64 0, .int .i64 0, .int .i64 0, .int .i64 0, .int .i64 0, .int .i64 0]) := F.2.2.later hb1
  have HB1 : Hid (Below w.heap.size w w1) := below_tr (below3 w _ _ _) hb1
  have hs1 : w.heap.size + 3 ≤ w1.heap.size := by have := hb1.size; simp at this; omega
  clear hb1 F
  have a4 : w1.cell? ⟨w.heap.size, 4, none⟩ = some (.int .i64 q4) := HA1.out.cell 4
  have a5 : w1.cell? ⟨w.heap.size, 5, none⟩ = some (.int .i64 q5) := HA1.out.cell 5
  have o2 : w1.cell? ⟨w.heap.size + 1 + 1, 2, none⟩ = some (.int .i64 0) := HO1.out.cell 2
  have y2 := HO1.out.free 2
  have o3 : w1.cell? ⟨w.heap.size + 1 + 1, 3, none⟩ = some (.int .i64 0) := HO1.out.cell 3
  have y3 := HO1.out.free 3
  go_wp2_with fail
  have HP1 : Hid (Below w.heap.size w (putW w1 (w.heap.size + 1 + 1) 2 [.int .i64 q2, .int .i64 q3])) := putW_below [.int .i64 q2, .int .i64 q3] HB1.out (by omega)
  refine Calls.mono (HT.out _ _ _) ?_
  rintro e w2 ⟨rfl, hb2⟩
  have HA2 : Hid (Blk w2 (w.heap.size) 46 [.int .i64 q0, .int .i64 q1, .int .i64 q2, .int .i64 q3, .int .i64 q4, .int .i64 q5, .int .i64 q6, .int .i64 q7, .int .i64 q8]) := (HA1.out.other [.int .i64 q2, .int .i64 q3] (w.heap.size + 1 + 1) 2 (by omega)).later hb2
  have HR2 : Hid (Blk w2 (w.heap.size + 1) 42 [.int .i64 0, .int .i64 0, .int .i64 0, .int .i64 0, .int .i64 0, .int .i64 0, .int .i64 0, .int .i64 0, .int .i64 0]) := (HR1.out.other [.int .i64 q2, .int .i64 q3] (w.heap.size + 1 + 1) 2 (by omega)).later hb2
  have HO2 : Hid (Blk w2 (w.heap.size + 1 + 1) 42 [.int .i64 q0, .int .i64 q1, .int .i64 q2, .int .i64 q3, .int .i64 0, .int .i64 0, .int .i64 0, .int .i64 0, .int .i64 0]) := (HO1.out.put [.int .i64 q2, .int .i64 q3] 2).later hb2
  have HB2 : Hid (Below w.heap.size w w2) := below_tr HP1.out hb2
  have hs2 : w.heap.size + 3 ≤ w2.heap.size := by have := hb2.size; simp at this; omega
  clear hb2 HA1 HR1 HO1 HP1 HB1 hs1 a4 a5 o2 o3 y2 y3
  have a6 : w2.cell? ⟨w.heap.size, 6, none⟩ = some (.int .i64 q6) := HA2.out.cell 6
  have a7 : w2.cell? ⟨w.heap.size, 7, none⟩ = some (.int .i64 q7) := HA2.out.cell 7
  have a8 : w2.cell? ⟨w.heap.size, 8, none⟩ = some (.int .i64 q8) := HA2.out.cell 8
  have o0 : w2.cell? ⟨w.heap.size + 1 + 1, 0, none⟩ = some (.int .i64 q0) := HO2.out.cell 0
  have y0 := HO2.out.free 0
  have o1 : w2.cell? ⟨w.heap.size + 1 + 1, 1, none⟩ = some (.int .i64 q1) := HO2.out.cell 1
  have y1 := HO2.out.free 1
  have o2 : w2.cell? ⟨w.heap.size + 1 + 1, 2, none⟩ = some (.int .i64 q2) := HO2.out.cell 2
  have y2 := HO2.out.free 2
  have o3 : w2.cell? ⟨w.heap.size + 1 + 1, 3, none⟩ = some (.int .i64 q3) := HO2.out.cell 3
  have y3 := HO2.out.free 3
  have o4 : w2.cell? ⟨w.heap.size + 1 + 1, 4, none⟩ = some (.int .i64 0) := HO2.out.cell 4
  have y4 := HO2.out.free 4
  have o5 : w2.cell? ⟨w.heap.size + 1 + 1, 5, none⟩ = some (.int .i64 0) := HO2.out.cell 5
  have y5 := HO2.out.free 5
  have o6 : w2.cell? ⟨w.heap.size + 1 + 1, 6, none⟩ = some (.int .i64 0) := HO2.out.cell 6
  have y6 := HO2.out.free 6
  have o7 : w2.cell? ⟨w.heap.size + 1 + 1, 7, none⟩ = some (.int .i64 0) := HO2.out.cell 7
  have y7 := HO2.out.free 7
  have o8 : w2.cell? ⟨w.heap.size + 1 + 1, 8, none⟩ = some (.int .i64 0) := HO2.out.cell 8
  have y8 := HO2.out.free 8
  have r0 : w2.cell? ⟨w.heap.size + 1, 0, none⟩ = some (.int .i64 0) := HR2.out.cell 0
  have u0 := HR2.out.free 0
  have r1 : w2.cell? ⟨w.heap.size + 1, 1, none⟩ = some (.int .i64 0) := HR2.out.cell 1
  have u1 := HR2.out.free 1
  have r2 : w2.cell? ⟨w.heap.size + 1, 2, none⟩ = some (.int .i64 0) := HR2.out.cell 2
  have u2 := HR2.out.free 2
  have r3 : w2.cell? ⟨w.heap.size + 1, 3, none⟩ = some (.int .i64 0) := HR2.out.cell 3
  have u3 := HR2.out.free 3
  have r4 : w2.cell? ⟨w.heap.size + 1, 4, none⟩ = some (.int .i64 0) := HR2.out.cell 4
  have u4 := HR2.out.free 4
  have r5 : w2.cell? ⟨w.heap.size + 1, 5, none⟩ = some (.int .i64 0) := HR2.out.cell 5
  have u5 := HR2.out.free 5
  have r6 : w2.cell? ⟨w.heap.size + 1, 6, none⟩ = some (.int .i64 0) := HR2.out.cell 6
  have u6 := HR2.out.free 6
  have r7 : w2.cell? ⟨w.heap.size + 1, 7, none⟩ = some (.int .i64 0) := HR2.out.cell 7
  have u7 := HR2.out.free 7
  have r8 : w2.cell? ⟨w.heap.size + 1, 8, none⟩ = some (.int .i64 0) := HR2.out.cell 8
  have u8 := HR2.out.free 8
  go_wp2_with fail
  refine bodyPost_ret (v := .agg #[.int .i64 q0, .int .i64 q1, .int .i64 q2, .int .i64 q3, .int .i64 q4, .int .i64 q5, .int .i64 q6, .int .i64 q7, .int .i64 q8]) (by simp [results, Try.results20, go_sem, r0, r1, r2, r3, r4, r5, r6, r7, r8]) rfl ⟨rfl, ?_⟩
  exact putW_below [.int .i64 q0, .int .i64 q1, .int .i64 q2, .int .i64 q3, .int .i64 q4, .int .i64 q5, .int .i64 q6, .int .i64 q7, .int .i64 q8] (putW_below [.int .i64 q4, .int .i64 q5, .int .i64 q6, .int .i64 q7, .int .i64 q8] (b := 4) HB2.out (g := w.heap.size + 1 + 1) (by omega)) (by omega) (b := 0)
end Go.Proofs.Ytpehmphcnimegaa.call
