/-
  The program's CallRead, at every text; two lines compared. Condition: the program's tables read as its text lays them.
-/
import Derived.Test.YtacfhchmoiphfaaDoorScrCallI
namespace Go.Proofs.YtacfhchmoiphfaaDoor.scr
open Go.RowKit Go.Deep Go.Sort
open Go.Proofs.YtacfhchmoiphfaaDoor
open Go.Proofs.YtacfhchmoiphfaaDoor.deep (Blk putW putL)
open Go.Proofs.YtacfhchmoiphfaaDoor.call (CallD ccall)
set_option linter.unusedVariables false
set_option maxRecDepth 100000

set_option maxHeartbeats 4000000 in
theorem impl_readc (s : ByteArray) (hs : s.size ≤ 9223372036854775807) (w : World) (hS : Say w) : Calls Tryd.prog 8 #[.string s] w (ReadPost s w) := by
  have HZ0 : Hid (Blk (w.alloc (.cells #[.int .i64 0, .int .i64 0, .int .i64 0, .int .i64 0, .int .i64 0, .int .i64 0, .int .i64 0, .int .i64 0, .int .i64 0, .int .i64 0] 31)) w.heap.size 31 [.int .i64 0, .int .i64 0, .int .i64 0, .int .i64 0, .int .i64 0, .int .i64 0, .int .i64 0, .int .i64 0, .int .i64 0, .int .i64 0]) := deep.blk_new w _ _
  have HB0 : Hid (Below w.heap.size w (w.alloc (.cells #[.int .i64 0, .int .i64 0, .int .i64 0, .int .i64 0, .int .i64 0, .int .i64 0, .int .i64 0, .int .i64 0, .int .i64 0, .int .i64 0] 31))) := below_one _ _
  have HS0 : Hid (Say (w.alloc (.cells #[.int .i64 0, .int .i64 0, .int .i64 0, .int .i64 0, .int .i64 0, .int .i64 0, .int .i64 0, .int .i64 0, .int .i64 0, .int .i64 0] 31))) := hS.alloc _
  clear hS
  by_cases h8 : 8000 < s.size
  · have HR : Hid (Reads s noCall 2) := .inl ⟨h8, rfl, rfl⟩
    unfold ReadPost
    go_enter Tryd.func8, Tryd.ntmps8
    go_wp2
    exact bodyPost_ret (v := lineV noCall 2) (by simp [results, Tryd.results8, go_sem, lineV, noCall]) rfl ⟨_, _, rfl, HR.out, below_one _ _⟩
  have HC : Hid (∀ W, Say W → Calls Tryd.prog 24 #[.string s] W (CallPost s W)) := fun W h => impl_rcall s (by omega) W h
  have HY : Hid (∀ c, Got s c true → Reads s c 0) := fun c h => by
    rcases h with ⟨_, h1, h2⟩ | ⟨h, _⟩
    · exact .inr (.inl ⟨by omega, h2, h1, rfl⟩)
    · cases h
  have HN : Hid (∀ c, Got s c false → Reads s noCall 3) := fun c h => by
    rcases h with ⟨h, _⟩ | ⟨_, h1⟩
    · cases h
    · exact .inr (.inr ⟨by omega, h1, rfl, rfl⟩)
  unfold ReadPost
  obtain ⟨R, hR⟩ : ∃ R, R = Reads s := ⟨_, rfl⟩
  rw [← hR] at HY HN ⊢
  clear hR
  go_enter Tryd.func8, Tryd.ntmps8
  go_wp2_with fail
  refine Calls.mono (HC.out _ HS0.out) ?_
  rintro e w1 ⟨c, k, rfl, hg, hb1⟩
  have HZ1 : Hid (Blk w1 w.heap.size 31 [.int .i64 0, .int .i64 0, .int .i64 0, .int .i64 0, .int .i64 0, .int .i64 0, .int .i64 0, .int .i64 0, .int .i64 0, .int .i64 0]) := HZ0.out.later hb1
  have HB1 : Hid (Below w.heap.size w w1) := below_tr HB0.out hb1
  have hlt : w.heap.size < w1.heap.size := HZ1.out.lt
  clear hb1 HZ0 HB0 HS0
  have z0 : w1.cell? ⟨w.heap.size, 0, none⟩ = some (.int .i64 0) := HZ1.out.cell 0
  have y0 := HZ1.out.free 0
  have z1 : w1.cell? ⟨w.heap.size, 1, none⟩ = some (.int .i64 0) := HZ1.out.cell 1
  have y1 := HZ1.out.free 1
  have z2 : w1.cell? ⟨w.heap.size, 2, none⟩ = some (.int .i64 0) := HZ1.out.cell 2
  have y2 := HZ1.out.free 2
  have z3 : w1.cell? ⟨w.heap.size, 3, none⟩ = some (.int .i64 0) := HZ1.out.cell 3
  have y3 := HZ1.out.free 3
  have z4 : w1.cell? ⟨w.heap.size, 4, none⟩ = some (.int .i64 0) := HZ1.out.cell 4
  have y4 := HZ1.out.free 4
  have z5 : w1.cell? ⟨w.heap.size, 5, none⟩ = some (.int .i64 0) := HZ1.out.cell 5
  have y5 := HZ1.out.free 5
  have z6 : w1.cell? ⟨w.heap.size, 6, none⟩ = some (.int .i64 0) := HZ1.out.cell 6
  have y6 := HZ1.out.free 6
  have z7 : w1.cell? ⟨w.heap.size, 7, none⟩ = some (.int .i64 0) := HZ1.out.cell 7
  have y7 := HZ1.out.free 7
  have z8 : w1.cell? ⟨w.heap.size, 8, none⟩ = some (.int .i64 0) := HZ1.out.cell 8
  have y8 := HZ1.out.free 8
  have z9 : w1.cell? ⟨w.heap.size, 9, none⟩ = some (.int .i64 0) := HZ1.out.cell 9
  have y9 := HZ1.out.free 9
  cases k with
  | true =>
    have HP : Hid _ := HY.out c hg
    clear HY HN hg
    obtain ⟨d0, d1, d2, d3, d4, d5, d6, d7, d8⟩ := c
    simp only [ccall]
    have HF : Hid (Blk (((((((((((w1.setCell ⟨w.heap.size, 0, none⟩ (.int .i64 d0)).setCell ⟨w.heap.size, 1, none⟩ (.int .i64 d1)).setCell ⟨w.heap.size, 2, none⟩ (.int .i64 d2)).setCell ⟨w.heap.size, 3, none⟩ (.int .i64 d3)).setCell ⟨w.heap.size, 4, none⟩ (.int .i64 d4)).setCell ⟨w.heap.size, 5, none⟩ (.int .i64 d5)).setCell ⟨w.heap.size, 6, none⟩ (.int .i64 d6)).setCell ⟨w.heap.size, 7, none⟩ (.int .i64 d7)).setCell ⟨w.heap.size, 8, none⟩ (.int .i64 d8)).setCell ⟨w.heap.size, 9, none⟩ (.int .i64 0)).alloc (.cells #[.int .i64 d0, .int .i64 d1, .int .i64 d2, .int .i64 d3, .int .i64 d4, .int .i64 d5, .int .i64 d6, .int .i64 d7, .int .i64 d8] 26)) w.heap.size 31 [.int .i64 d0, .int .i64 d1, .int .i64 d2, .int .i64 d3, .int .i64 d4, .int .i64 d5, .int .i64 d6, .int .i64 d7, .int .i64 d8, .int .i64 0]) := (HZ1.out.put [.int .i64 d0, .int .i64 d1, .int .i64 d2, .int .i64 d3, .int .i64 d4, .int .i64 d5, .int .i64 d6, .int .i64 d7, .int .i64 d8, .int .i64 0] 0).later (below_one _ _)
    have HBF : Hid (Below w.heap.size w (((((((((((w1.setCell ⟨w.heap.size, 0, none⟩ (.int .i64 d0)).setCell ⟨w.heap.size, 1, none⟩ (.int .i64 d1)).setCell ⟨w.heap.size, 2, none⟩ (.int .i64 d2)).setCell ⟨w.heap.size, 3, none⟩ (.int .i64 d3)).setCell ⟨w.heap.size, 4, none⟩ (.int .i64 d4)).setCell ⟨w.heap.size, 5, none⟩ (.int .i64 d5)).setCell ⟨w.heap.size, 6, none⟩ (.int .i64 d6)).setCell ⟨w.heap.size, 7, none⟩ (.int .i64 d7)).setCell ⟨w.heap.size, 8, none⟩ (.int .i64 d8)).setCell ⟨w.heap.size, 9, none⟩ (.int .i64 0)).alloc (.cells #[.int .i64 d0, .int .i64 d1, .int .i64 d2, .int .i64 d3, .int .i64 d4, .int .i64 d5, .int .i64 d6, .int .i64 d7, .int .i64 d8] 26))) := below_tr (deep.putW_below [.int .i64 d0, .int .i64 d1, .int .i64 d2, .int .i64 d3, .int .i64 d4, .int .i64 d5, .int .i64 d6, .int .i64 d7, .int .i64 d8, .int .i64 0] HB1.out (by omega) (b := 0)) (below_one _ _)
    go_wp2_with fail
    generalize (((((((((((w1.setCell ⟨w.heap.size, 0, none⟩ (.int .i64 d0)).setCell ⟨w.heap.size, 1, none⟩ (.int .i64 d1)).setCell ⟨w.heap.size, 2, none⟩ (.int .i64 d2)).setCell ⟨w.heap.size, 3, none⟩ (.int .i64 d3)).setCell ⟨w.heap.size, 4, none⟩ (.int .i64 d4)).setCell ⟨w.heap.size, 5, none⟩ (.int .i64 d5)).setCell ⟨w.heap.size, 6, none⟩ (.int .i64 d6)).setCell ⟨w.heap.size, 7, none⟩ (.int .i64 d7)).setCell ⟨w.heap.size, 8, none⟩ (.int .i64 d8)).setCell ⟨w.heap.size, 9, none⟩ (.int .i64 0)).alloc (.cells #[.int .i64 d0, .int .i64 d1, .int .i64 d2, .int .i64 d3, .int .i64 d4, .int .i64 d5, .int .i64 d6, .int .i64 d7, .int .i64 d8] 26)) = WF at *
    have q0 : WF.cell? ⟨w.heap.size, 0, none⟩ = some (.int .i64 d0) := HF.out.cell 0
    have q1 : WF.cell? ⟨w.heap.size, 1, none⟩ = some (.int .i64 d1) := HF.out.cell 1
    have q2 : WF.cell? ⟨w.heap.size, 2, none⟩ = some (.int .i64 d2) := HF.out.cell 2
    have q3 : WF.cell? ⟨w.heap.size, 3, none⟩ = some (.int .i64 d3) := HF.out.cell 3
    have q4 : WF.cell? ⟨w.heap.size, 4, none⟩ = some (.int .i64 d4) := HF.out.cell 4
    have q5 : WF.cell? ⟨w.heap.size, 5, none⟩ = some (.int .i64 d5) := HF.out.cell 5
    have q6 : WF.cell? ⟨w.heap.size, 6, none⟩ = some (.int .i64 d6) := HF.out.cell 6
    have q7 : WF.cell? ⟨w.heap.size, 7, none⟩ = some (.int .i64 d7) := HF.out.cell 7
    have q8 : WF.cell? ⟨w.heap.size, 8, none⟩ = some (.int .i64 d8) := HF.out.cell 8
    have q9 : WF.cell? ⟨w.heap.size, 9, none⟩ = some (.int .i64 0) := HF.out.cell 9
    exact bodyPost_ret (v := lineV ⟨d0, d1, d2, d3, d4, d5, d6, d7, d8⟩ 0) (by simp [results, Tryd.results8, go_sem, lineV, q0, q1, q2, q3, q4, q5, q6, q7, q8, q9]) rfl ⟨_, _, rfl, HP.out, HBF.out⟩
  | false =>
    have HP : Hid _ := HN.out c hg
    clear HY HN hg
    obtain ⟨d0, d1, d2, d3, d4, d5, d6, d7, d8⟩ := c
    simp only [ccall]
    have HF : Hid (Blk (((((((((((w1.setCell ⟨w.heap.size, 0, none⟩ (.int .i64 0)).setCell ⟨w.heap.size, 1, none⟩ (.int .i64 0)).setCell ⟨w.heap.size, 2, none⟩ (.int .i64 0)).setCell ⟨w.heap.size, 3, none⟩ (.int .i64 0)).setCell ⟨w.heap.size, 4, none⟩ (.int .i64 0)).setCell ⟨w.heap.size, 5, none⟩ (.int .i64 0)).setCell ⟨w.heap.size, 6, none⟩ (.int .i64 0)).setCell ⟨w.heap.size, 7, none⟩ (.int .i64 0)).setCell ⟨w.heap.size, 8, none⟩ (.int .i64 0)).setCell ⟨w.heap.size, 9, none⟩ (.int .i64 3)).alloc (.cells #[.int .i64 d0, .int .i64 d1, .int .i64 d2, .int .i64 d3, .int .i64 d4, .int .i64 d5, .int .i64 d6, .int .i64 d7, .int .i64 d8] 26)) w.heap.size 31 [.int .i64 0, .int .i64 0, .int .i64 0, .int .i64 0, .int .i64 0, .int .i64 0, .int .i64 0, .int .i64 0, .int .i64 0, .int .i64 3]) := (HZ1.out.put [.int .i64 0, .int .i64 0, .int .i64 0, .int .i64 0, .int .i64 0, .int .i64 0, .int .i64 0, .int .i64 0, .int .i64 0, .int .i64 3] 0).later (below_one _ _)
    have HBF : Hid (Below w.heap.size w (((((((((((w1.setCell ⟨w.heap.size, 0, none⟩ (.int .i64 0)).setCell ⟨w.heap.size, 1, none⟩ (.int .i64 0)).setCell ⟨w.heap.size, 2, none⟩ (.int .i64 0)).setCell ⟨w.heap.size, 3, none⟩ (.int .i64 0)).setCell ⟨w.heap.size, 4, none⟩ (.int .i64 0)).setCell ⟨w.heap.size, 5, none⟩ (.int .i64 0)).setCell ⟨w.heap.size, 6, none⟩ (.int .i64 0)).setCell ⟨w.heap.size, 7, none⟩ (.int .i64 0)).setCell ⟨w.heap.size, 8, none⟩ (.int .i64 0)).setCell ⟨w.heap.size, 9, none⟩ (.int .i64 3)).alloc (.cells #[.int .i64 d0, .int .i64 d1, .int .i64 d2, .int .i64 d3, .int .i64 d4, .int .i64 d5, .int .i64 d6, .int .i64 d7, .int .i64 d8] 26))) := below_tr (deep.putW_below [.int .i64 0, .int .i64 0, .int .i64 0, .int .i64 0, .int .i64 0, .int .i64 0, .int .i64 0, .int .i64 0, .int .i64 0, .int .i64 3] HB1.out (by omega) (b := 0)) (below_one _ _)
    go_wp2_with fail
    generalize (((((((((((w1.setCell ⟨w.heap.size, 0, none⟩ (.int .i64 0)).setCell ⟨w.heap.size, 1, none⟩ (.int .i64 0)).setCell ⟨w.heap.size, 2, none⟩ (.int .i64 0)).setCell ⟨w.heap.size, 3, none⟩ (.int .i64 0)).setCell ⟨w.heap.size, 4, none⟩ (.int .i64 0)).setCell ⟨w.heap.size, 5, none⟩ (.int .i64 0)).setCell ⟨w.heap.size, 6, none⟩ (.int .i64 0)).setCell ⟨w.heap.size, 7, none⟩ (.int .i64 0)).setCell ⟨w.heap.size, 8, none⟩ (.int .i64 0)).setCell ⟨w.heap.size, 9, none⟩ (.int .i64 3)).alloc (.cells #[.int .i64 d0, .int .i64 d1, .int .i64 d2, .int .i64 d3, .int .i64 d4, .int .i64 d5, .int .i64 d6, .int .i64 d7, .int .i64 d8] 26)) = WF at *
    have q0 : WF.cell? ⟨w.heap.size, 0, none⟩ = some (.int .i64 0) := HF.out.cell 0
    have q1 : WF.cell? ⟨w.heap.size, 1, none⟩ = some (.int .i64 0) := HF.out.cell 1
    have q2 : WF.cell? ⟨w.heap.size, 2, none⟩ = some (.int .i64 0) := HF.out.cell 2
    have q3 : WF.cell? ⟨w.heap.size, 3, none⟩ = some (.int .i64 0) := HF.out.cell 3
    have q4 : WF.cell? ⟨w.heap.size, 4, none⟩ = some (.int .i64 0) := HF.out.cell 4
    have q5 : WF.cell? ⟨w.heap.size, 5, none⟩ = some (.int .i64 0) := HF.out.cell 5
    have q6 : WF.cell? ⟨w.heap.size, 6, none⟩ = some (.int .i64 0) := HF.out.cell 6
    have q7 : WF.cell? ⟨w.heap.size, 7, none⟩ = some (.int .i64 0) := HF.out.cell 7
    have q8 : WF.cell? ⟨w.heap.size, 8, none⟩ = some (.int .i64 0) := HF.out.cell 8
    have q9 : WF.cell? ⟨w.heap.size, 9, none⟩ = some (.int .i64 3) := HF.out.cell 9
    exact bodyPost_ret (v := lineV noCall 3) (by simp [results, Tryd.results8, go_sem, lineV, noCall, q0, q1, q2, q3, q4, q5, q6, q7, q8, q9]) rfl ⟨_, _, rfl, HP.out, HBF.out⟩

end Go.Proofs.YtacfhchmoiphfaaDoor.scr
