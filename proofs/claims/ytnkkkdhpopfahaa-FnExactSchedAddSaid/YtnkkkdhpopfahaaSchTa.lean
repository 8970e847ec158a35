/-
  A ring is taken from.
-/
import Derived.Test.YtnkkkdhpopfahaaSchWq
namespace Go.Proofs.Ytnkkkdhpopfahaa.sch
open Go.RowKit Go.Deep Go.Sort
open Go.Proofs.Ytnkkkdhpopfahaa
open Go.Proofs.Ytnkkkdhpopfahaa.deep
set_option linter.unusedVariables false
set_option maxRecDepth 100000

theorem ltc {w : World} {b off : Nat} {v : Value} (h : w.cell? ⟨b, off, none⟩ = some v) : b < w.heap.size := by
  unfold World.cell? at h
  cases e : w.heap[b]? with
  | none => simp [e] at h
  | some o => exact (Array.getElem?_eq_some_iff.1 e).1
theorem ems {W : World} {B g i : Nat} {o : Obj} {v : Value} (hne : g ≠ B) (h : W.heap[B]? = some o) : (W.setCell ⟨g, i, none⟩ v).heap[B]? = some o := (Below.heap_setCell W ⟨g, i, none⟩ v B (by simpa using Ne.symm hne)).trans h
/-- nothing is there -/
theorem ring_none (B o : Nat) {w : World} (h2 : w.cell? ⟨B, o + 161, none⟩ = some (.int .i64 0)) :
    Calls Try.prog 72 #[.pointer (some ⟨B, o, none⟩)] w fun e w' => e = .returned (.tuple #[.agg #[.int .i64 0, .int .i64 0, .int .i64 0], .bool false]) ∧ Below w.heap.size w w' := by
  have hBl := ltc h2
  have hne : B ≠ w.heap.size := by omega
  go_enter Try.func72, Try.ntmps72
  go_wp2_with fail
  exact bodyPost_ret (v := .tuple #[.agg #[.int .i64 0, .int .i64 0, .int .i64 0], .bool false]) (by simp [results, Try.results72, go_sem]) rfl ⟨rfl, below_one _ _⟩
def TakeR (B T o f n : Nat) (cur : Array Value) (t : Tt) (w : World) (e : Ending) (w' : World) : Prop := e = .returned (.tuple #[.agg #[.int .i64 t.1, .int .i64 t.2.1, .int .i64 t.2.2], .bool true]) ∧ w.grownBy w' (some B) ∧ w'.heap[B]? = some (.cells (ringTake cur o f n) T (0, 0))
set_option maxHeartbeats 4000000 in
theorem ring_take (B o f n T : Nat) (y : Wt) (cur : Array Value) {w : World} (hB : w.heap[B]? = some (.cells cur T (0, 0))) (hs : o + 162 ≤ cur.size) (h1 : cur[o + 160]? = some (.int .i64 f)) (h2 : cur[o + 161]? = some (.int .i64 n)) (hf : f < 40) (hn : 0 < n) (hn2 : n ≤ 40)
    (hy : ∀ j, j < 4 → cur[o + f * 4 + j]? = (cwt y)[j]?) : Calls Try.prog 72 #[.pointer (some ⟨B, o, none⟩)] w (TakeR B T o f n cur y.1 w) := by
  obtain ⟨⟨t0, t1, t2⟩, pl⟩ := y
  obtain ⟨V, hV⟩ : ∃ V, V = w.alloc (.cells #[.int .i64 0, .int .i64 0, .int .i64 0] 35) := ⟨_, rfl⟩
  have hbV : Below w.heap.size w V := by rw [hV]; exact below_one _ _
  have hX : Blk V w.heap.size 35 [.int .i64 0, .int .i64 0, .int .i64 0] := by rw [hV]; exact blk_new _ _ _
  have hBl : B < w.heap.size := (Array.getElem?_eq_some_iff.1 hB).1
  have hBV : V.heap[B]? = some (.cells cur T (0, 0)) := (hbV.block B hBl).trans hB
  have HCE : Hid (∀ W : World, W.heap[B]? = some (.cells cur T (0, 0)) → W.cell? ⟨B, o + 160, none⟩ = some (.int .i64 f) ∧ W.cell? ⟨B, o + f * 4, none⟩ = some (.int .i64 t0) ∧ W.cell? ⟨B, o + f * 4 + 1, none⟩ = some (.int .i64 t1) ∧ W.cell? ⟨B, o + f * 4 + 2, none⟩ = some (.int .i64 t2)) := fun W hW => by
    refine ⟨by rw [cell_cur hW]; exact h1, ?_, ?_, ?_⟩
    · rw [cell_cur hW]; exact hy 0 (by decide)
    · rw [cell_cur hW]; exact hy 1 (by decide)
    · rw [cell_cur hW]; exact hy 2 (by decide)
  have hfi : (0 : Int) ≤ (f : Int) := by omega
  have hfi2 : (f : Int) < 40 := by omega
  have hni : (n : Int) ≠ 0 := by omega
  have m0 : w.cell? ⟨B, o + 161, none⟩ = some (.int .i64 n) := by rw [cell_cur hB]; exact h2
  have hne : B ≠ w.heap.size := by omega
  go_enter Try.func72, Try.ntmps72
  go_upto_region 3 with fail
  rw [← hV]
  clear m0 hV
  have HBV : Hid (V.heap[B]? = some (.cells cur T (0, 0))) := hBV
  have hVs : w.heap.size < V.heap.size := hX.lt
  have HNE : Hid (V.heap.size ≠ B ∧ w.heap.size ≠ B) := ⟨by omega, by omega⟩
  clear hBV
  go_region_held3 (fun W => W.cell? ⟨B, o + 160, none⟩ = some (.int .i64 f) ∧ W.cell? ⟨B, o + f * 4, none⟩ = some (.int .i64 t0) ∧ W.cell? ⟨B, o + f * 4 + 1, none⟩ = some (.int .i64 t1) ∧ W.cell? ⟨B, o + f * 4 + 2, none⟩ = some (.int .i64 t2))
    (first | (with_reducible assumption) | (refine HCE.out _ ?_; (repeat' first | (with_reducible exact HBV.out) | (with_reducible refine emd ?_) | (with_reducible refine ema ?_ _) | (refine ems HNE.out.1 ?_))))
    (first | fail)
  obtain ⟨D, hD⟩ : ∃ D, D = (V.alloc (.cells #[.int .i64 t0, .int .i64 t1, .int .i64 t2] 35)).drew := ⟨_, rfl⟩
  have hbD : Below V.heap.size V D := by rw [hD]; exact bdd (below_one V _)
  have hDB : D.heap[B]? = some (.cells cur T (0, 0)) := (hbD.block B (Nat.lt_of_lt_of_le hBl hbV.size)).trans HBV.out
  have hDX : Blk D w.heap.size 35 [.int .i64 0, .int .i64 0, .int .i64 0] := hX.later hbD
  have hDY : Blk D V.heap.size 35 [.int .i64 t0, .int .i64 t1, .int .i64 t2] := by rw [hD]; exact blk_new V [.int .i64 t0, .int .i64 t1, .int .i64 t2] 35
  have hgD : w.grownBy D (some B) := ⟨(below_tr hbV hbD).os, (below_tr hbV hbD).tape, (below_tr hbV hbD).output, (below_tr hbV hbD).size, fun k hk _ => (below_tr hbV hbD).block k hk⟩
  have HAT : Hid (Calls Try.prog 73 #[.pointer (some ⟨B, o, none⟩), .int .i64 1] D fun e w' => e = .returned (.int .i64 (((f + 1) % 40 : Nat) : Int)) ∧ w' = D) := ring_at B o f 1 hf (by omega) (by rw [cell_cur hDB]; exact h1)
  have a0 : D.cell? ⟨B, o + 160, none⟩ = some (.int .i64 f) := by rw [cell_cur hDB]; exact h1
  have a1 : D.cell? ⟨B, o + 161, none⟩ = some (.int .i64 n) := by rw [cell_cur hDB]; exact h2
  have b0 := free_cur hDB (i := o + 160)
  have b1 := free_cur hDB (i := o + 161)
  obtain ⟨x0, x1, x2⟩ := cells3s hDX
  obtain ⟨y0, y1, y2⟩ := cells3s hDY
  obtain ⟨u0, u1, u2⟩ := free3 hDX
  obtain ⟨k, hk⟩ : ∃ k, k = (f + 1) % 40 := ⟨_, rfl⟩
  have HEND : Hid (TakeR B T o f n cur (t0, t1, t2) w (.returned (.tuple #[.agg #[.int .i64 t0, .int .i64 t1, .int .i64 t2], .bool true])) (putW (putW (putW D B (o + 160) [.int .i64 k]) B (o + 161) [.int .i64 ((n : Int) - 1)]) w.heap.size 0 [.int .i64 t0, .int .i64 t1, .int .i64 t2])) := by
    have hg := grown_put (grown_put hgD (o + 160) [.int .i64 k]) (o + 161) [.int .i64 ((n : Int) - 1)]
    have hc := putW_block [.int .i64 ((n : Int) - 1)] _ B (o + 161) _ T (putW_block [.int .i64 k] D B (o + 160) cur T hDB)
    refine ⟨rfl, ⟨hg.os, hg.tape, hg.output, ?_, fun j hj hne => ?_⟩, ?_⟩
    · rw [putW_size]; exact hg.size
    · rw [putW_other _ _ _ _ _ (by omega)]; exact hg.block j hj hne
    · rw [putW_other _ _ _ _ _ hne, hc, ringTake, ← hk]; rfl
  rw [← hk] at HAT
  have hne1 := HNE.out.1
  have hne2 := HNE.out.2
  rw [← hD]
  clear hD hbD hDB hDX hDY hgD hk hX hbV hB h1 h2 hy hs HCE HBV
  go_wp2_with fail
  refine Calls.mono HAT.out ?_
  rintro e w1 ⟨rfl, rfl⟩
  go_wp2_with fail
  exact bodyPost_ret (v := .tuple #[.agg #[.int .i64 t0, .int .i64 t1, .int .i64 t2], .bool true]) (by simp [results, Try.results72, go_sem, x0, x1, x2]) rfl HEND.out
end Go.Proofs.Ytnkkkdhpopfahaa.sch
