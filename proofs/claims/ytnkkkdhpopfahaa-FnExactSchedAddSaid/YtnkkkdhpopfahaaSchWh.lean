/-
  The program's wheel: one block, in which each label has a ring of its own; rings that are put into, and taken from.
-/
import Derived.Test.YtnkkkdhpopfahaaSchNI
import Derived.Test.YtnkkkdhpopfahaaSchCopy
namespace Go.Proofs.Ytnkkkdhpopfahaa.sch
open Go.RowKit Go.Deep Go.Sort
open Go.Proofs.Ytnkkkdhpopfahaa
open Go.Proofs.Ytnkkkdhpopfahaa.deep
set_option linter.unusedVariables false
set_option maxRecDepth 100000

/-- a task, and its place in the line of all -/
abbrev Wt := Tt × Int
def cwt (x : Wt) : List Value := [.int .i64 x.1.1, .int .i64 x.1.2.1, .int .i64 x.1.2.2, .int .i64 x.2]
/-- a ring among the cells of a block, from o on: first, many, and what stands in it -/
structure RingC (cur : Array Value) (o f : Nat) (ws : List Wt) : Prop where
  ff : f < 40
  len : ws.length ≤ 40
  first : cur[o + 160]? = some (.int .i64 f)
  many : cur[o + 161]? = some (.int .i64 ws.length)
  at' : ∀ p (h : p < ws.length) j, j < 4 → cur[o + (f + p) % 40 * 4 + j]? = (cwt ws[p])[j]?
theorem four {W : World} {B t : Nat} {a b c d : Value} (h : Blk W B t [a, b, c, d]) : W.cell? ⟨B, 0, none⟩ = some a ∧ W.cell? ⟨B, 1, none⟩ = some b ∧ W.cell? ⟨B, 2, none⟩ = some c ∧ W.cell? ⟨B, 3, none⟩ = some d := ⟨h.cell 0, h.cell 1, h.cell 2, h.cell 3⟩

theorem ring_at (B o f p : Nat) (hf : f < 40) (hp : p ≤ 40) {w : World} (h : w.cell? ⟨B, o + 160, none⟩ = some (.int .i64 f)) : Calls Try.prog 73 #[.pointer (some ⟨B, o, none⟩), .int .i64 p] w fun e w' => e = .returned (.int .i64 ((f + p) % 40 : Nat)) ∧ w' = w := by
  go_enter Try.func73, Try.ntmps73
  go_wp2
  go_ret
  exact ⟨by push_cast; rfl, rfl⟩

/-- the cells behind a put -/
def ringPut (cur : Array Value) (o f n : Nat) (x : Wt) : Array Value := (putA cur (o + (f + n) % 40 * 4) (cwt x)).setIfInBounds (o + 161) (.int .i64 ((n + 1 : Nat) : Int))
theorem cell_cur {w : World} {B i T : Nat} {cur : Array Value} (h : w.heap[B]? = some (.cells cur T (0, 0))) : w.cell? ⟨B, i, none⟩ = cur[i]? := cell_of_row w B i cur T (0, 0) h
theorem cell_ex {w : World} {B i T : Nat} {cur : Array Value} (h : w.heap[B]? = some (.cells cur T (0, 0))) (hi : i < cur.size) : ∃ u, w.cell? ⟨B, i, none⟩ = some u := ⟨cur[i], by rw [cell_cur h, Array.getElem?_eq_getElem hi]⟩
theorem free_cur {w : World} {B i T : Nat} {cur : Array Value} (h : w.heap[B]? = some (.cells cur T (0, 0))) : w.frozen? ⟨B, i, none⟩ = false := by simp [World.frozen?, h]
theorem grown_put {w W : World} {B : Nat} (h : w.grownBy W (some B)) (b : Nat) (vs : List Value) : w.grownBy (putW W B b vs) (some B) := by
  revert W b
  induction vs with
  | nil => intro W h b; exact h
  | cons v vs ih =>
    intro W h b
    exact ih (W := W.setCell ⟨B, b, none⟩ v) ⟨h.os, h.tape, h.output, by simpa using h.size, fun k hk hne => (Below.heap_setCell W ⟨B, b, none⟩ v k (fun e => hne (by simpa using e))).trans (h.block k hk hne)⟩ (b + 1)
def PutR (B T o f n : Nat) (cur : Array Value) (x : Wt) (w : World) (e : Ending) (w' : World) : Prop := e = .returned (.tuple #[]) ∧ w.grownBy w' (some B) ∧ w'.heap[B]? = some (.cells (ringPut cur o f n x) T (0, 0))
theorem five {V W : World} {X t : Nat} {a b c d u : Value} {B i : Nat} (h : Blk V X t [a, b, c, d]) (h1 : V.cell? ⟨B, i, none⟩ = some u) (hb : ∀ k, k < V.heap.size → W.heap[k]? = V.heap[k]?) (hB : B < V.heap.size) : W.cell? ⟨X, 0, none⟩ = some a ∧ W.cell? ⟨X, 1, none⟩ = some b ∧ W.cell? ⟨X, 2, none⟩ = some c ∧ W.cell? ⟨X, 3, none⟩ = some d ∧ W.cell? ⟨B, i, none⟩ = some u := by
  have hX : Blk W X t [a, b, c, d] := (hb X h.lt).trans h
  exact ⟨hX.cell 0, hX.cell 1, hX.cell 2, hX.cell 3, (World.cell?_of_block (w := V) (a := ⟨B, i, none⟩) (hb B hB)).trans h1⟩
set_option maxHeartbeats 4000000 in
theorem ring_put (B o f n T : Nat) (x : Wt) (cur : Array Value) {w : World} (hB : w.heap[B]? = some (.cells cur T (0, 0))) (hs : o + 162 ≤ cur.size) (h1 : cur[o + 160]? = some (.int .i64 f)) (h2 : cur[o + 161]? = some (.int .i64 n)) (hf : f < 40) (hn : n < 40) :
    Calls Try.prog 67 #[.pointer (some ⟨B, o, none⟩), .agg (cwt x).toArray] w (PutR B T o f n cur x w) := by
  obtain ⟨⟨t0, t1, t2⟩, pl⟩ := x
  simp only [cwt]
  obtain ⟨V, hV⟩ : ∃ V, V = w.alloc (.cells #[.int .i64 t0, .int .i64 t1, .int .i64 t2, .int .i64 pl] 67) := ⟨_, rfl⟩
  have hbV : Below w.heap.size w V := by rw [hV]; exact below_one _ _
  have hX : Blk V w.heap.size 67 [.int .i64 t0, .int .i64 t1, .int .i64 t2, .int .i64 pl] := by rw [hV]; exact blk_new _ _ _
  have hBl : B < w.heap.size := (Array.getElem?_eq_some_iff.1 hB).1
  have hBV : V.heap[B]? = some (.cells cur T (0, 0)) := (hbV.block B hBl).trans hB
  have hgV : w.grownBy V (some B) := by rw [hV]; exact World.grownBy_alloc _ _ _
  have HXB : Hid (Blk V w.heap.size 67 [.int .i64 t0, .int .i64 t1, .int .i64 t2, .int .i64 pl]) := hX
  obtain ⟨k, hk⟩ : ∃ k, k = (f + n) % 40 := ⟨_, rfl⟩
  have hk40 : k < 40 := by rw [hk]; omega
  have hki : (0 : Int) ≤ (k : Int) := by omega
  have hki2 : (k : Int) < 40 := by omega
  obtain ⟨u0, c0⟩ := cell_ex hBV (i := o + k * 4) (by omega)
  obtain ⟨u1, c1⟩ := cell_ex hBV (i := o + k * 4 + 1) (by omega)
  obtain ⟨u2, c2⟩ := cell_ex hBV (i := o + k * 4 + 2) (by omega)
  obtain ⟨u3, c3⟩ := cell_ex hBV (i := o + k * 4 + 3) (by omega)
  have f0 := free_cur hBV (i := o + k * 4)
  have f1 := free_cur hBV (i := o + k * 4 + 1)
  have f2 := free_cur hBV (i := o + k * 4 + 2)
  have f3 := free_cur hBV (i := o + k * 4 + 3)
  have m0 : V.cell? ⟨B, o + 161, none⟩ = some (.int .i64 n) := by rw [cell_cur hBV]; exact h2
  have HAT : Hid (∀ W, W.heap = V.heap → Calls Try.prog 73 #[.pointer (some ⟨B, o, none⟩), .int .i64 n] W fun e w' => e = .returned (.int .i64 k) ∧ w' = W) := fun W hW => by
    rw [hk]; exact ring_at B o f n hf (by omega) (by rw [cell_of_row W B (o + 160) cur T (0, 0) (by rw [hW]; exact hBV)]; exact h1)
  have HM : Hid (V.cell? ⟨B, o + 161, none⟩ = some (.int .i64 n)) := m0
  have HBL : Hid (B < V.heap.size) := Nat.lt_of_lt_of_le hBl hbV.size
  have z5 := five HXB.out HM.out (W := V) (fun k _ => rfl) HBL.out
  have z5d : V.drew.cell? ⟨w.heap.size, 0, none⟩ = some (.int .i64 t0) ∧ V.drew.cell? ⟨w.heap.size, 1, none⟩ = some (.int .i64 t1) ∧ V.drew.cell? ⟨w.heap.size, 2, none⟩ = some (.int .i64 t2) ∧ V.drew.cell? ⟨w.heap.size, 3, none⟩ = some (.int .i64 pl) ∧ V.drew.cell? ⟨B, o + 161, none⟩ = some (.int .i64 n) := z5
  have hP : Blk (putW V B (o + k * 4) [.int .i64 t0, .int .i64 t1, .int .i64 t2, .int .i64 pl]) w.heap.size 67 [.int .i64 t0, .int .i64 t1, .int .i64 t2, .int .i64 pl] := HXB.out.other _ _ _ (by omega)
  have hq : (putW V B (o + k * 4) [.int .i64 t0, .int .i64 t1, .int .i64 t2, .int .i64 pl]).cell? ⟨B, o + 161, none⟩ = some (.int .i64 n) := by
    rw [putW_out (fun _ => Or.inr (by simp; omega))]
    exact HM.out
  have z5s : (((((V.setCell ⟨B, o + k * 4, none⟩ (.int .i64 t0)).setCell ⟨B, o + k * 4 + 1, none⟩ (.int .i64 t1)).setCell ⟨B, o + k * 4 + 2, none⟩ (.int .i64 t2)).setCell ⟨B, o + k * 4 + 3, none⟩ (.int .i64 pl)).drew).cell? ⟨w.heap.size, 0, none⟩ = some (.int .i64 t0) ∧ (((((V.setCell ⟨B, o + k * 4, none⟩ (.int .i64 t0)).setCell ⟨B, o + k * 4 + 1, none⟩ (.int .i64 t1)).setCell ⟨B, o + k * 4 + 2, none⟩ (.int .i64 t2)).setCell ⟨B, o + k * 4 + 3, none⟩ (.int .i64 pl)).drew).cell? ⟨w.heap.size, 1, none⟩ = some (.int .i64 t1) ∧ (((((V.setCell ⟨B, o + k * 4, none⟩ (.int .i64 t0)).setCell ⟨B, o + k * 4 + 1, none⟩ (.int .i64 t1)).setCell ⟨B, o + k * 4 + 2, none⟩ (.int .i64 t2)).setCell ⟨B, o + k * 4 + 3, none⟩ (.int .i64 pl)).drew).cell? ⟨w.heap.size, 2, none⟩ = some (.int .i64 t2) ∧ (((((V.setCell ⟨B, o + k * 4, none⟩ (.int .i64 t0)).setCell ⟨B, o + k * 4 + 1, none⟩ (.int .i64 t1)).setCell ⟨B, o + k * 4 + 2, none⟩ (.int .i64 t2)).setCell ⟨B, o + k * 4 + 3, none⟩ (.int .i64 pl)).drew).cell? ⟨w.heap.size, 3, none⟩ = some (.int .i64 pl) ∧ (((((V.setCell ⟨B, o + k * 4, none⟩ (.int .i64 t0)).setCell ⟨B, o + k * 4 + 1, none⟩ (.int .i64 t1)).setCell ⟨B, o + k * 4 + 2, none⟩ (.int .i64 t2)).setCell ⟨B, o + k * 4 + 3, none⟩ (.int .i64 pl)).drew).cell? ⟨B, o + 161, none⟩ = some (.int .i64 n) := ⟨hP.cell 0, hP.cell 1, hP.cell 2, hP.cell 3, hq⟩
  have hz : (((((V.setCell ⟨B, o + k * 4, none⟩ (.int .i64 t0)).setCell ⟨B, o + k * 4 + 1, none⟩ (.int .i64 t1)).setCell ⟨B, o + k * 4 + 2, none⟩ (.int .i64 t2)).setCell ⟨B, o + k * 4 + 3, none⟩ (.int .i64 pl)).drew).frozen? ⟨B, o + 161, none⟩ = false := free_cur (putW_block [.int .i64 t0, .int .i64 t1, .int .i64 t2, .int .i64 pl] V B (o + k * 4) cur T hBV)
  have HEND : Hid (PutR B T o f n cur ((t0, t1, t2), pl) w (.returned (.tuple #[])) (((((V.setCell ⟨B, o + k * 4, none⟩ (.int .i64 t0)).setCell ⟨B, o + k * 4 + 1, none⟩ (.int .i64 t1)).setCell ⟨B, o + k * 4 + 2, none⟩ (.int .i64 t2)).setCell ⟨B, o + k * 4 + 3, none⟩ (.int .i64 pl)).setCell ⟨B, o + 161, none⟩ (.int .i64 ((n : Int) + 1))).drew) := by
    have hg := grown_put (grown_put hgV (o + k * 4) [.int .i64 t0, .int .i64 t1, .int .i64 t2, .int .i64 pl]) (o + 161) [.int .i64 ((n : Int) + 1)]
    refine ⟨rfl, ⟨hg.os, hg.tape, hg.output, hg.size, hg.block⟩, ?_⟩
    rw [ringPut, ← hk]
    have := putW_block [.int .i64 ((n : Int) + 1)] _ B (o + 161) _ T (putW_block [.int .i64 t0, .int .i64 t1, .int .i64 t2, .int .i64 pl] V B (o + k * 4) cur T hBV)
    rw [show ((n + 1 : Nat) : Int) = (n : Int) + 1 by push_cast; rfl]
    exact this
  obtain ⟨z50, z51, z52, z53, z54⟩ := z5s
  have z5s := (⟨z50, z51, z52, z53, z54⟩ : _ ∧ _ ∧ _ ∧ _ ∧ _)
  clear hX hbV hB hBV hgV hk h1 h2 hf hP hq
  go_enter Try.func67, Try.ntmps67
  go_wp2_with fail
  rw [← hV]
  clear hV
  go_region_held3 (fun W => W.cell? ⟨w.heap.size, 0, none⟩ = some (.int .i64 t0) ∧ W.cell? ⟨w.heap.size, 1, none⟩ = some (.int .i64 t1) ∧ W.cell? ⟨w.heap.size, 2, none⟩ = some (.int .i64 t2) ∧ W.cell? ⟨w.heap.size, 3, none⟩ = some (.int .i64 pl) ∧ W.cell? ⟨B, o + 161, none⟩ = some (.int .i64 n))
    (with_reducible first | assumption | exact z5 | exact z5d | exact z5s)
    (first | (go_at_call 73; refine Calls.mono (HAT.out _ rfl) ?_; rintro e w1 ⟨rfl, rfl⟩))
  go_wp2_with fail
  go_end0
  exact HEND.out
end Go.Proofs.Ytnkkkdhpopfahaa.sch
