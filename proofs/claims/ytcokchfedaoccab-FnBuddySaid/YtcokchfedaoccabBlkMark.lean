/-
  The laws' own helpers on rows of blocks: marked, and held.
-/
import Derived.Test.YtcokchfedaoccabBlkEq
import Derived.Test.YtcokchfedaoccabBuddyPut
namespace Go.Proofs.Ytcokchfedaoccab.brows
open Go.RowKit Go.Deep Go.Sort
open Go.Proofs.Ytcokchfedaoccab.bspec (own_block)
set_option linter.unusedVariables false

/-- the blocks (k, k + 1), (k + 2, k + 3) .. -/
def runB (k : Int) (n : Nat) : List Pr := (List.range n).map fun i : Nat => (k + 2 * (i : Int), k + 2 * (i : Int) + 1)
theorem runB_len (k : Int) (n : Nat) : (runB k n).length = n := by simp [runB]
theorem runB_get (k : Int) (n i : Nat) (h : i < n) : (runB k n)[i]? = some (k + 2 * (i : Int), k + 2 * (i : Int) + 1) := by simp [runB, h]
/-- the row, marked up to place j -/
def partB (k : Int) (xs : List Pr) (j : Nat) : List Pr := runB k j ++ xs.drop j
theorem partB_zero (k : Int) (xs : List Pr) : partB k xs 0 = xs := by simp [partB, runB]
theorem partB_all (k : Int) (xs : List Pr) : partB k xs xs.length = runB k xs.length := by simp [partB]
theorem partB_len (k : Int) (xs : List Pr) (j : Nat) (h : j ≤ xs.length) : (partB k xs j).length = xs.length := by simp [partB, runB_len]; omega
theorem partB_set (k : Int) (xs : List Pr) (j : Nat) (h : j < xs.length) : (partB k xs j).set j (k + 2 * (j : Int), k + 2 * (j : Int) + 1) = partB k xs (j + 1) := by
  have e : xs.drop j = xs[j] :: xs.drop (j + 1) := by rw [List.drop_eq_getElem_cons h]
  have er : runB k (j + 1) = runB k j ++ [(k + 2 * (j : Int), k + 2 * (j : Int) + 1)] := by simp [runB, List.range_succ]
  rw [partB, partB, e, er, List.set_append_right _ _ (by rw [runB_len]; exact Nat.le_refl _), runB_len, Nat.sub_self, List.set_cons_zero, List.append_assoc]
  rfl
theorem cellsB_set : ∀ (xs : List Pr) (i : Nat) (x : Pr), cellsB (xs.set i x) = ((cellsB xs).set (i * 2) (.int .i64 x.1)).set (i * 2 + 1) (.int .i64 x.2)
  | [], i, x => by simp [cellsB]
  | y :: t, 0, x => by simp [cellsB]
  | y :: t, i + 1, x => by
    rw [List.set_cons_succ, cellsB_cons, cellsB_cons, cellsB_set t i x, show (i + 1) * 2 = i * 2 + 1 + 1 by omega, show i * 2 + 1 + 1 + 1 = (i * 2 + 1) + 1 + 1 by omega]
    simp
/-- a block is stored into an owned row -/
theorem Row.set2 {w : World} {base g c i n : Nat} {xs : List Pr} (h : Row w base (.slice (some ⟨g, 0, none⟩) n c) xs) (x : Pr) :
    Row ((w.setCell ⟨g, i * 2, none⟩ (.int .i64 x.1)).setCell ⟨g, i * 2 + 1, none⟩ (.int .i64 x.2)) base (.slice (some ⟨g, 0, none⟩) n c) (xs.set i x) := by
  obtain ⟨hl, hr⟩ := h
  refine ⟨by rw [cellsB_len, List.length_set], ?_⟩
  rcases hr with ⟨hv, _⟩ | ⟨g', cap, cur, hv, hb, hc, hnc, hcm, hcs, ht⟩
  · cases hv
  · cases hv
    refine Or.inr ⟨g, c, (cur.setIfInBounds (i * 2) (.int .i64 x.1)).setIfInBounds (i * 2 + 1) (.int .i64 x.2), by rw [List.length_set], hb, heap_setCell_same _ g _ _ 68 _ (heap_setCell_same w g _ _ 68 _ hc), by rw [List.length_set]; exact hnc, hcm, by simpa using hcs, ?_⟩
    rw [List.length_set, Array.toList_setIfInBounds, Array.toList_setIfInBounds, cellsB_set, ← ht, List.take_set, List.take_set]
theorem Row.cells {w : World} {base g n c : Nat} {xs : List Pr} (h : Row w base (.slice (some ⟨g, 0, none⟩) n c) xs) :
    g < w.heap.size ∧ (∀ i (hi : i < xs.length), w.cell? ⟨g, i * 2, none⟩ = some (.int .i64 xs[i].1) ∧ w.cell? ⟨g, i * 2 + 1, none⟩ = some (.int .i64 xs[i].2)) ∧ ∀ j, w.frozen? ⟨g, j, none⟩ = false := by
  have h' := h
  obtain ⟨hl, hr⟩ := h
  rcases hr with ⟨hv, _⟩ | ⟨g', cap, cur, hv, hb, hc, hnc, hcm, hcs, ht⟩
  · cases hv
  · cases hv
    refine ⟨(Array.getElem?_eq_some_iff.1 hc).1, fun i hi => ?_, fun j => by simp [World.frozen?, hc]⟩
    have ha := cellsB_at xs i hi
    exact ⟨by rw [World.ownsRow.cellAt h' (i * 2) (by omega)]; exact ha.1, by rw [World.ownsRow.cellAt h' (i * 2 + 1) (by omega)]; exact ha.2⟩
theorem grown_set2 (w : World) (g i j : Nat) (u v : Value) : w.grownBy ((w.setCell ⟨g, i, none⟩ u).setCell ⟨g, j, none⟩ v) (some g) :=
  ⟨rfl, rfl, rfl, by simp, fun k _ hk => by rw [Below.heap_setCell _ _ _ _ (fun e => hk (by rw [e])), Below.heap_setCell _ _ _ _ (fun e => hk (by rw [e]))]⟩
theorem grown_tr {a c d : World} {row : Option Nat} (h : a.grownBy c row) (k : c.grownBy d row) : a.grownBy d row :=
  ⟨k.os.trans h.os, k.tape.trans h.tape, k.output.trans h.output, Nat.le_trans h.size k.size, fun i hi hr => (k.block i (Nat.lt_of_lt_of_le hi h.size) hr).trans (h.block i hi hr)⟩

end Go.Proofs.Ytcokchfedaoccab.brows
