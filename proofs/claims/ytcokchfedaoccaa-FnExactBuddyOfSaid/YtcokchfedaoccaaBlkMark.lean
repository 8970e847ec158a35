/-
  The laws' own helpers on rows of blocks: marked, and held.
-/
import Derived.Test.YtcokchfedaoccaaBlkEq
import Derived.Test.YtcokchfedaoccaaBuddyPut
namespace Go.Proofs.Ytcokchfedaoccaa.brows
open Go.RowKit Go.Deep Go.Sort
open Go.Proofs.Ytcokchfedaoccaa.bspec (own_block)
set_option linter.unusedVariables false

/-- the blocks (k, k + 1), (k + 2, k + 3) .. -/
def runB (k : Int) (n : Nat) : List Pr := (List.range n).map fun i : Nat => (k + 2 * (i : Int), k + 2 * (i : Int) + 1)
theorem runB_len (k : Int) (n : Nat) : (runB k n).length = n := by simp [runB]
theorem runB_get (k : Int) (n i : Nat) (h : i < n) : (runB k n)[i]? = some (k + 2 * (i : Int), k + 2 * (i : Int) + 1) := by simp [runB, h]
/-- the row, marked up to place j -/
def partB (k : Int) (xs : List Pr) (j : Nat) : List Pr := runB k j ++ xs.drop j
theorem partB_zero (k : Int) (xs : List Pr) : partB k xs 0 = xs := by simp [partB, runB]
theorem partB_all (k : Int) (xs : List Pr) : partB k xs xs.length = runB k xs.length := by simp [partB]
theorem partB_len (k : Int) (xs : List Pr) (j : Nat) (h : j ≤ xs.length) : (partB k xs j).length = xs.length := by simp [partB, runB_len]; omega
theorem partB_set (k : Int) (xs : List Pr) (j : Nat) (h : j < xs.length) : (partB k xs j).set j (k + 2 * (j : Int), k + 2 * (j : Int) + 1) = partB k xs (j + 1) := by
  have e : xs.drop j = xs[j] :: xs.drop (j + 1) := by rw [List.drop_eq_getElem_cons h]
  have er : runB k (j + 1) = runB k j ++ [(k + 2 * (j : Int), k + 2 * (j : Int) + 1)] := by simp [runB, List.range_succ]
  rw [partB, partB, e, er, List.set_append_right _ _ (by rw [runB_len]; exact Nat.le_refl _), runB_len, Nat.sub_self, List.set_cons_zero, List.append_assoc]
  rfl
theorem cellsB_set : ∀ (xs : List Pr) (i : Nat) (x : Pr), cellsB (xs.set i x) = ((cellsB xs).set (i * 2) (.int .i64 x.1)).set (i * 2 + 1) (.int .i64 x.2)
  | [], i, x => by simp [cellsB]
  | y :: t, 0, x => by simp [cellsB]
  | y :: t, i + 1, x => by
    rw [List.set_cons_succ, cellsB_cons, cellsB_cons, cellsB_set t i x, show (i + 1) * 2 = i * 2 + 1 + 1 by omega, show i * 2 + 1 + 1 + 1 = (i * 2 + 1) + 1 + 1 by omega]
    simp
/-- a block is stored into an owned row -/
theorem Row.set2 {w : World} {base g c i n : Nat} {xs : List Pr} (h : Row w base (.slice (some ⟨g, 0, none⟩) n c) xs) (x : Pr) :
    Row ((w.setCell ⟨g, i * 2, none⟩ (.int .i64 x.1)).setCell ⟨g, i * 2 + 1, none⟩ (.int .i64 x.2)) base (.slice (some ⟨g, 0, none⟩) n c) (xs.set i x) := by
  obtain ⟨hl, hr⟩ := h
  refine ⟨by rw [cellsB_len, List.length_set], ?_⟩
  rcases hr with ⟨hv, _⟩ | ⟨g', cap, cur, hv, hb, hc, hnc, hcm, hcs, ht⟩
  · cases hv
  · cases hv
    refine Or.inr ⟨g, c, (cur.setIfInBounds (i * 2) (.int .i64 x.1)).setIfInBounds (i * 2 + 1) (.int .i64 x.2), by rw [List.length_set], hb, heap_setCell_same _ g _ _ 53 _ (heap_setCell_same w g _ _ 53 _ hc), by rw [List.length_set]; exact hnc, hcm, by simpa using hcs, ?_⟩
    rw [List.length_set, Array.toList_setIfInBounds, Array.toList_setIfInBounds, cellsB_set, ← ht, List.take_set, List.take_set]
theorem Row.cells {w : World} {base g n c : Nat} {xs : List Pr} (h : Row w base (.slice (some ⟨g, 0, none⟩) n c) xs) :
    g < w.heap.size ∧ (∀ i (hi : i < xs.length), w.cell? ⟨g, i * 2, none⟩ = some (.int .i64 xs[i].1) ∧ w.cell? ⟨g, i * 2 + 1, none⟩ = some (.int .i64 xs[i].2)) ∧ ∀ j, w.frozen? ⟨g, j, none⟩ = false := by
  have h' := h
  obtain ⟨hl, hr⟩ := h
  rcases hr with ⟨hv, _⟩ | ⟨g', cap, cur, hv, hb, hc, hnc, hcm, hcs, ht⟩
  · cases hv
  · cases hv
    refine ⟨(Array.getElem?_eq_some_iff.1 hc).1, fun i hi => ?_, fun j => by simp [World.frozen?, hc]⟩
    have ha := cellsB_at xs i hi
    exact ⟨by rw [World.ownsRow.cellAt h' (i * 2) (by omega)]; exact ha.1, by rw [World.ownsRow.cellAt h' (i * 2 + 1) (by omega)]; exact ha.2⟩
theorem grown_set2 (w : World) (g i j : Nat) (u v : Value) : w.grownBy ((w.setCell ⟨g, i, none⟩ u).setCell ⟨g, j, none⟩ v) (some g) :=
  ⟨rfl, rfl, rfl, by simp, fun k _ hk => by rw [Below.heap_setCell _ _ _ _ (fun e => hk (by rw [e])), Below.heap_setCell _ _ _ _ (fun e => hk (by rw [e]))]⟩
theorem grown_tr {a c d : World} {row : Option Nat} (h : a.grownBy c row) (k : c.grownBy d row) : a.grownBy d row :=
  ⟨k.os.trans h.os, k.tape.trans h.tape, k.output.trans h.output, Nat.le_trans h.size k.size, fun i hi hr => (k.block i (Nat.lt_of_lt_of_le hi h.size) hr).trans (h.block i hi hr)⟩

set_option maxHeartbeats 1000000 in
theorem mark_none (a : Option Addr) (c : Nat) (k : Int) (w : World) :
    Calls Try.prog 53 #[.slice a 0 c, .int .i64 k] w fun e w' => e = .returned (.int .i64 k) ∧ w' = w := by
  go_enter Try.func53, Try.ntmps53
  go_wp2
  go_loop [1, 5] (fun tk i => i = .int .i64 0 ∧ tk = .int .i64 k) (fun _ _ => 0)
  case atStart => exact ⟨rfl, rfl⟩
  case round =>
    obtain ⟨rfl, rfl⟩ := hrel
    go_wp2
    go_ret
    exact ⟨rfl, rfl⟩

/-- what is left of a row that is marked -/
def Marked (base : Nat) (v : Value) (n : Nat) (k : Int) (w : World) (e : Ending) (w' : World) : Prop :=
  e = .returned (.int .i64 (k + 2 * n)) ∧ Row w' base v (runB k n) ∧ w.grownBy w' v.ownBlock ∧ w'.heap.size = w.heap.size

set_option maxHeartbeats 2000000 in
theorem mark_row {w : World} {base : Nat} {v : Value} {xs : List Pr} {k : Int} (h : Row w base v xs) (hn : xs.length ≤ 1000000000) (hk0 : 0 ≤ k) (hk1 : k ≤ 1000000000) :
    Calls Try.prog 53 #[v, .int .i64 k] w (Marked base v xs.length k w) := by
  by_cases h0 : xs.length = 0
  · obtain ⟨a, c, ha, _⟩ := h.rd.form
    have e : xs = [] := List.eq_nil_of_length_eq_zero h0
    subst e
    rw [ha] at h ⊢
    refine (mark_none a c k w).mono ?_
    rintro e w' ⟨rfl, rfl⟩
    exact ⟨by simp, h, World.grownBy.refl _ _, rfl⟩
  obtain ⟨g, c, rfl, _, hcm, hg, _⟩ := h.rd.at (by omega)
  obtain ⟨n, hx⟩ : ∃ n, n = xs.length := ⟨_, rfl⟩
  rw [← hx] at h hn ⊢
  have HX : Hid (n = xs.length) := hx
  have HP : Hid (Row w base (.slice (some ⟨g, 0, none⟩) n c) xs) := h
  have hn0 : 0 < n := by omega
  clear hx h h0
  go_enter Try.func53, Try.ntmps53
  go_wp2
  go_loopw [1, 5] (fun tk i wr => ∃ j : Nat, j ≤ n ∧ i = .int .i64 j ∧ tk = .int .i64 (k + 2 * j) ∧ Hid (Row wr base (.slice (some ⟨g, 0, none⟩) n c) (partB k xs j)) ∧ Hid (w.grownBy wr (some g)) ∧ Hid (wr.heap.size = w.heap.size)) (fun _ i _ => n - (intOf i).toNat)
  case atStart => exact ⟨0, by omega, rfl, by simp, by rw [partB_zero]; exact HP.out, World.grownBy.refl _ _, rfl⟩
  case round =>
    obtain ⟨j, hj, rfl, rfl, HR, HG, HS⟩ := hrel
    by_cases hlt : j < n
    · have hpl := partB_len k xs j (by rw [← HX.out]; exact hj)
      obtain ⟨_, hc, hf⟩ := HR.out.cells
      obtain ⟨old, hc1⟩ : ∃ old, wr.cell? ⟨g, j * 2, none⟩ = some (.int .i64 old) := ⟨_, (hc j (by rw [hpl, ← HX.out]; exact hlt)).1⟩
      obtain ⟨old2, hc2⟩ : ∃ old, wr.cell? ⟨g, j * 2 + 1, none⟩ = some (.int .i64 old) := ⟨_, (hc j (by rw [hpl, ← HX.out]; exact hlt)).2⟩
      have hf1 := hf (j * 2)
      have hf2 := hf (j * 2 + 1)
      have H2 : Hid (Row ((wr.setCell ⟨g, j * 2, none⟩ (.int .i64 (k + 2 * j))).setCell ⟨g, j * 2 + 1, none⟩ (.int .i64 (k + 2 * j + 1))) base (.slice (some ⟨g, 0, none⟩) n c) (partB k xs (j + 1))) := by
        rw [← partB_set k xs j (by rw [← HX.out]; exact hlt)]
        exact HR.out.set2 _
      clear hc hf hpl HR
      go_wp2
      go_roundw
      case rel => exact ⟨j + 1, by omega, by go_num, by rw [Value.int.injEq]; exact ⟨rfl, by omega⟩, H2, grown_tr HG.out (grown_set2 _ _ _ _ _ _), by rw [← HS.out]; simp [Hid]⟩
      case measure => simp [intOf]; omega
    · obtain rfl : j = n := by omega
      go_wp2
      go_ret
      exact ⟨rfl, by have := HR.out; rw [HX.out, partB_all, ← HX.out] at this; exact this, HG.out, HS.out⟩

set_option maxHeartbeats 1000000 in
theorem held_none (a : Option Addr) (c : Nat) (k : Int) (w : World) :
    Calls Try.prog 63 #[.slice a 0 c, .int .i64 k] w fun e w' => e = .returned (.int .i64 k) ∧ w' = w := by
  go_enter Try.func63, Try.ntmps63
  go_wp2
  go_loop [1, 5] (fun tk i => i = .int .i64 0 ∧ tk = .int .i64 k) (fun _ _ => 0)
  case atStart => exact ⟨rfl, rfl⟩
  case round =>
    obtain ⟨rfl, rfl⟩ := hrel
    go_wp2
    go_ret
    exact ⟨rfl, rfl⟩

set_option maxHeartbeats 2000000 in
theorem held_row {w : World} {base : Nat} {v : Value} {n : Nat} {k : Int} (h : Row w base v (runB k n)) (hn : n ≤ 1000000000) (hk0 : 0 ≤ k) (hk1 : k ≤ 1000000000) :
    Calls Try.prog 63 #[v, .int .i64 k] w fun e w' => e = .returned (.int .i64 (k + 2 * n)) ∧ w' = w := by
  by_cases h0 : n = 0
  · subst h0
    obtain ⟨a, c, ha, _⟩ := h.rd.form
    rw [runB_len] at ha
    rw [ha]
    refine (held_none a c k w).mono ?_
    rintro e w' ⟨rfl, rfl⟩
    exact ⟨by simp, rfl⟩
  obtain ⟨g, c, rfl, _, _, hg, hc⟩ := h.rd.at (by rw [runB_len]; omega)
  rw [runB_len]
  have HC : Hid (∀ i : Nat, i < n → w.cell? ⟨g, i * 2, none⟩ = some (.int .i64 (k + 2 * (i : Int))) ∧ w.cell? ⟨g, i * 2 + 1, none⟩ = some (.int .i64 (k + 2 * (i : Int) + 1))) := fun i hi => by
    have h1 := hc i (by rw [runB_len]; exact hi)
    have h2 := runB_get k n i hi
    rw [List.getElem?_eq_getElem (by rw [runB_len]; exact hi)] at h2
    injection h2 with h2
    rw [h2] at h1
    exact h1
  have hn0 : 0 < n := by omega
  clear hc h h0
  go_enter Try.func63, Try.ntmps63
  go_wp2
  go_loop [1, 5] (fun tk i => ∃ j : Nat, j ≤ n ∧ i = .int .i64 j ∧ tk = .int .i64 (k + 2 * j)) (fun _ i => n - (intOf i).toNat)
  case atStart => exact ⟨0, by omega, rfl, by simp⟩
  case round =>
    obtain ⟨j, hj, rfl, rfl⟩ := hrel
    by_cases hlt : j < n
    · obtain ⟨hc1, hc2⟩ := HC.out j hlt
      go_wp2
      go_round
      case rel => exact ⟨j + 1, by omega, by go_num, by rw [Value.int.injEq]; exact ⟨rfl, by omega⟩⟩
      case measure => simp [intOf]; omega
    · obtain rfl : j = n := by omega
      go_wp2
      go_ret
      exact ⟨rfl, rfl⟩
end Go.Proofs.Ytcokchfedaoccaa.brows
