/-
  Rows of numbers that are marked one behind the other, in plain words: what the world is then, what is left as it was, what is held.
-/
import Derived.Test.YtnkkkdhpopfahaaDeep
import Derived.Laws.IdiomCopy
namespace Go.Proofs.Ytnkkkdhpopfahaa.deep
open Go.RowKit Go.Deep
set_option linter.unusedVariables false

/-- the numbers k, k + 1, .. -/
def nums (k : Int) (m : Nat) : List Value := (List.range m).map fun i : Nat => Value.int .i64 (k + (i : Int))
theorem nums_len (k : Int) (m : Nat) : (nums k m).length = m := by simp [nums]
theorem nums_get (k : Int) (m i : Nat) (h : i < m) : (nums k m)[i]? = some (.int .i64 (k + (i : Int))) := by simp [nums, h]
theorem nums_zero (k : Int) : nums k 0 = [] := rfl
theorem nums_app (k : Int) (m : Nat) : ∀ r : Nat, nums k (m + r) = nums k m ++ nums (k + (m : Int)) r
  | 0 => by simp [nums]
  | r + 1 => by
    have h := nums_app k m r
    have e1 : nums k (m + (r + 1)) = nums k (m + r) ++ [.int .i64 (k + ((m + r : Nat) : Int))] := by
      rw [show m + (r + 1) = (m + r) + 1 by omega]; simp [nums, List.range_succ]
    have e2 : nums (k + (m : Int)) (r + 1) = nums (k + (m : Int)) r ++ [.int .i64 (k + (m : Int) + (r : Int))] := by simp [nums, List.range_succ]
    rw [e1, e2, h, List.append_assoc]
    congr 3
    rw [Value.int.injEq]; exact ⟨rfl, by push_cast; omega⟩
theorem putW_cells : ∀ (vs : List Value) (w : World) (g b : Nat), putW w g b vs = w.setCells g b vs
  | [], _, _, _ => rfl
  | v :: vs, w, g, b => by rw [putW, World.setCells, putW_cells vs]
theorem putW_app : ∀ (xs ys : List Value) (w : World) (g b : Nat), putW (putW w g b xs) g (b + xs.length) ys = putW w g b (xs ++ ys)
  | [], ys, w, g, b => rfl
  | x :: xs, ys, w, g, b => by
    rw [putW, List.cons_append, putW, ← putW_app xs ys _ g (b + 1), List.length_cons, show b + (xs.length + 1) = b + 1 + xs.length by omega]
theorem putW_out {w : World} {g b : Nat} {vs : List Value} {g' q : Nat} (h : g' = g → q < b ∨ b + vs.length ≤ q) : (putW w g b vs).cell? ⟨g', q, none⟩ = w.cell? ⟨g', q, none⟩ := by
  rw [putW_cells]; exact World.cell?_setCells_out g vs b w ⟨g', q, none⟩ (fun e _ => h e)
theorem putW_in {w : World} {g b : Nat} {vs : List Value} (h : ∀ j, j < vs.length → (w.cell? ⟨g, b + j, none⟩).isSome = true) (j : Nat) (hj : j < vs.length) : (putW w g b vs).cell? ⟨g, b + j, none⟩ = vs[j]? := by
  rw [putW_cells, World.cell?_setCells_in g vs b w h j hj, List.getElem?_eq_getElem hj]
theorem putW_frozen (w : World) (g b : Nat) (vs : List Value) (x : Addr) : (putW w g b vs).frozen? x = w.frozen? x := by
  rw [putW_cells]; exact World.frozen?_setCells g vs b w x
theorem put_next {w : World} {g o : Nat} {k : Int} {j K : Nat} {hs : List Value} (he : hs = nums (k + ((j * K : Nat) : Int)) K) : putW (putW w g o (nums k (j * K))) g (o + j * K) hs = putW w g o (nums k ((j + 1) * K)) := by
  have h := putW_app (nums k (j * K)) hs w g o
  rw [nums_len] at h
  rw [h, he, Nat.succ_mul, nums_app]
/-- cells that hold numbers and may be written -/
def Ints (w : World) (g o m : Nat) : Prop := ∀ i, i < m → (∃ x, w.cell? ⟨g, o + i, none⟩ = some (.int .i64 x)) ∧ w.frozen? ⟨g, o + i, none⟩ = false
theorem Ints.putN {w : World} {g o m : Nat} (h : Ints w g o m) (g' b : Nat) (vs : List Value) (hv : ∀ v ∈ vs, ∃ x, v = .int .i64 x) : Ints (putW w g' b vs) g o m := by
  revert w b
  induction vs with
  | nil => intro w h b; exact h
  | cons v vs ih =>
    intro w h b
    refine ih (fun u hu => hv u (List.mem_cons_of_mem _ hu)) (w := w.setCell ⟨g', b, none⟩ v) (fun i hi => ?_) (b + 1)
    obtain ⟨x, hx⟩ := hv v List.mem_cons_self
    obtain ⟨⟨y, hy⟩, hf⟩ := h i hi
    refine ⟨?_, by rw [World.frozen?_setCell]; exact hf⟩
    by_cases e : (⟨g', b, none⟩ : Addr) = ⟨g, o + i, none⟩
    · rw [e, World.cell?_setCell_same _ _ _ hy, hx]; exact ⟨x, rfl⟩
    · rw [World.cell?_setCell_other _ _ _ _ e]; exact ⟨y, hy⟩
theorem Ints.putO {w : World} {g o m : Nat} (h : Ints w g o m) (g' b : Nat) (vs : List Value) (hg : g ≠ g') : Ints (putW w g' b vs) g o m := fun i hi => by
  obtain ⟨⟨y, hy⟩, hf⟩ := h i hi
  exact ⟨⟨y, by rw [putW_out (fun e => absurd e hg)]; exact hy⟩, by rw [putW_frozen]; exact hf⟩
theorem nums_int (k : Int) (m : Nat) : ∀ v ∈ nums k m, ∃ x, v = .int .i64 x := fun v hv => by
  simp only [nums, List.mem_map] at hv
  obtain ⟨i, _, rfl⟩ := hv
  exact ⟨_, rfl⟩
/-- a slice of n things of K numbers each, whose cells may be marked -/
def Mks (w : World) (K : Nat) (v : Value) : Prop := ∃ a n c, v = .slice a n c ∧ (n : Int) ≤ 1048576 ∧ (0 < n → ∃ g o, a = some ⟨g, o, none⟩ ∧ Ints w g o (n * K))
/-- the world when the slice is marked from k on -/
def markV (w : World) (K : Nat) (v : Value) (k : Int) : World := match v with | .slice (some a) n _ => putW w a.block a.off (nums k (n * K)) | _ => w
/-- the marks from k on stand in the slice -/
def HeldV (w : World) (K : Nat) (v : Value) (k : Int) : Prop := ∃ a n c, v = .slice a n c ∧ (n : Int) ≤ 1048576 ∧ (0 < n → ∃ g o, a = some ⟨g, o, none⟩ ∧ ∀ i, i < n * K → w.cell? ⟨g, o + i, none⟩ = some (.int .i64 (k + (i : Int))))
theorem markV_ints {w : World} {g o m : Nat} (h : Ints w g o m) (K : Nat) (v : Value) (k : Int) : Ints (markV w K v k) g o m := by
  unfold markV
  split
  · exact h.putN _ _ _ (nums_int _ _)
  · exact h
theorem Mks.mark {w : World} {K K' : Nat} {v v' : Value} (h : Mks w K v) (k : Int) : Mks (markV w K' v' k) K v := by
  obtain ⟨a, n, c, hv, hn, hi⟩ := h
  refine ⟨a, n, c, hv, hn, fun h0 => ?_⟩
  obtain ⟨g, o, ha, hi⟩ := hi h0
  exact ⟨g, o, ha, markV_ints hi K' v' k⟩
theorem Mks.putO {w : World} {K : Nat} {v : Value} (h : Mks w K v) (g' b : Nat) (vs : List Value) (hg : ∀ g o, spotOf v = some (g, o) → 0 < lenOf v → g ≠ g') : Mks (putW w g' b vs) K v := by
  obtain ⟨a, n, c, hv, hn, hi⟩ := h
  refine ⟨a, n, c, hv, hn, fun h0 => ?_⟩
  obtain ⟨g, o, ha, hi⟩ := hi h0
  refine ⟨g, o, ha, hi.putO _ _ _ (hg g o ?_ ?_)⟩
  · rw [hv, ha]; rfl
  · rw [hv]; exact h0
/-- what is marked is held -/
theorem HeldV.here {w : World} {K : Nat} {v : Value} (h : Mks w K v) (k : Int) : HeldV (markV w K v k) K v k := by
  obtain ⟨a, n, c, rfl, hn, hi⟩ := h
  refine ⟨a, n, c, rfl, hn, fun h0 => ?_⟩
  obtain ⟨g, o, rfl, hi'⟩ := hi h0
  refine ⟨g, o, rfl, fun i hlt => ?_⟩
  show (putW w g o (nums k (n * K))).cell? ⟨g, o + i, none⟩ = _
  rw [putW_in (fun j hj => by obtain ⟨⟨x, hx⟩, _⟩ := hi' j (by rwa [nums_len] at hj); rw [hx]; rfl) i (by rw [nums_len]; exact hlt), nums_get k _ i hlt]
theorem HeldV.put {w : World} {K : Nat} {v : Value} {k : Int} (h : HeldV w K v k) (g' b : Nat) (vs : List Value) (hg : ∀ g o, spotOf v = some (g, o) → 0 < lenOf v → g ≠ g') : HeldV (putW w g' b vs) K v k := by
  obtain ⟨a, n, c, hv, hn, hi⟩ := h
  refine ⟨a, n, c, hv, hn, fun h0 => ?_⟩
  obtain ⟨g, o, ha, hi⟩ := hi h0
  refine ⟨g, o, ha, fun i hlt => ?_⟩
  rw [putW_out (fun e => absurd e (hg g o (by rw [hv, ha]; rfl) (by rw [hv]; exact h0)))]
  exact hi i hlt
/-- two slices lie in two blocks, if there is anything in them -/
def Two (u v : Value) : Prop := ∀ g o g' o', spotOf u = some (g, o) → spotOf v = some (g', o') → 0 < lenOf u → 0 < lenOf v → g ≠ g'
theorem HeldV.mark {w : World} {K K' : Nat} {v u : Value} {k k' : Int} (h : HeldV w K v k) (hd : Two v u) : HeldV (markV w K' u k') K v k := by
  unfold markV
  split
  · rename_i a n c
    by_cases h0 : n = 0
    · subst h0
      rw [Nat.zero_mul, nums_zero]; exact h
    · exact h.put _ _ _ (fun g o hs hl => hd g o a.block a.off hs rfl hl (by simp [lenOf]; omega))
  · exact h
theorem HeldV.cells {w w' : World} {K : Nat} {v : Value} {k : Int} (h : HeldV w K v k) (hb : ∀ g o, spotOf v = some (g, o) → 0 < lenOf v → w'.heap[g]? = w.heap[g]?) : HeldV w' K v k := by
  obtain ⟨a, n, c, hv, hn, hi⟩ := h
  refine ⟨a, n, c, hv, hn, fun h0 => ?_⟩
  obtain ⟨g, o, ha, hi⟩ := hi h0
  refine ⟨g, o, ha, fun i hlt => ?_⟩
  rw [World.cell?_of_block (w := w) (hb g o (by rw [hv, ha]; rfl) (by rw [hv]; exact h0))]
  exact hi i hlt
theorem markV_size (w : World) (K : Nat) (v : Value) (k : Int) : (markV w K v k).heap.size = w.heap.size := by
  unfold markV
  split
  · exact putW_size _ _ _ _
  · rfl
theorem markV_below {n : Nat} {u w : World} {K : Nat} {v : Value} {k : Int} (h : Below n u w) (hs : ∀ g o, spotOf v = some (g, o) → 0 < lenOf v → n ≤ g) : Below n u (markV w K v k) := by
  unfold markV
  split
  · rename_i a m c
    by_cases h0 : m = 0
    · subst h0
      rw [Nat.zero_mul, nums_zero]; exact h
    · exact putW_below _ h (hs a.block a.off rfl (by simp [lenOf]; omega))
  · exact h
/-- a slice that reads so and is not frozen can be marked -/
theorem Mks.of {α : Type} {f : α → List Value} {K lo : Nat} {w : World} {v : Value} {xs : List α} (h : RowE (Plain f) K lo w v xs) (hf : ∀ x, ∃ is : List Int, f x = is.map (Value.int .i64)) (hz : ∀ g o, spotOf v = some (g, o) → 0 < lenOf v → ∀ j, w.frozen? ⟨g, j, none⟩ = false) (hn : xs.length ≤ 1048576) (hK : 0 < K) : Mks w K v := by
  obtain ⟨a, c, rfl, _, h3⟩ := h
  refine ⟨a, xs.length, c, rfl, by omega, fun h0 => ?_⟩
  obtain ⟨g, o, rfl, _, _, hc⟩ := h3 h0
  refine ⟨g, o, rfl, fun i hi => ⟨?_, hz g o rfl h0 _⟩⟩
  have hq : i / K < xs.length := Nat.div_lt_of_lt_mul (by rw [Nat.mul_comm]; exact hi)
  obtain ⟨cs, hl, hcc, hp⟩ := hc (i / K) hq
  have hr : i % K < K := Nat.mod_lt _ hK
  have he := hcc (i % K) hr
  rw [show o + i / K * K + i % K = o + i by rw [Nat.add_assoc, Nat.mul_comm, Nat.div_add_mod]] at he
  obtain ⟨is, his⟩ := hf xs[i / K]
  rw [he, hp, his, List.getElem?_map]
  have hil : is.length = K := by rw [← hl, hp, his, List.length_map]
  rw [List.getElem?_eq_getElem (by omega)]
  exact ⟨_, rfl⟩
theorem Free.later {w w' : World} {v : Value} (h : Free w v) (hg : ∀ g o, spotOf v = some (g, o) → 0 < lenOf v → g < w.heap.size) (hb : Below w.heap.size w w') : Free w' v := fun g o hs hl j =>
  (hb.frozen (p := ⟨g, j, none⟩) (hg g o hs hl)).trans (h g o hs hl j)
theorem Mks.later {w w' : World} {K : Nat} {v : Value} (h : Mks w K v) (hb : Below w.heap.size w w') : Mks w' K v := by
  obtain ⟨a, n, c, hv, hn, hi⟩ := h
  refine ⟨a, n, c, hv, hn, fun h0 => ?_⟩
  obtain ⟨g, o, ha, hi⟩ := hi h0
  refine ⟨g, o, ha, fun i hlt => ?_⟩
  obtain ⟨⟨x, hx⟩, hf⟩ := hi i hlt
  have hg : g < w.heap.size := by
    unfold World.cell? at hx
    rcases Nat.lt_or_ge g w.heap.size with h | h
    · exact h
    · rw [Array.getElem?_eq_none h] at hx; simp at hx
  exact ⟨⟨x, (hb.cell (p := ⟨g, o + i, none⟩) hg).trans hx⟩, (hb.frozen (p := ⟨g, o + i, none⟩) hg).trans hf⟩
theorem HeldV.later {w w' : World} {K : Nat} {v : Value} {k : Int} (h : HeldV w K v k) (hg : ∀ g o, spotOf v = some (g, o) → 0 < lenOf v → g < w.heap.size) (hb : Below w.heap.size w w') : HeldV w' K v k :=
  h.cells (fun g o hs hl => hb.block g (hg g o hs hl))
theorem len_of {α : Type} {E : Reader α} {k lo : Nat} {w : World} {v : Value} {xs : List α} (h : RowE E k lo w v xs) : lenOf v = xs.length := by
  obtain ⟨a, c, rfl, _⟩ := h.form
  rfl
/-- marking a row of an elder block leaves what lies from lo on -/
theorem mark_keep {w : World} {K : Nat} {v : Value} {k : Int} {lo : Nat} (h : ∀ g o, spotOf v = some (g, o) → 0 < lenOf v → g < lo) : Keep lo w (markV w K v k) := by
  unfold markV
  split
  · rename_i a m c
    by_cases h0 : m = 0
    · subst h0
      rw [Nat.zero_mul, nums_zero]; exact ⟨Nat.le_refl _, fun _ _ _ => rfl⟩
    · exact putW_keep _ _ _ _ _ (h a.block a.off rfl (by simp [lenOf]; omega))
  · exact ⟨Nat.le_refl _, fun _ _ _ => rfl⟩
theorem row_spot {α : Type} {E : Reader α} {k lo : Nat} {w : World} {v : Value} {xs : List α} (h : RowE E k lo w v xs) : ∀ g o, spotOf v = some (g, o) → 0 < lenOf v → lo ≤ g ∧ g < w.heap.size := by
  intro g o hs hl
  rw [len_of h] at hl
  obtain ⟨g', o', c, rfl, _, h1, h2, _⟩ := h.at hl
  simp [spotOf] at hs
  obtain ⟨rfl, rfl⟩ := hs
  exact ⟨h1, h2⟩
end Go.Proofs.Ytnkkkdhpopfahaa.deep
