/-
  Rows that a call has made by appending elements of k cells each: what they read as, how they grow; and what is kept of a list.
-/
import Derived.Test.YtnkkkdhpopfahaaMarks
namespace Go.Proofs.Ytnkkkdhpopfahaa.deep
open Go.RowKit Go.Deep
set_option linter.unusedVariables false

/-- a row of the call's own: element by element the cells that stand in it -/
structure OwnC (t k base : Nat) (w : World) (v : Value) (css : List (List Value)) : Prop where
  len : ∀ cs ∈ css, cs.length = k
  row : w.ownsRow base t k v css.length css.flatten
theorem flatten_len {k : Nat} : ∀ (css : List (List Value)), (∀ cs ∈ css, cs.length = k) → css.flatten.length = css.length * k
  | [], _ => by simp
  | c :: t, h => by
    rw [List.flatten_cons, List.length_append, flatten_len t (fun x hx => h x (List.mem_cons_of_mem _ hx)), h c List.mem_cons_self, List.length_cons, Nat.succ_mul]; omega
theorem flatten_at {k : Nat} : ∀ (css : List (List Value)) (_ : ∀ cs ∈ css, cs.length = k) (i : Nat) (hi : i < css.length) (j : Nat), j < k → css.flatten[i * k + j]? = css[i][j]?
  | [], _, i, hi, _, _ => by simp at hi
  | c :: t, h, 0, _, j, hj => by
    have := h c List.mem_cons_self
    rw [List.flatten_cons, Nat.zero_mul, Nat.zero_add, List.getElem?_append_left (by omega)]; rfl
  | c :: t, h, i + 1, hi, j, hj => by
    have hc := h c List.mem_cons_self
    rw [List.flatten_cons, List.getElem?_append_right (by rw [hc, Nat.succ_mul]; omega), hc, show (i + 1) * k + j - k = i * k + j by rw [Nat.succ_mul]; omega,
      flatten_at t (fun x hx => h x (List.mem_cons_of_mem _ hx)) i (by simpa using hi) j hj]
    simp
theorem OwnC.nil (t k base : Nat) (w : World) : OwnC t k base w (.slice none 0 0) [] := ⟨by simp, World.ownsRow_nil w base t k⟩
theorem OwnC.form {t k base : Nat} {w : World} {v : Value} {css : List (List Value)} (h : OwnC t k base w v css) : ∃ a c, v = .slice a css.length c ∧ css.length ≤ maxLen := by
  rcases h.row.2 with ⟨rfl, h0⟩ | ⟨g, cap, cur, rfl, _, _, hn, hm, _⟩
  · exact ⟨none, 0, by rw [h0], by omega⟩
  · exact ⟨_, _, rfl, by omega⟩
theorem OwnC.at {t k base : Nat} {w : World} {v : Value} {css : List (List Value)} (h : OwnC t k base w v css) (h0 : 0 < css.length) :
    ∃ g c, v = .slice (some ⟨g, 0, none⟩) css.length c ∧ base ≤ g ∧ g < w.heap.size ∧ (∀ i (hi : i < css.length) j, j < k → w.cell? ⟨g, i * k + j, none⟩ = css[i][j]?) ∧ ∀ j, w.frozen? ⟨g, j, none⟩ = false := by
  have h' := h.row
  rcases h.row.2 with ⟨rfl, e⟩ | ⟨g, cap, cur, rfl, hb, hc, hn, hm, hs, ht⟩
  · omega
  · refine ⟨g, cap, rfl, hb, (Array.getElem?_eq_some_iff.1 hc).1, fun i hi j hj => ?_, fun j => by simp [World.frozen?, hc]⟩
    have hlt : i * k + j < css.length * k := by
      have : (i + 1) * k ≤ css.length * k := Nat.mul_le_mul_right _ hi
      rw [Nat.succ_mul] at this
      omega
    rw [World.ownsRow.cellAt h' (i * k + j) hlt]
    exact flatten_at css h.len i hi j hj
theorem OwnC.later {t k base : Nat} {w w' : World} {v : Value} {css : List (List Value)} (h : OwnC t k base w v css) (hb : Below w.heap.size w w') : OwnC t k base w' v css := by
  refine ⟨h.len, h.row.1, ?_⟩
  rcases h.row.2 with h0 | ⟨g, cap, cur, hv, hbg, hc, hrest⟩
  · exact Or.inl h0
  · exact Or.inr ⟨g, cap, cur, hv, hbg, (hb.block g (Array.getElem?_eq_some_iff.1 hc).1).trans hc, hrest⟩
/-- what reads so is a row of elements -/
theorem OwnC.reads {α : Type} {E : Reader α} {t k base lo : Nat} {w : World} {v : Value} {css : List (List Value)} {xs : List α} (h : OwnC t k base w v css) (hl : css.length = xs.length) (hlo : lo ≤ base) (hE : ∀ i (hi : i < xs.length), E lo w (css[i]'(by omega)) xs[i]) : RowE E k lo w v xs := by
  obtain ⟨a, c, hv, hm⟩ := h.form
  refine ⟨a, c, by rw [hv, hl], by omega, fun h0 => ?_⟩
  obtain ⟨g, c', hv', hb, hg, hc, _⟩ := h.at (by omega)
  rw [hv] at hv'
  cases hv'
  exact ⟨g, 0, rfl, by omega, hg, fun i hi => ⟨css[i]'(by omega), h.len _ (List.getElem_mem _), fun j hj => by rw [Nat.zero_add]; exact hc i (by omega) j hj, hE i hi⟩⟩
theorem OwnC.plain {α : Type} {f : α → List Value} {t k base : Nat} {w : World} {v : Value} {xs : List α} (h : OwnC t k base w v (xs.map f)) : RowE (Plain f) k base w v xs :=
  h.reads (by simp) (Nat.le_refl _) (fun i hi => by simp [Plain])
theorem OwnC.free {t k base : Nat} {w : World} {v : Value} {css : List (List Value)} (h : OwnC t k base w v css) : ∀ g o, spotOf v = some (g, o) → 0 < lenOf v → ∀ j, w.frozen? ⟨g, j, none⟩ = false := by
  intro g o hs hl
  obtain ⟨a, c, hv, _⟩ := h.form
  rw [hv] at hl
  obtain ⟨g', c', hv', _, _, _, hf⟩ := h.at hl
  rw [hv'] at hs
  simp [spotOf] at hs
  obtain ⟨rfl, rfl⟩ := hs
  exact hf
theorem OwnC.ge {t k base : Nat} {w : World} {v : Value} {css : List (List Value)} (h : OwnC t k base w v css) : ∀ g o, spotOf v = some (g, o) → 0 < lenOf v → base ≤ g ∧ g < w.heap.size := by
  intro g o hs hl
  obtain ⟨a, c, hv, _⟩ := h.form
  rw [hv] at hl
  obtain ⟨g', c', hv', h1, h2, _, hf⟩ := h.at hl
  rw [hv'] at hs
  simp [spotOf] at hs
  obtain ⟨rfl, rfl⟩ := hs
  exact ⟨h1, h2⟩
/-- the row behind an append of one element -/
theorem OwnC.push {t k base : Nat} {w w1 : World} {v v' : Value} {css : List (List Value)} {cs : List Value} (h : OwnC t k base w v css) (hk : cs.length = k) (h1 : w1.ownsRow base t k v' (css.length + 1) (css.flatten ++ cs)) : OwnC t k base w1 v' (css ++ [cs]) := by
  refine ⟨fun x hx => ?_, by simpa using h1⟩
  rcases List.mem_append.1 hx with h2 | h2
  · exact h.len x h2
  · rw [List.mem_singleton.1 h2]; exact hk
theorem OwnC.own_ge {t k base : Nat} {w : World} {v : Value} {css : List (List Value)} (h : OwnC t k base w v css) : ∀ g, v.ownBlock = some g → base ≤ g := fun g hg => (World.ownsRow.lt h.row g hg).1

theorem new_cells (w : World) (cs : List Value) (t : Nat) : ∀ j u, cs[j]? = some u → (w.alloc (.cells cs.toArray t)).cell? ((⟨w.heap.size, 0, none⟩ : Addr).add j) = some u := by
  intro j u hu
  have := (blk_new w cs t).cell j
  rw [← hu, ← this]
  unfold Addr.add
  by_cases h : j = 0
  · subst h; rfl
  · simp [h]

/-- of at most 400 those that are kept, of more none -/
def keptL {α : Type} (p : α → Bool) (xs : List α) : List α := if xs.length ≤ 400 then xs.filter p else []
def keptJ {α : Type} (p : α → Bool) (xs : List α) (j : Nat) : List α := (xs.take j).filter p
theorem keptJ_zero {α : Type} (p : α → Bool) (xs : List α) : keptJ p xs 0 = [] := rfl
theorem keptJ_yes {α : Type} {p : α → Bool} {xs : List α} {j : Nat} (hj : j < xs.length) (h : p xs[j] = true) : keptJ p xs (j + 1) = keptJ p xs j ++ [xs[j]] := by
  rw [keptJ, keptJ, List.take_add_one, List.getElem?_eq_getElem hj, List.filter_append]
  simp [h]
theorem keptJ_no {α : Type} {p : α → Bool} {xs : List α} {j : Nat} (hj : j < xs.length) (h : p xs[j] = false) : keptJ p xs (j + 1) = keptJ p xs j := by
  rw [keptJ, keptJ, List.take_add_one, List.getElem?_eq_getElem hj, List.filter_append]
  simp [h]
theorem keptJ_all {α : Type} (p : α → Bool) (xs : List α) (h : xs.length ≤ 400) : keptJ p xs xs.length = keptL p xs := by
  rw [keptJ, keptL, if_pos h, List.take_length]
theorem keptL_none {α : Type} (p : α → Bool) (xs : List α) (h : 400 < xs.length) : keptL p xs = [] := by
  rw [keptL, if_neg (by omega)]
theorem keptJ_le {α : Type} (p : α → Bool) (xs : List α) (j : Nat) : (keptJ p xs j).length ≤ j := by
  have h1 := List.length_filter_le p (xs.take j)
  have h2 : (xs.take j).length ≤ j := by rw [List.length_take]; omega
  unfold keptJ; omega
theorem keptL_le {α : Type} (p : α → Bool) (xs : List α) : (keptL p xs).length ≤ 400 := by
  rw [keptL]
  split
  · have := List.length_filter_le p xs; omega
  · simp
end Go.Proofs.Ytnkkkdhpopfahaa.deep
