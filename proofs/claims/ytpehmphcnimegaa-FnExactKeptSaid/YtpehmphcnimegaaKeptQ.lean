/-
  Replies whose lists are copied one behind the other, in plain words.
-/
import Derived.Test.YtpehmphcnimegaaKeptP
namespace Go.Proofs.Ytpehmphcnimegaa.deep
open Go.RowKit Go.Deep
set_option linter.unusedVariables false

/-- one cell of an element is stored -/
theorem Made.put1 {w : World} {g t k c : Nat} {css : List (List Value)} (h : Made w g t k c css) (i : Nat) (hi : i < css.length) (j : Nat) (hj : j < k) (v : Value) : Made (w.setCell ⟨g, i * k + j, none⟩ v) g t k c (css.set i (css[i].set j v)) := by
  obtain ⟨h0, ⟨cur, h1, h2, h3⟩, h4⟩ := h
  have hle : (i + 1) * k ≤ c * k := Nat.mul_le_mul_right _ (by omega)
  rw [Nat.add_mul, Nat.one_mul] at hle
  have hci : css[i].length = k := h0 _ (List.getElem_mem _)
  refine ⟨fun x hx => ?_, ⟨cur.setIfInBounds (i * k + j) v, heap_setCell_same w g (i * k + j) cur t _ h1, by simpa using h2, fun i' hi' j' hj' => ?_⟩, by simpa using h4⟩
  · rcases List.mem_or_eq_of_mem_set hx with hx | rfl
    · exact h0 x hx
    · rw [List.length_set]; exact hci
  · have hi2 : i' < css.length := by simpa using hi'
    by_cases e : i = i'
    · subst e
      simp only [List.getElem_set_self]
      by_cases e2 : j = j'
      · subst e2
        rw [Array.getElem?_setIfInBounds_self_of_lt (by omega), List.getElem?_set_self (by omega)]
      · rw [Array.getElem?_setIfInBounds_ne (by omega), List.getElem?_set_ne e2]
        exact h3 i hi j' hj'
    · rw [List.getElem_set_ne e, Array.getElem?_setIfInBounds_ne, h3 i' hi2 j' hj']
      intro e3
      rcases Nat.lt_or_gt_of_ne e with h | h
      · have : (i + 1) * k ≤ i' * k := Nat.mul_le_mul_right _ h
        rw [Nat.add_mul, Nat.one_mul] at this
        omega
      · have : (i' + 1) * k ≤ i * k := Nat.mul_le_mul_right _ h
        rw [Nat.add_mul, Nat.one_mul] at this
        omega
theorem OwnC.made {t k base : Nat} {w : World} {v : Value} {css : List (List Value)} (h : OwnC t k base w v css) (h0 : 0 < css.length) : ∃ g c, v = .slice (some ⟨g, 0, none⟩) css.length c ∧ base ≤ g ∧ g < w.heap.size ∧ Made w g t k c css := by
  have hl := h.len
  rcases h.row.2 with ⟨rfl, e⟩ | ⟨g, cap, cur, rfl, hb, hc, hn, hm, hs, ht⟩
  · omega
  · refine ⟨g, cap, rfl, hb, (Array.getElem?_eq_some_iff.1 hc).1, hl, ⟨cur, hc, by omega, fun i hi j hj => ?_⟩, hn⟩
    have hlt : i * k + j < css.length * k := by
      have : (i + 1) * k ≤ css.length * k := Nat.mul_le_mul_right _ hi
      rw [Nat.succ_mul] at this
      omega
    rw [← flatten_at css hl i hi j hj, ← ht, List.getElem?_take_of_lt hlt]
    simp

def rowsOf (ys : List RepD) (vals : List Value) : List (List Value) := List.zipWith rcells ys vals
theorem rows_len {ys : List RepD} {vals : List Value} (h : vals.length = ys.length) : (rowsOf ys vals).length = ys.length := by simp [rowsOf, h]
theorem rows_at {ys : List RepD} {vals : List Value} (i : Nat) (hi : i < ys.length) (hv : i < vals.length) (hr : i < (rowsOf ys vals).length) : (rowsOf ys vals)[i] = rcells ys[i] vals[i] := by simp [rowsOf]
theorem rows_push {ys : List RepD} {vals : List Value} (h : vals.length = ys.length) (y : RepD) (v : Value) : rowsOf (ys ++ [y]) (vals ++ [v]) = rowsOf ys vals ++ [rcells y v] := by
  unfold rowsOf
  rw [List.zipWith_append h.symm]
  rfl
/-- replies gathered, their lists where they were -/
structure GathO (lo2 base : Nat) (w wr : World) (u : Value) (vals : List Value) (ys : List RepD) : Prop where
  own : OwnC 58 6 base wr u (rowsOf ys vals)
  len : vals.length = ys.length
  each : ∀ i (hi : i < ys.length), RowE (Plain chd) 3 lo2 w (vals[i]'(by omega)) ys[i].hs
theorem GathO.nil (lo2 base : Nat) (w wr : World) : GathO lo2 base w wr (.slice none 0 0) [] [] := ⟨OwnC.nil _ _ _ _, rfl, fun i hi => by simp at hi⟩
theorem GathO.later {lo2 base : Nat} {w wr wr' : World} {u : Value} {vals : List Value} {ys : List RepD} (h : GathO lo2 base w wr u vals ys) (hb : Below wr.heap.size wr wr') : GathO lo2 base w wr' u vals ys := ⟨h.own.later hb, h.len, h.each⟩
theorem GathO.push {lo2 base : Nat} {w wr w1 : World} {u v' v : Value} {vals : List Value} {ys : List RepD} {y : RepD} (h : GathO lo2 base w wr u vals ys) (hv : RowE (Plain chd) 3 lo2 w v y.hs)
    (h1 : w1.ownsRow base 58 6 v' ((rowsOf ys vals).length + 1) ((rowsOf ys vals).flatten ++ rcells y v)) : GathO lo2 base w w1 v' (vals ++ [v]) (ys ++ [y]) := by
  refine ⟨by rw [rows_push h.len]; exact h.own.push rfl h1, by simp [h.len], fun i hi => ?_⟩
  by_cases e : i < ys.length
  · have := h.each i e
    rw [List.getElem_append_left (by rw [h.len]; exact e), List.getElem_append_left e] at *
    exact this
  · have e2 : i = ys.length := by simp at hi; omega
    subst e2
    rw [List.getElem_append_right (by rw [h.len]; exact Nat.le_refl _), List.getElem_append_right (Nat.le_refl _)]
    simpa [h.len] using hv

/-- the first j lists are copies of the call's own -/
structure Mid (lo2 base G : Nat) (w wr : World) (vals : List Value) (ys : List RepD) (c j : Nat) : Prop where
  made : Made wr G 58 6 c (rowsOf ys vals)
  len : vals.length = ys.length
  new : ∀ i (hi : i < ys.length), i < j → RowE (Plain chd) 3 base wr (vals[i]'(by omega)) ys[i].hs ∧ Free wr (vals[i]'(by omega)) ∧ ∀ g o, spotOf (vals[i]'(by omega)) = some (g, o) → 0 < lenOf (vals[i]'(by omega)) → g ≠ G
  old : ∀ i (hi : i < ys.length), j ≤ i → RowE (Plain chd) 3 lo2 w (vals[i]'(by omega)) ys[i].hs
  two : ∀ i i' (hi : i < ys.length) (hi' : i' < ys.length), i < j → i' < j → i ≠ i' → Two (vals[i]'(by omega)) (vals[i']'(by omega))
theorem Mid.step {lo2 base G : Nat} {w wr w2 : World} {vals : List Value} {ys : List RepD} {c j : Nat} (h : Mid lo2 base G w wr vals ys c j) (hj : j < ys.length) {v : Value} (hb : Below wr.heap.size wr w2) (hv : RowE (Plain chd) 3 wr.heap.size w2 v ys[j].hs) (hf : Free w2 v) (hbase : base ≤ wr.heap.size) :
    Mid lo2 base G w (w2.setCell ⟨G, j * 6 + 5, none⟩ v) (vals.set j v) ys c (j + 1) := by
  have hG := h.made.lt
  have hl := h.len
  have m2 := h.made.later hb
  have hkeep : ∀ {u : Value} {lo : Nat} {zs : List Thd}, RowE (Plain chd) 3 lo w2 u zs → (∀ g o, spotOf u = some (g, o) → 0 < lenOf u → g ≠ G) → RowE (Plain chd) 3 lo (w2.setCell ⟨G, j * 6 + 5, none⟩ v) u zs := fun {u lo zs} hr hs =>
    row_block hr (by simp) (fun g o h1 h2 => Below.heap_setCell _ _ _ _ (hs g o h1 h2))
  have hvG : ∀ g o, spotOf v = some (g, o) → 0 < lenOf v → g ≠ G := fun g o h1 h2 => by have := (row_spot hv g o h1 h2).1; omega
  refine ⟨?_, by simp [hl], fun i hi hlt => ?_, fun i hi hle => ?_, fun i i' hi hi' h1 h2 hne => ?_⟩
  · have h1 := m2.put1 j (by rw [rows_len hl]; exact hj) 5 (by decide) v
    have h2 : (rowsOf ys vals).set j (((rowsOf ys vals)[j]'(by rw [rows_len hl]; exact hj)).set 5 v) = rowsOf ys (vals.set j v) := by
      apply List.ext_getElem
      · rw [List.length_set, rows_len hl, rows_len (by simp [hl])]
      · intro i a b
        by_cases e : j = i
        · subst e
          rw [List.getElem_set_self, rows_at j hj (by omega) (by rw [rows_len hl]; exact hj), rows_at j hj (by simp; omega) b]
          simp [rcells]
        · have hi : i < ys.length := by rw [List.length_set, rows_len hl] at a; exact a
          rw [List.getElem_set_ne e, rows_at i hi (by omega) (by rw [rows_len hl]; exact hi), rows_at i hi (by simp; omega) b, List.getElem_set_ne e]
    rw [h2] at h1
    exact h1
  · by_cases e : j = i
    · subst e
      simp only [List.getElem_set_self]
      refine ⟨hkeep (rowE_lowers (plain_lowers _) hv hbase) hvG, fun g o h1 h2 q => ?_, hvG⟩
      rw [World.frozen?_setCell]; exact hf g o h1 h2 q
    · obtain ⟨h1, h2, h3⟩ := h.new i hi (by omega)
      simp only [List.getElem_set_ne e]
      refine ⟨hkeep (h1.below (plain_stays _) hb) h3, fun g o h4 h5 q => ?_, h3⟩
      rw [World.frozen?_setCell]; exact (h2.later (fun g o a b => (row_spot h1 g o a b).2) hb) g o h4 h5 q
  · simp only [List.getElem_set_ne (show j ≠ i by omega)]
    exact h.old i hi (by omega)
  · have spotn : ∀ i (hi : i < ys.length), i < j → ∀ g o, spotOf (vals[i]'(by omega)) = some (g, o) → 0 < lenOf (vals[i]'(by omega)) → g < wr.heap.size := fun i hi hlt g o a b => (row_spot (h.new i hi hlt).1 g o a b).2
    by_cases e : j = i
    · subst e
      have e' : j ≠ i' := hne
      simp only [List.getElem_set_self, List.getElem_set_ne e']
      intro g o g' o' a b hl1 hl2 heq
      have h3 := (row_spot hv g o a hl1).1
      have h4 := spotn i' hi' (by omega) g' o' b hl2
      omega
    · by_cases e' : j = i'
      · subst e'
        simp only [List.getElem_set_self, List.getElem_set_ne e]
        intro g o g' o' a b hl1 hl2 heq
        have h3 := (row_spot hv g' o' b hl2).1
        have h4 := spotn i hi (by omega) g o a hl1
        omega
      · simp only [List.getElem_set_ne e, List.getElem_set_ne e']
        exact h.two i i' hi hi' (by omega) (by omega) hne

/-- one list an element -/
def elsOf (vals : List Value) : List EL := vals.map fun v => [(3, v)]
/-- what may be marked, and held: the answer of Kept -/
structure Whole (base : Nat) (w : World) (u : Value) (ys : List RepD) (G : Nat) (vals : List Value) : Prop where
  row : RowE RepE 6 base w u ys
  len : vals.length = ys.length
  form : ∃ c, u = .slice (some ⟨G, 0, none⟩) ys.length c
  elems : MElems 5 6 w G 0 (elsOf vals)
  apart : DistinctE (elsOf vals)
  spots : base ≤ G ∧ G < w.heap.size ∧ ∀ d ∈ elsOf vals, ∀ p ∈ d, ∀ g o, spotOf p.2 = some (g, o) → 0 < lenOf p.2 → base ≤ g ∧ g < w.heap.size
theorem hd_marks {w : World} {v : Value} {xs : List Thd} {lo : Nat} (h : RowE (Plain chd) 3 lo w v xs) (hf : Free w v) (hn : xs.length ≤ 1048576) : Mks w 3 v :=
  Mks.of h (fun x => ⟨[x.1, x.2.1, x.2.2], rfl⟩) hf hn (by decide)
/-- elements out of rows of replies -/
theorem melems_of {w : World} {G c t : Nat} {vals : List Value} {ys : List RepD} (hm : Made w G t 6 c (rowsOf ys vals)) (hl : vals.length = ys.length) (hs : ∀ i (hi : i < ys.length), Mks w 3 (vals[i]'(by omega)) ∧ ∀ g o, spotOf (vals[i]'(by omega)) = some (g, o) → 0 < lenOf (vals[i]'(by omega)) → g ≠ G) : MElems 5 6 w G 0 (elsOf vals) := by
  have hel : (elsOf vals).length = ys.length := by simp [elsOf, hl]
  have hat : ∀ i (hi : i < (elsOf vals).length), (elsOf vals)[i] = [(3, vals[i]'(by simpa [elsOf] using hi))] := fun i hi => by simp [elsOf]
  have hcell : ∀ i (hi : i < ys.length) j, j < 6 → w.cell? ⟨G, 0 + i * 6 + j, none⟩ = (rcells ys[i] (vals[i]'(by omega)))[j]? := fun i hi j hj => by
    rw [Nat.zero_add, hm.at i (by rw [rows_len hl]; exact hi) j hj, rows_at i hi (by omega)]
  refine ⟨fun i hi r hr => ?_, fun q => hm.free q, fun i hi r hr => ?_, fun d hd p hp => ?_, fun d hd p hp => ?_, fun d hd => ?_⟩
  · rw [hcell i (by omega) r (by omega)]
    match r, hr with
    | 0, _ => exact ⟨_, rfl⟩
    | 1, _ => exact ⟨_, rfl⟩
    | 2, _ => exact ⟨_, rfl⟩
    | 3, _ => exact ⟨_, rfl⟩
    | 4, _ => exact ⟨_, rfl⟩
  · have h1 := hat i hi
    have hr0 : r = 0 := by rw [h1] at hr; simp at hr; exact hr
    subst hr0
    simp only [h1]
    rw [hcell i (by omega) 5 (by omega)]; rfl
  · obtain ⟨i, hi, rfl⟩ := List.getElem_of_mem hd
    rw [hat i hi] at hp
    rw [List.mem_singleton.1 hp]
    exact (hs i (by omega)).1
  · obtain ⟨i, hi, rfl⟩ := List.getElem_of_mem hd
    rw [hat i hi] at hp
    rw [List.mem_singleton.1 hp]
    exact (hs i (by omega)).2
  · obtain ⟨i, hi, rfl⟩ := List.getElem_of_mem hd
    rw [hat i hi]; simp
theorem Mid.whole {lo2 base G : Nat} {w wr : World} {vals : List Value} {ys : List RepD} {c : Nat} (h : Mid lo2 base G w wr vals ys c ys.length) (hG : base ≤ G) (hm : ys.length ≤ maxLen) (hbk : ∀ y ∈ ys, y.hs.length ≤ 1048576) : Whole base wr (.slice (some ⟨G, 0, none⟩) ys.length c) ys G vals := by
  have hl := h.len
  have hat : ∀ i (hi : i < (elsOf vals).length), (elsOf vals)[i] = [(3, vals[i]'(by simpa [elsOf] using hi))] := fun i hi => by simp [elsOf]
  have hel : (elsOf vals).length = ys.length := by simp [elsOf, hl]
  refine ⟨h.made.row (rows_len hl) rfl hm hG (fun i hi => ?_), hl, ⟨c, rfl⟩, melems_of h.made hl (fun i hi => ?_), ⟨fun d hd => ?_, fun i j hi hj hne p hp q hq => ?_⟩, hG, h.made.lt, fun d hd p hp => ?_⟩
  · rw [rows_at i hi (by omega)]
    exact ⟨_, rfl, (h.new i hi hi).1⟩
  · obtain ⟨h1, h2, h3⟩ := h.new i hi hi
    exact ⟨hd_marks h1 h2 (hbk _ (List.getElem_mem _)), h3⟩
  · obtain ⟨i, hi, rfl⟩ := List.getElem_of_mem hd
    rw [hat i hi]
    exact ⟨fun q hq => by simp at hq, trivial⟩
  · rw [hat i hi] at hp
    rw [hat j hj] at hq
    rw [List.mem_singleton.1 hp, List.mem_singleton.1 hq]
    exact h.two i j (by omega) (by omega) (by omega) (by omega) hne
  · obtain ⟨i, hi, rfl⟩ := List.getElem_of_mem hd
    rw [hat i hi] at hp
    rw [List.mem_singleton.1 hp]
    exact row_spot (h.new i (by omega) (by omega)).1
end Go.Proofs.Ytpehmphcnimegaa.deep
