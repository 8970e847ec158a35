/-
  Replies that are gathered into a row of the call's own, and those that are kept of them. In plain words.
-/
import Derived.Test.YtpehmphcnimegaaRowReply
import Derived.Test.YtpehmphcnimegaaPurgeI
namespace Go.Proofs.Ytpehmphcnimegaa.deep
open Go.RowKit Go.Deep
set_option linter.unusedVariables false

/-- of the first j calls, the replies to those that are kept -/
def kept2J (p : Tcl → Bool) (cs : List Tcl) (rs : List RepD) (j : Nat) : List RepD := ((cs.zip rs).take j).filterMap fun z => if p z.1 then some z.2 else none
def kept2 (p : Tcl → Bool) (cs : List Tcl) (rs : List RepD) : List RepD := if cs.length ≤ 400 ∧ cs.length = rs.length then kept2J p cs rs cs.length else []
theorem kept2J_zero (p : Tcl → Bool) (cs : List Tcl) (rs : List RepD) : kept2J p cs rs 0 = [] := rfl
theorem kept2J_step (p : Tcl → Bool) (cs : List Tcl) (rs : List RepD) (j : Nat) (hj : j < cs.length) (hr : j < rs.length) : kept2J p cs rs (j + 1) = kept2J p cs rs j ++ (if p cs[j] then [rs[j]] else []) := by
  have hz : j < (cs.zip rs).length := by rw [List.length_zip]; omega
  rw [kept2J, kept2J, List.take_add_one, List.getElem?_eq_getElem hz, List.filterMap_append]
  simp only [Option.toList, List.getElem_zip, List.filterMap_cons, List.filterMap_nil]
  cases p cs[j] <;> rfl
theorem kept2J_yes {p : Tcl → Bool} {cs : List Tcl} {rs : List RepD} {j : Nat} (hj : j < cs.length) (hr : j < rs.length) (h : p cs[j] = true) : kept2J p cs rs (j + 1) = kept2J p cs rs j ++ [rs[j]] := by
  rw [kept2J_step p cs rs j hj hr, h]; rfl
theorem kept2J_no {p : Tcl → Bool} {cs : List Tcl} {rs : List RepD} {j : Nat} (hj : j < cs.length) (hr : j < rs.length) (h : p cs[j] = false) : kept2J p cs rs (j + 1) = kept2J p cs rs j := by
  rw [kept2J_step p cs rs j hj hr, h]; simp
theorem kept2J_le (p : Tcl → Bool) (cs : List Tcl) (rs : List RepD) (j : Nat) : (kept2J p cs rs j).length ≤ j := by
  have h1 := List.length_filterMap_le (fun z : Tcl × RepD => if p z.1 then some z.2 else none) ((cs.zip rs).take j)
  have h2 : ((cs.zip rs).take j).length ≤ j := by rw [List.length_take]; omega
  unfold kept2J; omega
theorem kept2J_mem {p : Tcl → Bool} {cs : List Tcl} {rs : List RepD} {j : Nat} {x : RepD} (h : x ∈ kept2J p cs rs j) : x ∈ rs := by
  unfold kept2J at h
  obtain ⟨z, hz, hx⟩ := List.mem_filterMap.1 h
  have h2 := List.mem_of_mem_take hz
  split at hx
  · cases hx; exact (List.of_mem_zip h2).2
  · cases hx
theorem kept2_le (p : Tcl → Bool) (cs : List Tcl) (rs : List RepD) : (kept2 p cs rs).length ≤ 400 := by
  rw [kept2]
  split
  · have := kept2J_le p cs rs cs.length; omega
  · simp
theorem kept2_mem {p : Tcl → Bool} {cs : List Tcl} {rs : List RepD} {x : RepD} (h : x ∈ kept2 p cs rs) : x ∈ rs := by
  rw [kept2] at h
  split at h
  · exact kept2J_mem h
  · simp at h
theorem kept2_no {p : Tcl → Bool} {cs : List Tcl} {rs : List RepD} (h : ¬ (cs.length ≤ 400 ∧ cs.length = rs.length)) : kept2 p cs rs = [] := by rw [kept2, if_neg h]

theorem rep_bulk {xs : List RepD} (h : bulkR xs ≤ 1048576) : ∀ x ∈ xs, x.hs.length ≤ 1048576 := fun x hx => by
  obtain ⟨i, hi, rfl⟩ := List.getElem_of_mem hx
  exact Nat.le_trans (bulkR_one xs i hi) h

/-- a row of plain things reads as it did, if its block is as it was -/
theorem row_block {α : Type} {f : α → List Value} {k lo : Nat} {w w' : World} {v : Value} {xs : List α} (h : RowE (Plain f) k lo w v xs) (hs : w.heap.size ≤ w'.heap.size) (hb : ∀ g o, spotOf v = some (g, o) → 0 < lenOf v → w'.heap[g]? = w.heap[g]?) : RowE (Plain f) k lo w' v xs := by
  have h' := h
  obtain ⟨a, c, rfl, h1, h3⟩ := h
  refine ⟨a, c, rfl, h1, fun hn => ?_⟩
  obtain ⟨g, o, rfl, h4, h5, h6⟩ := h3 hn
  refine ⟨g, o, rfl, h4, Nat.lt_of_lt_of_le h5 hs, fun i hi => ?_⟩
  obtain ⟨cs, h7, h8, h9⟩ := h6 i hi
  exact ⟨cs, h7, fun j hj => (World.cell?_of_block (w := w) (hb g o rfl hn)).trans (h8 j hj), h9⟩
theorem row_relo {α : Type} {f : α → List Value} {k lo lo' : Nat} {w : World} {v : Value} {xs : List α} (h : RowE (Plain f) k lo w v xs) (hl : ∀ g o, spotOf v = some (g, o) → 0 < lenOf v → lo' ≤ g) : RowE (Plain f) k lo' w v xs := by
  obtain ⟨a, c, rfl, h1, h3⟩ := h
  refine ⟨a, c, rfl, h1, fun hn => ?_⟩
  obtain ⟨g, o, rfl, h4, h5, h6⟩ := h3 hn
  exact ⟨g, o, rfl, hl g o rfl hn, h5, h6⟩

/-- replies gathered into a row of the call's own; their lists lie from lo on, in other blocks than the row -/
structure Gath (lo base : Nat) (w : World) (u : Value) (css : List (List Value)) (ys : List RepD) : Prop where
  own : OwnC 58 6 base w u css
  len : css.length = ys.length
  each : ∀ i (hi : i < ys.length), ∃ v, css[i]'(by omega) = rcells ys[i] v ∧ RowE (Plain chd) 3 lo w v ys[i].hs ∧ (∀ g o, spotOf v = some (g, o) → 0 < lenOf v → u.ownBlock ≠ some g)
theorem Gath.nil (lo base : Nat) (w : World) : Gath lo base w (.slice none 0 0) [] [] := ⟨OwnC.nil _ _ _ _, rfl, fun i hi => by simp at hi⟩
theorem Gath.later {lo base : Nat} {w w' : World} {u : Value} {css : List (List Value)} {ys : List RepD} (h : Gath lo base w u css ys) (hb : Below w.heap.size w w') : Gath lo base w' u css ys :=
  ⟨h.own.later hb, h.len, fun i hi => by
    obtain ⟨v, h1, h2, h3⟩ := h.each i hi
    exact ⟨v, h1, h2.below (plain_stays _) hb, h3⟩⟩
theorem Gath.row {lo base : Nat} {w : World} {u : Value} {css : List (List Value)} {ys : List RepD} (h : Gath lo base w u css ys) {lo' : Nat} (h1 : lo' ≤ lo) (h2 : lo' ≤ base) : RowE RepE 6 lo' w u ys :=
  h.own.reads h.len h2 (fun i hi => by
    obtain ⟨v, h3, h4, _⟩ := h.each i hi
    exact ⟨v, h3, rowE_lowers (plain_lowers _) h4 h1⟩)
/-- the cells of a row, one behind the other -/
theorem row_news {α : Type} {f : α → List Value} {k lo : Nat} {w : World} {g o c n : Nat} {xs : List α} (hk : ∀ x, (f x).length = k) (h : RowE (Plain f) k lo w (.slice (some ⟨g, o, none⟩) n c) xs) (h0 : 0 < xs.length) : ∀ q u, (xs.map f).flatten[q]? = some u → w.cell? ((⟨g, o, none⟩ : Addr).add q) = some u := by
  intro q u hu
  obtain ⟨g', o', c', hv, _, _, _, hc⟩ := h.at h0
  cases hv
  have hlen : ∀ cs ∈ xs.map f, cs.length = k := fun cs hcs => by
    obtain ⟨x, _, rfl⟩ := List.mem_map.1 hcs
    exact hk x
  have hq : q < (xs.map f).flatten.length := (List.getElem?_eq_some_iff.1 hu).1
  rw [flatten_len _ hlen, List.length_map] at hq
  have hk0 : 0 < k := by
    rcases Nat.eq_zero_or_pos k with e | e
    · rw [e, Nat.mul_zero] at hq; omega
    · exact e
  have hi : q / k < xs.length := Nat.div_lt_of_lt_mul (by rw [Nat.mul_comm]; exact hq)
  have hj : q % k < k := Nat.mod_lt _ hk0
  obtain ⟨cs, h1, h2, h3⟩ := hc (q / k) hi
  have h4 := h2 (q % k) hj
  have h5 := flatten_at (xs.map f) hlen (q / k) (by rw [List.length_map]; exact hi) (q % k) hj
  rw [show q / k * k + q % k = q by rw [Nat.mul_comm]; exact Nat.div_add_mod q k] at h5
  rw [show o + q / k * k + q % k = o + q by rw [Nat.add_assoc, Nat.mul_comm, Nat.div_add_mod]] at h4
  have e : (⟨g, o, none⟩ : Addr).add q = ⟨g, o + q, none⟩ := by
    unfold Addr.add
    split
    · next h => subst h; rfl
    · rfl
  rw [e, h4, ← hu, h5, h3]
  simp
theorem chd_one (xs : List Thd) : ∀ u ∈ (xs.map chd).flatten, u.oneCell' = true := by
  intro u hu
  obtain ⟨cs, h1, h2⟩ := List.mem_flatten.1 hu
  obtain ⟨x, _, rfl⟩ := List.mem_map.1 h1
  simp [chd] at h2
  rcases h2 with h | h | h <;> (subst h; rfl)
theorem chd_flat (xs : List Thd) : (xs.map chd).flatten.length = xs.length * 3 := by
  have := flatten_len (k := 3) (xs.map chd) (fun cs hcs => by obtain ⟨x, _, rfl⟩ := List.mem_map.1 hcs; rfl)
  rw [this, List.length_map]
/-- a list of handles that was appended onto an empty one -/
theorem chd_own {base : Nat} {w : World} {v : Value} {xs : List Thd} (h : w.ownsRow base 55 3 v (0 + xs.length) ([] ++ (xs.map chd).flatten)) : OwnC 55 3 base w v (xs.map chd) := by
  refine ⟨fun cs hcs => by obtain ⟨x, _, rfl⟩ := List.mem_map.1 hcs; rfl, ?_⟩
  rw [List.length_map]
  simpa using h
theorem rcells_one (x : RepD) {a : Option Addr} {n c : Nat} : ∀ u ∈ rcells x (.slice a n c), u.oneCell' = true := by
  intro u hu
  simp [rcells] at hu
  rcases hu with h | h | h | h | h | h <;> (subst h; rfl)
theorem own_new {base t k n : Nat} {w w1 : World} {v v' : Value} {xs : List Value} (hg : w.grownBy w1 v.ownBlock) (h : w1.ownsRow base t k v' n xs) (hn : ∀ g, v'.ownBlock = some g → v.ownBlock = some g ∨ w.heap.size ≤ g) {g : Nat} (hlt : g < w.heap.size) (hne : v.ownBlock ≠ some g) : v'.ownBlock ≠ some g := fun e => by
  rcases hn g e with h1 | h1
  · exact hne h1
  · omega
/-- one more -/
theorem Gath.push {lo base : Nat} {W w1 : World} {u v' v : Value} {css : List (List Value)} {ys : List RepD} {x : RepD} (h : Gath lo base W u css ys) (hv : RowE (Plain chd) 3 lo W v x.hs) (hvu : ∀ g o, spotOf v = some (g, o) → 0 < lenOf v → u.ownBlock ≠ some g)
    (h1 : w1.ownsRow base 58 6 v' (css.length + 1) (css.flatten ++ rcells x v)) (hg : W.grownBy w1 u.ownBlock) (hn : ∀ g, v'.ownBlock = some g → u.ownBlock = some g ∨ W.heap.size ≤ g) : Gath lo base w1 v' (css ++ [rcells x v]) (ys ++ [x]) := by
  have hbl : ∀ g, g < W.heap.size → u.ownBlock ≠ some g → w1.heap[g]? = W.heap[g]? := fun g h1 h2 => hg.block g h1 (fun e => h2 e.symm)
  refine ⟨h.own.push rfl h1, by simp [h.len], fun i hi => ?_⟩
  by_cases e : i < ys.length
  · obtain ⟨v0, h3, h4, h5⟩ := h.each i e
    have e2 : i < css.length := by rw [h.len]; exact e
    refine ⟨v0, ?_, ?_, ?_⟩
    · rw [List.getElem_append_left e2, List.getElem_append_left e]; exact h3
    · rw [List.getElem_append_left e]
      exact row_block h4 hg.size (fun g o hs hl => hbl g (row_spot h4 g o hs hl).2 (h5 g o hs hl))
    · exact fun g o hs hl => own_new hg h1 hn (row_spot h4 g o hs hl).2 (h5 g o hs hl)
  · have e2 : i = ys.length := by simp at hi; omega
    subst e2
    refine ⟨v, ?_, ?_, ?_⟩
    · rw [List.getElem_append_right (by rw [h.len]; exact Nat.le_refl _), List.getElem_append_right (Nat.le_refl _)]
      simp [h.len]
    · rw [List.getElem_append_right (Nat.le_refl _)]
      simp only [Nat.sub_self, List.getElem_cons_zero]
      exact row_block hv hg.size (fun g o hs hl => hbl g (row_spot hv g o hs hl).2 (hvu g o hs hl))
    · exact fun g o hs hl => own_new hg h1 hn (row_spot hv g o hs hl).2 (hvu g o hs hl)
end Go.Proofs.Ytpehmphcnimegaa.deep
