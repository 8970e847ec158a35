/-
  The walk of the program's BuddyRight at every buddy.
-/
import Derived.Test.YtcokchfedaoccabBuddyImpl2
import Derived.Deep.CutRange
namespace Go.Proofs.Ytcokchfedaoccab.bimpl
open Go.RowKit Go.Deep Go.Sort
open Go.Proofs.Ytcokchfedaoccab
open Go.Proofs.Ytcokchfedaoccab.brows
open Go.Proofs.Ytcokchfedaoccab.bspec
open Go.Proofs.Ytcokchfedaoccab.bd (Blk)
set_option linter.unusedVariables false

def NoNext (l : List Blk) : Prop := ∀ i x y, l[i]? = some x → l[i + 1]? = some y → x ≠ bd.fel y
theorem next_only {l : List Blk} (hp : l.Pairwise (fun x y => x.1 + 2 ^ x.2 ≤ y.1)) (hn : NoNext l) {x z : Blk} (hx : x ∈ l) (hz : z ∈ l) (hf : x = bd.fel z) (ha : x.1 + 2 ^ x.2 = z.1) : False := by
  obtain ⟨i, hi, rfl⟩ := List.getElem_of_mem hx
  obtain ⟨j, hj, rfl⟩ := List.getElem_of_mem hz
  have h1 := bd.pow_pos' (l[i]).2
  have h2 := bd.pow_pos' (l[j]).2
  rcases Nat.lt_trichotomy i j with h | h | h
  · by_cases e : j = i + 1
    · subst e
      exact hn i _ _ (List.getElem?_eq_getElem hi) (List.getElem?_eq_getElem hj) hf
    · have hm : i + 1 < l.length := by omega
      have g1 := List.pairwise_iff_getElem.1 hp i (i + 1) hi hm (by omega)
      have g2 := List.pairwise_iff_getElem.1 hp (i + 1) j hm hj (by omega)
      have h3 := bd.pow_pos' (l[i + 1]).2
      omega
  · subst h; omega
  · have g1 := List.pairwise_iff_getElem.1 hp j i hj hi h
    omega
theorem next_all {n : Nat} {l : List Blk} (hn5 : n ≤ 5) (h1 : ∀ y ∈ l, bd.In n y) (hp : l.Pairwise (fun x y => x.1 + 2 ^ x.2 ≤ y.1)) (hn : NoNext l) : ∀ y ∈ l, y.2 < n → bd.fel y ∉ l := by
  intro y hy hyn hf
  have h32 := bd.pow_le32 hn5
  have hlt := (h1 y hy).lt
  have hm := bd.fel_min y.1 (by omega) y.2 (by omega) (h1 y hy).al
  have hne := bd.fel_ne y.1 (by omega) y.2 (by omega)
  have e1 : (bd.fel y).1 = y.1 ^^^ 2 ^ y.2 := rfl
  have e2 : (bd.fel y).2 = y.2 := rfl
  rcases Nat.lt_or_ge (y.1 ^^^ 2 ^ y.2) y.1 with h | h
  · exact next_only hp hn hf hy rfl (by rw [e1, e2]; omega)
  · exact next_only hp hn hy hf (bd.fel_fel y).symm (by rw [e1]; omega)

/-- what holds of the first k blocks, which end at e -/
def OkN (n : Nat) (xs : List Pr) (k e : Nat) : Prop :=
  ∃ l : List Blk, xs.take k = l.map emb ∧ (∀ y ∈ l, bd.In n y) ∧ l.Pairwise (fun x y => x.1 + 2 ^ x.2 ≤ y.1) ∧ NoNext l ∧ (∀ y ∈ l, y.1 + 2 ^ y.2 ≤ e) ∧ e ≤ 2 ^ n ∧ (0 < k → ∃ z, l[k - 1]? = some z ∧ e = z.1 + 2 ^ z.2) ∧ (k = 0 → e = 0)
theorem okn_zero (n : Nat) (xs : List Pr) : OkN n xs 0 0 := ⟨[], by simp, fun _ h => absurd h (by simp), List.Pairwise.nil, fun i x y h => by simp at h, fun _ h => absurd h (by simp), Nat.zero_le _, fun h => absurd h (by omega), fun _ => rfl⟩
theorem okn_all {n : Nat} {xs : List Pr} {e : Nat} (hn : n ≤ 5) (h : OkN n xs xs.length e) : RightI (n : Int) xs := by
  obtain ⟨l, el, h1, h2, h3, _⟩ := h
  rw [List.take_length] at el
  subst el
  exact ⟨n, l, rfl, rfl, hn, h1, h2, next_all hn h1 h2 h3⟩
theorem okn_prev {n : Nat} {xs : List Pr} {k e : Nat} (h : OkN n xs k e) (hk : k ≤ xs.length) (h0 : 0 < k) : ∃ z : Blk, xs[k - 1]? = some (emb z) ∧ bd.In n z ∧ e = z.1 + 2 ^ z.2 := by
  obtain ⟨l, el, h1, h2, h3, h4, h5, h6, _⟩ := h
  obtain ⟨z, hz, he⟩ := h6 h0
  have : (xs.take k)[k - 1]? = (l.map emb)[k - 1]? := by rw [el]
  rw [List.getElem?_take, if_pos (by omega), List.getElem?_map, hz] at this
  exact ⟨z, this, h1 z (List.mem_of_getElem? hz), he⟩
theorem okn_step {n : Nat} {xs : List Pr} {k e : Nat} (hn5 : n ≤ 5) (h : OkN n xs k e) (hk : k < xs.length) {y : Blk} (hy : xs[k] = emb y) (hin : bd.In n y) (he : e ≤ y.1) (hf : ∀ z : Blk, 0 < k → xs[k - 1]? = some (emb z) → z ≠ bd.fel y) : OkN n xs (k + 1) (y.1 + 2 ^ y.2) := by
  have hprev := fun h0 => okn_prev h (by omega) h0
  obtain ⟨l, el, h1, h2, h3, h4, h5, h6, _⟩ := h
  have hl := last_of el (by omega)
  have hp := bd.pow_pos' y.2
  refine ⟨l ++ [y], ?_, ?_, ?_, ?_, ?_, hin.top hn5, fun _ => ⟨y, ?_, rfl⟩, fun h => absurd h (by omega)⟩
  · rw [List.take_add_one, el, List.map_append, List.getElem?_eq_getElem hk, hy]; rfl
  · intro z hz
    rcases List.mem_append.1 hz with hz | hz
    · exact h1 z hz
    · rw [List.mem_singleton.1 hz]; exact hin
  · refine List.pairwise_append.2 ⟨h2, by simp, fun a ha b hb => ?_⟩
    rw [List.mem_singleton.1 hb]
    have := h4 a ha; omega
  · intro i x z hx hz
    rcases Nat.lt_or_ge (i + 1) l.length with hi | hi
    · rw [List.getElem?_append_left (by omega)] at hx
      rw [List.getElem?_append_left hi] at hz
      exact h3 i x z hx hz
    · rw [List.getElem?_append_right hi] at hz
      have hi2 : i + 1 = l.length := by
        rcases Nat.lt_or_ge (i + 1 - l.length) 1 with h | h
        · omega
        · rw [List.getElem?_eq_none (by simpa using h)] at hz; cases hz
      rw [hi2, Nat.sub_self] at hz
      simp at hz
      subst hz
      rw [List.getElem?_append_left (by omega)] at hx
      obtain ⟨z', hz', _, _⟩ := hprev (by omega)
      refine hf x (by omega) ?_
      have : (xs.take k)[k - 1]? = (l.map emb)[k - 1]? := by rw [el]
      rw [List.getElem?_take, if_pos (by omega), List.getElem?_map] at this
      rw [this, show k - 1 = i by omega, hx]; rfl
  · intro z hz
    rcases List.mem_append.1 hz with hz | hz
    · have := h4 z hz; omega
    · rw [List.mem_singleton.1 hz]; exact Nat.le_refl _
  · rw [List.getElem?_append_right (by omega)]; simp [hl]
theorem fel_no {n : Nat} (hn5 : n ≤ 5) {y : Blk} (hy : bd.In n y) (hf : bd.In n (bd.fel y)) : y.2 < n := by
  have ho := hy.ord
  rcases Nat.lt_or_ge y.2 n with h | h
  · exact h
  · have e : y.2 = n := by omega
    have hl := hy.lt
    have ha := hy.al
    have hfl := hf.lt
    rw [e] at ha
    have hy0 : y.1 = 0 := by rw [Nat.mod_eq_of_lt hl] at ha; exact ha
    simp only [bd.fel, hy0, Nat.zero_xor, e] at hfl
    omega
end Go.Proofs.Ytcokchfedaoccab.bimpl
