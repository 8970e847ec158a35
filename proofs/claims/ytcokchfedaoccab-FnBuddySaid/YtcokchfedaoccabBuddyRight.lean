/-
  The walk of the specification's BuddyRight: it tells whether a row of blocks is right.
-/
import Derived.Test.YtcokchfedaoccabBuddyFind
namespace Go.Proofs.Ytcokchfedaoccab.bspec
open Go.RowKit Go.Deep
open Go.Proofs.Ytcokchfedaoccab
open Go.Proofs.Ytcokchfedaoccab.brows
open Go.Proofs.Ytcokchfedaoccab.bd (Blk)

def emb (y : Blk) : Pr := ((y.1 : Int), (y.2 : Int))
theorem emb_inj {a b : Blk} (h : emb a = emb b) : a = b := by
  obtain ⟨a, o⟩ := a
  obtain ⟨b, q⟩ := b
  simp only [emb, Prod.mk.injEq] at h
  rw [Prod.mk.injEq]; omega
/-- a right buddy, as the program has it -/
def RightI (m : Int) (xs : List Pr) : Prop := ∃ (n : Nat) (l : List Blk), m = (n : Int) ∧ xs = l.map emb ∧ bd.Right n l
noncomputable def rightB (m : Int) (xs : List Pr) : Bool := @decide (RightI m xs) (Classical.propDecidable _)
theorem rightB_yes {m : Int} {xs : List Pr} (h : RightI m xs) : rightB m xs = true := by simp [rightB, h]
theorem rightB_no {m : Int} {xs : List Pr} (h : ¬ RightI m xs) : rightB m xs = false := by simp [rightB, h]
theorem rightB_iff {m : Int} {xs : List Pr} : rightB m xs = true ↔ RightI m xs := by simp [rightB]

/-- what holds of the first i blocks, round for round -/
def Ok (n : Nat) (xs : List Pr) (i : Nat) : Prop :=
  ∃ l : List Blk, xs.take i = l.map emb ∧ (∀ y ∈ l, bd.In n y) ∧ l.Pairwise (fun x y => x.1 + 2 ^ x.2 ≤ y.1) ∧ ∀ y ∈ l, y.2 < n → emb (bd.fel y) ∉ xs
theorem ok_zero (n : Nat) (xs : List Pr) : Ok n xs 0 := ⟨[], by simp, fun _ h => absurd h (by simp), List.Pairwise.nil, fun _ h => absurd h (by simp)⟩
theorem mem_emb {l : List Blk} {y : Blk} : emb y ∈ l.map emb ↔ y ∈ l := by
  constructor
  · intro h
    obtain ⟨z, hz, e⟩ := List.mem_map.1 h
    exact emb_inj e ▸ hz
  · exact fun h => List.mem_map.2 ⟨y, h, rfl⟩
theorem ok_all {n : Nat} {xs : List Pr} (hn : n ≤ 5) (h : Ok n xs xs.length) : RightI (n : Int) xs := by
  obtain ⟨l, e, h1, h2, h3⟩ := h
  rw [List.take_length] at e
  subst e
  exact ⟨n, l, rfl, rfl, hn, h1, h2, fun y hy hyn hf => h3 y hy hyn (mem_emb.2 hf)⟩
theorem last_of {xs : List Pr} {l : List Blk} {i : Nat} (e : xs.take i = l.map emb) (hi : i ≤ xs.length) : l.length = i := by
  have := congrArg List.length e
  simp at this; omega
theorem ok_step {n : Nat} {xs : List Pr} {i : Nat} (h : Ok n xs i) (hi : i < xs.length) {y : Blk} (hy : xs[i] = emb y) (hin : bd.In n y)
    (hp : ∀ z : Blk, 0 < i → xs[i - 1]? = some (emb z) → z.1 + 2 ^ z.2 ≤ y.1) (hf : y.2 < n → emb (bd.fel y) ∉ xs) : Ok n xs (i + 1) := by
  obtain ⟨l, e, h1, h2, h3⟩ := h
  have hl := last_of e (by omega)
  refine ⟨l ++ [y], ?_, ?_, ?_, ?_⟩
  · rw [List.take_add_one, e, List.map_append, List.getElem?_eq_getElem hi, hy]; rfl
  · intro z hz
    rcases List.mem_append.1 hz with hz | hz
    · exact h1 z hz
    · rw [List.mem_singleton.1 hz]; exact hin
  · refine List.pairwise_append.2 ⟨h2, by simp, fun a ha b hb => ?_⟩
    rw [List.mem_singleton.1 hb]
    have hl0 : 0 < l.length := List.length_pos_of_mem ha
    have hz : xs[i - 1]? = some (emb l[l.length - 1]) := by
      have : (xs.take i)[i - 1]? = (l.map emb)[i - 1]? := by rw [e]
      rw [List.getElem?_take, if_pos (by omega)] at this
      rw [this, List.getElem?_map, ← hl, List.getElem?_eq_getElem (by omega)]; rfl
    have hlast := hp _ (by omega) hz
    rcases bd.pair_cases h2 ha (List.getElem_mem (show l.length - 1 < l.length by omega)) with e' | e' | e'
    · rw [e']; exact hlast
    · have := bd.pow_pos' (l[l.length - 1]).2; omega
    · obtain ⟨j, hj, rfl⟩ := List.getElem_of_mem ha
      by_cases ej : j = l.length - 1
      · subst ej; exact hlast
      · have := List.pairwise_iff_getElem.1 h2 j (l.length - 1) hj (by omega) (by omega)
        have := bd.pow_pos' (l[l.length - 1]).2; omega
  · intro z hz hzn
    rcases List.mem_append.1 hz with hz | hz
    · exact h3 z hz hzn
    · rw [List.mem_singleton.1 hz] at hzn ⊢; exact hf hzn
/-- what a right row has at each place -/
theorem right_at {n : Nat} {xs : List Pr} (h : RightI (n : Int) xs) {i : Nat} (hi : i < xs.length) :
    ∃ y : Blk, xs[i] = emb y ∧ bd.In n y ∧ (∀ z : Blk, 0 < i → xs[i - 1]? = some (emb z) → z.1 + 2 ^ z.2 ≤ y.1) ∧ (y.2 < n → emb (bd.fel y) ∉ xs) := by
  obtain ⟨n', l, e, rfl, hr⟩ := h
  obtain rfl : n = n' := by omega
  have hi' : i < l.length := by simpa using hi
  refine ⟨l[i], by simp, hr.inn _ (List.getElem_mem hi'), fun z h0 hz => ?_, fun hlt hm => hr.nof _ (List.getElem_mem hi') hlt (mem_emb.1 hm)⟩
  rw [List.getElem?_map, List.getElem?_eq_getElem (by omega)] at hz
  injection hz with hz
  rw [← emb_inj hz]
  exact List.pairwise_iff_getElem.1 hr.ris (i - 1) i (by omega) hi' (by omega)
theorem right_len {n : Nat} {xs : List Pr} (h : RightI (n : Int) xs) : xs.length ≤ 32 := by
  obtain ⟨n', l, e, rfl, hr⟩ := h
  rw [List.length_map]; exact hr.len_le
theorem right_ord {m : Int} {xs : List Pr} (h : RightI m xs) : ordB m = true := by
  obtain ⟨n, l, rfl, rfl, hr⟩ := h
  have := hr.ord
  simp [ordB]; omega
end Go.Proofs.Ytcokchfedaoccab.bspec
