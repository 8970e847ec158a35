/-
  Plain facts on labels: flowing is an order; the join and the meet; a label comes back from its text. No program's walk stands in it.
-/
import Derived.Test.YtpiankpopgndhabLabelRead
import Derived.Test.YtpiankpopgndhabLabelsTo
namespace Go.Proofs.Ytpiankpopgndhab.lfacts
open Go.Proofs.Ytpiankpopgndhab.label (flo rightB joinI meetI)
open Go.Proofs.Ytpiankpopgndhab.ltext (textN textS)
open Go.Proofs.Ytpiankpopgndhab.lread (outL)

theorem rightN (n : Nat) (h : n < 16) : rightB (n : Int) = true := label.rightB_of n (by omega) (by omega)
theorem anti_all : ∀ n : Nat, n < 16 → ∀ m : Nat, m < 16 → flo (n : Int) (m : Int) = true → flo (m : Int) (n : Int) = true → n = m := by decide +kernel
theorem refl_all : ∀ n : Nat, n < 16 → flo (n : Int) (n : Int) = true := by decide +kernel
theorem tojoin_all : ∀ n : Nat, n < 16 → ∀ m : Nat, m < 16 → flo (n : Int) (joinI (n : Int) (m : Int)) = true := by decide +kernel
theorem ofmeet_all : ∀ n : Nat, n < 16 → ∀ m : Nat, m < 16 → flo (meetI (n : Int) (m : Int)) (m : Int) = true := by decide +kernel
theorem join_all : ∀ n : Nat, n < 16 → ∀ m : Nat, m < 16 → ∀ k : Nat, k < 16 → (flo (n : Int) (k : Int) && flo (m : Int) (k : Int)) = flo (joinI (n : Int) (m : Int)) (k : Int) := by decide +kernel
theorem meet_all : ∀ n : Nat, n < 16 → ∀ m : Nat, m < 16 → ∀ k : Nat, k < 16 → (flo (k : Int) (n : Int) && flo (k : Int) (m : Int)) = flo (k : Int) (meetI (n : Int) (m : Int)) := by decide +kernel
theorem not_right (a b : Int) (h : rightB a = false ∨ rightB b = false) : flo a b = false := by
  rcases h with h | h <;> simp [flo, h]

theorem found_back (u : ByteArray) (h : (outL u).2 = 0) : textS (outL u).1 = u := by
  unfold lread.outL at h ⊢
  split at h
  · cases h
  · next hs =>
    rw [if_neg hs]
    cases hf : lread.find u with
    | none => rw [hf] at h; cases h
    | some n =>
      have h1 := List.find?_some hf
      have h2 := List.mem_of_find?_eq_some hf
      simp at h1 h2
      show textS (n : Int) = u
      rw [textS, rightN n h2]
      exact h1
theorem text_read (c : Int) (h : rightB c = true) : outL (textS c) = (c, 0) := by
  have hy := label.right_yes c h
  obtain ⟨n, hn, rfl⟩ := label.nat_of c hy.1 hy.2
  have e : textS n = textN n := by simp [ltext.textS, h]
  rw [e]
  exact lread.out_some hn rfl
theorem empty_all : ∀ n : Nat, n < 16 → (textN n).toList.isEmpty = false := by decide +kernel
theorem text_empty (c : Int) : (textS c).toList.isEmpty = !rightB c := by
  cases h : rightB c with
  | true =>
    have hy := label.right_yes c h
    obtain ⟨n, hn, rfl⟩ := label.nat_of c hy.1 hy.2
    have e : textS n = textN n := by simp [ltext.textS, h]
    rw [e, empty_all n hn]; rfl
  | false =>
    have e : textS c = ⟨#[]⟩ := by simp [ltext.textS, h]
    rw [e]; decide +kernel
theorem text_size (c : Int) : (textS c).size ≤ 4 := by
  cases h : rightB c with
  | true =>
    have hy := label.right_yes c h
    obtain ⟨n, hn, rfl⟩ := label.nat_of c hy.1 hy.2
    have e : textS n = textN n := by simp [ltext.textS, h]
    rw [e]; exact lread.size_text n hn
  | false =>
    have e : textS c = ⟨#[]⟩ := by simp [ltext.textS, h]
    rw [e]; decide
theorem nums_flow (c : Int) (i : Nat) (hi : i < (lto.numsTo c).length) : flo (lto.numsTo c)[i] c = true := by
  have h : (lto.numsTo c)[i] ∈ ((List.range 16).filter fun a : Nat => flo (a : Int) c).map fun a : Nat => (a : Int) := List.getElem_mem hi
  rw [List.mem_map] at h
  obtain ⟨a, ha, e⟩ := h
  rw [List.mem_filter] at ha
  rw [← e]
  exact ha.2
theorem out_range (u : ByteArray) : 0 ≤ (outL u).1 ∧ (outL u).1 ≤ 15 := by
  unfold lread.outL
  split
  · exact ⟨by decide, by decide⟩
  · cases hf : lread.find u with
    | none => exact ⟨by decide, by decide⟩
    | some n =>
      have h2 := List.mem_of_find?_eq_some hf
      simp at h2
      exact ⟨by simp, by simp; omega⟩
end Go.Proofs.Ytpiankpopgndhab.lfacts
