/-
  What is written is read: numbers, references, kinds, labels. In plain words.
-/
import Derived.Test.YtacfhchmoiphfaaDoorScrReadP
namespace Go.Proofs.YtacfhchmoiphfaaDoor.scr
open Go.RowKit Go.Deep Go.Sort
open Go.Proofs.YtacfhchmoiphfaaDoor
open Go.Proofs.YtacfhchmoiphfaaDoor.call (CallD ccall)
open Go.Proofs.YtacfhchmoiphfaaDoor.lread (outL)
open Go.Lib (decDigits)
set_option linter.unusedVariables false
set_option maxRecDepth 100000

theorem bl_of (l : List UInt8) : bl ⟨l.toArray⟩ = l := by simp [bl]
theorem bl_dec (u : Nat) : bl (decB (u : Int)) = decDigits u := by unfold decB; rw [bl_of, Lib.itoa_nonneg]
/-- a digit more -/
def dgF (st : Option Nat) (x : UInt8) : Option Nat := match st with
  | none => none
  | some n => if 48 ≤ x.toNat ∧ x.toNat ≤ 57 then some (10 * n + (x.toNat - 48)) else none
theorem digTo_fold (s : ByteArray) : ∀ i, i ≤ s.size → digTo s i = ((bl s).take i).foldl dgF (some 0)
  | 0, _ => by simp [digTo]
  | i + 1, h => by
    have hl : i < s.size := by omega
    have hi : i < (bl s).length := by rw [bl_size]; exact hl
    have ih := digTo_fold s i (by omega)
    rw [List.take_add_one, List.getElem?_eq_getElem hi, List.foldl_append, ← ih, bl_get s i hl, digTo, dif_pos hl]
    simp only [Option.toList_some, List.foldl_cons, List.foldl_nil, dgF]
    cases digTo s i <;> rfl
theorem byte_of {d : Nat} (h : d < 10) : (UInt8.ofNat (48 + d)).toNat = 48 + d := by
  have : ∀ d : Nat, d < 10 → (UInt8.ofNat (48 + d)).toNat = 48 + d := by decide +kernel
  exact this d h
theorem dec_fold (u : Nat) : (decDigits u).foldl dgF (some 0) = some u := by
  induction u using Nat.strongRecOn with
  | _ u ih =>
    by_cases h : u < 10
    · rw [dec_small h]
      simp only [List.foldl_cons, List.foldl_nil, dgF]
      rw [byte_of h, if_pos (by omega)]
      congr 1; omega
    · rw [dec_big h, List.foldl_append, ih (u / 10) (by omega)]
      simp only [List.foldl_cons, List.foldl_nil, dgF]
      rw [byte_of (Nat.mod_lt _ (by decide)), if_pos (by omega)]
      congr 1; omega
theorem dec_len : ∀ k u : Nat, u < 10 ^ (k + 1) → (decDigits u).length ≤ k + 1
  | 0, u, h => by rw [dec_small (by simpa using h)]; simp
  | k + 1, u, h => by
    by_cases h1 : u < 10
    · rw [dec_small h1]; simp
    · rw [dec_big h1, List.length_append]
      have := dec_len k (u / 10) (by rw [Nat.pow_succ] at h; omega)
      simp; omega
theorem dec_ne (u : Nat) : 0 < (decDigits u).length := by
  by_cases h1 : u < 10
  · rw [dec_small h1]; simp
  · rw [dec_big h1, List.length_append]; simp
theorem dec_digit (u : Nat) : ∀ x ∈ decDigits u, 48 ≤ x.toNat ∧ x.toNat ≤ 57 := by
  induction u using Nat.strongRecOn with
  | _ u ih =>
    intro x hx
    by_cases h : u < 10
    · rw [dec_small h] at hx
      rw [List.mem_singleton.1 hx, byte_of h]; omega
    · rw [dec_big h] at hx
      rcases List.mem_append.1 hx with hx | hx
      · exact ih (u / 10) (by omega) x hx
      · rw [List.mem_singleton.1 hx, byte_of (Nat.mod_lt _ (by decide))]; omega
theorem dec_head (u : Nat) (h0 : 0 < u) : ∃ x t, decDigits u = x :: t ∧ x.toNat ≠ 48 := by
  induction u using Nat.strongRecOn with
  | _ u ih =>
    by_cases h : u < 10
    · exact ⟨_, [], dec_small h, by rw [byte_of h]; omega⟩
    · obtain ⟨x, t, e, hx⟩ := ih (u / 10) (by omega) (by omega)
      exact ⟨x, t ++ [UInt8.ofNat (48 + u % 10)], by rw [dec_big h, e]; rfl, hx⟩
/-- a number comes back from its digits -/
theorem num_dec (u : Nat) (h : u < 1000000000) : numT (decB (u : Int)) = u := by
  have hb := bl_dec u
  have hsz : (decB (u : Int)).size = (decDigits u).length := by rw [← bl_size, hb]
  have hl := dec_len 8 u (by simpa using h)
  have hp := dec_ne u
  have ha : ahead0 (decB (u : Int)) = false := by
    unfold ahead0
    split
    · rename_i h1
      rw [hsz] at h1
      have hu : 0 < u := by
        rcases Nat.eq_zero_or_pos u with e | e
        · subst e; rw [dec_small (by decide)] at h1; simp at h1
        · exact e
      obtain ⟨x, t, e, hx⟩ := dec_head u hu
      have h2 := bl_get (decB (u : Int)) 0 (by omega)
      have h3 : (bl (decB (u : Int)))[0]'(by rw [bl_size]; omega) = x := by
        have : (bl (decB (u : Int)))[0]? = some x := by rw [hb, e]; rfl
        rw [List.getElem?_eq_getElem (by rw [bl_size]; omega)] at this
        exact Option.some.inj this
      rw [h3] at h2
      rw [← h2]
      simpa using hx
    · rfl
  rw [num_on (by omega) (by omega) ha, digTo_fold _ _ (Nat.le_refl _), show (bl (decB (u : Int))).take (decB (u : Int)).size = bl (decB (u : Int)) by rw [← bl_size]; exact List.take_length, hb, dec_fold]
theorem num_int (n : Int) (h0 : 0 ≤ n) (h1 : n ≤ 999999) : numT (decB n) = n := by
  obtain ⟨u, rfl⟩ : ∃ u : Nat, n = u := ⟨n.toNat, by omega⟩
  exact num_dec u (by omega)
/-- a label comes back from its text -/
theorem out_text (l : Int) (h : label.rightB l = true) : outL (ltext.textS l) = (l, 0) := by
  have := label.right_yes l h
  have e : ltext.textS l = ltext.textN l.toNat := by simp [ltext.textS, h]
  rw [e, lread.out_some (n := l.toNat) (by omega) rfl]
  congr 1; omega
theorem text_free : ∀ n : Nat, n < 16 → ∀ x ∈ bl (ltext.textN n), x.toNat = 45 ∨ (97 ≤ x.toNat ∧ x.toNat ≤ 100) := by decide +kernel
theorem textS_free (l : Int) : ∀ x ∈ bl (ltext.textS l), x.toNat = 45 ∨ (97 ≤ x.toNat ∧ x.toNat ≤ 100) := by
  unfold ltext.textS
  split
  · rename_i h
    have := label.right_yes l h
    exact text_free l.toNat (by omega)
  · intro x hx
    simp [bl] at hx
theorem decB_free (n : Int) (h0 : 0 ≤ n) : ∀ x ∈ bl (decB n), 48 ≤ x.toNat ∧ x.toNat ≤ 57 := by
  obtain ⟨u, rfl⟩ : ∃ u : Nat, n = u := ⟨n.toNat, by omega⟩
  rw [bl_dec]; exact dec_digit u
theorem refB_yes {l n : Int} (h : call.refB l n = true) : label.rightB l = true ∧ 0 ≤ n ∧ n ≤ 999 := by
  simp only [call.refB, Bool.and_eq_true] at h
  exact ⟨h.1, call.isB_yes h.2⟩
theorem refT_on {l n : Int} (h : call.refB l n = true) : refT l n = ltext.textS l ++ dot ++ decB n := by simp [refT, h]
/-- a reference comes back from its text -/
theorem ref_text (l n : Int) (h : call.refB l n = true) : refR (refT l n) = (l, n) := by
  obtain ⟨h1, h2, h3⟩ := refB_yes h
  have hc : cutS (refT l n) 46 = [ltext.textS l, decB n] := by
    refine cutS_join 46 [ltext.textS l, decB n] (by simp) (fun x hx => ?_) _ ?_
    · simp only [List.mem_cons, List.not_mem_nil, or_false] at hx
      rcases hx with rfl | rfl
      · intro hm; have := textS_free l _ hm; simp at this
      · intro hm; have := decB_free n h2 _ hm; simp at this
    · rw [refT_on h, bl_app, bl_app]
      simp only [List.map_cons, List.map_nil, joinL, List.append_assoc]
      rfl
  rw [refR, hc, refP, out_text l h1, num_int n h2 (by omega)]
  rfl
theorem kind_text (k d : Int) (h : (kindB k).size ≠ 0) : kindR (kindB k) d = k := by
  by_cases h1 : 1 ≤ k ∧ k ≤ 3
  · obtain ⟨j, rfl⟩ : ∃ j : Nat, k = (j : Int) := ⟨k.toNat, by omega⟩
    have hj : j < 4 := by omega
    match j, hj with
    | 0, _ => omega
    | 1, _ => show kindR ⟨#[98, 111, 120]⟩ d = 1; rfl
    | 2, _ => show kindR ⟨#[115, 101, 103]⟩ d = 2; rfl
    | 3, _ => show kindR ⟨#[115, 112, 97, 99, 101]⟩ d = 3; rfl
    | j + 4, h => omega
  · exact absurd (by rw [kind_off k h1]; rfl) h
theorem label_of_text (l : Int) (h : (ltext.textS l).size ≠ 0) : label.rightB l = true := by
  cases e : label.rightB l with
  | true => rfl
  | false => exact absurd (by simp [ltext.textS, e]; rfl) h
end Go.Proofs.YtacfhchmoiphfaaDoor.scr
