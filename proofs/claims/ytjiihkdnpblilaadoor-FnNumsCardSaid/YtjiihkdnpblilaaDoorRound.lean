/-
  Plain facts: a number's bytes tell the number; bytes that end too early are short. No program stands in it.
-/
import Derived.Test.YtjiihkdnpblilaaDoorDec
import Derived.Test.YtjiihkdnpblilaaDoorNum
namespace Go.Proofs.YtjiihkdnpblilaaDoor.rnd
open Go.Proofs.YtjiihkdnpblilaaDoor

/-- from place p on the text holds these bytes -/
def Has (s : ByteArray) (p : Nat) (L : List Int) : Prop := ∀ j (hj : j < L.length), ∃ c : UInt8, s.data.toList[p + j]? = some c ∧ (c.toNat : Int) = L[j]

theorem has_head {s : ByteArray} {p : Nat} {a : Int} {L : List Int} (h : Has s p (a :: L)) : ∃ hp : p < s.size, ((s[p]'hp).toNat : Int) = a := by
  obtain ⟨c, h1, h2⟩ := h 0 (by simp)
  rw [Nat.add_zero] at h1
  obtain ⟨hp, e⟩ := List.getElem?_eq_some_iff.1 h1
  have hp' : p < s.size := by simpa using hp
  refine ⟨hp', ?_⟩
  have e2 : s[p] = c := e
  rw [e2, h2]; rfl
theorem has_tail {s : ByteArray} {p : Nat} {a : Int} {L : List Int} (h : Has s p (a :: L)) : Has s (p + 1) L := by
  intro j hj
  obtain ⟨c, h1, h2⟩ := h (j + 1) (by simpa using hj)
  refine ⟨c, ?_, ?_⟩
  · rw [show p + 1 + j = p + (j + 1) by omega]; exact h1
  · rw [h2]; rfl

theorem enc_pos (f u : Nat) : 0 < (num.encF f u).length := by
  cases f with
  | zero => simp [num.encF]
  | succ f => rw [num.encF]; split <;> simp

/-- the bytes are bytes -/
theorem enc_byte : ∀ (f i u : Nat), f + i = 9 → u * 128 ^ i < 18446744073709551616 → ∀ x ∈ num.encF f u, 0 ≤ x ∧ x < 256 := by
  intro f
  induction f with
  | zero =>
    intro i u hi hu x hx
    have e9 : (128 : Nat) ^ 9 = 9223372036854775808 := by decide
    have : i = 9 := by omega
    subst this
    rw [e9] at hu
    simp [num.encF] at hx
    omega
  | succ f ih =>
    intro i u hi hu x hx
    rw [num.encF] at hx
    by_cases h : u < 128
    · rw [if_pos h] at hx; simp at hx; omega
    · rw [if_neg h] at hx
      rcases List.mem_cons.1 hx with e | e
      · omega
      · refine ih (i + 1) (u / 128) (by omega) ?_ x e
        have h1 : u / 128 * 128 ^ (i + 1) = (u / 128 * 128) * 128 ^ i := by rw [Nat.pow_succ, Nat.mul_assoc, Nat.mul_comm 128 (128 ^ i)]
        rw [h1]
        exact Nat.lt_of_le_of_lt (Nat.mul_le_mul_right _ (by omega)) hu

theorem pow_same (i : Nat) : (128 : Nat) ^ i = 2 ^ (7 * i) := by rw [Nat.pow_mul]

theorem dec_enc : ∀ (f i u acc p : Nat) (s : ByteArray), f + i = 9 → u * 128 ^ i < 18446744073709551616 → (i = 0 ∨ u ≠ 0) → Has s p (num.encF f u) →
    dec.decN (f + 1) s p i acc = (acc + u * 2 ^ (7 * i), p + (num.encF f u).length, 0) := by
  intro f
  induction f with
  | zero =>
    intro i u acc p s hi hu h0 hs
    have e9 : (128 : Nat) ^ 9 = 9223372036854775808 := by decide
    have : i = 9 := by omega
    subst this
    rw [e9] at hu
    obtain ⟨hp, hc⟩ := has_head (L := []) (by simpa [num.encF] using hs)
    have hc' : (s[p]'hp).toNat = u := by omega
    rw [dec.decN, dif_pos hp, if_neg (by omega), if_pos (by omega), if_neg (by omega), hc']
    simp [num.encF]
  | succ f ih =>
    intro i u acc p s hi hu h0 hs
    rw [num.encF] at hs ⊢
    by_cases h : u < 128
    · rw [if_pos h] at hs ⊢
      obtain ⟨hp, hc⟩ := has_head hs
      have hc' : (s[p]'hp).toNat = u := by omega
      rw [dec.decN, dif_pos hp, if_neg (by omega), if_pos (by omega), if_neg (by omega), hc']
      simp
    · rw [if_neg h] at hs ⊢
      obtain ⟨hp, hc⟩ := has_head hs
      have hc' : (s[p]'hp).toNat = u % 128 + 128 := by omega
      rw [dec.decN, dif_pos hp, if_neg (by omega), if_neg (by omega)]
      have h1 : u / 128 * 128 ^ (i + 1) = (u / 128 * 128) * 128 ^ i := by rw [Nat.pow_succ, Nat.mul_assoc, Nat.mul_comm 128 (128 ^ i)]
      rw [ih (i + 1) (u / 128) _ (p + 1) s (by omega) (by rw [h1]; exact Nat.lt_of_le_of_lt (Nat.mul_le_mul_right _ (by omega)) hu) (Or.inr (by omega)) (has_tail hs)]
      have e1 : (s[p]'hp).toNat % 128 = u % 128 := by omega
      rw [e1, dec.pow7]
      have e2 : u / 128 * (128 * 2 ^ (7 * i)) = (u / 128 * 128) * 2 ^ (7 * i) := by rw [Nat.mul_assoc]
      rw [e2]
      have e3 : u % 128 * 2 ^ (7 * i) + u / 128 * 128 * 2 ^ (7 * i) = u * 2 ^ (7 * i) := by
        rw [← Nat.add_mul]; congr 1; omega
      refine Prod.ext ?_ (Prod.ext ?_ rfl)
      · simp only; omega
      · simp only [List.length_cons]; omega

theorem dec_cut : ∀ (f i u acc p : Nat) (s : ByteArray), f + i = 9 → s.size + 1 = p + (num.encF f u).length → Has s p ((num.encF f u).take ((num.encF f u).length - 1)) →
    dec.decN (f + 1) s p i acc = (0, 0, 4) := by
  intro f
  induction f with
  | zero =>
    intro i u acc p s hi hl hs
    simp [num.encF] at hl
    rw [dec.decN, dif_neg (by omega)]
  | succ f ih =>
    intro i u acc p s hi hl hs
    rw [num.encF] at hs hl
    by_cases h : u < 128
    · rw [if_pos h] at hl
      simp at hl
      rw [dec.decN, dif_neg (by omega)]
    · rw [if_neg h] at hs hl
      have hpos := enc_pos f (u / 128)
      obtain ⟨k, hk⟩ : ∃ k, (num.encF f (u / 128)).length = k + 1 := ⟨_, (Nat.sub_add_cancel hpos).symm⟩
      have e : ((((u % 128 + 128 : Nat) : Int) :: num.encF f (u / 128)).take ((((u % 128 + 128 : Nat) : Int) :: num.encF f (u / 128)).length - 1)) = ((u % 128 + 128 : Nat) : Int) :: (num.encF f (u / 128)).take ((num.encF f (u / 128)).length - 1) := by
        simp [hk]
      rw [e] at hs
      obtain ⟨hp, hc⟩ := has_head hs
      have hc' : (s[p]'hp).toNat = u % 128 + 128 := by omega
      rw [dec.decN, dif_pos hp, if_neg (by omega), if_neg (by omega)]
      exact ih (i + 1) (u / 128) _ (p + 1) s (by omega) (by simp at hl; omega) (has_tail hs)

theorem un_fold (n : Int) : dec.unN (num.foldN n) = n := by
  by_cases h : n < 0
  · have e := num.fold_neg n h
    rw [dec.un_odd _ (by omega)]; omega
  · have e := num.fold_pos n (by omega)
    rw [dec.un_even _ (by omega)]; omega
end Go.Proofs.YtjiihkdnpblilaaDoor.rnd
