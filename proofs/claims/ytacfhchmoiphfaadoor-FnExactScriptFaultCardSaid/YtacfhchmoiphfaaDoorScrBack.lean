/-
  What is read is written again: a text cut at a sign is its parts joined, numbers, references, labels, kinds. In plain words.
-/
import Derived.Test.YtacfhchmoiphfaaDoorScrReadW
import Derived.Lib.SplitLaws
namespace Go.Proofs.YtacfhchmoiphfaaDoor.scr
open Go.RowKit Go.Deep Go.Sort
open Go.Proofs.YtacfhchmoiphfaaDoor
open Go.Proofs.YtacfhchmoiphfaaDoor.call (CallD ccall)
open Go.Proofs.YtacfhchmoiphfaaDoor.lread (outL)
open Go.Lib (decDigits)
set_option linter.unusedVariables false
set_option maxRecDepth 100000

theorem join_cons (b : UInt8) (x : List UInt8) {l : List (List UInt8)} (h : l ≠ []) : joinL b (x :: l) = x ++ b :: joinL b l := by
  cases l with
  | nil => exact absurd rfl h
  | cons y t => rfl
/-- where the sign first stands -/
theorem index_one_spec (s : List UInt8) (c : UInt8) : (Lib.index s [c] = -1 ∧ c ∉ s) ∨ ∃ i : Nat, Lib.index s [c] = i ∧ i < s.length ∧ s = s.take i ++ c :: s.drop (i + 1) ∧ c ∉ s.take i := by
  induction s with
  | nil => left; simp [Lib.index]
  | cons b t ih =>
    have hix : Lib.index (b :: t) [c] = if b == c then 0 else if Lib.index t [c] == -1 then -1 else Lib.index t [c] + 1 := by
      rw [Lib.index_one, Lib.index_one, Lib.indexByte]
    by_cases e : b = c
    · right
      subst e
      exact ⟨0, by rw [hix]; simp, by simp, by simp, by simp⟩
    · have e1 : (b == c) = false := by simpa using e
      rw [e1] at hix
      rcases ih with ⟨h1, h2⟩ | ⟨i, h1, h2, h3, h4⟩
      · left
        rw [h1] at hix
        refine ⟨by rw [hix]; rfl, ?_⟩
        intro hm
        rcases List.mem_cons.1 hm with h | h
        · exact e h.symm
        · exact h2 h
      · right
        have : (Lib.index t [c] == -1) = false := by rw [h1, beq_eq_false_iff_ne]; omega
        rw [this, h1] at hix
        refine ⟨i + 1, by rw [hix]; simp, by simp; omega, ?_, ?_⟩
        · simp only [List.take_succ_cons, List.drop_succ_cons, List.cons_append]
          rw [← h3]
        · simp only [List.take_succ_cons]
          intro hm
          rcases List.mem_cons.1 hm with h | h
          · exact e h.symm
          · exact h4 h
theorem splitK_ne (c : UInt8) (k : Nat) (s : List UInt8) : Lib.splitK [c] 0 k s ≠ [] := by
  cases k with
  | zero => simp [Lib.splitK]
  | succ k => unfold Lib.splitK; split <;> simp
/-- what was cut is got by joining -/
theorem splitK_join (c : UInt8) : ∀ (k : Nat) (s : List UInt8), joinL c (Lib.splitK [c] 0 k s) = s
  | 0, s => rfl
  | k + 1, s => by
    unfold Lib.splitK
    rcases index_one_spec s c with ⟨h1, h2⟩ | ⟨i, h1, h2, h3, h4⟩
    · rw [h1]; rfl
    · have : (Lib.index s [c] == -1) = false := by rw [h1, beq_eq_false_iff_ne]; omega
      rw [this, h1]
      simp only [Bool.false_eq_true, if_false, Int.toNat_natCast, Nat.add_zero, List.length_cons, List.length_nil, Nat.zero_add]
      rw [join_cons _ _ (splitK_ne _ _ _), splitK_join c k]
      exact h3.symm
theorem splitK_free (c : UInt8) : ∀ (k : Nat) (s : List UInt8), s.count c = k → ∀ x ∈ Lib.splitK [c] 0 k s, c ∉ x
  | 0, s, h, x, hx => by
    simp only [Lib.splitK, List.mem_singleton] at hx
    subst hx
    exact List.count_eq_zero.1 h
  | k + 1, s, h, x, hx => by
    unfold Lib.splitK at hx
    rcases index_one_spec s c with ⟨h1, h2⟩ | ⟨i, h1, h2, h3, h4⟩
    · rw [h1] at hx
      simp only [BEq.rfl, if_true, List.mem_singleton] at hx
      subst hx; exact h2
    · have : (Lib.index s [c] == -1) = false := by rw [h1, beq_eq_false_iff_ne]; omega
      rw [this, h1] at hx
      simp only [Bool.false_eq_true, if_false, Int.toNat_natCast, Nat.add_zero, List.length_cons, List.length_nil, Nat.zero_add, List.mem_cons] at hx
      rcases hx with rfl | hx
      · exact h4
      · refine splitK_free c k (s.drop (i + 1)) ?_ x hx
        have h5 : s.count c = (s.take i ++ c :: s.drop (i + 1)).count c := by rw [← h3]
        rw [List.count_append, List.count_cons_self, List.count_eq_zero.2 h4] at h5
        omega
theorem bl_one (c : UInt8) : bl ⟨#[c]⟩ = [c] := by simp [bl]
theorem countB_is (s : ByteArray) (c : UInt8) : Lib.countB s ⟨#[c]⟩ = (bl s).count c := by
  show Lib.count _ _ = _
  rw [show (⟨#[c]⟩ : ByteArray).data.toList = [c] from by simp, Lib.count_one]; rfl
/-- the library cuts a text as it is cut here -/
theorem split_is_cut (s : ByteArray) (c : UInt8) : Lib.splitB ⟨#[c]⟩ 0 (Lib.countB s ⟨#[c]⟩) s = cutS s (c.toNat : Int) := by
  have hd := Lib.splitB_data ⟨#[c]⟩ 0 (Lib.countB s ⟨#[c]⟩) s
  rw [show (⟨#[c]⟩ : ByteArray).data.toList = [c] from by simp] at hd
  have hm : (Lib.splitB ⟨#[c]⟩ 0 (Lib.countB s ⟨#[c]⟩) s).map bl = Lib.splitK [c] 0 (Lib.countB s ⟨#[c]⟩) (bl s) := hd
  refine (cutS_join c _ ?_ ?_ s ?_).symm
  · intro h
    rw [h] at hm
    exact splitK_ne c _ _ hm.symm
  · intro x hx
    have : bl x ∈ (Lib.splitB ⟨#[c]⟩ 0 (Lib.countB s ⟨#[c]⟩) s).map bl := List.mem_map.2 ⟨x, hx, rfl⟩
    rw [hm] at this
    exact splitK_free c _ _ (countB_is s c).symm _ this
  · rw [hm, splitK_join]
theorem cut_join (s : ByteArray) (c : UInt8) : joinL c ((cutS s (c.toNat : Int)).map bl) = bl s := by
  have hd := Lib.splitB_data ⟨#[c]⟩ 0 (Lib.countB s ⟨#[c]⟩) s
  rw [show (⟨#[c]⟩ : ByteArray).data.toList = [c] from by simp] at hd
  rw [← split_is_cut, show (Lib.splitB ⟨#[c]⟩ 0 (Lib.countB s ⟨#[c]⟩) s).map bl = Lib.splitK [c] 0 (Lib.countB s ⟨#[c]⟩) (bl s) from hd, splitK_join]
theorem cut_free (s : ByteArray) (c : UInt8) : ∀ x ∈ cutS s (c.toNat : Int), c ∉ bl x := by
  intro x hx
  have hd := Lib.splitB_data ⟨#[c]⟩ 0 (Lib.countB s ⟨#[c]⟩) s
  rw [show (⟨#[c]⟩ : ByteArray).data.toList = [c] from by simp] at hd
  have hm : (Lib.splitB ⟨#[c]⟩ 0 (Lib.countB s ⟨#[c]⟩) s).map bl = Lib.splitK [c] 0 (Lib.countB s ⟨#[c]⟩) (bl s) := hd
  rw [← split_is_cut] at hx
  have : bl x ∈ (Lib.splitB ⟨#[c]⟩ 0 (Lib.countB s ⟨#[c]⟩) s).map bl := List.mem_map.2 ⟨x, hx, rfl⟩
  rw [hm] at this
  exact splitK_free c _ _ (countB_is s c).symm _ this

/-! numbers -/
theorem fold_none : ∀ l : List UInt8, l.foldl dgF none = none
  | [] => rfl
  | x :: t => by rw [List.foldl_cons]; exact fold_none t
theorem digit_eq {x : UInt8} (h : 48 ≤ x.toNat ∧ x.toNat ≤ 57) : UInt8.ofNat (48 + (x.toNat - 48)) = x := by
  rw [show 48 + (x.toNat - 48) = x.toNat by omega]
  exact UInt8.ofNat_toNat
/-- the digits of what the first signs say -/
theorem dig_snoc (l : List UInt8) (y : UInt8) (ih : ∀ n, l.foldl dgF (some 0) = some n → (∀ x t, l = x :: t → x.toNat ≠ 48) → l ≠ [] → decDigits n = l ∧ 0 < n) : ∀ n, (l ++ [y]).foldl dgF (some 0) = some n → (∀ x t, l ++ [y] = x :: t → x.toNat ≠ 48) → decDigits n = l ++ [y] ∧ 0 < n := by
  intro n hn hx
  rw [List.foldl_append, List.foldl_cons, List.foldl_nil] at hn
  cases hp : l.foldl dgF (some 0) with
  | none => rw [hp] at hn; simp [dgF] at hn
  | some m =>
    rw [hp] at hn
    simp only [dgF] at hn
    split at hn
    · rename_i hd
      rw [Option.some.injEq] at hn
      by_cases hl : l = []
      · subst hl
        simp only [List.foldl_nil, Option.some.injEq] at hp
        subst hp
        have hy := hx y [] rfl
        have hn2 : n = y.toNat - 48 := by omega
        subst hn2
        refine ⟨?_, by omega⟩
        rw [dec_small (by omega), digit_eq hd]; rfl
      · obtain ⟨x, t, rfl⟩ : ∃ x t, l = x :: t := by
          cases l with
          | nil => exact absurd rfl hl
          | cons x t => exact ⟨x, t, rfl⟩
        obtain ⟨h1, h2⟩ := ih m hp (fun x' t' e => hx x' (t' ++ [y]) (by rw [e]; rfl)) hl
        refine ⟨?_, by omega⟩
        rw [dec_big (by omega), show n / 10 = m by omega, h1, show n % 10 = y.toNat - 48 by omega, digit_eq hd]
    · cases hn
theorem dig_back : ∀ (k : Nat) (l : List UInt8), l.length = k → ∀ n, l.foldl dgF (some 0) = some n → (∀ x t, l = x :: t → x.toNat ≠ 48) → l ≠ [] → decDigits n = l ∧ 0 < n
  | 0, l, h => fun n _ _ h0 => absurd (List.eq_nil_of_length_eq_zero h) h0
  | k + 1, l, h => fun n hn hx h0 => by
    have e : l = l.dropLast ++ [l.getLast h0] := (List.dropLast_concat_getLast h0).symm
    rw [e] at hn hx ⊢
    exact dig_snoc _ _ (dig_back k _ (by rw [List.length_dropLast]; omega)) n hn hx
/-- a number that is read is written again -/
theorem dec_len_ge : ∀ k u : Nat, 10 ^ k ≤ u → k + 1 ≤ (decDigits u).length
  | 0, u, _ => by have := dec_ne u; omega
  | k + 1, u, h => by
    have h1 : ¬ u < 10 := by
      have : 10 ^ 1 ≤ 10 ^ (k + 1) := Nat.pow_le_pow_right (by omega) (by omega)
      omega
    rw [dec_big h1, List.length_append]
    have := dec_len_ge k (u / 10) (by rw [Nat.pow_succ] at h; omega)
    simp; omega
theorem num_back {t : ByteArray} (h : 0 ≤ numT t) : decB (numT t) = t ∧ numT t ≤ 999999999 := by
  by_cases hoff : t.size < 1 ∨ 9 < t.size ∨ ahead0 t = true
  · rw [num_off hoff] at h; omega
  · have h1 : ¬ t.size < 1 := fun e => hoff (.inl e)
    have h9 : ¬ 9 < t.size := fun e => hoff (.inr (.inl e))
    have ha : ahead0 t = false := by cases e : ahead0 t with
      | true => exact absurd (.inr (.inr e)) hoff
      | false => rfl
    have hon := num_on h1 h9 ha
    cases hd : digTo t t.size with
    | none => rw [hon, hd] at h; simp at h
    | some n =>
      have hv : numT t = (n : Int) := by rw [hon, hd]
      have hf := hd
      rw [digTo_fold _ _ (Nat.le_refl _), show (bl t).take t.size = bl t by rw [← bl_size]; exact List.take_length] at hf
      have hne : bl t ≠ [] := by
        intro e
        have := bl_size t
        rw [e] at this; simp at this; omega
      have key : decDigits n = bl t ∧ n ≤ 999999999 := by
        by_cases hz : 1 < t.size
        · have hx : ∀ x u, bl t = x :: u → x.toNat ≠ 48 := by
            intro x u e
            have h0 : t[0].toNat ≠ 48 := by simpa [ahead0, hz] using ha
            have := bl_get t 0 (by omega)
            rw [← this] at h0
            simpa [e] using h0
          have := dig_back _ (bl t) rfl n hf hx hne
          refine ⟨this.1, ?_⟩
          have hlen : (decDigits n).length ≤ 9 := by rw [this.1, bl_size]; omega
          apply Classical.byContradiction
          intro hbig
          have : 10 ≤ (decDigits n).length := dec_len_ge 9 n (by omega)
          omega
        · obtain ⟨x, e⟩ : ∃ x, bl t = [x] := by
            have := bl_size t
            match hb : bl t, this with
            | [], h => simp at h; omega
            | [x], _ => exact ⟨x, rfl⟩
            | x :: y :: u, h => simp at h; omega
          rw [e] at hf ⊢
          simp only [List.foldl_cons, List.foldl_nil, dgF] at hf
          split at hf
          · rename_i hdg
            rw [Option.some.injEq] at hf
            have hn : n = x.toNat - 48 := by omega
            subst hn
            refine ⟨?_, by omega⟩
            rw [dec_small (by omega), digit_eq hdg]
          · cases hf
      rw [hv]
      exact ⟨bl_inj (by rw [bl_dec]; exact key.1), by omega⟩
end Go.Proofs.YtacfhchmoiphfaaDoor.scr
