/-
  The lines of a script: what is told of each, in plain words; a text cut at its line feeds, rune by rune.
-/
import Derived.Test.YtacfhchmoiphfaaDoorScrLine
import Derived.Laws.RangeAny
import Derived.Lib.Strings
namespace Go.Proofs.YtacfhchmoiphfaaDoor.scr
open Go.RowKit Go.Deep Go.Sort
open Go.Proofs.YtacfhchmoiphfaaDoor
open Go.Proofs.YtacfhchmoiphfaaDoor.call (CallD ccall)
set_option linter.unusedVariables false
set_option maxRecDepth 100000

/-- is it the text of a call -/
def LineOK (x : ByteArray) : Prop := x.size ≠ 0 ∧ ∃ c, callT c = x
def kern6 : ByteArray := ⟨#[107, 101, 114, 110, 101, 108]⟩
def kern7 : ByteArray := ⟨#[107, 101, 114, 110, 101, 108, 32]⟩
def isK (x : ByteArray) : Bool := Lib.hasPrefix x.data.toList kern7.data.toList
def restT (x : ByteArray) : ByteArray := ⟨(Lib.trimPrefix x.data.toList kern7.data.toList).toArray⟩
/-- what is told of the first line -/
def codeH (x : ByteArray) : Int := if isK x = true ∧ 0 ≤ numT (restT x) then (if numT (restT x) ≤ 65535 then 0 else 1) else 3
open Classical in
/-- what is told of another line that has its line feed -/
noncomputable def codeL (i : Nat) (x : ByteArray) : Int := if i = 0 then codeH x else if LineOK x ∧ i ≤ 60 then 0 else 3
/-- what is told of what stands behind the last line feed -/
def codeE (i : Nat) (x : ByteArray) : Int := if i = 0 then 3 else if x.size = 0 then 0 else 3
noncomputable def codeA (l : List ByteArray) (i : Nat) : Int := if i + 1 < l.length then codeL i (l.getD i e0) else codeE i (l.getD i e0)
/-- what is told of a script: the line and the code -/
def Told (s : ByteArray) (line code : Int) : Prop :=
  (8000 < s.size ∧ line = 0 ∧ code = 2) ∨ (s.size ≤ 8000 ∧ ((∃ k : Nat, k < (cutS s 10).length ∧ (∀ i, i < k → codeA (cutS s 10) i = 0) ∧ codeA (cutS s 10) k = code ∧ code ≠ 0 ∧ line = (k : Int)) ∨ ((∀ i, i < (cutS s 10).length → codeA (cutS s 10) i = 0) ∧ line = 0 ∧ code = 0)))
theorem told_one {s : ByteArray} {a b c d : Int} (h : Told s a b) (k : Told s c d) : a = c ∧ b = d := by
  rcases h with ⟨h1, rfl, rfl⟩ | ⟨h1, h⟩
  · rcases k with ⟨_, rfl, rfl⟩ | ⟨k1, _⟩
    · exact ⟨rfl, rfl⟩
    · omega
  · rcases k with ⟨k1, _⟩ | ⟨k1, k⟩
    · omega
    · rcases h with ⟨i, hi, h2, h3, h4, rfl⟩ | ⟨h2, rfl, rfl⟩
      · rcases k with ⟨j, hj, k2, k3, k4, rfl⟩ | ⟨k2, rfl, rfl⟩
        · rcases Nat.lt_trichotomy i j with e | e | e
          · have := k2 i e; rw [h3] at this; exact absurd this h4
          · subst e; exact ⟨rfl, by rw [← h3, ← k3]⟩
          · have := h2 j e; rw [k3] at this; exact absurd this k4
        · have := k2 i hi; rw [h3] at this; exact absurd this h4
      · rcases k with ⟨j, hj, k2, k3, k4, rfl⟩ | ⟨k2, rfl, rfl⟩
        · have := h2 j hj; rw [k3] at this; exact absurd this k4
        · exact ⟨rfl, rfl⟩
theorem reads_ok {x : ByteArray} {c : CallD} {code : Int} (h : Reads x c code) (hs : x.size ≤ 8000) : (code = 0 ↔ LineOK x) ∧ (code = 0 ∨ code = 3) := by
  rcases h with ⟨h1, _⟩ | ⟨_, h0, h2, rfl⟩ | ⟨_, h2, _, rfl⟩
  · omega
  · exact ⟨⟨fun _ => ⟨h0, c, h2⟩, fun _ => rfl⟩, .inl rfl⟩
  · refine ⟨⟨fun e => absurd e (by decide), fun e => ?_⟩, .inr rfl⟩
    obtain ⟨h0, d, hd⟩ := e
    exact absurd (h2 d hd) h0
theorem got_ok {x : ByteArray} {c : CallD} {k : Bool} (h : Got x c k) : k = true ↔ LineOK x := by
  rcases h with ⟨rfl, h1, h0⟩ | ⟨rfl, h1⟩
  · exact ⟨fun _ => ⟨h0, c, h1⟩, fun _ => rfl⟩
  · refine ⟨fun e => absurd e (by decide), fun e => ?_⟩
    obtain ⟨h0, d, hd⟩ := e
    exact absurd (h1 d hd) h0
theorem codeL_yes {i : Nat} {x : ByteArray} (h0 : i ≠ 0) (h1 : LineOK x) (h2 : i ≤ 60) : codeL i x = 0 := by unfold codeL; rw [if_neg h0, if_pos ⟨h1, h2⟩]
theorem codeL_no {i : Nat} {x : ByteArray} (h0 : i ≠ 0) (h1 : ¬ (LineOK x ∧ i ≤ 60)) : codeL i x = 3 := by unfold codeL; rw [if_neg h0, if_neg h1]
theorem codeL_head (x : ByteArray) : codeL 0 x = codeH x := if_pos rfl

/-! the first line -/
theorem isK_yes {x : ByteArray} (h : isK x = true) : bl x = bl kern7 ++ bl (restT x) := by
  unfold isK Lib.hasPrefix at h
  have h2 := List.isPrefixOf_iff_prefix.1 h
  obtain ⟨r, hr⟩ := h2
  have hx : bl x = bl kern7 ++ r := hr.symm
  have : bl (restT x) = r := by
    unfold restT
    rw [bl_of]
    unfold Lib.trimPrefix
    rw [if_pos (show Lib.hasPrefix x.data.toList kern7.data.toList = true from h), show x.data.toList = bl x from rfl, hx]
    show List.drop (bl kern7).length _ = r
    simp
  rw [this]; exact hx
theorem isK_of {x : ByteArray} {r : List UInt8} (h : bl x = bl kern7 ++ r) : isK x = true ∧ bl (restT x) = r := by
  have h1 : isK x = true := by
    unfold isK Lib.hasPrefix
    exact List.isPrefixOf_iff_prefix.2 ⟨r, h.symm⟩
  refine ⟨h1, ?_⟩
  have h2 := isK_yes h1
  rw [h] at h2
  exact (List.append_cancel_left h2).symm
def HeadC (x : ByteArray) : Prop := (cutS x 32).length = 2 ∧ (cutS x 32).getD 0 e0 = kern6 ∧ 0 ≤ numT ((cutS x 32).getD 1 e0)
theorem head_iff (x : ByteArray) : (HeadC x ↔ isK x = true ∧ 0 ≤ numT (restT x)) ∧ (HeadC x → (cutS x 32).getD 1 e0 = restT x) := by
  have key : HeadC x → isK x = true ∧ (cutS x 32).getD 1 e0 = restT x := by
    rintro ⟨h1, h2, h3⟩
    obtain ⟨a, b, e⟩ := two_of h1
    have hj := cut_join x 32
    rw [show ((32 : UInt8).toNat : Int) = 32 from rfl] at hj
    rw [e] at hj h2 ⊢
    simp only [List.map_cons, List.map_nil, joinL] at hj
    have ha : a = kern6 := h2
    subst ha
    have hx : bl x = bl kern7 ++ bl b := by rw [← hj]; rfl
    have := isK_of hx
    exact ⟨this.1, (bl_inj this.2).symm⟩
  refine ⟨⟨fun h => ?_, ?_⟩, fun h => (key h).2⟩
  · have := key h
    exact ⟨this.1, by rw [← this.2]; exact h.2.2⟩
  · rintro ⟨h1, h2⟩
    have hx := isK_yes h1
    have hc : cutS x 32 = [kern6, restT x] := by
      refine cutS_join 32 [kern6, restT x] (by simp) (fun y hy => ?_) x ?_
      · simp only [List.mem_cons, List.not_mem_nil, or_false] at hy
        rcases hy with rfl | rfl
        · decide
        · intro hm
          have := (num_free h2).1 32 hm
          simp at this
      · simp only [List.map_cons, List.map_nil, joinL]
        rw [hx]; rfl
    unfold HeadC
    rw [hc]
    exact ⟨rfl, rfl, h2⟩
theorem codeH_bad {x : ByteArray} (h : ¬ HeadC x) : codeH x = 3 := by
  unfold codeH
  rw [if_neg (fun k => h ((head_iff x).1.2 k))]
theorem codeH_big {x : ByteArray} (h : HeadC x) (hb : 65535 < numT ((cutS x 32).getD 1 e0)) : codeH x = 1 := by
  unfold codeH
  rw [if_pos ((head_iff x).1.1 h), if_neg (by rw [← (head_iff x).2 h]; omega)]
theorem codeH_ok {x : ByteArray} (h : HeadC x) (hb : numT ((cutS x 32).getD 1 e0) ≤ 65535) : codeH x = 0 := by
  unfold codeH
  rw [if_pos ((head_iff x).1.1 h), if_pos (by rw [← (head_iff x).2 h]; exact hb)]

/-! rune by rune -/
theorem dec_conts (s : ByteArray) (i : Nat) : ∀ k, 1 ≤ k → k < (Utf8.decode s i).2 → i + k < s.size ∧ (s.get! (i + k)).toNat / 64 = 2 := by
  intro k h1 h2
  unfold Utf8.decode at h2
  simp only at h2
  split at h2
  · omega
  · split at h2
    · rename_i h
      simp only [Bool.and_eq_true, decide_eq_true_eq, beq_iff_eq] at h
      split at h2
      · obtain rfl : k = 1 := by omega
        exact ⟨h.2.1, h.2.2⟩
      · omega
    · split at h2
      · rename_i h
        simp only [Bool.and_eq_true, decide_eq_true_eq, beq_iff_eq] at h
        split at h2
        · obtain rfl | rfl : k = 1 ∨ k = 2 := by omega
          · exact ⟨h.1.2.1, h.1.2.2⟩
          · exact ⟨h.2.1, h.2.2⟩
        · omega
      · split at h2
        · rename_i h
          simp only [Bool.and_eq_true, decide_eq_true_eq, beq_iff_eq] at h
          split at h2
          · obtain rfl | rfl | rfl : k = 1 ∨ k = 2 ∨ k = 3 := by omega
            · exact ⟨h.1.1.2.1, h.1.1.2.2⟩
            · exact ⟨h.1.2.1, h.1.2.2⟩
            · exact ⟨h.2.1, h.2.2⟩
          · omega
        · omega
theorem width_pos (s : ByteArray) (i : Nat) (h : i < s.size) : 1 ≤ (Utf8.decode s i).2 := by
  by_cases ha : (s[i]'h).toNat < 128
  · rw [decode_ascii s i h ha]; exact Nat.le_refl _
  · exact (decode_high s i h (by omega)).2
theorem width_in (s : ByteArray) (i : Nat) (h : i < s.size) : i + (Utf8.decode s i).2 ≤ s.size := by
  have h1 := width_pos s i h
  rcases Nat.lt_or_ge 1 (Utf8.decode s i).2 with h2 | h2
  · have := (dec_conts s i ((Utf8.decode s i).2 - 1) (by omega) (by omega)).1
    omega
  · omega
/-- a rune is a line feed just where the byte is one -/
theorem rune_lf (s : ByteArray) (i : Nat) (h : i < s.size) : ((Utf8.decode s i).1 = 10 ↔ (s[i]'h).toNat = 10) ∧ ((s[i]'h).toNat = 10 → (Utf8.decode s i).2 = 1) := by
  by_cases ha : (s[i]'h).toNat < 128
  · rw [decode_ascii s i h ha]; exact ⟨Iff.rfl, fun _ => rfl⟩
  · have := (decode_high s i h (by omega)).1
    refine ⟨⟨fun e => by omega, fun e => by omega⟩, fun e => by omega⟩
theorem cut_skip (s : ByteArray) : ∀ (d i : Nat), i + d ≤ s.size → (∀ k, k < d → (s.get! (i + k)).toNat ≠ 10) → cutTo s 10 (i + d) = cutTo s 10 i
  | 0, _, _, _ => rfl
  | d + 1, i, h, hk => by
    have ih := cut_skip s d i (by omega) (fun k hk2 => hk k (by omega))
    have hl : i + d < s.size := by omega
    have h1 := hk d (by omega)
    have h2 : s.get! (i + d) = s[i + d]'hl := by
      have : s.get! (i + d) = s.data[i + d]! := rfl
      rw [this, getElem!_pos s.data (i + d) hl]; rfl
    rw [h2] at h1
    rw [show i + (d + 1) = (i + d) + 1 by omega, cut_no hl (by omega), ih]
/-- past a rune that is none -/
theorem cut_rune (s : ByteArray) (i : Nat) (h : i < s.size) (hn : (s[i]'h).toNat ≠ 10) : cutTo s 10 (i + (Utf8.decode s i).2) = cutTo s 10 i := by
  refine cut_skip s _ i (width_in s i h) (fun k hk => ?_)
  rcases Nat.eq_zero_or_pos k with rfl | h1
  · have : s.get! (i + 0) = s[i]'h := by
      have : s.get! (i + 0) = s.data[i]! := rfl
      rw [this, getElem!_pos s.data i h]; rfl
    rw [this]; exact hn
  · have := (dec_conts s i k h1 hk).2
    omega
theorem cut_pre (s : ByteArray) (b : Int) : ∀ (d i : Nat), i + d ≤ s.size → ∃ t, (cutTo s b (i + d)).1 = (cutTo s b i).1 ++ t
  | 0, _, _ => ⟨[], by simp⟩
  | d + 1, i, h => by
    obtain ⟨t, ht⟩ := cut_pre s b d i (by omega)
    have hl : i + d < s.size := by omega
    rw [show i + (d + 1) = (i + d) + 1 by omega]
    by_cases e : (s[i + d].toNat : Int) = b
    · rw [cut_yes hl e, ht]; exact ⟨t ++ [s.extract (cutTo s b (i + d)).2 (i + d)], by simp⟩
    · rw [cut_no hl e, ht]; exact ⟨t, rfl⟩
/-- the line that ends at a line feed -/
theorem line_at (s : ByteArray) (i : Nat) (h : i < s.size) (e : (s[i]'h).toNat = 10) : (cutTo s 10 i).1.length + 1 < (cutS s 10).length ∧ (cutS s 10).getD (cutTo s 10 i).1.length e0 = s.extract (cutTo s 10 i).2 i ∧ (cutTo s 10 (i + 1)).1.length = (cutTo s 10 i).1.length + 1 ∧ (cutTo s 10 (i + 1)).2 = i + 1 := by
  have hy := cut_yes (b := 10) h (by omega)
  obtain ⟨t, ht⟩ := cut_pre s 10 (s.size - (i + 1)) (i + 1) (by omega)
  rw [show i + 1 + (s.size - (i + 1)) = s.size by omega, hy] at ht
  simp only at ht
  have hl : cutS s 10 = (cutTo s 10 i).1 ++ (s.extract (cutTo s 10 i).2 i :: (t ++ [s.extract (cutTo s 10 s.size).2 s.size])) := by
    unfold cutS
    rw [ht]; simp
  refine ⟨by rw [hl]; simp, ?_, by rw [hy]; simp, by rw [hy]⟩
  rw [hl, List.getD_eq_getElem?_getD, List.getElem?_append_right (Nat.le_refl _)]
  simp
theorem line_end (s : ByteArray) : (cutS s 10).length = (cutTo s 10 s.size).1.length + 1 ∧ (cutS s 10).getD (cutTo s 10 s.size).1.length e0 = s.extract (cutTo s 10 s.size).2 s.size := by
  refine ⟨by simp [cutS], ?_⟩
  unfold cutS
  rw [List.getD_eq_getElem?_getD, List.getElem?_append_right (Nat.le_refl _)]
  simp
end Go.Proofs.YtacfhchmoiphfaaDoor.scr
