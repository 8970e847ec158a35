/-
  A call is got back from the parts of its text; no two calls have one text. In plain words.
-/
import Derived.Test.YtacfhchmoiphfaaDoorScrReadQ
namespace Go.Proofs.YtacfhchmoiphfaaDoor.scr
open Go.RowKit Go.Deep Go.Sort
open Go.Proofs.YtacfhchmoiphfaaDoor
open Go.Proofs.YtacfhchmoiphfaaDoor.call (CallD ccall)
open Go.Proofs.YtacfhchmoiphfaaDoor.lread (outL)
set_option linter.unusedVariables false
set_option maxRecDepth 100000

/-- a call of a word, out of the parts of a text: the first letters read -/
def buildTo (n : Int) (l : List ByteArray) : Nat → CallD
  | 0 => ⟨(outL (l.getD 0 ⟨#[]⟩)).1, n, 0, 0, 0, 0, 0, 0, 0⟩
  | i + 1 => if h : i < (takesB n).size then takeL (buildTo n l i) ((takesB n)[i].toNat : Int) (l.getD (i + 2) ⟨#[]⟩) else buildTo n l i
def buildC (n : Int) (l : List ByteArray) : CallD := buildTo n l (takesB n).size
theorem build_step {n : Int} {l : List ByteArray} {i : Nat} (h : i < (takesB n).size) : buildTo n l (i + 1) = takeL (buildTo n l i) ((takesB n)[i].toNat : Int) (l.getD (i + 2) ⟨#[]⟩) := by rw [buildTo, dif_pos h]
/-- do the parts look like a call of that word -/
def looks (n : Int) (l : List ByteArray) : Prop := l.getD 1 ⟨#[]⟩ = nameB n ∧ l.length = (takesB n).size + 2
/-- is it a call of that word -/
def hits (s : ByteArray) (n : Int) : Prop := 1 ≤ n ∧ n ≤ 12 ∧ looks n (cutS s 32) ∧ callT (buildC n (cutS s 32)) = s

/-- what stands for the letters -/
def argsTo (c : CallD) (g : ByteArray) : Nat → List ByteArray
  | 0 => []
  | i + 1 => if h : i < g.size then argsTo c g i ++ [argT c (g[i].toNat : Int)] else argsTo c g i
theorem args_step {c : CallD} {g : ByteArray} {i : Nat} (h : i < g.size) : argsTo c g (i + 1) = argsTo c g i ++ [argT c (g[i].toNat : Int)] := by rw [argsTo, dif_pos h]
theorem args_len (c : CallD) (g : ByteArray) : ∀ i, i ≤ g.size → (argsTo c g i).length = i
  | 0, _ => rfl
  | i + 1, h => by rw [args_step (by omega), List.length_append, args_len c g i (by omega)]; rfl
theorem args_at (c : CallD) (g : ByteArray) : ∀ n (hn : n ≤ g.size) i (h : i < n), (argsTo c g n)[i]? = some (argT c (g[i]'(by omega)).toNat)
  | 0, _, i, h => by omega
  | n + 1, hn, i, h => by
    have hl := args_len c g n (by omega)
    rw [args_step (by omega)]
    by_cases e : i < n
    · rw [List.getElem?_append_left (by omega)]; exact args_at c g n (by omega) i e
    · obtain rfl : i = n := by omega
      rw [List.getElem?_append_right (by omega), hl]; simp
theorem join_snoc (b : UInt8) (x : List UInt8) : ∀ l : List (List UInt8), l ≠ [] → joinL b (l ++ [x]) = joinL b l ++ b :: x
  | [], h => absurd rfl h
  | [y], _ => by simp [joinL]
  | y :: z :: t, _ => by
    have := join_snoc b x (z :: t) (by simp)
    rw [List.cons_append, List.cons_append, joinL, ← List.cons_append, this, joinL]
    simp
/-- the parts of a call's text -/
def parts (c : CallD) (g : ByteArray) (i : Nat) : List ByteArray := [ltext.textS c.q0, nameB c.q1] ++ argsTo c g i
theorem text_parts (c : CallD) (g : ByteArray) : ∀ i t, i ≤ g.size → textTo c (headT c) g i = some t → bl t = joinL 32 ((parts c g i).map bl) ∧ ∀ j (h : j < i), (argT c (g[j]!).toNat).size ≠ 0
  | 0, t, _, h => by
    simp only [textTo, Option.some.injEq] at h
    subst h
    refine ⟨?_, fun j h => by omega⟩
    simp only [headT, parts, argsTo, List.append_nil, List.map_cons, List.map_nil, joinL, bl_app]
    simp [blank, bl_of]
  | i + 1, t, hi, h => by
    cases hp : textTo c (headT c) g i with
    | none =>
      have := text_none hp 1
      rw [h] at this; cases this
    | some t' =>
      obtain ⟨h1, h2⟩ := text_parts c g i t' (by omega) hp
      have hl : i < g.size := by omega
      rw [text_step hl hp] at h
      split at h
      · cases h
      · rename_i hne
        rw [Option.some.injEq] at h
        subst h
        refine ⟨?_, fun j hj => ?_⟩
        · have hpp : parts c g (i + 1) = parts c g i ++ [argT c (g[i].toNat : Int)] := by simp only [parts]; rw [args_step hl, List.append_assoc]
          rw [hpp, List.map_append, List.map_cons, List.map_nil, join_snoc 32 _ _ (by simp [parts]), bl_app, bl_app, h1, List.append_assoc]
          congr 1
        · by_cases e : j < i
          · exact h2 j e
          · obtain rfl : j = i := by omega
            rw [getElem!_pos g j hl]; exact hne
/-- no blank stands in what stands for a letter -/
theorem ref_free (l n : Int) : ∀ x ∈ bl (refT l n), x.toNat ≠ 32 := by
  intro x hx
  cases h : call.refB l n with
  | false =>
    have e : refT l n = ⟨#[]⟩ := by simp [refT, h]
    rw [e] at hx; simp [bl] at hx
  | true =>
    rw [refT_on h, bl_app, bl_app] at hx
    rcases List.mem_append.1 hx with hx | hx
    · rcases List.mem_append.1 hx with hx | hx
      · have := textS_free l x hx; omega
      · have : x = 46 := by simpa [dot, bl_of] using hx
        subst this; decide
    · have := decB_free n (refB_yes h).2.1 x hx; omega
theorem kind_free (k : Int) : ∀ x ∈ bl (kindB k), x.toNat ≠ 32 := by
  by_cases h1 : 1 ≤ k ∧ k ≤ 3
  · obtain ⟨j, rfl⟩ : ∃ j : Nat, k = (j : Int) := ⟨k.toNat, by omega⟩
    have hj : j < 4 := by omega
    have : ∀ j : Nat, j < 4 → ∀ x ∈ bl (kindB (j : Int)), x.toNat ≠ 32 := by decide +kernel
    exact this j hj
  · rw [kind_off k h1]; intro x hx; simp [bl] at hx
theorem name_free (k : Int) : ∀ x ∈ bl (nameB k), x.toNat ≠ 32 := by
  by_cases h1 : 1 ≤ k ∧ k ≤ 12
  · obtain ⟨j, rfl⟩ : ∃ j : Nat, k = (j : Int) := ⟨k.toNat, by omega⟩
    have hj : j < 13 := by omega
    have : ∀ j : Nat, j < 13 → ∀ x ∈ bl (nameB (j : Int)), x.toNat ≠ 32 := by decide +kernel
    exact this j hj
  · rw [(name_off k h1).1]; intro x hx; simp [bl] at hx
structure Nums (c : CallD) : Prop where
  a : call.refB c.q2 c.q3 = true
  b : call.refB c.q4 c.q5 = true
  x : 0 ≤ c.q6 ∧ c.q6 ≤ 999999
  y : 0 ≤ c.q7 ∧ c.q7 ≤ 999999
  z : 0 ≤ c.q8 ∧ c.q8 ≤ 999999
theorem nums_of {c : CallD} (h : callB c = true) : Nums c := by
  simp only [callB, call.callB, Bool.and_eq_true] at h
  obtain ⟨h0, h1, h2, h3, h4, h5, h6⟩ := h
  exact ⟨h2, h3, call.isB_yes h4, call.isB_yes h5, call.isB_yes h6⟩
theorem arg_free {c : CallD} (h : Nums c) (a : Int) : ∀ x ∈ bl (argT c a), x.toNat ≠ 32 := by
  have dz : ∀ n : Int, 0 ≤ n → ∀ x ∈ bl (decB n), x.toNat ≠ 32 := fun n hn x hx => by have := decB_free n hn x hx; omega
  have tz : ∀ l : Int, ∀ x ∈ bl (ltext.textS l), x.toNat ≠ 32 := fun l x hx => by have := textS_free l x hx; omega
  unfold argT
  split; exact ref_free _ _
  split; exact ref_free _ _
  split; exact kind_free _
  split; exact tz _
  split; exact dz _ h.x.1
  split; exact dz _ h.y.1
  exact dz _ h.z.1
theorem args_free {c : CallD} (h : Nums c) (g : ByteArray) : ∀ n, ∀ y ∈ argsTo c g n, ∀ x ∈ bl y, x.toNat ≠ 32
  | 0, y, hy => by simp [argsTo] at hy
  | n + 1, y, hy => by
    by_cases hl : n < g.size
    · rw [args_step hl] at hy
      rcases List.mem_append.1 hy with hy | hy
      · exact args_free h g n y hy
      · rw [List.mem_singleton.1 hy]; exact arg_free h _
    · have e : argsTo c g (n + 1) = argsTo c g n := by rw [argsTo, dif_neg hl]
      rw [e] at hy; exact args_free h g n y hy
/-- what was read for a letter is what stands for it -/
theorem take_arg {c d : CallD} (h : Nums c) (a : Int) (ha : (argT c a).size ≠ 0) : takeL d a (argT c a) = stepL c d a := by
  unfold takeL stepL
  by_cases e1 : a = 65
  · subst e1
    have : argT c 65 = refT c.q2 c.q3 := by simp [argT]
    rw [if_pos rfl, if_pos rfl, this, ref_text _ _ h.a]
  rw [if_neg e1, if_neg e1]
  by_cases e2 : a = 66
  · subst e2
    have : argT c 66 = refT c.q4 c.q5 := by simp [argT]
    rw [if_pos rfl, if_pos rfl, this, ref_text _ _ h.b]
  rw [if_neg e2, if_neg e2]
  by_cases e3 : a = 75
  · subst e3
    have : argT c 75 = kindB c.q6 := by simp [argT]
    rw [this] at ha ⊢
    rw [if_pos rfl, if_pos rfl, kind_text _ _ ha]
  rw [if_neg e3, if_neg e3]
  by_cases e4 : a = 76
  · subst e4
    have : argT c 76 = ltext.textS c.q7 := by simp [argT]
    rw [this] at ha ⊢
    rw [if_pos rfl, if_neg (by decide), if_pos rfl, out_text _ (label_of_text _ ha)]
  rw [if_neg e4]
  by_cases e5 : a = 88
  · subst e5
    have : argT c 88 = decB c.q6 := by simp [argT]
    rw [if_pos rfl, if_pos rfl, this, num_int _ h.x.1 h.x.2]
  rw [if_neg e5, if_neg e5, if_neg e4]
  by_cases e6 : a = 89
  · subst e6
    have : argT c 89 = decB c.q7 := by simp [argT]
    rw [if_pos rfl, if_pos rfl, this, num_int _ h.y.1 h.y.2]
  rw [if_neg e6, if_neg e6]
  by_cases e7 : a = 90
  · subst e7
    have : argT c 90 = decB c.q8 := by simp [argT]
    rw [if_pos rfl, if_pos rfl, this, num_int _ h.z.1 h.z.2]
  rw [if_neg e7, if_neg e7]
/-- what a call's text is cut into, and what is built of that -/
theorem text_back {c : CallD} (h : (callT c).size ≠ 0) : callB c = true ∧ cutS (callT c) 32 = parts c (takesB c.q1) (takesB c.q1).size ∧ buildC c.q1 (cutS (callT c) 32) = c := by
  cases hc : callB c && plainB c with
  | false => exact absurd (by rw [callT_off hc]; rfl) h
  | true =>
    rw [Bool.and_eq_true] at hc
    obtain ⟨h1, h2⟩ := hc
    have hn := nums_of h1
    have hq := callB_q h1
    have hon := callT_on h1 h2
    cases ht : textTo c (headT c) (takesB c.q1) (takesB c.q1).size with
    | none => exact absurd (by rw [hon, ht]; rfl) h
    | some t =>
      have e : callT c = t := by rw [hon, ht]; rfl
      obtain ⟨hj, ha⟩ := text_parts c _ _ t (Nat.le_refl _) ht
      have hcut : cutS (callT c) 32 = parts c (takesB c.q1) (takesB c.q1).size := by
        refine cutS_join 32 _ (by simp [parts]) (fun x hx hm => ?_) _ (by rw [e]; exact hj)
        have : ∀ y ∈ bl x, y.toNat ≠ 32 := by
          simp only [parts, List.mem_append, List.mem_cons, List.not_mem_nil, or_false] at hx
          rcases hx with (rfl | rfl) | hx
          · intro y hy; have := textS_free c.q0 y hy; omega
          · exact name_free _
          · exact args_free hn _ _ x hx
        exact this 32 hm rfl
      refine ⟨h1, hcut, ?_⟩
      rw [hcut]
      have hb : ∀ i, i ≤ (takesB c.q1).size → buildTo c.q1 (parts c (takesB c.q1) (takesB c.q1).size) i = onlyTo c (takesB c.q1) i := by
        intro i
        induction i with
        | zero =>
          intro _
          have h0 : (parts c (takesB c.q1) (takesB c.q1).size).getD 0 ⟨#[]⟩ = ltext.textS c.q0 := rfl
          rw [buildTo, h0, out_text _ (label.rightB_of _ hq.1 hq.2.1)]; rfl
        | succ i ih =>
          intro hi
          have hl : i < (takesB c.q1).size := by omega
          have hg : (parts c (takesB c.q1) (takesB c.q1).size).getD (i + 2) ⟨#[]⟩ = argT c ((takesB c.q1)[i].toNat : Int) := by
            have := args_at c (takesB c.q1) _ (Nat.le_refl _) i hl
            simp only [parts, List.getD_eq_getElem?_getD]
            rw [List.getElem?_append_right (by simp)]
            simp only [List.length_cons, List.length_nil]
            rw [show i + 2 - (0 + 1 + 1) = i by omega, this]; rfl
          have hne := ha i hl
          rw [getElem!_pos _ i hl] at hne
          rw [build_step hl, ih (by omega), hg, take_arg hn _ hne, only_step _ _ _ hl]
      rw [buildC, hb _ (Nat.le_refl _)]
      exact same_eq h2
theorem name_one : ∀ n : Nat, n < 13 → ∀ m : Nat, m < 13 → 1 ≤ n → 1 ≤ m → (nameB (n : Int)).data = (nameB (m : Int)).data → n = m := by decide +kernel
theorem name_same {n m : Int} (hn : 1 ≤ n ∧ n ≤ 12) (hm : 1 ≤ m ∧ m ≤ 12) (h : nameB n = nameB m) : n = m := by
  obtain ⟨a, rfl⟩ : ∃ a : Nat, n = (a : Int) := ⟨n.toNat, by omega⟩
  obtain ⟨b, rfl⟩ : ∃ b : Nat, m = (b : Int) := ⟨m.toNat, by omega⟩
  have := name_one a (by omega) b (by omega) (by omega) (by omega) (by rw [h])
  omega
/-- a call hits its own text, and no other word does -/
theorem hit_own {c : CallD} {s : ByteArray} (h : callT c = s) (h0 : s.size ≠ 0) : hits s c.q1 ∧ buildC c.q1 (cutS s 32) = c ∧ ∀ n, 1 ≤ n → n ≤ 12 → looks n (cutS s 32) → n = c.q1 := by
  subst h
  obtain ⟨h1, h2, h3⟩ := text_back h0
  have hq := callB_q h1
  have hl : looks c.q1 (cutS (callT c) 32) := by
    rw [h2]
    refine ⟨rfl, ?_⟩
    simp only [parts, List.length_append, List.length_cons, List.length_nil]
    rw [args_len c _ _ (Nat.le_refl _)]; omega
  refine ⟨⟨hq.2.2.1, hq.2.2.2, hl, by rw [h3]⟩, h3, fun n hn1 hn2 hlk => ?_⟩
  have := hlk.1
  rw [hl.1] at this
  exact name_same ⟨hn1, hn2⟩ hq.2.2 this.symm
/-- no two calls have one text -/
theorem call_one {c d : CallD} (h : callT c = callT d) (h0 : (callT c).size ≠ 0) : c = d := by
  obtain ⟨h1, h2, h3⟩ := hit_own (c := c) rfl h0
  obtain ⟨k1, k2, k3⟩ := hit_own (c := d) h.symm h0
  have := k3 c.q1 h1.1 h1.2.1 h1.2.2.1
  rw [← h2, ← k2, this]
end Go.Proofs.YtacfhchmoiphfaaDoor.scr
