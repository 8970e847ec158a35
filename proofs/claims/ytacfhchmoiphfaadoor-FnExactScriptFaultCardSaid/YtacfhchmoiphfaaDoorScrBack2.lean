/-
  References, labels, kinds that are read are written again; of which texts the program's tests say that they are a call's. In plain words.
-/
import Derived.Test.YtacfhchmoiphfaaDoorScrBack
namespace Go.Proofs.YtacfhchmoiphfaaDoor.scr
open Go.RowKit Go.Deep Go.Sort
open Go.Proofs.YtacfhchmoiphfaaDoor
open Go.Proofs.YtacfhchmoiphfaaDoor.call (CallD ccall)
open Go.Proofs.YtacfhchmoiphfaaDoor.lread (outL)
open Go.Lib (decDigits)
set_option linter.unusedVariables false
set_option maxRecDepth 100000

abbrev e0 : ByteArray := ⟨#[]⟩
/-- a label that is read is written again -/
theorem label_back {t : ByteArray} (h : (outL t).2 = 0) : ltext.textS (outL t).1 = t ∧ label.rightB (outL t).1 = true ∧ 0 ≤ (outL t).1 ∧ (outL t).1 ≤ 15 := by
  by_cases h8 : 8000 < t.size
  · have : outL t = (0, 2) := if_pos h8
    rw [this] at h; cases h
  · by_cases hx : ∃ n, n < 16 ∧ ltext.textN n = t
    · obtain ⟨n, hn, he⟩ := hx
      rw [lread.out_some hn he]
      have hr := label.rightB_of (n : Int) (by omega) (by omega)
      refine ⟨?_, hr, by show (0 : Int) ≤ (n : Int); omega, by show (n : Int) ≤ 15; omega⟩
      show ltext.textS (n : Int) = t
      unfold ltext.textS
      rw [hr, if_pos rfl, Int.toNat_natCast, he]
    · rw [lread.out_none (by omega) (fun n hn he => hx ⟨n, hn, he⟩)] at h
      cases h
theorem textN_ne : ∀ n : Nat, n < 16 → (ltext.textN n).size ≠ 0 := by decide +kernel
theorem textS_ne {l : Int} (h : label.rightB l = true) : (ltext.textS l).size ≠ 0 := by
  have := label.right_yes l h
  unfold ltext.textS
  rw [h, if_pos rfl]
  exact textN_ne l.toNat (by omega)
theorem decB_ne (n : Int) (h : 0 ≤ n) : (decB n).size ≠ 0 := by
  obtain ⟨u, rfl⟩ : ∃ u : Nat, n = u := ⟨n.toNat, by omega⟩
  rw [← bl_size, bl_dec]
  have := dec_ne u
  omega
theorem kind_back {t : ByteArray} {d : Int} (h : kindR t 0 ≠ 0) : kindB (kindR t d) = t ∧ t.size ≠ 0 := by
  unfold kindR at h ⊢
  by_cases h3 : kindB 3 = t
  · rw [if_pos h3]; exact ⟨h3, by rw [← h3]; decide⟩
  rw [if_neg h3] at h ⊢
  by_cases h2 : kindB 2 = t
  · rw [if_pos h2]; exact ⟨h2, by rw [← h2]; decide⟩
  rw [if_neg h2] at h ⊢
  by_cases h1 : kindB 1 = t
  · rw [if_pos h1]; exact ⟨h1, by rw [← h1]; decide⟩
  rw [if_neg h1] at h
  exact absurd rfl h
theorem refP_cases (l : List ByteArray) : (∃ x y, l = [x, y] ∧ (outL x).2 = 0 ∧ refP l = ((outL x).1, numT y)) ∨ refP l = (-1, 0) := by
  match l with
  | [] => exact .inr rfl
  | [x] => exact .inr rfl
  | [x, y] =>
    by_cases h : (outL x).2 = 0
    · exact .inl ⟨x, y, rfl, h, if_pos h⟩
    · exact .inr (if_neg h)
  | x :: y :: z :: t => exact .inr rfl
/-- a reference that is read is written again -/
theorem ref_back {s : ByteArray} (h : call.refB (refR s).1 (refR s).2 = true) : refT (refR s).1 (refR s).2 = s ∧ s.size ≠ 0 := by
  obtain ⟨h1, h2, h3⟩ := refB_yes h
  have hp := label.right_yes _ h1
  have hs : refT (refR s).1 (refR s).2 = s := by
    rw [refT_on h]
    rcases refP_cases (cutS s 46) with ⟨x, y, e, h0, hr⟩ | hr
    · have hr' : refR s = ((outL x).1, numT y) := hr
      rw [hr'] at h2 ⊢
      have hj := cut_join s 46
      rw [show ((46 : UInt8).toNat : Int) = 46 from rfl, e] at hj
      refine bl_inj ?_
      rw [bl_app, bl_app, (label_back h0).1, (num_back h2).1, ← hj]
      simp only [List.map_cons, List.map_nil, joinL, List.append_assoc]
      rfl
    · have hr' : refR s = (-1, 0) := hr
      rw [hr'] at hp
      have := hp.1
      simp at this
  refine ⟨hs, ?_⟩
  have h4 := textS_ne h1
  rw [← hs, refT_on h, ByteArray.size_append, ByteArray.size_append]
  omega
/-- a reference by its name and its number, cut at the first point -/
def cutN (s : ByteArray) : ByteArray := ⟨(Lib.cut s.data.toList [46]).1.toArray⟩
def cutM (s : ByteArray) : ByteArray := ⟨(Lib.cut s.data.toList [46]).2.1.toArray⟩
theorem dig_free {l : List UInt8} : ∀ {n m : Nat}, l.foldl dgF (some n) = some m → ∀ x ∈ l, 48 ≤ x.toNat ∧ x.toNat ≤ 57 := by
  induction l with
  | nil => intro n m _ x hx; simp at hx
  | cons y t ih =>
    intro n m h x hx
    rw [List.foldl_cons] at h
    by_cases hd : 48 ≤ y.toNat ∧ y.toNat ≤ 57
    · simp only [dgF, if_pos hd] at h
      rcases List.mem_cons.1 hx with rfl | hx
      · exact hd
      · exact ih h x hx
    · simp only [dgF, if_neg hd] at h
      rw [fold_none] at h
      cases h
theorem num_free {t : ByteArray} (h : 0 ≤ numT t) : (∀ x ∈ bl t, 48 ≤ x.toNat ∧ x.toNat ≤ 57) ∧ t.size ≠ 0 := by
  have hb := (num_back h).1
  refine ⟨fun x hx => ?_, ?_⟩
  · rw [← hb] at hx; exact decB_free _ h x hx
  · rw [← hb]; exact decB_ne _ h
theorem ref_read (s : ByteArray) : ((outL (cutN s)).2 = 0 ∧ 0 ≤ numT (cutM s) ↔ 0 ≤ (refR s).1 ∧ 0 ≤ (refR s).2) ∧ ((outL (cutN s)).2 = 0 ∧ 0 ≤ numT (cutM s) → refR s = ((outL (cutN s)).1, numT (cutM s))) := by
  have key : (outL (cutN s)).2 = 0 ∧ 0 ≤ numT (cutM s) → refR s = ((outL (cutN s)).1, numT (cutM s)) := by
    rintro ⟨h1, h2⟩
    have hc : cutS s 46 = [cutN s, cutM s] := by
      rcases index_one_spec (bl s) 46 with ⟨hi, hf⟩ | ⟨i, hi, hl, hd, hf⟩
      · have : cutM s = e0 := by
          unfold cutM Lib.cut
          rw [if_neg (by rw [show s.data.toList = bl s from rfl, hi]; omega)]
        rw [this] at h2
        exact absurd rfl (num_free h2).2
      · have hcut : Lib.cut s.data.toList [46] = ((bl s).take i, (bl s).drop (i + 1), true) := by
          unfold Lib.cut
          rw [show s.data.toList = bl s from rfl, hi, if_pos (by omega), Int.toNat_natCast]
          rfl
        have hN : bl (cutN s) = (bl s).take i := by unfold cutN; rw [hcut, bl_of]
        have hM : bl (cutM s) = (bl s).drop (i + 1) := by unfold cutM; rw [hcut, bl_of]
        refine cutS_join 46 [cutN s, cutM s] (by simp) (fun x hx => ?_) s ?_
        · simp only [List.mem_cons, List.not_mem_nil, or_false] at hx
          rcases hx with rfl | rfl
          · rw [hN]; exact hf
          · intro hm
            have := (num_free h2).1 46 hm
            simp at this
        · simp only [List.map_cons, List.map_nil, joinL]
          rw [hN, hM]; exact hd
    show refP (cutS s 46) = _
    rw [hc]
    exact if_pos h1
  refine ⟨⟨fun h => ?_, ?_⟩, key⟩
  · rw [key h]
    exact ⟨(label_back h.1).2.2.1, h.2⟩
  · rintro ⟨h1, h2⟩
    rcases refP_cases (cutS s 46) with ⟨x, y, e, hx, hr⟩ | hr
    · have hr' : refR s = ((outL x).1, numT y) := hr
      rw [hr'] at h2
      have hj := cut_join s 46
      have hf := cut_free s 46
      rw [show ((46 : UInt8).toNat : Int) = 46 from rfl, e] at hj hf
      simp only [List.map_cons, List.map_nil, joinL] at hj
      have hxf := hf x (by simp)
      have hcut : Lib.cut s.data.toList [46] = (bl x, bl y, true) := by
        rw [show s.data.toList = bl s from rfl, ← hj]
        rcases index_one_spec (bl x ++ 46 :: bl y) 46 with ⟨hi, hff⟩ | ⟨i, hi, hl, hd, hff⟩
        · exact absurd (by simp) hff
        · have hix : i = (bl x).length := by
            rcases Nat.lt_trichotomy i (bl x).length with h | h | h
            · have h5 : (bl x ++ 46 :: bl y)[i]? = some 46 := by
                have ht : (List.take i (bl x ++ 46 :: bl y)).length = i := by rw [List.length_take]; omega
                rw [hd, List.getElem?_append_right (by rw [ht]; omega), ht, Nat.sub_self]; rfl
              rw [List.getElem?_append_left h] at h5
              exact absurd (List.mem_of_getElem? h5) hxf
            · exact h
            · exfalso
              apply hff
              rw [List.take_append]
              refine List.mem_append.2 (.inr ?_)
              obtain ⟨d, hd2⟩ : ∃ d, i - (bl x).length = d + 1 := ⟨i - (bl x).length - 1, by omega⟩
              rw [hd2, List.take_succ_cons]
              exact List.mem_cons_self
          unfold Lib.cut
          rw [hi, if_pos (by omega), Int.toNat_natCast, hix]
          simp
      have hN : cutN s = x := by unfold cutN; rw [hcut]; exact bl_inj (bl_of _)
      have hM : cutM s = y := by unfold cutM; rw [hcut]; exact bl_inj (bl_of _)
      rw [hN, hM]
      exact ⟨hx, h2⟩
    · have hr' : refR s = (-1, 0) := hr
      rw [hr'] at h1
      simp at h1

/-- is what stands for a letter well read -/
def goodA (a : Int) (t : ByteArray) : Prop :=
  if a = 65 ∨ a = 66 then 0 ≤ (refR t).1 ∧ 0 ≤ (refR t).2 else if a = 75 then kindR t 0 ≠ 0 else if a = 76 then (outL t).2 = 0 else 0 ≤ numT t
theorem good_A {t : ByteArray} : goodA 65 t ↔ 0 ≤ (refR t).1 ∧ 0 ≤ (refR t).2 := by unfold goodA; rw [if_pos (.inl rfl)]
theorem good_B {t : ByteArray} : goodA 66 t ↔ 0 ≤ (refR t).1 ∧ 0 ≤ (refR t).2 := by unfold goodA; rw [if_pos (.inr rfl)]
theorem good_K {t : ByteArray} : goodA 75 t ↔ kindR t 0 ≠ 0 := by unfold goodA; rw [if_neg (by decide), if_pos rfl]
theorem good_L {t : ByteArray} : goodA 76 t ↔ (outL t).2 = 0 := by unfold goodA; rw [if_neg (by decide), if_neg (by decide), if_pos rfl]
theorem good_X {t : ByteArray} : goodA 88 t ↔ 0 ≤ numT t := by unfold goodA; rw [if_neg (by decide), if_neg (by decide), if_neg (by decide)]
theorem good_Y {t : ByteArray} : goodA 89 t ↔ 0 ≤ numT t := by unfold goodA; rw [if_neg (by decide), if_neg (by decide), if_neg (by decide)]
theorem good_Z {t : ByteArray} : goodA 90 t ↔ 0 ≤ numT t := by unfold goodA; rw [if_neg (by decide), if_neg (by decide), if_neg (by decide)]
theorem back_A {c : CallD} {t : ByteArray} (h2 : c.q2 = (refR t).1) (h3 : c.q3 = (refR t).2) (h : Nums c) : argT c 65 = t ∧ t.size ≠ 0 := by
  have hb := h.a
  rw [h2, h3] at hb
  have : argT c 65 = refT c.q2 c.q3 := by simp [argT]
  rw [this, h2, h3]; exact ref_back hb
theorem back_B {c : CallD} {t : ByteArray} (h2 : c.q4 = (refR t).1) (h3 : c.q5 = (refR t).2) (h : Nums c) : argT c 66 = t ∧ t.size ≠ 0 := by
  have hb := h.b
  rw [h2, h3] at hb
  have : argT c 66 = refT c.q4 c.q5 := by simp [argT]
  rw [this, h2, h3]; exact ref_back hb
theorem back_K {c : CallD} {t : ByteArray} {d : Int} (h2 : c.q6 = kindR t d) (h : goodA 75 t) : argT c 75 = t ∧ t.size ≠ 0 := by
  have : argT c 75 = kindB c.q6 := by simp [argT]
  rw [this, h2]; exact kind_back (good_K.1 h)
theorem back_L {c : CallD} {t : ByteArray} (h2 : c.q7 = (outL t).1) (h : goodA 76 t) : argT c 76 = t ∧ t.size ≠ 0 := by
  have hl := label_back (good_L.1 h)
  have : argT c 76 = ltext.textS c.q7 := by simp [argT]
  rw [this, h2]; exact ⟨hl.1, by rw [← hl.1]; exact textS_ne hl.2.1⟩
theorem back_X {c : CallD} {t : ByteArray} (h2 : c.q6 = numT t) (h : goodA 88 t) : argT c 88 = t ∧ t.size ≠ 0 := by
  have : argT c 88 = decB c.q6 := by simp [argT]
  rw [this, h2]; exact ⟨(num_back (good_X.1 h)).1, (num_free (good_X.1 h)).2⟩
theorem back_Y {c : CallD} {t : ByteArray} (h2 : c.q7 = numT t) (h : goodA 89 t) : argT c 89 = t ∧ t.size ≠ 0 := by
  have : argT c 89 = decB c.q7 := by simp [argT]
  rw [this, h2]; exact ⟨(num_back (good_Y.1 h)).1, (num_free (good_Y.1 h)).2⟩
theorem back_Z {c : CallD} {t : ByteArray} (h2 : c.q8 = numT t) (h : goodA 90 t) : argT c 90 = t ∧ t.size ≠ 0 := by
  have : argT c 90 = decB c.q8 := by simp [argT]
  rw [this, h2]; exact ⟨(num_back (good_Z.1 h)).1, (num_free (good_Z.1 h)).2⟩
/-- all letters of a word are well read -/
def Goods (n : Int) (l : List ByteArray) : Prop := ∀ i, i < (takesB n).size → goodA ((takesB n)[i]!.toNat : Int) (l.getD (i + 2) e0)
def Backs (n : Int) (l : List ByteArray) : Prop := ∀ i, i < (takesB n).size → argT (buildC n l) ((takesB n)[i]!.toNat : Int) = l.getD (i + 2) e0 ∧ (l.getD (i + 2) e0).size ≠ 0
theorem backs_1 (l : List ByteArray) (hN : Nums (buildC 1 l)) (hg : Goods 1 l) : Backs 1 l := by
  intro i hi
  have hz : i < 4 := hi
  have hk := hg i hi
  clear hi hg
  match i, hz, hk with
  | 0, _, h => exact back_A (c := buildC 1 l) rfl rfl hN
  | 1, _, h => exact back_K (c := buildC 1 l) (d := 0) rfl h
  | 2, _, h => exact back_L (c := buildC 1 l) rfl h
  | 3, _, h => exact back_Z (c := buildC 1 l) rfl h
  | i + 4, h, _ => omega
theorem backs_2 (l : List ByteArray) (hN : Nums (buildC 2 l)) (hg : Goods 2 l) : Backs 2 l := by
  intro i hi
  have hz : i < 1 := hi
  have hk := hg i hi
  clear hi hg
  match i, hz, hk with
  | 0, _, h => exact back_A (c := buildC 2 l) rfl rfl hN
  | i + 1, h, _ => omega
theorem backs_3 (l : List ByteArray) (hN : Nums (buildC 3 l)) (hg : Goods 3 l) : Backs 3 l := by
  intro i hi
  have hz : i < 1 := hi
  have hk := hg i hi
  clear hi hg
  match i, hz, hk with
  | 0, _, h => exact back_A (c := buildC 3 l) rfl rfl hN
  | i + 1, h, _ => omega
theorem backs_4 (l : List ByteArray) (hN : Nums (buildC 4 l)) (hg : Goods 4 l) : Backs 4 l := by
  intro i hi
  have hz : i < 1 := hi
  have hk := hg i hi
  clear hi hg
  match i, hz, hk with
  | 0, _, h => exact back_A (c := buildC 4 l) rfl rfl hN
  | i + 1, h, _ => omega
theorem backs_5 (l : List ByteArray) (hN : Nums (buildC 5 l)) (hg : Goods 5 l) : Backs 5 l := by
  intro i hi
  have hz : i < 1 := hi
  have hk := hg i hi
  clear hi hg
  match i, hz, hk with
  | 0, _, h => exact back_A (c := buildC 5 l) rfl rfl hN
  | i + 1, h, _ => omega
theorem backs_6 (l : List ByteArray) (hN : Nums (buildC 6 l)) (hg : Goods 6 l) : Backs 6 l := by
  intro i hi
  have hz : i < 2 := hi
  have hk := hg i hi
  clear hi hg
  match i, hz, hk with
  | 0, _, h => exact back_A (c := buildC 6 l) rfl rfl hN
  | 1, _, h => exact back_X (c := buildC 6 l) rfl h
  | i + 2, h, _ => omega
theorem backs_7 (l : List ByteArray) (hN : Nums (buildC 7 l)) (hg : Goods 7 l) : Backs 7 l := by
  intro i hi
  have hz : i < 3 := hi
  have hk := hg i hi
  clear hi hg
  match i, hz, hk with
  | 0, _, h => exact back_A (c := buildC 7 l) rfl rfl hN
  | 1, _, h => exact back_X (c := buildC 7 l) rfl h
  | 2, _, h => exact back_Y (c := buildC 7 l) rfl h
  | i + 3, h, _ => omega
theorem backs_8 (l : List ByteArray) (hN : Nums (buildC 8 l)) (hg : Goods 8 l) : Backs 8 l := by
  intro i hi
  have hz : i < 2 := hi
  have hk := hg i hi
  clear hi hg
  match i, hz, hk with
  | 0, _, h => exact back_A (c := buildC 8 l) rfl rfl hN
  | 1, _, h => exact back_Y (c := buildC 8 l) rfl h
  | i + 2, h, _ => omega
theorem backs_9 (l : List ByteArray) (hN : Nums (buildC 9 l)) (hg : Goods 9 l) : Backs 9 l := by
  intro i hi
  have hz : i < 4 := hi
  have hk := hg i hi
  clear hi hg
  match i, hz, hk with
  | 0, _, h => exact back_A (c := buildC 9 l) rfl rfl hN
  | 1, _, h => exact back_X (c := buildC 9 l) rfl h
  | 2, _, h => exact back_B (c := buildC 9 l) rfl rfl hN
  | 3, _, h => exact back_Y (c := buildC 9 l) rfl h
  | i + 4, h, _ => omega
theorem backs_10 (l : List ByteArray) (hN : Nums (buildC 10 l)) (hg : Goods 10 l) : Backs 10 l := by
  intro i hi
  have hz : i < 2 := hi
  have hk := hg i hi
  clear hi hg
  match i, hz, hk with
  | 0, _, h => exact back_A (c := buildC 10 l) rfl rfl hN
  | 1, _, h => exact back_X (c := buildC 10 l) rfl h
  | i + 2, h, _ => omega
theorem backs_11 (l : List ByteArray) (hN : Nums (buildC 11 l)) (hg : Goods 11 l) : Backs 11 l := by
  intro i hi
  have hz : i < 3 := hi
  have hk := hg i hi
  clear hi hg
  match i, hz, hk with
  | 0, _, h => exact back_A (c := buildC 11 l) rfl rfl hN
  | 1, _, h => exact back_X (c := buildC 11 l) rfl h
  | 2, _, h => exact back_Y (c := buildC 11 l) rfl h
  | i + 3, h, _ => omega
theorem backs_12 (l : List ByteArray) (hN : Nums (buildC 12 l)) (hg : Goods 12 l) : Backs 12 l := by
  intro i hi
  have hz : i < 4 := hi
  have hk := hg i hi
  clear hi hg
  match i, hz, hk with
  | 0, _, h => exact back_A (c := buildC 12 l) rfl rfl hN
  | 1, _, h => exact back_X (c := buildC 12 l) rfl h
  | 2, _, h => exact back_Y (c := buildC 12 l) rfl h
  | 3, _, h => exact back_Z (c := buildC 12 l) rfl h
  | i + 4, h, _ => omega
theorem backs (n : Int) (h1 : 1 ≤ n) (h2 : n ≤ 12) (l : List ByteArray) (hN : Nums (buildC n l)) (hg : Goods n l) : Backs n l := by
  obtain ⟨k, rfl⟩ : ∃ k : Nat, n = (k : Int) := ⟨n.toNat, by omega⟩
  have hk : k < 13 := by omega
  match k, hk with
  | 0, _ => omega
  | 1, _ => exact backs_1 l hN hg
  | 2, _ => exact backs_2 l hN hg
  | 3, _ => exact backs_3 l hN hg
  | 4, _ => exact backs_4 l hN hg
  | 5, _ => exact backs_5 l hN hg
  | 6, _ => exact backs_6 l hN hg
  | 7, _ => exact backs_7 l hN hg
  | 8, _ => exact backs_8 l hN hg
  | 9, _ => exact backs_9 l hN hg
  | 10, _ => exact backs_10 l hN hg
  | 11, _ => exact backs_11 l hN hg
  | 12, _ => exact backs_12 l hN hg
  | k + 13, h => omega
theorem call_ext {c d : CallD} (h0 : c.q0 = d.q0) (h1 : c.q1 = d.q1) (h2 : c.q2 = d.q2) (h3 : c.q3 = d.q3) (h4 : c.q4 = d.q4) (h5 : c.q5 = d.q5) (h6 : c.q6 = d.q6) (h7 : c.q7 = d.q7) (h8 : c.q8 = d.q8) : c = d := by
  cases c; cases d
  simp only at h0 h1 h2 h3 h4 h5 h6 h7 h8
  simp only [h0, h1, h2, h3, h4, h5, h6, h7, h8]
theorem lit_1 (v0 v2 v3 v6 v7 v8 : Int) : onlyC ⟨v0, 1, v2, v3, 0, 0, v6, v7, v8⟩ = ⟨v0, 1, v2, v3, 0, 0, v6, v7, v8⟩ := rfl
theorem built_1 (l : List ByteArray) : buildC 1 l = ⟨(outL (l.getD 0 e0)).1, 1, (refR (l.getD 2 e0)).1, (refR (l.getD 2 e0)).2, 0, 0, kindR (l.getD 3 e0) 0, (outL (l.getD 4 e0)).1, numT (l.getD 5 e0)⟩ := call_ext rfl rfl rfl rfl rfl rfl rfl rfl rfl
theorem only_1 (l : List ByteArray) : onlyC (buildC 1 l) = buildC 1 l := by rw [built_1]; exact lit_1 _ _ _ _ _ _
theorem lit_2 (v0 v2 v3 : Int) : onlyC ⟨v0, 2, v2, v3, 0, 0, 0, 0, 0⟩ = ⟨v0, 2, v2, v3, 0, 0, 0, 0, 0⟩ := rfl
theorem built_2 (l : List ByteArray) : buildC 2 l = ⟨(outL (l.getD 0 e0)).1, 2, (refR (l.getD 2 e0)).1, (refR (l.getD 2 e0)).2, 0, 0, 0, 0, 0⟩ := call_ext rfl rfl rfl rfl rfl rfl rfl rfl rfl
theorem only_2 (l : List ByteArray) : onlyC (buildC 2 l) = buildC 2 l := by rw [built_2]; exact lit_2 _ _ _
theorem lit_3 (v0 v2 v3 : Int) : onlyC ⟨v0, 3, v2, v3, 0, 0, 0, 0, 0⟩ = ⟨v0, 3, v2, v3, 0, 0, 0, 0, 0⟩ := rfl
theorem built_3 (l : List ByteArray) : buildC 3 l = ⟨(outL (l.getD 0 e0)).1, 3, (refR (l.getD 2 e0)).1, (refR (l.getD 2 e0)).2, 0, 0, 0, 0, 0⟩ := call_ext rfl rfl rfl rfl rfl rfl rfl rfl rfl
theorem only_3 (l : List ByteArray) : onlyC (buildC 3 l) = buildC 3 l := by rw [built_3]; exact lit_3 _ _ _
theorem lit_4 (v0 v2 v3 : Int) : onlyC ⟨v0, 4, v2, v3, 0, 0, 0, 0, 0⟩ = ⟨v0, 4, v2, v3, 0, 0, 0, 0, 0⟩ := rfl
theorem built_4 (l : List ByteArray) : buildC 4 l = ⟨(outL (l.getD 0 e0)).1, 4, (refR (l.getD 2 e0)).1, (refR (l.getD 2 e0)).2, 0, 0, 0, 0, 0⟩ := call_ext rfl rfl rfl rfl rfl rfl rfl rfl rfl
theorem only_4 (l : List ByteArray) : onlyC (buildC 4 l) = buildC 4 l := by rw [built_4]; exact lit_4 _ _ _
theorem lit_5 (v0 v2 v3 : Int) : onlyC ⟨v0, 5, v2, v3, 0, 0, 0, 0, 0⟩ = ⟨v0, 5, v2, v3, 0, 0, 0, 0, 0⟩ := rfl
theorem built_5 (l : List ByteArray) : buildC 5 l = ⟨(outL (l.getD 0 e0)).1, 5, (refR (l.getD 2 e0)).1, (refR (l.getD 2 e0)).2, 0, 0, 0, 0, 0⟩ := call_ext rfl rfl rfl rfl rfl rfl rfl rfl rfl
theorem only_5 (l : List ByteArray) : onlyC (buildC 5 l) = buildC 5 l := by rw [built_5]; exact lit_5 _ _ _
theorem lit_6 (v0 v2 v3 v6 : Int) : onlyC ⟨v0, 6, v2, v3, 0, 0, v6, 0, 0⟩ = ⟨v0, 6, v2, v3, 0, 0, v6, 0, 0⟩ := rfl
theorem built_6 (l : List ByteArray) : buildC 6 l = ⟨(outL (l.getD 0 e0)).1, 6, (refR (l.getD 2 e0)).1, (refR (l.getD 2 e0)).2, 0, 0, numT (l.getD 3 e0), 0, 0⟩ := call_ext rfl rfl rfl rfl rfl rfl rfl rfl rfl
theorem only_6 (l : List ByteArray) : onlyC (buildC 6 l) = buildC 6 l := by rw [built_6]; exact lit_6 _ _ _ _
theorem lit_7 (v0 v2 v3 v6 v7 : Int) : onlyC ⟨v0, 7, v2, v3, 0, 0, v6, v7, 0⟩ = ⟨v0, 7, v2, v3, 0, 0, v6, v7, 0⟩ := rfl
theorem built_7 (l : List ByteArray) : buildC 7 l = ⟨(outL (l.getD 0 e0)).1, 7, (refR (l.getD 2 e0)).1, (refR (l.getD 2 e0)).2, 0, 0, numT (l.getD 3 e0), numT (l.getD 4 e0), 0⟩ := call_ext rfl rfl rfl rfl rfl rfl rfl rfl rfl
theorem only_7 (l : List ByteArray) : onlyC (buildC 7 l) = buildC 7 l := by rw [built_7]; exact lit_7 _ _ _ _ _
theorem lit_8 (v0 v2 v3 v7 : Int) : onlyC ⟨v0, 8, v2, v3, 0, 0, 0, v7, 0⟩ = ⟨v0, 8, v2, v3, 0, 0, 0, v7, 0⟩ := rfl
theorem built_8 (l : List ByteArray) : buildC 8 l = ⟨(outL (l.getD 0 e0)).1, 8, (refR (l.getD 2 e0)).1, (refR (l.getD 2 e0)).2, 0, 0, 0, numT (l.getD 3 e0), 0⟩ := call_ext rfl rfl rfl rfl rfl rfl rfl rfl rfl
theorem only_8 (l : List ByteArray) : onlyC (buildC 8 l) = buildC 8 l := by rw [built_8]; exact lit_8 _ _ _ _
theorem lit_9 (v0 v2 v3 v4 v5 v6 v7 : Int) : onlyC ⟨v0, 9, v2, v3, v4, v5, v6, v7, 0⟩ = ⟨v0, 9, v2, v3, v4, v5, v6, v7, 0⟩ := rfl
theorem built_9 (l : List ByteArray) : buildC 9 l = ⟨(outL (l.getD 0 e0)).1, 9, (refR (l.getD 2 e0)).1, (refR (l.getD 2 e0)).2, (refR (l.getD 4 e0)).1, (refR (l.getD 4 e0)).2, numT (l.getD 3 e0), numT (l.getD 5 e0), 0⟩ := call_ext rfl rfl rfl rfl rfl rfl rfl rfl rfl
theorem only_9 (l : List ByteArray) : onlyC (buildC 9 l) = buildC 9 l := by rw [built_9]; exact lit_9 _ _ _ _ _ _ _
theorem lit_10 (v0 v2 v3 v6 : Int) : onlyC ⟨v0, 10, v2, v3, 0, 0, v6, 0, 0⟩ = ⟨v0, 10, v2, v3, 0, 0, v6, 0, 0⟩ := rfl
theorem built_10 (l : List ByteArray) : buildC 10 l = ⟨(outL (l.getD 0 e0)).1, 10, (refR (l.getD 2 e0)).1, (refR (l.getD 2 e0)).2, 0, 0, numT (l.getD 3 e0), 0, 0⟩ := call_ext rfl rfl rfl rfl rfl rfl rfl rfl rfl
theorem only_10 (l : List ByteArray) : onlyC (buildC 10 l) = buildC 10 l := by rw [built_10]; exact lit_10 _ _ _ _
theorem lit_11 (v0 v2 v3 v6 v7 : Int) : onlyC ⟨v0, 11, v2, v3, 0, 0, v6, v7, 0⟩ = ⟨v0, 11, v2, v3, 0, 0, v6, v7, 0⟩ := rfl
theorem built_11 (l : List ByteArray) : buildC 11 l = ⟨(outL (l.getD 0 e0)).1, 11, (refR (l.getD 2 e0)).1, (refR (l.getD 2 e0)).2, 0, 0, numT (l.getD 3 e0), numT (l.getD 4 e0), 0⟩ := call_ext rfl rfl rfl rfl rfl rfl rfl rfl rfl
theorem only_11 (l : List ByteArray) : onlyC (buildC 11 l) = buildC 11 l := by rw [built_11]; exact lit_11 _ _ _ _ _
theorem lit_12 (v0 v2 v3 v6 v7 v8 : Int) : onlyC ⟨v0, 12, v2, v3, 0, 0, v6, v7, v8⟩ = ⟨v0, 12, v2, v3, 0, 0, v6, v7, v8⟩ := rfl
theorem built_12 (l : List ByteArray) : buildC 12 l = ⟨(outL (l.getD 0 e0)).1, 12, (refR (l.getD 2 e0)).1, (refR (l.getD 2 e0)).2, 0, 0, numT (l.getD 3 e0), numT (l.getD 4 e0), numT (l.getD 5 e0)⟩ := call_ext rfl rfl rfl rfl rfl rfl rfl rfl rfl
theorem only_12 (l : List ByteArray) : onlyC (buildC 12 l) = buildC 12 l := by rw [built_12]; exact lit_12 _ _ _ _ _ _
theorem only_build (n : Int) (h1 : 1 ≤ n) (h2 : n ≤ 12) (l : List ByteArray) : onlyC (buildC n l) = buildC n l := by
  obtain ⟨k, rfl⟩ : ∃ k : Nat, n = (k : Int) := ⟨n.toNat, by omega⟩
  have hk : k < 13 := by omega
  match k, hk with
  | 0, _ => omega
  | 1, _ => exact only_1 l
  | 2, _ => exact only_2 l
  | 3, _ => exact only_3 l
  | 4, _ => exact only_4 l
  | 5, _ => exact only_5 l
  | 6, _ => exact only_6 l
  | 7, _ => exact only_7 l
  | 8, _ => exact only_8 l
  | 9, _ => exact only_9 l
  | 10, _ => exact only_10 l
  | 11, _ => exact only_11 l
  | 12, _ => exact only_12 l
  | k + 13, h => omega
theorem build_q1 (n : Int) (l : List ByteArray) : ∀ i, (buildTo n l i).q1 = n ∧ (buildTo n l i).q0 = (outL (l.getD 0 e0)).1
  | 0 => ⟨rfl, rfl⟩
  | i + 1 => by
    have ih := build_q1 n l i
    by_cases h : i < (takesB n).size
    · rw [build_step h]
      unfold takeL
      split; exact ih
      split; exact ih
      split; exact ih
      split; exact ih
      split; exact ih
      split; exact ih
      split; exact ih
      exact ih
    · have e : buildTo n l (i + 1) = buildTo n l i := by rw [buildTo, dif_neg h]
      rw [e]; exact ih
theorem same_refl (c : CallD) : sameB c c = true := by simp [sameB]
/-- which letters there are -/
theorem takes_all : ∀ n : Nat, n < 13 → ∀ i : Nat, i < (takesB (n : Int)).size → ((takesB (n : Int))[i]!.toNat = 65 ∨ (takesB (n : Int))[i]!.toNat = 66 ∨ (takesB (n : Int))[i]!.toNat = 75 ∨ (takesB (n : Int))[i]!.toNat = 76 ∨ (takesB (n : Int))[i]!.toNat = 88 ∨ (takesB (n : Int))[i]!.toNat = 89 ∨ (takesB (n : Int))[i]!.toNat = 90) := by decide +kernel
def Letter (a : Int) : Prop := a = 65 ∨ a = 66 ∨ a = 75 ∨ a = 76 ∨ a = 88 ∨ a = 89 ∨ a = 90
theorem takes_in (n : Int) (i : Nat) (h : i < (takesB n).size) : Letter ((takesB n)[i]!.toNat : Int) := by
  by_cases hn : 1 ≤ n ∧ n ≤ 12
  · obtain ⟨k, rfl⟩ : ∃ k : Nat, n = (k : Int) := ⟨n.toNat, by omega⟩
    have := takes_all k (by omega) i h
    unfold Letter
    omega
  · rw [(name_off n hn).2] at h
    simp [ByteArray.size] at h
/-- what is written for a letter is well read -/
theorem good_arg {c : CallD} (h : Nums c) (a : Int) (ha : (argT c a).size ≠ 0) (hl : Letter a) : goodA a (argT c a) := by
  rcases hl with rfl | rfl | rfl | rfl | rfl | rfl | rfl
  · rw [good_A, show argT c 65 = refT c.q2 c.q3 by simp [argT], ref_text _ _ h.a]
    have := refB_yes h.a
    exact ⟨(label.right_yes _ this.1).1, this.2.1⟩
  · rw [good_B, show argT c 66 = refT c.q4 c.q5 by simp [argT], ref_text _ _ h.b]
    have := refB_yes h.b
    exact ⟨(label.right_yes _ this.1).1, this.2.1⟩
  · rw [show argT c 75 = kindB c.q6 by simp [argT]] at ha ⊢
    rw [good_K, kind_text _ _ ha]
    intro e
    rw [e] at ha
    exact ha rfl
  · rw [show argT c 76 = ltext.textS c.q7 by simp [argT]] at ha ⊢
    rw [good_L, out_text _ (label_of_text _ ha)]
  · rw [good_X, show argT c 88 = decB c.q6 by simp [argT], num_int _ h.x.1 h.x.2]; exact h.x.1
  · rw [good_Y, show argT c 89 = decB c.q7 by simp [argT], num_int _ h.y.1 h.y.2]; exact h.y.1
  · rw [good_Z, show argT c 90 = decB c.q8 by simp [argT], num_int _ h.z.1 h.z.2]; exact h.z.1
/-- all that the program asks of the parts of a text -/
structure Tests (n : Int) (l : List ByteArray) : Prop where
  who : (outL (l.getD 0 e0)).2 = 0
  n1 : 1 ≤ n
  n12 : n ≤ 12
  name : l.getD 1 e0 = nameB n
  len : l.length = (takesB n).size + 2
  good : Goods n l
  right : callB (buildC n l) = true
theorem text_all {c : CallD} (g : ByteArray) (h : ∀ i, i < g.size → (argT c (g[i]!.toNat : Int)).size ≠ 0) : ∀ i, i ≤ g.size → ∃ t, textTo c (headT c) g i = some t
  | 0, _ => ⟨_, rfl⟩
  | i + 1, hi => by
    obtain ⟨t, ht⟩ := text_all g h i (by omega)
    have hl : i < g.size := by omega
    have := h i hl
    rw [getElem!_pos _ i hl] at this
    exact ⟨_, by rw [text_step hl ht, if_neg this]⟩
/-- a text that passes them is that of the call that is built -/
theorem tests_yes {s : ByteArray} {n : Int} (h : Tests n (cutS s 32)) : callT (buildC n (cutS s 32)) = s ∧ s.size ≠ 0 := by
  have hj := cut_join s 32
  rw [show ((32 : UInt8).toNat : Int) = 32 from rfl] at hj
  generalize cutS s 32 = l at *
  have hb := backs n h.n1 h.n12 l (nums_of h.right) h.good
  have hq := build_q1 n l (takesB n).size
  have hq1 : (buildC n l).q1 = n := hq.1
  have hq0 : (buildC n l).q0 = (outL (l.getD 0 e0)).1 := hq.2
  have hpl : plainB (buildC n l) = true := by
    unfold plainB
    rw [only_build n h.n1 h.n12 l]
    exact same_refl _
  obtain ⟨t, ht⟩ := text_all (c := buildC n l) (takesB n) (fun i hi => by rw [(hb i hi).1]; exact (hb i hi).2) _ (Nat.le_refl _)
  have hon : callT (buildC n l) = t := by
    have := callT_on h.right hpl
    rw [this, hq1, ht]; rfl
  have hlab := label_back h.who
  have hp := (text_parts (buildC n l) (takesB n) _ t (Nat.le_refl _) ht).1
  have hpl2 : parts (buildC n l) (takesB n) (takesB n).size = l := by
    have hal := args_len (buildC n l) (takesB n) _ (Nat.le_refl _)
    apply List.ext_getElem?
    intro i
    unfold parts
    match i with
    | 0 =>
      rw [show ([ltext.textS (buildC n l).q0, nameB (buildC n l).q1] ++ argsTo (buildC n l) (takesB n) (takesB n).size)[0]? = some (ltext.textS (buildC n l).q0) from rfl, hq0, hlab.1]
      have := h.len
      rw [List.getElem?_eq_getElem (by omega), List.getD_eq_getElem?_getD, List.getElem?_eq_getElem (by omega)]; rfl
    | 1 =>
      rw [show ([ltext.textS (buildC n l).q0, nameB (buildC n l).q1] ++ argsTo (buildC n l) (takesB n) (takesB n).size)[1]? = some (nameB (buildC n l).q1) from rfl, hq1, ← h.name]
      have := h.len
      rw [List.getElem?_eq_getElem (by omega), List.getD_eq_getElem?_getD, List.getElem?_eq_getElem (by omega)]; rfl
    | i + 2 =>
      rw [List.getElem?_append_right (by simp), show i + 2 - [ltext.textS (buildC n l).q0, nameB (buildC n l).q1].length = i by simp]
      by_cases hi : i < (takesB n).size
      · rw [args_at _ _ _ (Nat.le_refl _) i hi]
        have h1 := (hb i hi).1
        rw [getElem!_pos _ i hi] at h1
        rw [h1]
        have := h.len
        rw [List.getElem?_eq_getElem (by omega), List.getD_eq_getElem?_getD, List.getElem?_eq_getElem (by omega)]; rfl
      · have := h.len
        rw [List.getElem?_eq_none (by omega), List.getElem?_eq_none (by omega)]
  rw [hpl2, hj] at hp
  have hts : t = s := bl_inj hp
  refine ⟨hon.trans hts, ?_⟩
  have hne := textS_ne hlab.2.1
  rw [hlab.1] at hne
  intro e
  have h0 : bl s = [] := List.eq_nil_of_length_eq_zero (by rw [bl_size]; exact e)
  rw [h0] at hj
  have hlen := h.len
  match l, hlen, hj with
  | x :: y :: r, _, hj => rw [List.map_cons, List.map_cons, joinL] at hj; simp at hj
/-- the text of a call passes them -/
theorem tests_no {s : ByteArray} {d : CallD} (h : callT d = s) (h0 : s.size ≠ 0) : Tests d.q1 (cutS s 32) ∧ buildC d.q1 (cutS s 32) = d := by
  obtain ⟨⟨a1, a2, a3, a4⟩, a5, a6⟩ := hit_own h h0
  subst h
  obtain ⟨h1, h2, h3⟩ := text_back h0
  have hn := nums_of h1
  have hq := callB_q h1
  have hlab := label.rightB_of _ hq.1 hq.2.1
  have hc : (callB d && plainB d) = true := by
    cases hc : callB d && plainB d with
    | false => exact absurd (by rw [callT_off hc]; rfl) h0
    | true => rfl
  rw [Bool.and_eq_true] at hc
  have hon := callT_on hc.1 hc.2
  have hne : ∀ j, j < (takesB d.q1).size → (argT d ((takesB d.q1)[j]!.toNat : Int)).size ≠ 0 := by
    cases ht : textTo d (headT d) (takesB d.q1) (takesB d.q1).size with
    | none => exact absurd (by rw [hon, ht]; rfl) h0
    | some t => exact fun j hj => (text_parts d _ _ t (Nat.le_refl _) ht).2 j hj
  refine ⟨⟨?_, a1, a2, a3.1, a3.2, ?_, by rw [a5]; exact h1⟩, a5⟩
  · rw [h2, show (parts d (takesB d.q1) (takesB d.q1).size).getD 0 e0 = ltext.textS d.q0 from rfl, out_text _ hlab]
  · intro i hi
    have hg : (parts d (takesB d.q1) (takesB d.q1).size).getD (i + 2) e0 = argT d ((takesB d.q1)[i]!.toNat : Int) := by
      have := args_at d (takesB d.q1) _ (Nat.le_refl _) i hi
      rw [getElem!_pos _ i hi]
      simp only [parts, List.getD_eq_getElem?_getD]
      rw [List.getElem?_append_right (by simp)]
      simp only [List.length_cons, List.length_nil]
      rw [show i + 2 - (0 + 1 + 1) = i by omega, this]; rfl
    rw [h2, hg]
    exact good_arg hn _ (hne i hi) (takes_in d.q1 i hi)
end Go.Proofs.YtacfhchmoiphfaaDoor.scr
