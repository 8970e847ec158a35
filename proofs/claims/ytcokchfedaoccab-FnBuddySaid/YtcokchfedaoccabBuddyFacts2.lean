/-
  Plain facts on blocks, more: a block put in its place, taken out, joined with its fellow, cut in halves; the pages of a row. No program stands in it.
-/
import Derived.Test.YtcokchfedaoccabBuddyFacts
namespace Go.Proofs.Ytcokchfedaoccab.bd

/-- a block that shares no page with a row -/
def Off (l : List Blk) (x : Blk) : Prop := ∀ y ∈ l, ∀ p, cv x p → cv y p → False
theorem off_side {l : List Blk} {x : Blk} (h : Off l x) {y : Blk} (hy : y ∈ l) : y.1 + 2 ^ y.2 ≤ x.1 ∨ x.1 + 2 ^ x.2 ≤ y.1 := by
  by_cases h1 : y.1 ≤ x.1
  · by_cases h2 : x.1 < y.1 + 2 ^ y.2
    · exact absurd (h y hy x.1 (cv_self x) ⟨h1, h2⟩) id
    · exact Or.inl (by omega)
  · by_cases h2 : y.1 < x.1 + 2 ^ x.2
    · exact absurd (h y hy y.1 ⟨by omega, h2⟩ (cv_self y)) id
    · exact Or.inr (by omega)

/-- a block put in its place -/
def putL (l : List Blk) (x : Blk) : List Blk := l.takeWhile (fun y => decide (y.1 < x.1)) ++ x :: l.dropWhile (fun y => decide (y.1 < x.1))
theorem mem_putL (l : List Blk) (x y : Blk) : y ∈ putL l x ↔ y = x ∨ y ∈ l := by
  have h : y ∈ l ↔ y ∈ l.takeWhile (fun y => decide (y.1 < x.1)) ∨ y ∈ l.dropWhile (fun y => decide (y.1 < x.1)) := by
    rw [← List.mem_append, List.takeWhile_append_dropWhile]
  rw [putL, List.mem_append, List.mem_cons, h]
  constructor
  · rintro (a | a | a)
    · exact Or.inr (Or.inl a)
    · exact Or.inl a
    · exact Or.inr (Or.inr a)
  · rintro (a | a | a)
    · exact Or.inr (Or.inl a)
    · exact Or.inl a
    · exact Or.inr (Or.inr a)
theorem take_lt {c : Nat} : ∀ {l : List Blk} {y : Blk}, y ∈ l.takeWhile (fun y => decide (y.1 < c)) → y.1 < c
  | [], _, h => by cases h
  | x :: t, y, h => by
    rw [List.takeWhile_cons] at h
    by_cases hx : x.1 < c
    · rw [if_pos (by simpa using hx)] at h
      rcases List.mem_cons.1 h with rfl | h'
      · exact hx
      · exact take_lt h'
    · rw [if_neg (by simpa using hx)] at h; cases h
theorem drop_ge {c : Nat} : ∀ {l : List Blk} {y : Blk}, l.Pairwise (fun x y => x.1 < y.1) → y ∈ l.dropWhile (fun y => decide (y.1 < c)) → c ≤ y.1
  | [], _, _, h => by cases h
  | x :: t, y, p, h => by
    rw [List.dropWhile_cons] at h
    have hp := List.pairwise_cons.1 p
    by_cases hx : x.1 < c
    · rw [if_pos (by simpa using hx)] at h
      exact drop_ge hp.2 h
    · rw [if_neg (by simpa using hx)] at h
      rcases List.mem_cons.1 h with rfl | h'
      · omega
      · have := hp.1 _ h'; omega

theorem put_right {n : Nat} {l : List Blk} {x : Blk} (h : Right n l) (hx : In n x) (ho : Off l x) (hf : x.2 < n → fel x ∉ l) : Right n (putL l x) := by
  have hsub : (l.takeWhile (fun y => decide (y.1 < x.1))).Sublist l := List.takeWhile_sublist _
  have hsub' : (l.dropWhile (fun y => decide (y.1 < x.1))).Sublist l := List.dropWhile_sublist _
  have hl := h.ris
  rw [← List.takeWhile_append_dropWhile (p := fun y : Blk => decide (y.1 < x.1)) (l := l)] at hl
  have hl' := List.pairwise_append.1 hl
  refine ⟨h.ord, fun y hy => ?_, ?_, fun y hy hyn hfy => ?_⟩
  · rcases (mem_putL l x y).1 hy with rfl | hy
    · exact hx
    · exact h.inn _ hy
  · rw [putL]
    refine List.pairwise_append.2 ⟨hl'.1, List.pairwise_cons.2 ⟨fun y hy => ?_, hl'.2.1⟩, fun a ha b hb => ?_⟩
    · have hge := drop_ge h.up hy
      rcases off_side ho (hsub'.subset hy) with e | e
      · have := pow_pos' y.2; omega
      · exact e
    · rcases List.mem_cons.1 hb with rfl | hb
      · have hlt := take_lt ha
        rcases off_side ho (hsub.subset ha) with e | e
        · exact e
        · have := pow_pos' b.2; omega
      · exact hl'.2.2 _ ha _ hb
  · rcases (mem_putL l x y).1 hy with rfl | hy
    · rcases (mem_putL l y (fel y)).1 hfy with e | e
      · have h32 := pow_le32 h.ord
        have := hx.lt
        have h5 := h.ord
        exact fel_ne y.1 (by omega) y.2 (by omega) (congrArg Prod.fst e)
      · exact hf hyn e
    · rcases (mem_putL l x (fel y)).1 hfy with e | e
      · have e2 : fel x = y := by rw [← e, fel_fel]
        have e3 : x.2 = y.2 := by rw [← e2]; rfl
        exact hf (by omega) (e2 ▸ hy)
      · exact h.nof y hy hyn e
theorem put_cov (l : List Blk) (x : Blk) (p : Nat) : Cov (putL l x) p ↔ Cov l p ∨ cv x p := by
  constructor
  · rintro ⟨y, hy, hc⟩
    rcases (mem_putL l x y).1 hy with rfl | hy
    · exact Or.inr hc
    · exact Or.inl ⟨y, hy, hc⟩
  · rintro (⟨y, hy, hc⟩ | hc)
    · exact ⟨y, (mem_putL l x y).2 (Or.inr hy), hc⟩
    · exact ⟨x, (mem_putL l x x).2 (Or.inl rfl), hc⟩

/-- how many pages -/
def sumL (l : List Blk) : Nat := (l.map fun x => 2 ^ x.2).sum
theorem sum_app (a b : List Blk) : sumL (a ++ b) = sumL a + sumL b := by simp [sumL]
theorem sum_cons (x : Blk) (b : List Blk) : sumL (x :: b) = 2 ^ x.2 + sumL b := by simp [sumL]
theorem put_sum (l : List Blk) (x : Blk) : sumL (putL l x) = sumL l + 2 ^ x.2 := by
  have h : sumL l = sumL (l.takeWhile (fun y => decide (y.1 < x.1))) + sumL (l.dropWhile (fun y => decide (y.1 < x.1))) := by
    rw [← sum_app, List.takeWhile_append_dropWhile]
  rw [putL, sum_app, sum_cons, h]; omega

/-- a block taken out -/
def outL (l : List Blk) (i : Nat) : List Blk := l.take i ++ l.drop (i + 1)
theorem split_at {l : List Blk} {i : Nat} (hi : i < l.length) : l = l.take i ++ l[i] :: l.drop (i + 1) := by
  rw [← List.drop_eq_getElem_cons hi, List.take_append_drop]
theorem out_sum {l : List Blk} {i : Nat} (hi : i < l.length) : sumL (outL l i) + 2 ^ (l[i]).2 = sumL l := by
  have := congrArg sumL (split_at hi)
  rw [sum_app, sum_cons] at this
  rw [outL, sum_app]; omega
theorem out_sub {l : List Blk} {i : Nat} (hi : i < l.length) : (outL l i).Sublist l := by
  have h2 : (outL l i).Sublist (l.take i ++ l[i] :: l.drop (i + 1)) := (List.Sublist.refl _).append (List.sublist_cons_self _ _)
  have h3 : (l.take i ++ l[i] :: l.drop (i + 1)).Sublist l := by
    rw [← split_at hi]; exact List.Sublist.refl _
  exact h2.trans h3
theorem mem_out {l : List Blk} {i : Nat} (hi : i < l.length) (hp : l.Pairwise (fun x y => x.1 < y.1)) (y : Blk) : y ∈ outL l i ↔ y ∈ l ∧ y ≠ l[i] := by
  have h := split_at hi
  have hp2 := hp
  rw [h] at hp2
  have hp' := List.pairwise_append.1 hp2
  have hp'' := List.pairwise_cons.1 hp'.2.1
  constructor
  · intro hy
    refine ⟨(out_sub hi).subset hy, fun e => ?_⟩
    rcases List.mem_append.1 hy with a | a
    · have := hp'.2.2 _ a _ (List.mem_cons_self ..)
      rw [e] at this; exact absurd this (Nat.lt_irrefl _)
    · have := hp''.1 _ a
      rw [e] at this; exact absurd this (Nat.lt_irrefl _)
  · rintro ⟨hy, hne⟩
    rw [h] at hy
    rcases List.mem_append.1 hy with a | a
    · exact List.mem_append.2 (Or.inl a)
    · rcases List.mem_cons.1 a with e | a
      · exact absurd e hne
      · exact List.mem_append.2 (Or.inr a)
theorem Right.sub {n : Nat} {l l' : List Blk} (h : Right n l) (hs : l'.Sublist l) : Right n l' :=
  ⟨h.ord, fun _ hx => h.inn _ (hs.subset hx), h.ris.sublist hs, fun x hx hn hf => h.nof x (hs.subset hx) hn (hs.subset hf)⟩
theorem out_right {n : Nat} {l : List Blk} {i : Nat} (h : Right n l) (hi : i < l.length) : Right n (outL l i) := h.sub (out_sub hi)
theorem out_off {n : Nat} {l : List Blk} {i : Nat} (h : Right n l) (hi : i < l.length) : Off (outL l i) l[i] := by
  intro y hy p px py
  have hm := (mem_out hi h.up y).1 hy
  exact hm.2 (h.apart hm.1 (List.getElem_mem hi) py px)
theorem out_cov {n : Nat} {l : List Blk} {i : Nat} (h : Right n l) (hi : i < l.length) (p : Nat) : Cov (outL l i) p ∨ cv l[i] p ↔ Cov l p := by
  constructor
  · rintro (⟨y, hy, hc⟩ | hc)
    · exact ⟨y, (out_sub hi).subset hy, hc⟩
    · exact ⟨_, List.getElem_mem hi, hc⟩
  · rintro ⟨y, hy, hc⟩
    by_cases e : y = l[i]
    · exact Or.inr (e ▸ hc)
    · exact Or.inl ⟨y, (mem_out hi h.up y).2 ⟨hy, e⟩, hc⟩

/-- a block beside a row, on the way -/
structure Beside (n : Nat) (l : List Blk) (x : Blk) : Prop where
  right : Right n l
  inn : In n x
  off : Off l x
/-- two halves are one block -/
theorem halves (a o : Nat) (p : Nat) : cv (a, o + 1) p ↔ cv (a, o) p ∨ cv (a + 2 ^ o, o) p := by
  simp only [cv, Nat.pow_succ]
  omega
theorem join_cov {n : Nat} {x : Blk} (hn : n ≤ 5) (hx : In n x) (hlt : x.2 < n) (p : Nat) : cv (min x.1 (fel x).1, x.2 + 1) p ↔ cv x p ∨ cv (fel x) p := by
  have h32 := pow_le32 hn
  have := hx.lt
  have hm := fel_min x.1 (by omega) x.2 (by omega) hx.al
  obtain ⟨a, o⟩ := x
  simp only [fel] at *
  rw [halves]
  generalize a ^^^ 2 ^ o = b at *
  rcases Nat.le_total a b with hab | hab
  · have e1 : min a b = a := Nat.min_eq_left hab
    have e2 : max a b = b := Nat.max_eq_right hab
    rw [e1, e2] at hm
    rw [e1, ← hm.2]
  · have e1 : min a b = b := Nat.min_eq_right hab
    have e2 : max a b = a := Nat.max_eq_left hab
    rw [e1, e2] at hm
    rw [e1, ← hm.2]
    exact or_comm
/-- joined with its fellow: still beside the row -/
theorem join_step {n : Nat} {l : List Blk} {x : Blk} (h : Beside n l x) (hlt : x.2 < n) {i : Nat} (hi : i < l.length) (he : l[i] = fel x) :
    Beside n (outL l i) (min x.1 (fel x).1, x.2 + 1) ∧ (∀ p, Cov (outL l i) p ∨ cv (min x.1 (fel x).1, x.2 + 1) p ↔ Cov l p ∨ cv x p) ∧
    sumL (outL l i) + 2 ^ (x.2 + 1) = sumL l + 2 ^ x.2 := by
  have hn := h.right.ord
  have h32 := pow_le32 hn
  have hxl := h.inn.lt
  have hm := fel_min x.1 (by omega) x.2 (by omega) h.inn.al
  have hj := join_cov hn h.inn hlt
  refine ⟨⟨out_right h.right hi, ⟨by show x.2 + 1 ≤ n; omega, ?_, hm.1⟩, ?_⟩, fun p => ?_, ?_⟩
  · show min x.1 (fel x).1 < 2 ^ n
    have := Nat.min_le_left x.1 (fel x).1; omega
  · intro y hy p px py
    rcases (hj p).1 px with a | a
    · exact h.off y ((out_sub hi).subset hy) p a py
    · exact out_off h.right hi y hy p (he ▸ a) py
  · have hc := out_cov h.right hi p
    rw [he] at hc
    rw [hj p, ← hc]
    constructor
    · rintro (a | a | a)
      · exact Or.inl (Or.inl a)
      · exact Or.inr a
      · exact Or.inl (Or.inr a)
    · rintro ((a | a) | a)
      · exact Or.inl a
      · exact Or.inr (Or.inr a)
      · exact Or.inr (Or.inl a)
  · have := out_sum hi
    rw [he] at this
    have e : (fel x).2 = x.2 := rfl
    rw [e] at this
    rw [Nat.pow_succ]; omega
/-- given back: what it comes to -/
def Given (n : Nat) (l : List Blk) (x : Blk) (l' : List Blk) : Prop := Right n l' ∧ (∀ p, Cov l' p ↔ Cov l p ∨ cv x p) ∧ sumL l' = sumL l + 2 ^ x.2
theorem give_end {n : Nat} {l : List Blk} {x : Blk} (h : Beside n l x) (hf : x.2 < n → fel x ∉ l) : Given n l x (putL l x) :=
  ⟨put_right h.right h.inn h.off hf, put_cov l x, put_sum l x⟩
theorem given_unique {n : Nat} {l : List Blk} {x : Blk} {a b : List Blk} (ha : Given n l x a) (hb : Given n l x b) : a = b :=
  unique ha.1 hb.1 fun p _ => (ha.2.1 p).trans (hb.2.1 p).symm

/-- cut in halves, on the way down to an order -/
theorem cut_start {n : Nat} {l : List Blk} (h : Right n l) {i : Nat} (hi : i < l.length) :
    Beside n (outL l i) l[i] ∧ (∀ p, Cov (outL l i) p ∨ cv l[i] p ↔ Cov l p) ∧ sumL (outL l i) + 2 ^ (l[i]).2 = sumL l :=
  ⟨⟨out_right h hi, h.inn _ (List.getElem_mem hi), out_off h hi⟩, out_cov h hi, out_sum hi⟩
theorem cut_step {n : Nat} {l : List Blk} {a o : Nat} (h : Beside n l (a, o + 1)) :
    Beside n (putL l (a + 2 ^ o, o)) (a, o) ∧ (∀ p, Cov (putL l (a + 2 ^ o, o)) p ∨ cv (a, o) p ↔ Cov l p ∨ cv (a, o + 1) p) ∧
    sumL (putL l (a + 2 ^ o, o)) + 2 ^ o = sumL l + 2 ^ (o + 1) := by
  have hn := h.right.ord
  have h32 := pow_le32 hn
  have hord : o + 1 ≤ n := h.inn.ord
  have hlt : a < 2 ^ n := h.inn.lt
  have hal : a % 2 ^ (o + 1) = 0 := h.inn.al
  have htop : a + 2 ^ (o + 1) ≤ 2 ^ n := h.inn.top hn
  have hh := fel_half a (by omega) o (by omega) hal
  have hpo := pow_pos' o
  have hps : 2 ^ (o + 1) = 2 ^ o + 2 ^ o := by rw [Nat.pow_succ]; omega
  have hin2 : In n (a + 2 ^ o, o) := ⟨by show o ≤ n; omega, by show a + 2 ^ o < 2 ^ n; omega, hh.1⟩
  have hal0 : a % 2 ^ o = 0 := Nat.mod_eq_zero_of_dvd (Nat.dvd_trans ⟨2, Nat.pow_succ 2 o⟩ (Nat.dvd_of_mod_eq_zero hal))
  have hin1 : In n (a, o) := ⟨by show o ≤ n; omega, hlt, hal0⟩
  have hoff2 : Off l (a + 2 ^ o, o) := fun y hy p px py => h.off y hy p ((halves a o p).2 (Or.inr px)) py
  have hf : o < n → fel (a + 2 ^ o, o) ∉ l := fun _ hm => by
    have e : fel (a + 2 ^ o, o) = (a, o) := by simp only [fel]; rw [hh.2]
    rw [e] at hm
    exact h.off _ hm a (cv_self (a, o + 1)) (cv_self (a, o))
  refine ⟨⟨put_right h.right hin2 hoff2 hf, hin1, ?_⟩, fun p => ?_, ?_⟩
  · intro y hy p px py
    rcases (mem_putL l _ y).1 hy with rfl | hy
    · simp only [cv] at px py; omega
    · exact h.off y hy p ((halves a o p).2 (Or.inl px)) py
  · rw [put_cov, halves]
    constructor
    · rintro ((b | b) | b)
      · exact Or.inl b
      · exact Or.inr (Or.inr b)
      · exact Or.inr (Or.inl b)
    · rintro (b | b | b)
      · exact Or.inl (Or.inl b)
      · exact Or.inr b
      · exact Or.inl (Or.inr b)
  · rw [put_sum]
    show sumL l + 2 ^ o + 2 ^ o = sumL l + 2 ^ (o + 1)
    omega
/-- taken: what it comes to -/
def Taken (n : Nat) (l : List Blk) (x : Blk) (l' : List Blk) : Prop := Beside n l' x ∧ (∀ p, Cov l' p ∨ cv x p ↔ Cov l p) ∧ sumL l' + 2 ^ x.2 = sumL l
theorem taken_unique {n : Nat} {l : List Blk} {x : Blk} {a b : List Blk} (ha : Taken n l x a) (hb : Taken n l x b) : a = b := by
  refine unique ha.1.right hb.1.right fun p _ => ?_
  have h1 := ha.2.1 p
  have h2 := hb.2.1 p
  constructor
  · intro h
    obtain ⟨y, hy, hc⟩ := h
    rcases h2.2 (h1.1 (Or.inl ⟨y, hy, hc⟩)) with e | e
    · exact e
    · exact absurd (ha.1.off y hy p e hc) id
  · intro h
    obtain ⟨y, hy, hc⟩ := h
    rcases h1.2 (h2.1 (Or.inl ⟨y, hy, hc⟩)) with e | e
    · exact e
    · exact absurd (hb.1.off y hy p e hc) id
/-- what is taken is given back, and then all is as it was -/
theorem take_give {n : Nat} {l : List Blk} {x : Blk} {l' l'' : List Blk} (h : Right n l) (ht : Taken n l x l') (hg : Given n l' x l'') : l'' = l :=
  unique hg.1 h fun p _ => (hg.2.1 p).trans (ht.2.1 p)
/-- a block is had just if some aligned one of its order is all free -/
theorem fits_iff {n : Nat} {l : List Blk} (h : Right n l) (o : Nat) :
    (∃ y ∈ l, o ≤ y.2) ↔ ∃ p, p % 2 ^ o = 0 ∧ p + 2 ^ o ≤ 2 ^ n ∧ ∀ i, i < 2 ^ o → Cov l (p + i) := by
  constructor
  · rintro ⟨y, hy, ho⟩
    have hin := h.inn _ hy
    have hd : 2 ^ o ∣ 2 ^ y.2 := Nat.pow_dvd_pow 2 ho
    have hle : 2 ^ o ≤ 2 ^ y.2 := Nat.le_of_dvd (pow_pos' _) hd
    have htop := hin.top h.ord
    exact ⟨y.1, Nat.mod_eq_zero_of_dvd (Nat.dvd_trans hd (Nat.dvd_of_mod_eq_zero hin.al)), by omega, fun i hi => ⟨y, hy, by simp only [cv]; omega⟩⟩
  · rintro ⟨p, hal, htop, hall⟩
    have hon : o ≤ n := by
      rcases Nat.lt_or_ge n o with hlt | hge
      · have := Nat.pow_lt_pow_right (a := 2) (by decide) hlt; omega
      · exact hge
    obtain ⟨y, hy, hc⟩ := hall 0 (pow_pos' o)
    rw [Nat.add_zero] at hc
    refine ⟨y, hy, ?_⟩
    rcases Nat.lt_or_ge y.2 o with hlt | hge
    · have hin := h.inn _ hy
      have hyd := (cv_iff hin.al p).1 hc
      have hcov : ∀ q, q / 2 ^ o = p / 2 ^ o → Cov l q := fun q hq => by
        have hcq := (cv_iff (x := (p, o)) hal q).2 hq
        have h1 : p ≤ q := hcq.1
        have h2 : q < p + 2 ^ o := hcq.2
        have := hall (q - p) (by omega)
        rwa [show p + (q - p) = q by omega] at this
      exact absurd (no_inner h hon (A := p) hcov y.2 hlt y hy rfl (div_up (by omega) hyd.symm)) id
    · exact hge

/-- the pages of a row, in order -/
def pagesL (l : List Blk) : List Nat := l.flatMap fun x => (List.range (2 ^ x.2)).map (x.1 + ·)
theorem mem_pages (l : List Blk) (p : Nat) : p ∈ pagesL l ↔ Cov l p := by
  simp only [pagesL, List.mem_flatMap, List.mem_map, List.mem_range, Cov, cv]
  constructor
  · rintro ⟨x, hx, i, hi, rfl⟩
    exact ⟨x, hx, by omega, by omega⟩
  · rintro ⟨x, hx, h1, h2⟩
    exact ⟨x, hx, p - x.1, by omega, by omega⟩
theorem pages_len (l : List Blk) : (pagesL l).length = sumL l := by
  simp [pagesL, sumL, List.length_flatMap]
theorem pages_up : ∀ {l : List Blk}, l.Pairwise (fun x y => x.1 + 2 ^ x.2 ≤ y.1) → (pagesL l).Pairwise (· < ·)
  | [], _ => by simp [pagesL]
  | x :: t, h => by
    have hp := List.pairwise_cons.1 h
    have ih := pages_up hp.2
    have e : pagesL (x :: t) = (List.range (2 ^ x.2)).map (x.1 + ·) ++ pagesL t := by simp [pagesL]
    rw [e]
    refine List.pairwise_append.2 ⟨?_, ih, fun a ha b hb => ?_⟩
    · refine List.pairwise_map.2 (List.pairwise_lt_range.imp ?_)
      intro a b hab; omega
    · obtain ⟨i, hi, rfl⟩ := List.mem_map.1 ha
      obtain ⟨y, hy, hc⟩ := (mem_pages t b).1 hb
      have h1 := hp.1 y hy
      have h2 := List.mem_range.1 hi
      have h3 := hc.1
      omega
theorem nums_eq : ∀ {l l' : List Nat}, l.Pairwise (· < ·) → l'.Pairwise (· < ·) → (∀ x, x ∈ l ↔ x ∈ l') → l = l'
  | [], [], _, _, _ => rfl
  | [], y :: _, _, _, h => by have := (h y).2 (List.mem_cons_self ..); cases this
  | x :: _, [], _, _, h => by have := (h x).1 (List.mem_cons_self ..); cases this
  | x :: t, y :: t', p, p', h => by
    have hp := List.pairwise_cons.1 p
    have hp' := List.pairwise_cons.1 p'
    have e : x = y := by
      rcases List.mem_cons.1 ((h x).1 (List.mem_cons_self ..)) with e | hx
      · exact e
      · rcases List.mem_cons.1 ((h y).2 (List.mem_cons_self ..)) with e | hy
        · exact e.symm
        · have := hp.1 _ hy; have := hp'.1 _ hx; omega
    subst e
    have ht : t = t' := nums_eq hp.2 hp'.2 fun z => by
      constructor
      · intro hz
        rcases List.mem_cons.1 ((h z).1 (List.mem_cons_of_mem _ hz)) with e | hz'
        · subst e; exact absurd (hp.1 _ hz) (Nat.lt_irrefl _)
        · exact hz'
      · intro hz
        rcases List.mem_cons.1 ((h z).2 (List.mem_cons_of_mem _ hz)) with e | hz'
        · subst e; exact absurd (hp'.1 _ hz) (Nat.lt_irrefl _)
        · exact hz'
    rw [ht]
/-- a row of which these are the pages -/
theorem pages_of {n : Nat} {l : List Blk} (h : Right n l) {ps : List Nat} (hp : ps.Pairwise (· < ·)) (hc : ∀ p, Cov l p ↔ p ∈ ps) : pagesL l = ps :=
  nums_eq (pages_up h.ris) hp fun p => (mem_pages l p).trans (hc p)
/-- what is free tells how it is cut -/
theorem of_pages {n : Nat} {l l' : List Blk} (h : Right n l) (h' : Right n l') (hc : ∀ p, Cov l' p ↔ p ∈ pagesL l) : l' = l :=
  unique h' h fun p _ => (hc p).trans (mem_pages l p)
theorem right_nil {n : Nat} (hn : n ≤ 5) : Right n [] := ⟨hn, fun _ h => absurd h (by simp), List.Pairwise.nil, fun _ h => absurd h (by simp)⟩
theorem right_one {n : Nat} (hn : n ≤ 5) : Right n [(0, n)] := by
  refine ⟨hn, fun x h => ?_, by simp, fun x h hx => ?_⟩
  · rw [List.mem_singleton.1 h]; exact ⟨Nat.le_refl n, pow_pos' n, Nat.zero_mod _⟩
  · rw [List.mem_singleton.1 h] at hx; exact absurd hx (Nat.lt_irrefl _)
theorem cov_lt {n : Nat} {l : List Blk} (h : Right n l) {p : Nat} (hp : Cov l p) : p < 2 ^ n := by
  obtain ⟨x, hx, hc⟩ := hp
  have := (h.inn _ hx).top h.ord
  have := hc.2
  omega
/-- a right row is no longer than there are pages -/
theorem len_sum (l : List Blk) : l.length ≤ sumL l := by
  induction l with
  | nil => simp [sumL]
  | cons x t ih => rw [sum_cons, List.length_cons]; have := pow_pos' x.2; omega
theorem ris_sum : ∀ {l : List Blk} {m b : Nat}, l.Pairwise (fun x y => x.1 + 2 ^ x.2 ≤ y.1) → (∀ x ∈ l, b ≤ x.1 ∧ x.1 + 2 ^ x.2 ≤ m) → b ≤ m → b + sumL l ≤ m
  | [], _, _, _, _, hb => by simpa [sumL] using hb
  | x :: t, m, b, h, hm, hb => by
    have hp := List.pairwise_cons.1 h
    have hx := hm x (List.mem_cons_self ..)
    have ih := ris_sum (m := m) (b := x.1 + 2 ^ x.2) hp.2 (fun y hy => ⟨hp.1 y hy, (hm y (List.mem_cons_of_mem _ hy)).2⟩) hx.2
    rw [sum_cons]; omega
theorem Right.sum_le {n : Nat} {l : List Blk} (h : Right n l) : sumL l ≤ 2 ^ n := by
  have := ris_sum (m := 2 ^ n) (b := 0) h.ris (fun x hx => ⟨Nat.zero_le _, (h.inn x hx).top h.ord⟩) (Nat.zero_le _)
  omega
theorem Right.len_le {n : Nat} {l : List Blk} (h : Right n l) : l.length ≤ 32 :=
  Nat.le_trans (len_sum l) (Nat.le_trans h.sum_le (pow_le32 h.ord))
end Go.Proofs.Ytcokchfedaoccab.bd
