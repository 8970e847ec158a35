/-
  Plain facts on blocks: a right row of free blocks is told by the pages that it covers; what is put in, taken out and joined. No program stands in it.
-/
import Derived.Laws.Entries
import Derived.Laws.BytesArg
namespace Go.Proofs.Ytcokchfedaoccab.bd

/-- a block: where it is, and its order -/
abbrev Blk := Nat × Nat
def cv (x : Blk) (p : Nat) : Prop := x.1 ≤ p ∧ p < x.1 + 2 ^ x.2
def Cov (l : List Blk) (p : Nat) : Prop := ∃ x ∈ l, cv x p
/-- an aligned block in the pages of order n -/
structure In (n : Nat) (x : Blk) : Prop where
  ord : x.2 ≤ n
  lt : x.1 < 2 ^ n
  al : x.1 % 2 ^ x.2 = 0
def fel (x : Blk) : Blk := (x.1 ^^^ 2 ^ x.2, x.2)
structure Right (n : Nat) (l : List Blk) : Prop where
  ord : n ≤ 5
  inn : ∀ x ∈ l, In n x
  ris : l.Pairwise (fun x y => x.1 + 2 ^ x.2 ≤ y.1)
  nof : ∀ x ∈ l, x.2 < n → fel x ∉ l

theorem pow_pos' (o : Nat) : 0 < 2 ^ o := Nat.two_pow_pos o
theorem div_up {p r q o : Nat} (h : q ≤ o) (e : p / 2 ^ q = r / 2 ^ q) : p / 2 ^ o = r / 2 ^ o := by
  obtain ⟨d, rfl⟩ := Nat.exists_eq_add_of_le h
  rw [Nat.pow_add, ← Nat.div_div_eq_div_mul, e, Nat.div_div_eq_div_mul]
theorem al_mul {a s : Nat} (h : a % s = 0) : a = s * (a / s) := by
  have := Nat.div_add_mod a s; omega
theorem cv_iff {x : Blk} (h : x.1 % 2 ^ x.2 = 0) (p : Nat) : cv x p ↔ p / 2 ^ x.2 = x.1 / 2 ^ x.2 := by
  obtain ⟨a, o⟩ := x
  simp only [cv] at *
  have hs := pow_pos' o
  generalize 2 ^ o = s at *
  have ha := al_mul h
  generalize a / s = k at *
  subst ha
  constructor
  · intro ⟨h1, h2⟩
    apply Nat.div_eq_of_lt_le
    · rw [Nat.mul_comm]; exact h1
    · rw [Nat.mul_comm, Nat.mul_add, Nat.mul_one]; exact h2
  · intro e
    subst e
    have h1 := Nat.div_mul_le_self p s
    have h2 := Nat.lt_div_mul_add hs (a := p)
    rw [Nat.mul_comm] at h1 h2
    exact ⟨h1, h2⟩
theorem cv_self (x : Blk) : cv x x.1 := ⟨Nat.le_refl _, by have := pow_pos' x.2; omega⟩

theorem end_all : ∀ n, n < 6 → ∀ o, o ≤ n → ∀ a, a < 2 ^ n → a % 2 ^ o = 0 → a + 2 ^ o ≤ 2 ^ n := by
  intro n hn o ho a ha hm
  have hd : 2 ^ n = 2 ^ o * 2 ^ (n - o) := by rw [← Nat.pow_add]; congr 1; omega
  have hs := pow_pos' o
  rw [hd] at ha ⊢
  generalize 2 ^ o = s at *
  generalize 2 ^ (n - o) = t at *
  have ha' := al_mul hm
  generalize a / s = k at *
  subst ha'
  have hk : k < t := Nat.lt_of_mul_lt_mul_left ha
  have : s * (k + 1) ≤ s * t := Nat.mul_le_mul_left s hk
  rw [Nat.mul_add, Nat.mul_one] at this
  exact this
theorem pow_le32 {n : Nat} (h : n ≤ 5) : 2 ^ n ≤ 32 := Nat.pow_le_pow_right (by decide) h
theorem In.top {n : Nat} {x : Blk} (hn : n ≤ 5) (h : In n x) : x.1 + 2 ^ x.2 ≤ 2 ^ n := end_all n (by omega) x.2 h.ord x.1 h.lt h.al

/-- facts on the fellow -/
theorem fel_al : ∀ a, a < 32 → ∀ o, o < 5 → a % 2 ^ o = 0 → (a ^^^ 2 ^ o) % 2 ^ o = 0 := by decide +kernel
theorem fel_up : ∀ a, a < 32 → ∀ o, o < 5 → (a ^^^ 2 ^ o) / 2 ^ (o + 1) = a / 2 ^ (o + 1) := by decide +kernel
theorem fel_ne : ∀ a, a < 32 → ∀ o, o < 5 → a ^^^ 2 ^ o ≠ a := by decide +kernel
theorem fel_fel (x : Blk) : fel (fel x) = x := by
  obtain ⟨a, o⟩ := x
  simp [fel, Nat.xor_assoc]
theorem fel_min : ∀ a, a < 32 → ∀ o, o < 5 → a % 2 ^ o = 0 → (min a (a ^^^ 2 ^ o)) % 2 ^ (o + 1) = 0 ∧ max a (a ^^^ 2 ^ o) = min a (a ^^^ 2 ^ o) + 2 ^ o := by decide +kernel
theorem fel_half : ∀ a, a < 32 → ∀ o, o < 5 → a % 2 ^ (o + 1) = 0 → (a + 2 ^ o) % 2 ^ o = 0 ∧ (a + 2 ^ o) ^^^ 2 ^ o = a := by decide +kernel
theorem fel_in {n : Nat} {x : Blk} (hn : n ≤ 5) (h : In n x) (hx : x.2 < n) : In n (fel x) := by
  have := pow_le32 hn
  have := h.lt
  exact ⟨h.ord, Nat.xor_lt_two_pow h.lt (Nat.pow_lt_pow_right (by decide) hx), fel_al x.1 (by omega) x.2 (by omega) h.al⟩

theorem pair_cases {α : Type} {R : α → α → Prop} {l : List α} (h : l.Pairwise R) {x y : α} (hx : x ∈ l) (hy : y ∈ l) : x = y ∨ R x y ∨ R y x := by
  induction h with
  | nil => cases hx
  | cons hz _ ih =>
    rcases List.mem_cons.1 hx with rfl | hx' <;> rcases List.mem_cons.1 hy with rfl | hy'
    · exact Or.inl rfl
    · exact Or.inr (Or.inl (hz _ hy'))
    · exact Or.inr (Or.inr (hz _ hx'))
    · exact ih hx' hy'
/-- two blocks of a right row that share a page are one -/
theorem Right.apart {n : Nat} {l : List Blk} (h : Right n l) {x y : Blk} (hx : x ∈ l) (hy : y ∈ l) {p : Nat} (px : cv x p) (py : cv y p) : x = y := by
  rcases pair_cases h.ris hx hy with e | e | e
  · exact e
  · exact absurd px.1 (by have := px.2; have := py.1; omega)
  · exact absurd px.1 (by have := py.2; have := px.1; omega)

/-- where all pages of an aligned block are covered, no block of the row lies within it and is smaller -/
theorem no_inner {n : Nat} {l : List Blk} (h : Right n l) {A O : Nat} (hO : O ≤ n) (hA : ∀ p, p / 2 ^ O = A / 2 ^ O → Cov l p) :
    ∀ o, o < O → ∀ x ∈ l, x.2 = o → x.1 / 2 ^ O = A / 2 ^ O → False := by
  intro o
  induction o using Nat.strongRecOn with
  | ind o ih =>
    intro hoO x hx ho hxA
    obtain ⟨a, o'⟩ := x
    simp only at ho hxA
    subst ho
    have hin := h.inn _ hx
    have h5 := h.ord
    have h32 := pow_le32 h5
    have hlt : a < 2 ^ n := hin.lt
    have hup := fel_up a (by omega) o' (by omega)
    have hfA : (a ^^^ 2 ^ o') / 2 ^ O = A / 2 ^ O := (div_up (by omega) hup).trans hxA
    obtain ⟨y, hy, hc⟩ := hA _ hfA
    have hyin := h.inn _ hy
    have hyd := (cv_iff hyin.al _).1 hc
    rcases Nat.lt_trichotomy y.2 o' with hlt' | heq | hgt
    · exact ih y.2 hlt' (by omega) y hy rfl ((div_up (by omega) hyd.symm).trans hfA)
    · obtain ⟨b, q⟩ := y
      simp only at heq hyd hyin hc
      subst heq
      have fa := fel_al a (by omega) q (by omega) hin.al
      have e : b = a ^^^ 2 ^ q := by
        have e1 := al_mul (show b % 2 ^ q = 0 from hyin.al)
        have e2 := al_mul fa
        rw [e1, e2, hyd]
      subst e
      exact h.nof _ hx (show q < n by omega) hy
    · have ha : a / 2 ^ y.2 = y.1 / 2 ^ y.2 := ((div_up (by omega) hup).symm).trans hyd
      have e := h.apart hx hy (cv_self (a, o')) ((cv_iff hyin.al a).2 ha)
      rw [← e] at hgt
      exact absurd hgt (Nat.lt_irrefl _)

theorem mem_of {n : Nat} {l l' : List Blk} (h : Right n l) (h' : Right n l') (hc : ∀ p, p < 2 ^ n → (Cov l p ↔ Cov l' p)) {x : Blk} (hx : x ∈ l) : x ∈ l' := by
  have hin := h.inn _ hx
  obtain ⟨y, hy, hyc⟩ := (hc x.1 hin.lt).1 ⟨x, hx, cv_self x⟩
  have hyin := h'.inn _ hy
  have hyd := (cv_iff hyin.al _).1 hyc
  have below : ∀ z : Blk, In n z → ∀ p, p / 2 ^ z.2 = z.1 / 2 ^ z.2 → p < 2 ^ n := fun z hz p hp => by
    have := (cv_iff hz.al p).2 hp
    have := hz.top h.ord
    have := (cv_iff hz.al p).2 hp |>.2
    omega
  rcases Nat.lt_trichotomy x.2 y.2 with h1 | h1 | h1
  · exact absurd (no_inner h hyin.ord (A := y.1) (fun p hp => (hc p (below y hyin p hp)).2 ⟨y, hy, (cv_iff hyin.al p).2 hp⟩) x.2 h1 x hx rfl hyd) id
  · have e : x = y := by
      obtain ⟨a, o⟩ := x
      obtain ⟨b, q⟩ := y
      simp only at h1 hyd
      subst h1
      have e1 := al_mul (show a % 2 ^ o = 0 from hin.al)
      have e2 := al_mul (show b % 2 ^ o = 0 from hyin.al)
      rw [e1, e2, hyd]
    rw [e]; exact hy
  · exact absurd (no_inner h' hin.ord (A := x.1) (fun p hp => (hc p (below x hin p hp)).1 ⟨x, hx, (cv_iff hin.al p).2 hp⟩) y.2 h1 y hy rfl (div_up (by omega) hyd.symm)) id

theorem sorted_eq : ∀ {l l' : List Blk}, l.Pairwise (fun x y => x.1 < y.1) → l'.Pairwise (fun x y => x.1 < y.1) → (∀ x, x ∈ l ↔ x ∈ l') → l = l'
  | [], [], _, _, _ => rfl
  | [], y :: _, _, _, h => by have := (h y).2 (List.mem_cons_self ..); cases this
  | x :: _, [], _, _, h => by have := (h x).1 (List.mem_cons_self ..); cases this
  | x :: t, y :: t', p, p', h => by
    have hp := List.pairwise_cons.1 p
    have hp' := List.pairwise_cons.1 p'
    have e : x = y := by
      rcases List.mem_cons.1 ((h x).1 (List.mem_cons_self ..)) with e | hx
      · exact e
      · rcases List.mem_cons.1 ((h y).2 (List.mem_cons_self ..)) with e | hy
        · exact e.symm
        · have := hp.1 _ hy; have := hp'.1 _ hx; omega
    subst e
    have ht : t = t' := sorted_eq hp.2 hp'.2 fun z => by
      constructor
      · intro hz
        rcases List.mem_cons.1 ((h z).1 (List.mem_cons_of_mem _ hz)) with e | hz'
        · subst e; exact absurd (hp.1 _ hz) (Nat.lt_irrefl _)
        · exact hz'
      · intro hz
        rcases List.mem_cons.1 ((h z).2 (List.mem_cons_of_mem _ hz)) with e | hz'
        · subst e; exact absurd (hp'.1 _ hz) (Nat.lt_irrefl _)
        · exact hz'
    rw [ht]

theorem Right.up {n : Nat} {l : List Blk} (h : Right n l) : l.Pairwise (fun x y => x.1 < y.1) :=
  h.ris.imp fun {x y} hxy => by have := pow_pos' x.2; omega
/-- a right row is told by the pages that it covers -/
theorem unique {n : Nat} {l l' : List Blk} (h : Right n l) (h' : Right n l') (hc : ∀ p, p < 2 ^ n → (Cov l p ↔ Cov l' p)) : l = l' :=
  sorted_eq h.up h'.up fun _ => ⟨mem_of h h' hc, mem_of h' h fun p hp => (hc p hp).symm⟩
end Go.Proofs.Ytcokchfedaoccab.bd
