/-
  What BuddyOf tells, and the walk of the specification's BuddyOf.
-/
import Derived.Test.YtcokchfedaoccabBuddyAns
import Derived.Test.YtcokchfedaoccabBuddyPages
namespace Go.Proofs.Ytcokchfedaoccab.bspec
open Go.RowKit Go.Deep Go.Sort
open Go.Proofs.Ytcokchfedaoccab
open Go.Proofs.Ytcokchfedaoccab.brows
open Go.Proofs.Ytcokchfedaoccab.bd (Blk)
set_option linter.unusedVariables false

/-- what a slice of numbers reads as -/
def IRd (w : World) (v : Value) (ps : List Int) : Prop :=
  ∃ (a : Option Addr) (c : Nat), v = .slice a ps.length c ∧ ps.length ≤ c ∧ c ≤ maxLen ∧
    (0 < ps.length → ∃ g, a = some ⟨g, 0, none⟩ ∧ g < w.heap.size ∧ ∀ i : Nat, i < ps.length → w.cell? ⟨g, i, none⟩ = some (.int .i64 (ps.getD i 0)))
theorem IRd.below {w w' : World} {v : Value} {ps : List Int} (h : IRd w v ps) (hb : Below w.heap.size w w') : IRd w' v ps := by
  obtain ⟨a, c, rfl, h1, h2, h3⟩ := h
  refine ⟨a, c, rfl, h1, h2, fun hn => ?_⟩
  obtain ⟨g, rfl, hg, hc⟩ := h3 hn
  exact ⟨g, rfl, Nat.lt_of_lt_of_le hg hb.size, fun i hi => (hb.cell (p := ⟨g, i, none⟩) hg).trans (hc i hi)⟩
theorem IRd.of {w : World} {base : Nat} {v : Value} {ps : List Int} (h : irows.Row w base v ps) : IRd w v ps := by
  have h' := h
  rcases h.2 with ⟨rfl, h0⟩ | ⟨g, cap, cur, rfl, hb, hc, hn, hm, hs, ht⟩
  · exact ⟨none, 0, by rw [h0], by omega, by decide, fun hp => by omega⟩
  · refine ⟨some ⟨g, 0, none⟩, cap, rfl, hn, hm, fun _ => ⟨g, rfl, (Array.getElem?_eq_some_iff.1 hc).1, fun i hi => ?_⟩⟩
    rw [World.ownsRow.cellAt h' i (by omega)]
    simp [List.getElem?_eq_getElem hi, List.getD]

/-- page i of the row is one that may be there -/
def OkAt (n : Nat) (ps : List Int) (i : Nat) : Prop := 0 ≤ ps.getD i 0 ∧ ps.getD i 0 < ((2 ^ n : Nat) : Int) ∧ (0 < i → ps.getD (i - 1) 0 < ps.getD i 0)
/-- the row up to place k is right, and l covers just its pages -/
structure Upto (n : Nat) (ps : List Int) (k : Nat) (l : List Blk) : Prop where
  ok : ∀ i, i < k → OkAt n ps i
  right : bd.Right n l
  cov : ∀ p : Nat, bd.Cov l p ↔ ∃ i, i < k ∧ ps.getD i 0 = (p : Int)
theorem upto_zero {n : Nat} (hn : n ≤ 5) (ps : List Int) : Upto n ps 0 [] :=
  ⟨fun i hi => by omega, ⟨hn, fun x hx => by simp at hx, by simp, fun x hx => by simp at hx⟩, fun p => ⟨fun ⟨x, hx, _⟩ => by simp at hx, fun ⟨i, hi, _⟩ => by omega⟩⟩
theorem upto_less {n : Nat} {ps : List Int} {k : Nat} (h : ∀ i, i < k → OkAt n ps i) : ∀ j i, i < j → j < k → ps.getD i 0 < ps.getD j 0
  | 0, i, hi, _ => by omega
  | j + 1, i, hi, hj => by
    have h1 := (h (j + 1) hj).2.2 (by omega)
    rw [Nat.add_sub_cancel] at h1
    rcases Nat.lt_succ_iff_lt_or_eq.1 hi with h2 | h2
    · have := upto_less h j i h2 (by omega); omega
    · subst h2; exact h1
/-- the block of one page -/
theorem one_page {n : Nat} {ps : List Int} {k : Nat} {l : List Blk} (h : Upto n ps k l) (hk : OkAt n ps k) :
    ∃ p : Nat, ps.getD k 0 = (p : Int) ∧ p < 2 ^ n ∧ bd.In n (p, 0) ∧ bd.Off l (p, 0) ∧ ∀ l', bd.Given n l (p, 0) l' → Upto n ps (k + 1) l' := by
  obtain ⟨h0, h1, h2⟩ := hk
  obtain ⟨p, hp⟩ : ∃ p : Nat, ps.getD k 0 = (p : Int) := ⟨(ps.getD k 0).toNat, by omega⟩
  have hok : ∀ i, i < k + 1 → OkAt n ps i := fun i hi => by
    rcases Nat.lt_succ_iff_lt_or_eq.1 hi with h | e
    · exact Upto.ok ‹_› i h
    · subst e; exact ⟨h0, h1, h2⟩
  have hpn : p < 2 ^ n := by omega
  refine ⟨p, hp, hpn, ⟨by simp, hpn, by simp [Nat.mod_one]⟩, fun y hy q hq hc => ?_, fun l' hg => ⟨hok, hg.1, fun q => ?_⟩⟩
  · have e : q = p := by have := hq.1; have := hq.2; simp only [Nat.pow_zero] at *; omega
    subst e
    obtain ⟨i, hi, hv⟩ := (h.cov q).1 ⟨y, hy, hc⟩
    have := upto_less hok k i hi (by omega)
    omega
  · rw [hg.2.1 q, h.cov q]
    constructor
    · rintro (⟨i, hi, hv⟩ | hc)
      · exact ⟨i, by omega, hv⟩
      · have e : q = p := by have := hc.1; have := hc.2; simp only [Nat.pow_zero] at *; omega
        subst e; exact ⟨k, by omega, hp⟩
    · rintro ⟨i, hi, hv⟩
      rcases Nat.lt_succ_iff_lt_or_eq.1 hi with h | e
      · exact Or.inl ⟨i, h, hv⟩
      · subst e
        have e : q = p := by omega
        subst e
        exact Or.inr ⟨Nat.le_refl _, by simp⟩

/-- BuddyOf's answer -/
def OfAns (o : Int) (ps : List Int) (a : Ans) : Prop :=
  (400 < ps.length ∧ a = illA 2) ∨ (ps.length ≤ 400 ∧ ordB o = false ∧ a = illA 1) ∨
  ∃ n : Nat, o = (n : Int) ∧ n ≤ 5 ∧ ps.length ≤ 400 ∧ (((∃ i, i < ps.length ∧ ¬ OkAt n ps i) ∧ a = illA 1) ∨ ∃ l, Upto n ps ps.length l ∧ a = ((n : Int), l.map emb, 0, 0))
theorem of_one {o : Int} {ps : List Int} {a b : Ans} (ha : OfAns o ps a) (hb : OfAns o ps b) : a = b := by
  rcases ha with ⟨h1, rfl⟩ | ⟨h1, h2, rfl⟩ | ⟨n, rfl, hn, h1, ha⟩
  · rcases hb with ⟨_, rfl⟩ | ⟨h3, _, rfl⟩ | ⟨n, rfl, hn, h3, _⟩
    · rfl
    · omega
    · omega
  · rcases hb with ⟨h3, rfl⟩ | ⟨h3, _, rfl⟩ | ⟨n, rfl, hn, h3, _⟩
    · omega
    · rfl
    · rw [ordB_nat hn] at h2; cases h2
  · rcases hb with ⟨h3, rfl⟩ | ⟨h3, h2, rfl⟩ | ⟨n', e, _, h3, hb⟩
    · omega
    · rw [ordB_nat hn] at h2; cases h2
    · have e' : n = n' := by omega
      subst e'
      rcases ha with ⟨⟨i, hi, hne⟩, rfl⟩ | ⟨l, hl, rfl⟩
      · rcases hb with ⟨_, rfl⟩ | ⟨l, hl, rfl⟩
        · rfl
        · exact absurd (hl.ok i hi) hne
      · rcases hb with ⟨⟨i, hi, hne⟩, rfl⟩ | ⟨l', hl', rfl⟩
        · exact absurd (hl.ok i hi) hne
        · rw [bd.unique hl.right hl'.right fun p _ => (hl.cov p).trans (hl'.cov p).symm]
theorem of_len {o : Int} {ps : List Int} {a : Ans} (h : OfAns o ps a) : a.2.1.length ≤ 32 := by
  rcases h with ⟨_, rfl⟩ | ⟨_, _, rfl⟩ | ⟨n, _, _, _, ⟨_, rfl⟩ | ⟨l, hl, rfl⟩⟩
  · simp [illA]
  · simp [illA]
  · simp [illA]
  · simpa using hl.right.len_le

theorem field_buddy (a b c d : Value) (wx : World) : (Instr.field 37 (.agg #[a, b, c, d]) 0).run Try.prog wx = .ok (.agg #[a, b]) wx := by kernel_rfl
end Go.Proofs.Ytcokchfedaoccab.bspec
