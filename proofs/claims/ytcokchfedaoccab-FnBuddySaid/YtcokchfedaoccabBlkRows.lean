/-
  Rows of blocks (two numbers each) in memory: what is read of them, and what a call owns of them.
-/
import Derived.Test.YtcokchfedaoccabRows
import Derived.WalkKit
import Derived.ProofKit
import Derived.WalkLawsBesides
import Derived.RegionTactic
import Derived.ChangeAlike
import Derived.Deep.OwnRows
import Derived.Below
namespace Go.Proofs.Ytcokchfedaoccab.brows
open Go.RowKit Go.Deep

/-- a block as the program has it: where, and its order -/
abbrev Pr := Int × Int
def cellsB (xs : List Pr) : List Value := xs.flatMap fun x => [.int .i64 x.1, .int .i64 x.2]
theorem cellsB_len (xs : List Pr) : (cellsB xs).length = xs.length * 2 := by
  induction xs with
  | nil => rfl
  | cons x t ih => simp [cellsB] at ih ⊢; omega
theorem cellsB_cons (x : Pr) (t : List Pr) : cellsB (x :: t) = .int .i64 x.1 :: .int .i64 x.2 :: cellsB t := rfl
theorem cellsB_app (a b : List Pr) : cellsB (a ++ b) = cellsB a ++ cellsB b := by simp [cellsB]
theorem cellsB_at : ∀ (xs : List Pr) (i : Nat) (hi : i < xs.length), (cellsB xs)[i * 2]? = some (.int .i64 xs[i].1) ∧ (cellsB xs)[i * 2 + 1]? = some (.int .i64 xs[i].2)
  | [], i, hi => by simp at hi
  | x :: t, 0, _ => ⟨rfl, rfl⟩
  | x :: t, i + 1, hi => by
    have h := cellsB_at t i (by simpa using hi)
    rw [cellsB_cons, show (i + 1) * 2 = i * 2 + 1 + 1 by omega, show i * 2 + 1 + 1 + 1 = (i * 2 + 1) + 1 + 1 by omega]
    simp only [List.getElem?_cons_succ, List.getElem_cons_succ]
    exact h
theorem cellsB_take : ∀ (xs : List Pr) (k : Nat), (cellsB xs).take (k * 2) = cellsB (xs.take k)
  | [], k => by simp [cellsB]
  | x :: t, 0 => by simp [cellsB]
  | x :: t, k + 1 => by
    rw [cellsB_cons, show (k + 1) * 2 = k * 2 + 1 + 1 by omega, List.take_succ_cons, List.take_succ_cons, cellsB_take t k, List.take_succ_cons, cellsB_cons]
theorem cellsB_drop : ∀ (xs : List Pr) (k : Nat), (cellsB xs).drop (k * 2) = cellsB (xs.drop k)
  | [], k => by simp [cellsB]
  | x :: t, 0 => by simp
  | x :: t, k + 1 => by
    rw [cellsB_cons, show (k + 1) * 2 = k * 2 + 1 + 1 by omega, List.drop_succ_cons, List.drop_succ_cons, cellsB_drop t k, List.drop_succ_cons]

/-- what a slice reads as -/
def Rd (w : World) (v : Value) (xs : List Pr) : Prop :=
  ∃ (a : Option Addr) (c : Nat), v = .slice a xs.length c ∧ xs.length ≤ c ∧ c ≤ maxLen ∧
    (0 < xs.length → ∃ g, a = some ⟨g, 0, none⟩ ∧ g < w.heap.size ∧ ∀ i (hi : i < xs.length), w.cell? ⟨g, i * 2, none⟩ = some (.int .i64 xs[i].1) ∧ w.cell? ⟨g, i * 2 + 1, none⟩ = some (.int .i64 xs[i].2))
theorem Rd.at {w : World} {v : Value} {xs : List Pr} (h : Rd w v xs) (hn : 0 < xs.length) :
    ∃ g c, v = .slice (some ⟨g, 0, none⟩) xs.length c ∧ xs.length ≤ c ∧ c ≤ maxLen ∧ g < w.heap.size ∧ ∀ i (hi : i < xs.length), w.cell? ⟨g, i * 2, none⟩ = some (.int .i64 xs[i].1) ∧ w.cell? ⟨g, i * 2 + 1, none⟩ = some (.int .i64 xs[i].2) := by
  obtain ⟨a, c, rfl, h1, h2, h3⟩ := h
  obtain ⟨g, rfl, hg, hc⟩ := h3 hn
  exact ⟨g, c, rfl, h1, h2, hg, hc⟩
theorem Rd.form {w : World} {v : Value} {xs : List Pr} (h : Rd w v xs) : ∃ a c, v = .slice a xs.length c ∧ xs.length ≤ c ∧ c ≤ maxLen := by
  obtain ⟨a, c, rfl, h1, h2, _⟩ := h
  exact ⟨a, c, rfl, h1, h2⟩
theorem Rd.below {w w' : World} {v : Value} {xs : List Pr} (h : Rd w v xs) (hb : Below w.heap.size w w') : Rd w' v xs := by
  obtain ⟨a, c, rfl, h1, h2, h3⟩ := h
  refine ⟨a, c, rfl, h1, h2, fun hn => ?_⟩
  obtain ⟨g, rfl, hg, hc⟩ := h3 hn
  exact ⟨g, rfl, Nat.lt_of_lt_of_le hg hb.size, fun i hi => ⟨(hb.cell (p := ⟨g, i * 2, none⟩) hg).trans (hc i hi).1, (hb.cell (p := ⟨g, i * 2 + 1, none⟩) hg).trans (hc i hi).2⟩⟩

/-- a row of blocks that is owned -/
def Row (w : World) (base : Nat) (v : Value) (xs : List Pr) : Prop := w.ownsRow base 68 2 v xs.length (cellsB xs)
theorem Row.rd {w : World} {base : Nat} {v : Value} {xs : List Pr} (h : Row w base v xs) : Rd w v xs := by
  have h' := h
  rcases h.2 with ⟨rfl, h0⟩ | ⟨g, cap, cur, rfl, hb, hc, hn, hm, hs, ht⟩
  · exact ⟨none, 0, by rw [h0], by omega, by decide, fun hp => by omega⟩
  · refine ⟨some ⟨g, 0, none⟩, cap, rfl, hn, hm, fun _ => ⟨g, rfl, (Array.getElem?_eq_some_iff.1 hc).1, fun i hi => ?_⟩⟩
    have ha := cellsB_at xs i hi
    constructor
    · rw [World.ownsRow.cellAt h' (i * 2) (by omega)]; exact ha.1
    · rw [World.ownsRow.cellAt h' (i * 2 + 1) (by omega)]; exact ha.2
theorem Row.later {w w' : World} {base : Nat} {v : Value} {xs : List Pr} (h : Row w base v xs) (hb : Below w.heap.size w w') : Row w' base v xs := by
  obtain ⟨hl, hr⟩ := h
  refine ⟨hl, ?_⟩
  rcases hr with h0 | ⟨g, cap, cur, hv, hbg, hc, hrest⟩
  · exact Or.inl h0
  · exact Or.inr ⟨g, cap, cur, hv, hbg, (hb.block g (Array.getElem?_eq_some_iff.1 hc).1).trans hc, hrest⟩
end Go.Proofs.Ytcokchfedaoccab.brows
