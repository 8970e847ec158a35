/-
  What the laws on buddies that answer share: what stands while an answer is compared, marked and held.
-/
import Derived.Test.YtcokchfedaoccaaBuddyLaws
import Derived.Test.YtcokchfedaoccaaBuddyGiveI
namespace Go.Proofs.Ytcokchfedaoccaa.blaws
open Go.RowKit Go.Deep Go.Sort
open Go.Proofs.Ytcokchfedaoccaa
open Go.Proofs.Ytcokchfedaoccaa.brows
open Go.Proofs.Ytcokchfedaoccaa.bspec
set_option linter.unusedVariables false

theorem new_len {o : Int} {a : Ans} (h : NewAns o a) : a.2.1.length ≤ 32 := by
  rcases h with ⟨_, rfl⟩ | ⟨n, _, _, rfl⟩ <;> simp [illA]
theorem take_len {m : Int} {xs : List Pr} {o : Int} {a : Ans} (h : TakeAns m xs o a) : a.2.1.length ≤ 32 := by
  rcases h with ⟨_, rfl⟩ | ⟨n, k, l, _, _, _, _, _, ⟨_, rfl⟩ | ⟨i, x, l', _, _, ht, rfl⟩⟩
  · simp [illA]
  · simp [illA]
  · simpa using ht.1.right.len_le
theorem give_len {m : Int} {xs : List Pr} {x : Pr} {a : Ans} (h : GiveAns m xs x a) : a.2.1.length ≤ 32 := by
  rcases h with ⟨_, rfl⟩ | ⟨n, l, y, _, _, _, _, _, ⟨_, rfl⟩ | ⟨l', _, ht, rfl⟩⟩
  · simp [illA]
  · simp [illA]
  · simpa using ht.1.len_le

/-- an answer in a box -/
def Ob (w : World) (R : Nat) (a : Ans) (v : Value) : Prop := Res w R (.int .i64 a.1) v (.int .i64 a.2.2.1) (.int .i64 a.2.2.2)
theorem Ob.lt {w : World} {R : Nat} {a : Ans} {v : Value} (h : Ob w R a v) : R < w.heap.size := Res.lt h
theorem Ob.below {w w' : World} {R : Nat} {a : Ans} {v : Value} (h : Ob w R a v) (hb : Below w.heap.size w w') : Ob w' R a v := Res.below h hb (Res.lt h)
theorem Ob.cells {w : World} {R : Nat} {m : Int} {xs : List Pr} {p q : Int} {v : Value} (h : Ob w R (m, xs, p, q) v) :
    w.cell? ⟨R, 0, none⟩ = some (.int .i64 m) ∧ w.cell? ⟨R, 1, none⟩ = some v ∧ w.cell? ⟨R, 2, none⟩ = some (.int .i64 p) ∧ w.cell? ⟨R, 3, none⟩ = some (.int .i64 q) := (Res.cells h).1
theorem ob_new (w : World) (m : Int) (xs : List Pr) (p q : Int) (v : Value) : Ob (w.alloc (.cells #[.int .i64 m, v, .int .i64 p, .int .i64 q] 34)) w.heap.size (m, xs, p, q) v := (MapKept.heap_alloc w _).1
/-- the specification's answer, kept: its box and its row lie below a mark -/
structure Kept (w : World) (R : Nat) (a : Ans) (v : Value) : Prop where
  box : Ob w R a v
  row : Rd w v a.2.1
theorem Kept.below {w w' : World} {R : Nat} {a : Ans} {v : Value} (h : Kept w R a v) (hb : Below w.heap.size w w') : Kept w' R a v := ⟨h.box.below hb, h.row.below hb⟩
theorem kept_new {w : World} {m : Int} {xs : List Pr} {p q : Int} {v : Value} (h : Rd w v xs) : Kept (w.alloc (.cells #[.int .i64 m, v, .int .i64 p, .int .i64 q] 34)) w.heap.size (m, xs, p, q) v :=
  ⟨ob_new w m xs p q v, h.below ((Below.refl _ _).alloc (Nat.le_refl _) _)⟩
theorem row_block {w : World} {base : Nat} {v : Value} {xs : List Pr} (h : Row w base v xs) {k : Nat} (hk : v.ownBlock = some k) : base ≤ k ∧ k < w.heap.size := by
  rcases h.2 with ⟨rfl, _⟩ | ⟨g, cap, cur, rfl, hb, hc, _⟩
  · simp [Value.ownBlock] at hk
  · simp [Value.ownBlock] at hk
    have := (Array.getElem?_eq_some_iff.1 hc).1
    omega
/-- the program's answer: its box, its row owned from base on -/
structure Held (w : World) (base R : Nat) (a : Ans) (v : Value) (ys : List Pr) : Prop where
  box : Ob w R a v
  row : Row w base v ys
  apart : ∀ g, v.ownBlock = some g → g ≠ R
theorem Held.below {w w' : World} {base R : Nat} {a : Ans} {v : Value} {ys : List Pr} (h : Held w base R a v ys) (hb : Below w.heap.size w w') : Held w' base R a v ys := ⟨h.box.below hb, h.row.later hb, h.apart⟩
theorem held_new {w : World} {base : Nat} {m : Int} {xs : List Pr} {p q : Int} {v : Value} (h : Row w base v xs) : Held (w.alloc (.cells #[.int .i64 m, v, .int .i64 p, .int .i64 q] 34)) base w.heap.size (m, xs, p, q) v xs :=
  ⟨ob_new w m xs p q v, h.later ((Below.refl _ _).alloc (Nat.le_refl _) _), fun g hg => by
    have := (row_block h hg).2; omega⟩
theorem Held.marked {w w' : World} {base R n : Nat} {a : Ans} {v : Value} {ys : List Pr} {k : Int} {e : Ending} (h : Held w base R a v ys) (hm : MarkedB base v n k w e w') : Held w' base R a v (runB k n) :=
  ⟨(hm.2.2.block R h.box.lt (fun e => h.apart R e.symm rfl)).trans h.box, hm.2.1, h.apart⟩
theorem marked_below {u w w' : World} {base n : Nat} {v : Value} {ys : List Pr} {k : Int} {e : Ending} (h : Row w base v ys) (hm : MarkedB base v n k w e w') (hu : Below u.heap.size u w) (hb : u.heap.size ≤ base) : Below u.heap.size u w' :=
  hu.grown hm.2.2 hu.size (fun j hj => Nat.le_trans hb (row_block h hj).1)
theorem Held.other {w w' : World} {base R : Nat} {a : Ans} {v : Value} {ys : List Pr} {u : Option Nat} (h : Held w base R a v ys) (hg : w.grownBy w' u) (hu : ∀ g, u = some g → g < base) (hR : base ≤ R) : Held w' base R a v ys :=
  ⟨(hg.block R h.box.lt (fun e => by have := hu R e.symm; omega)).trans h.box, h.row.turn fun g hb hl _ => hg.block g hl (fun e => by have := hu g e.symm; omega), h.apart⟩
end Go.Proofs.Ytcokchfedaoccaa.blaws
