/-
  The walk of the program's closure that tells the free blocks one by one.
-/
import Derived.Test.YtcokchfedaoccabBuddyPoolOf
namespace Go.Proofs.Ytcokchfedaoccab.bpool
open Go.RowKit Go.Deep Go.Maps Go.Sort
open Go.Proofs.Ytcokchfedaoccab
open Go.Proofs.Ytcokchfedaoccab.brows
open Go.Proofs.Ytcokchfedaoccab.bspec
open Go.Proofs.Ytcokchfedaoccab.bimpl
open Go.Proofs.Ytcokchfedaoccab.bd (Blk)
set_option linter.unusedVariables false

/-- how far it has come: what is behind a, and what is still to come -/
def Curs (l : List Blk) (a : Nat) (rest : List Blk) : Prop := ∃ pre, l = pre ++ rest ∧ (∀ x ∈ pre, x.1 + 2 ^ x.2 ≤ a) ∧ ∀ x ∈ rest, a ≤ x.1
theorem curs_zero (l : List Blk) : Curs l 0 l := ⟨[], rfl, fun x hx => absurd hx (by simp), fun _ _ => Nat.zero_le _⟩
theorem curs_step {l : List Blk} {a : Nat} {rest : List Blk} (h : Curs l a rest) (hn : ∀ o, (a, o) ∉ l) : Curs l (a + 1) rest := by
  obtain ⟨pre, rfl, h1, h2⟩ := h
  refine ⟨pre, rfl, fun x hx => Nat.le_succ_of_le (h1 x hx), fun x hx => ?_⟩
  have := h2 x hx
  have hne : x.1 ≠ a := fun e => hn x.2 (by rw [← e]; exact List.mem_append_right _ hx)
  omega
theorem curs_hit {n : Nat} {l : List Blk} (hr : bd.Right n l) {a o : Nat} {rest : List Blk} (h : Curs l a rest) (hm : (a, o) ∈ l) : ∃ r, rest = (a, o) :: r ∧ Curs l (a + 2 ^ o) r := by
  obtain ⟨pre, rfl, h1, h2⟩ := h
  have hp := bd.pow_pos' o
  have hin : (a, o) ∈ rest := by
    rcases List.mem_append.1 hm with h | h
    · have := h1 _ h; simp only at this; omega
    · exact h
  cases rest with
  | nil => simp at hin
  | cons z r =>
    have hz := h2 z (by simp)
    have hris := (List.pairwise_append.1 hr.ris).2.1
    have hzr := (List.pairwise_cons.1 hris).1
    have hpz := bd.pow_pos' z.2
    have e : z = (a, o) := by
      rcases List.mem_cons.1 hin with h | h
      · exact h.symm
      · have := hzr _ h; simp only at this; omega
    subst e
    refine ⟨r, rfl, pre ++ [(a, o)], by simp, fun x hx => ?_, fun x hx => hzr x hx⟩
    rcases List.mem_append.1 hx with hx | hx
    · have := h1 x hx; omega
    · rw [List.mem_singleton.1 hx]; exact Nat.le_refl _
theorem curs_end {n : Nat} {l : List Blk} (hr : bd.Right n l) {a : Nat} {rest : List Blk} (h : Curs l a rest) (ha : 2 ^ n ≤ a) : rest = [] := by
  obtain ⟨pre, rfl, h1, h2⟩ := h
  cases rest with
  | nil => rfl
  | cons z r =>
    have hz := h2 z (by simp)
    have := (hr.inn z (by simp)).lt
    omega
theorem curs_le {n : Nat} {l : List Blk} (hr : bd.Right n l) {a : Nat} {x : Blk} {rest : List Blk} (h : Curs l a (x :: rest)) : a < 2 ^ n := by
  obtain ⟨pre, rfl, h1, h2⟩ := h
  have hz := h2 x (by simp)
  have := (hr.inn x (by simp)).lt
  omega

theorem impl_walk (m : Int) (b : Nat) (w : World) : Calls Try.prog 47 #[.agg #[.int .i64 m, .map (some b)]] w fun e w' =>
    e = .returned (.func (.func 64) #[] #[.pointer (some ⟨w.heap.size + 1, 0, none⟩), .pointer (some ⟨w.heap.size, 0, none⟩)]) ∧ w' = (w.alloc (.cells #[.int .i64 m, .map (some b)] 60)).alloc (.cells #[.int .i64 0] 2) := by
  have hmf : ∀ (fn : Fn) (first cap : Array Value) (w : World), (Instr.makeFunc fn first cap).run Try.prog w = .ok (.func fn first cap) w := fun _ _ _ _ => rfl
  go_enter Try.func47, Try.ntmps47
  go_wp2
  go_ret
  exact ⟨rfl, rfl⟩

/-- the place that it has come to, in a box -/
def At (w : World) (A : Nat) (a : Int) : Prop := w.heap[A]? = some (.cells #[.int .i64 a] 2 (0, 0))
theorem At.cell {w : World} {A : Nat} {a : Int} (h : At w A a) : w.cell? ⟨A, 0, none⟩ = some (.int .i64 a) ∧ w.frozen? ⟨A, 0, none⟩ = false := by
  unfold At at h
  constructor
  · simp [World.cell?, h]
  · simp [World.frozen?, h]
theorem At.lt {w : World} {A : Nat} {a : Int} (h : At w A a) : A < w.heap.size := (Array.getElem?_eq_some_iff.1 h).1
theorem At.set {w : World} {A : Nat} {a a' : Int} (h : At w A a) : At (w.setCell ⟨A, 0, none⟩ (.int .i64 a')) A a' := heap_setCell_same w A 0 _ 2 _ h
theorem At.grown {w w' : World} {A : Nat} {a : Int} {row : Option Nat} (h : At w A a) (hg : w.grownBy w' row) (hne : some A ≠ row) : At w' A a := (hg.block A h.lt hne).trans h
theorem grown_set (w : World) (A i : Nat) (u : Value) : w.grownBy (w.setCell ⟨A, i, none⟩ u) (some A) :=
  ⟨rfl, rfl, rfl, by simp, fun k _ hk => Below.heap_setCell w _ u k (fun e => hk (by rw [e]))⟩

/-- what the closure tells -/
def NextPost (n A : Nat) (l rest : List Blk) (w : World) (e : Ending) (w' : World) : Prop :=
  (rest = [] ∧ e = .returned (.tuple #[.agg #[.int .i64 0, .int .i64 0], .bool false]) ∧ w.grownBy w' (some A)) ∨
  ∃ (x : Blk) (r : List Blk) (a : Nat), rest = x :: r ∧ e = .returned (.tuple #[.agg #[.int .i64 x.1, .int .i64 x.2], .bool true]) ∧ At w' A a ∧ x.1 < a ∧ a ≤ 2 ^ n ∧ Curs l a r ∧ w.grownBy w' (some A)
def atOf (w : World) (A : Nat) : Nat := match w.cell? ⟨A, 0, none⟩ with | some (.int _ o) => o.toNat | _ => 0
theorem atOf_of {w : World} {A a : Nat} (h : At w A a) : atOf w A = a := by simp [atOf, h.cell.1]
theorem At.drewN {w : World} {A : Nat} {a : Int} (h : At w A a) (k : Nat) : At (w.drewN k) A a := h
/-- where a loop over the blocks stands: G holds of what is behind; the block at hand lies in box X -/
def Cur (G : List Blk → Prop) (n A X : Nat) (l : List Blk) (more : Value) (wr : World) : Prop :=
  (more = .bool false ∧ G l ∧ ∃ p q, Blx wr X p q) ∨
  ∃ (pre : List Blk) (x : Blk) (r : List Blk) (a : Nat), more = .bool true ∧ l = pre ++ x :: r ∧ G pre ∧ Blx wr X x.1 x.2 ∧ At wr A a ∧ x.1 < a ∧ a ≤ 2 ^ n ∧ Curs l a r
def left (A : Nat) (more : Value) (wr : World) : Nat := match more with | .bool true => 1 + (64 - atOf wr A) | _ => 0
/-- what the closure tells, at one stroke -/
def Nxt (n A : Nat) (l rest : List Blk) (p q : Int) (m : Bool) (w w' : World) : Prop :=
  (m = false ∧ rest = [] ∧ w.grownBy w' (some A)) ∨
  ∃ (x : Blk) (r : List Blk) (a : Nat), m = true ∧ p = (x.1 : Int) ∧ q = (x.2 : Int) ∧ rest = x :: r ∧ At w' A a ∧ x.1 < a ∧ a ≤ 2 ^ n ∧ Curs l a r ∧ w.grownBy w' (some A)
theorem NextPost.one {n A : Nat} {l rest : List Blk} {w w' : World} {e : Ending} (h : NextPost n A l rest w e w') : ∃ (p q : Int) (m : Bool), e = .returned (.tuple #[.agg #[.int .i64 p, .int .i64 q], .bool m]) ∧ Nxt n A l rest p q m w w' := by
  rcases h with ⟨h1, h2, h3⟩ | ⟨x, r, a, h1, h2, h3⟩
  · exact ⟨0, 0, false, h2, Or.inl ⟨rfl, h1, h3⟩⟩
  · exact ⟨x.1, x.2, true, h2, Or.inr ⟨x, r, a, rfl, rfl, rfl, h1, h3⟩⟩
theorem Nxt.grown {n A : Nat} {l rest : List Blk} {p q : Int} {m : Bool} {w w' : World} (h : Nxt n A l rest p q m w w') : w.grownBy w' (some A) := by
  rcases h with ⟨_, _, h3⟩ | ⟨x, r, a, _, _, _, _, _, _, _, _, h3⟩
  · exact h3
  · exact h3
theorem Cur.of {G : List Blk → Prop} {n A X : Nat} {l pre rest : List Blk} {p q : Int} {m : Bool} {w w' W : World} (hl : l = pre ++ rest) (hG : G pre) (hn : Nxt n A l rest p q m w w') (hX : Blx W X p q) (hA : ∀ a : Nat, At w' A a → At W A a) : Cur G n A X l (.bool m) W := by
  rcases hn with ⟨rfl, rfl, _⟩ | ⟨x, r, a, rfl, rfl, rfl, rfl, h1, h2, h3, h4, _⟩
  · rw [List.append_nil] at hl; subst hl
    exact Or.inl ⟨rfl, hG, p, q, hX⟩
  · exact Or.inr ⟨pre, x, r, a, rfl, hl, hG, hX, hA a h1, h2, h3, h4⟩
/-- it comes nearer to its end -/
theorem left_less {n A : Nat} {l rest : List Blk} {p q : Int} {m : Bool} {w w' wr W : World} {a : Nat} (ha : At wr A a) (hal : a ≤ 2 ^ n) (hn5 : 2 ^ n ≤ 32) (hc : Curs l a rest) (hn : Nxt n A l rest p q m w w') (hA : ∀ a : Nat, At w' A a → At W A a) : left A (.bool m) W < left A (.bool true) wr := by
  rcases hn with ⟨rfl, rfl, _⟩ | ⟨x, r, a', rfl, rfl, rfl, rfl, h1, h2, h3, h4, _⟩
  · simp only [left]; omega
  · have hx : a ≤ x.1 := by
      obtain ⟨pre, _, _, h⟩ := hc
      exact h x (by simp)
    simp only [left, atOf_of ha, atOf_of (hA a' h1)]
    omega
theorem blx_new (w : World) (a b : Int) : Blx (w.alloc (.cells #[.int .i64 a, .int .i64 b] 68)) w.heap.size a b := (MapKept.heap_alloc w _).1
theorem Blx.grown {w w' : World} {X : Nat} {a b : Int} {row : Option Nat} (h : Blx w X a b) (hg : w.grownBy w' row) (hne : some X ≠ row) : Blx w' X a b := (hg.block X h.lt hne).trans h
theorem Blx.far {w : World} {X Y i : Nat} {a b : Int} {u : Value} (h : Blx w X a b) (hne : X ≠ Y) : Blx (w.setCell ⟨Y, i, none⟩ u) X a b := (Below.heap_setCell w _ u X hne).trans h
theorem At.far {w : World} {A Y i : Nat} {a : Int} {u : Value} (h : At w A a) (hne : A ≠ Y) : At (w.setCell ⟨Y, i, none⟩ u) A a := (Below.heap_setCell w _ u A hne).trans h
theorem curs_at {l : List Blk} {a : Nat} {x : Blk} {r : List Blk} (h : Curs l a (x :: r)) : a ≤ x.1 := by
  obtain ⟨pre, rfl, h1, h2⟩ := h
  exact h2 x (by simp)
theorem curs_split {l pre : List Blk} {x y : Blk} {r r' : List Blk} {a : Nat} (h : Curs l a (y :: r')) (he : l = pre ++ x :: r) (hr : r = y :: r') : l = (pre ++ [x]) ++ y :: r' := by
  rw [he, hr]; simp
end Go.Proofs.Ytcokchfedaoccab.bpool
