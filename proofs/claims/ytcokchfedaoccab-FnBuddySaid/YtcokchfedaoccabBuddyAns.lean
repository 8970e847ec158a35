/-
  What is told of a buddy that is taken from, given to, made: one answer, whoever tells it.
-/
import Derived.Test.YtcokchfedaoccabBuddyTops
import Derived.Test.YtcokchfedaoccabBuddyNew
import Derived.Test.YtcokchfedaoccabBlkMark
namespace Go.Proofs.Ytcokchfedaoccab.bspec
open Go.RowKit Go.Deep
open Go.Proofs.Ytcokchfedaoccab
open Go.Proofs.Ytcokchfedaoccab.brows
open Go.Proofs.Ytcokchfedaoccab.bd (Blk)
set_option linter.unusedVariables false

/-- an answer: the order, the free blocks, the place, the code -/
abbrev Ans := Int × List Pr × Int × Int
def outV (a : Ans) (v : Value) : Value := .agg #[.int .i64 a.1, v, .int .i64 a.2.2.1, .int .i64 a.2.2.2]
def illA (code : Int) : Ans := (0, [], 0, code)
/-- what the specification tells -/
def Says (A : Ans → Prop) (w : World) (e : Ending) (w' : World) : Prop := ∃ a v, A a ∧ e = .returned (outV a v) ∧ Rd w' v a.2.1 ∧ Below w.heap.size w w'
/-- what the program tells: it owns its memory -/
def Owns (A : Ans → Prop) (w : World) (e : Ending) (w' : World) : Prop := ∃ a v, A a ∧ e = .returned (outV a v) ∧ Row w' w.heap.size v a.2.1 ∧ Below w.heap.size w w'
theorem rd_nil (w : World) : Rd w (.slice none 0 0) [] := ⟨none, 0, rfl, Nat.le_refl _, by decide, fun h => absurd h (by simp)⟩
theorem row_nil (w : World) (base : Nat) : Row w base (.slice none 0 0) [] := ⟨by simp [cellsB], Or.inl ⟨rfl, rfl⟩⟩
theorem says_ill {A : Ans → Prop} {code : Int} {w w' : World} (h : A (illA code)) (hb : Below w.heap.size w w') : Says A w (.returned (illV code)) w' := ⟨illA code, .slice none 0 0, h, rfl, rd_nil w', hb⟩
theorem owns_ill {A : Ans → Prop} {code : Int} {w w' : World} (h : A (illA code)) (hb : Below w.heap.size w w') : Owns A w (.returned (illV code)) w' := ⟨illA code, .slice none 0 0, h, rfl, row_nil w' _, hb⟩

theorem emb_map_inj : ∀ {l l' : List Blk}, l.map emb = l'.map emb → l = l'
  | [], [], _ => rfl
  | [], _ :: _, h => by simp at h
  | _ :: _, [], h => by simp at h
  | a :: r, b :: s, h => by
    simp only [List.map_cons, List.cons.injEq] at h
    rw [emb_inj h.1, emb_map_inj h.2]

/-- BuddyTake's answer -/
def TakeAns (m : Int) (xs : List Pr) (o : Int) (a : Ans) : Prop :=
  ((¬ RightI m xs ∨ ordB o = false) ∧ a = illA 1) ∨
  ∃ (n k : Nat) (l : List Blk), m = (n : Int) ∧ o = (k : Int) ∧ k ≤ 5 ∧ xs = l.map emb ∧ bd.Right n l ∧
    ((Best (l.map emb) k l.length (-1) ∧ a = illA 9) ∨ ∃ (i : Nat) (x : Blk) (l' : List Blk), Best (l.map emb) k l.length i ∧ l[i]? = some x ∧ bd.Taken n l (x.1, k) l' ∧ a = ((n : Int), l'.map emb, (x.1 : Int), 0))
theorem ordB_nat {k : Nat} (h : k ≤ 5) : ordB (k : Int) = true := by simp [ordB]; omega
theorem take_one {m : Int} {xs : List Pr} {o : Int} {a b : Ans} (ha : TakeAns m xs o a) (hb : TakeAns m xs o b) : a = b := by
  rcases ha with ⟨h1, rfl⟩ | ⟨n, k, l, rfl, rfl, hk, rfl, hr, h1⟩
  · rcases hb with ⟨_, rfl⟩ | ⟨n, k, l, rfl, rfl, hk, rfl, hr, _⟩
    · rfl
    · rcases h1 with h1 | h1
      · exact absurd ⟨n, l, rfl, rfl, hr⟩ h1
      · rw [ordB_nat hk] at h1; cases h1
  · rcases hb with ⟨h2, rfl⟩ | ⟨n', k', l', e1, e2, _, e3, _, h2⟩
    · rcases h2 with h2 | h2
      · exact absurd ⟨n, l, rfl, rfl, hr⟩ h2
      · rw [ordB_nat hk] at h2; cases h2
    · have en : n = n' := by omega
      have ek : k = k' := by omega
      have el := emb_map_inj e3
      subst en ek el
      rcases h1 with ⟨h1, rfl⟩ | ⟨i, x, l1, h1, hx, ht, rfl⟩
      · rcases h2 with ⟨_, rfl⟩ | ⟨i', x', l2, h2, _⟩
        · rfl
        · have := best_unique h1 h2
          omega
      · rcases h2 with ⟨h2, rfl⟩ | ⟨i', x', l2, h2, hx', ht', rfl⟩
        · have := best_unique h1 h2
          omega
        · have ei := best_unique h1 h2
          have ei2 : i = i' := by omega
          subst ei2
          rw [hx] at hx'
          injection hx' with hx'
          subst hx'
          rw [bd.taken_unique ht ht']
theorem says_take (m o : Int) (v : Value) (xs : List Pr) (w : World) (hrd : Rd w v xs) : Calls Try.prog 19 #[.agg #[.int .i64 m, v], .int .i64 o] w (Says (TakeAns m xs o) w) := by
  refine (spec_btake m o v xs w hrd).mono fun e w' h => ?_
  rcases h with ⟨h1, rfl, hb⟩ | ⟨n, k, l, rfl, rfl, hk, rfl, hr, h⟩
  · exact says_ill (Or.inl ⟨h1, rfl⟩) hb
  · rcases h with ⟨rfl, h1, hb⟩ | ⟨i, x, v', l', rfl, h1, hx, ht, hrd', hb, _⟩
    · exact says_ill (Or.inr ⟨n, k, l, rfl, rfl, hk, rfl, hr, Or.inl ⟨h1, rfl⟩⟩) hb
    · exact ⟨((n : Int), l'.map emb, (x.1 : Int), 0), v', Or.inr ⟨n, k, l, rfl, rfl, hk, rfl, hr, Or.inr ⟨i, x, l', h1, hx, ht, rfl⟩⟩, rfl, hrd', hb⟩

/-- BuddyGive's answer -/
def GiveAns (m : Int) (xs : List Pr) (x : Pr) (a : Ans) : Prop :=
  ((¬ RightI m xs ∨ ∀ n : Nat, m = (n : Int) → inB n x = false) ∧ a = illA 1) ∨
  ∃ (n : Nat) (l : List Blk) (y : Blk), m = (n : Int) ∧ x = emb y ∧ bd.In n y ∧ xs = l.map emb ∧ bd.Right n l ∧
    ((¬ bd.Off l y ∧ a = illA 10) ∨ ∃ l', bd.Off l y ∧ bd.Given n l y l' ∧ a = ((n : Int), l'.map emb, 0, 0))
theorem give_one {m : Int} {xs : List Pr} {x : Pr} {a b : Ans} (ha : GiveAns m xs x a) (hb : GiveAns m xs x b) : a = b := by
  rcases ha with ⟨h1, rfl⟩ | ⟨n, l, y, rfl, rfl, hy, rfl, hr, h1⟩
  · rcases hb with ⟨_, rfl⟩ | ⟨n, l, y, rfl, rfl, hy, rfl, hr, _⟩
    · rfl
    · rcases h1 with h1 | h1
      · exact absurd ⟨n, l, rfl, rfl, hr⟩ h1
      · have := h1 n rfl
        rw [show emb y = ((y.1 : Int), (y.2 : Int)) from rfl, in_of hy] at this; cases this
  · rcases hb with ⟨h2, rfl⟩ | ⟨n', l', y', e1, e2, _, e3, _, h2⟩
    · rcases h2 with h2 | h2
      · exact absurd ⟨n, l, rfl, rfl, hr⟩ h2
      · have := h2 n rfl
        rw [show emb y = ((y.1 : Int), (y.2 : Int)) from rfl, in_of hy] at this; cases this
    · have en : n = n' := by omega
      have ey := emb_inj e2
      have el := emb_map_inj e3
      subst en ey el
      rcases h1 with ⟨h1, rfl⟩ | ⟨l1, h1, ht, rfl⟩
      · rcases h2 with ⟨_, rfl⟩ | ⟨l2, h2, _⟩
        · rfl
        · exact absurd h2 h1
      · rcases h2 with ⟨h2, rfl⟩ | ⟨l2, h2, ht', rfl⟩
        · exact absurd h1 h2
        · rw [bd.given_unique ht ht']
theorem says_give (m : Int) (x : Pr) (v : Value) (xs : List Pr) (w : World) (hrd : Rd w v xs) : Calls Try.prog 20 #[.agg #[.int .i64 m, v], .int .i64 x.1, .int .i64 x.2] w (Says (GiveAns m xs x) w) := by
  refine (spec_bgive m x v xs w hrd).mono fun e w' h => ?_
  rcases h with ⟨h1, rfl, hb⟩ | ⟨n, l, y, rfl, rfl, hy, rfl, hr, h⟩
  · refine says_ill (Or.inl ⟨?_, rfl⟩) hb
    rcases h1 with h1 | h1 | ⟨n, rfl, h1⟩
    · exact Or.inl h1
    · by_cases hr : RightI m xs
      · refine Or.inr fun n hn => ?_
        subst hn
        have ho := right_ord hr
        cases hi : inB n x with
        | false => rfl
        | true =>
          exfalso
          obtain ⟨y, rfl, hy⟩ := in_nat hi
          have h5 : n ≤ 5 := by simp [ordB] at ho; omega
          have := hy.ord
          simp [ordB] at h1
          omega
      · exact Or.inl hr
    · exact Or.inr fun n' hn => by
        have : n = n' := by omega
        subst this; exact h1
  · rcases h with ⟨rfl, h1, hb⟩ | ⟨v', l', rfl, h1, ht, hrd', hb, _⟩
    · exact says_ill (Or.inr ⟨n, l, y, rfl, rfl, hy, rfl, hr, Or.inl ⟨h1, rfl⟩⟩) hb
    · exact ⟨((n : Int), l'.map emb, 0, 0), v', Or.inr ⟨n, l, y, rfl, rfl, hy, rfl, hr, Or.inr ⟨l', h1, ht, rfl⟩⟩, rfl, hrd', hb⟩

/-- what the specification tells, and its row is its own -/
def SaysO (A : Ans → Prop) (w : World) (e : Ending) (w' : World) : Prop := ∃ a v, A a ∧ e = .returned (outV a v) ∧ Rd w' v a.2.1 ∧ Own w' w.heap.size v ∧ Below w.heap.size w w'
theorem own_nil (w : World) (base : Nat) : Own w base (.slice none 0 0) := ⟨[], row_nil w base⟩
theorem sayso_ill {A : Ans → Prop} {code : Int} {w w' : World} (h : A (illA code)) (hb : Below w.heap.size w w') : SaysO A w (.returned (illV code)) w' := ⟨illA code, .slice none 0 0, h, rfl, rd_nil w', own_nil w' _, hb⟩
theorem sayso_take (m o : Int) (v : Value) (xs : List Pr) (w : World) (hrd : Rd w v xs) : Calls Try.prog 19 #[.agg #[.int .i64 m, v], .int .i64 o] w (SaysO (TakeAns m xs o) w) := by
  refine (spec_btake m o v xs w hrd).mono fun e w' h => ?_
  rcases h with ⟨h1, rfl, hb⟩ | ⟨n, k, l, rfl, rfl, hk, rfl, hr, h⟩
  · exact sayso_ill (Or.inl ⟨h1, rfl⟩) hb
  · rcases h with ⟨rfl, h1, hb⟩ | ⟨i, x, v', l', rfl, h1, hx, ht, hrd', hb, ho⟩
    · exact sayso_ill (Or.inr ⟨n, k, l, rfl, rfl, hk, rfl, hr, Or.inl ⟨h1, rfl⟩⟩) hb
    · exact ⟨((n : Int), l'.map emb, (x.1 : Int), 0), v', Or.inr ⟨n, k, l, rfl, rfl, hk, rfl, hr, Or.inr ⟨i, x, l', h1, hx, ht, rfl⟩⟩, rfl, hrd', ho, hb⟩
theorem sayso_give (m : Int) (x : Pr) (v : Value) (xs : List Pr) (w : World) (hrd : Rd w v xs) : Calls Try.prog 20 #[.agg #[.int .i64 m, v], .int .i64 x.1, .int .i64 x.2] w (SaysO (fun a => a.2.1.length ≤ 32) w) := by
  refine (spec_bgive m x v xs w hrd).mono fun e w' h => ?_
  rcases h with ⟨h1, rfl, hb⟩ | ⟨n, l, y, rfl, rfl, hy, rfl, hr, h⟩
  · exact sayso_ill (by simp [illA]) hb
  · rcases h with ⟨rfl, h1, hb⟩ | ⟨v', l', rfl, h1, ht, hrd', hb, ho⟩
    · exact sayso_ill (by simp [illA]) hb
    · exact ⟨((n : Int), l'.map emb, 0, 0), v', by simpa using ht.1.len_le, rfl, hrd', ho, hb⟩

/-- BuddyNew's answer -/
def NewAns (o : Int) (a : Ans) : Prop := (ordB o = false ∧ a = illA 1) ∨ ∃ n : Nat, o = (n : Int) ∧ n ≤ 5 ∧ a = ((n : Int), [((0, n) : Blk)].map emb, 0, 0)
theorem new_one {o : Int} {a b : Ans} (ha : NewAns o a) (hb : NewAns o b) : a = b := by
  rcases ha with ⟨h1, rfl⟩ | ⟨n, rfl, hn, rfl⟩
  · rcases hb with ⟨_, rfl⟩ | ⟨n, rfl, hn, rfl⟩
    · rfl
    · rw [ordB_nat hn] at h1; cases h1
  · rcases hb with ⟨h1, rfl⟩ | ⟨n', e, _, rfl⟩
    · rw [ordB_nat hn] at h1; cases h1
    · have : n = n' := by omega
      subst this; rfl
theorem says_new (o : Int) (w : World) : Calls Try.prog 23 #[.int .i64 o] w (Says (NewAns o) w) := by
  refine (spec_new o w).mono fun e w' h => ?_
  rcases h with ⟨h1, rfl, hb⟩ | ⟨n, v, rfl, hn, rfl, hrd, hb⟩
  · exact says_ill (Or.inl ⟨h1, rfl⟩) hb
  · exact ⟨((n : Int), [((0, n) : Blk)].map emb, 0, 0), v, Or.inr ⟨n, rfl, hn, rfl⟩, rfl, hrd, hb⟩
end Go.Proofs.Ytcokchfedaoccab.bspec
