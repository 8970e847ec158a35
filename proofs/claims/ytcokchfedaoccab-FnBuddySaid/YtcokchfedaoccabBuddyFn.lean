/-
  The walk of the law FnBuddy, as far as it holds the program against the specification.
-/
import Derived.Test.YtcokchfedaoccabLwBuddy
import Derived.Test.YtcokchfedaoccabBuddyDraws5
import Derived.Test.YtcokchfedaoccabBuddyGiveI
import Derived.Test.YtcokchfedaoccabBuddyPagesI
import Derived.Test.YtcokchfedaoccabBuddyOfI
import Derived.Test.YtcokchfedaoccabFitsIn
namespace Go.Proofs.Ytcokchfedaoccab.blaw
open Go.RowKit Go.Deep Go.Sort
open Go.Proofs.Ytcokchfedaoccab
open Go.Proofs.Ytcokchfedaoccab.brows
open Go.Proofs.Ytcokchfedaoccab.bspec
open Go.Proofs.Ytcokchfedaoccab.draws (Byts)
set_option linter.unusedVariables false

/-- a buddy in a box -/
structure Bx (W : World) (P : Nat) (m : Int) (v : Value) (xs : List Pr) : Prop where
  box : Box W P m v
  rd : Rd W v xs
theorem Bx.below {W W' : World} {P : Nat} {m : Int} {v : Value} {xs : List Pr} (h : Bx W P m v xs) (hb : Below W.heap.size W W') : Bx W' P m v xs := ⟨(hb.block P h.box.lt).trans h.box, h.rd.below hb⟩
theorem bx_new {w : World} {m : Int} {v : Value} {xs : List Pr} (h : Rd w v xs) : Bx (w.alloc (.cells #[.int .i64 m, v] 29)) w.heap.size m v xs := ⟨(MapKept.heap_alloc w _).1, h.below ((Below.refl _ _).alloc (Nat.le_refl _) _)⟩
/-- an answer in a box -/
structure Ax (W : World) (X : Nat) (m p q : Int) (u : Value) (ys : List Pr) : Prop where
  box : Res W X (.int .i64 m) u (.int .i64 p) (.int .i64 q)
  rd : Rd W u ys
theorem Ax.below {W W' : World} {X : Nat} {m p q : Int} {u : Value} {ys : List Pr} (h : Ax W X m p q u ys) (hb : Below W.heap.size W W') : Ax W' X m p q u ys := ⟨h.box.below hb h.box.lt, h.rd.below hb⟩
theorem ax_new {w : World} {m p q : Int} {u : Value} {ys : List Pr} (h : Rd w u ys) : Ax (w.alloc (.cells #[.int .i64 m, u, .int .i64 p, .int .i64 q] 37)) w.heap.size m p q u ys := ⟨(MapKept.heap_alloc w _).1, h.below ((Below.refl _ _).alloc (Nat.le_refl _) _)⟩
theorem below_one (w : World) (o : Obj) : Below w.heap.size w (w.alloc o) := (Below.refl _ _).alloc (Nat.le_refl _) _
theorem below_tr {w a b : World} (h : Below w.heap.size w a) (k : Below a.heap.size a b) : Below w.heap.size w b := h.trans (k.mono h.size)
/-- what the specification tells where the answer is known -/
def SaysA (m p q : Int) (ys : List Pr) (W : World) (e : Ending) (W' : World) : Prop := ∃ u, e = .returned (.agg #[.int .i64 m, u, .int .i64 p, .int .i64 q]) ∧ Rd W' u ys ∧ Below W.heap.size W W'
theorem says_a {A : Ans → Prop} {m p q : Int} {ys : List Pr} {f : Nat} {args : Array Value} {W : World} (h : Calls Try.prog f args W (Says A W)) (h1 : A (m, ys, p, q)) (hone : ∀ a b, A a → A b → a = b) : Calls Try.prog f args W (SaysA m p q ys W) := by
  refine h.mono fun e W' ⟨a, u, ha, he, hr, hb⟩ => ?_
  obtain rfl := hone _ _ h1 ha
  exact ⟨u, he, hr, hb⟩
/-- what is right where the code is nought -/
theorem take_right {m : Int} {xs : List Pr} {o : Int} {a : Ans} (h : TakeAns m xs o a) : (a.2.2.2 = 0 → rightB a.1 a.2.1 = true) ∧ a.2.1.length ≤ 32 := by
  rcases h with ⟨_, rfl⟩ | ⟨n, k, l, _, _, _, _, hr, ⟨_, rfl⟩ | ⟨i, x, l', _, _, ht, rfl⟩⟩
  · exact ⟨fun h => by simp [illA] at h, by simp [illA]⟩
  · exact ⟨fun h => by simp [illA] at h, by simp [illA]⟩
  · exact ⟨fun _ => rightB_yes ⟨n, l', rfl, rfl, ht.1.right⟩, by simpa using ht.1.right.len_le⟩
theorem give_right {m : Int} {xs : List Pr} {x : Pr} {a : Ans} (h : GiveAns m xs x a) : (a.2.2.2 = 0 → rightB a.1 a.2.1 = true) ∧ a.2.1.length ≤ 32 := by
  rcases h with ⟨_, rfl⟩ | ⟨n, l, y, _, _, _, _, _, ⟨_, rfl⟩ | ⟨l', _, ht, rfl⟩⟩
  · exact ⟨fun h => by simp [illA] at h, by simp [illA]⟩
  · exact ⟨fun h => by simp [illA] at h, by simp [illA]⟩
  · exact ⟨fun _ => rightB_yes ⟨n, l', rfl, rfl, ht.1⟩, by simpa using ht.1.len_le⟩
theorem of_right {o : Int} {ps : List Int} {a : Ans} (h : OfAns o ps a) : (a.2.2.2 = 0 → rightB a.1 a.2.1 = true) ∧ a.2.1.length ≤ 32 := by
  rcases h with ⟨_, rfl⟩ | ⟨_, _, rfl⟩ | ⟨n, _, _, _, ⟨_, rfl⟩ | ⟨l, hl, rfl⟩⟩
  · exact ⟨fun h => by simp [illA] at h, by simp [illA]⟩
  · exact ⟨fun h => by simp [illA] at h, by simp [illA]⟩
  · exact ⟨fun h => by simp [illA] at h, by simp [illA]⟩
  · exact ⟨fun _ => rightB_yes ⟨n, l, rfl, rfl, hl.right⟩, by simpa using hl.right.len_le⟩
theorem new_right {o : Int} {a : Ans} (h : NewAns o a) : (a.2.2.2 = 0 → rightB a.1 a.2.1 = true) ∧ a.2.1.length ≤ 32 := by
  rcases h with ⟨_, rfl⟩ | ⟨n, _, hn, rfl⟩
  · exact ⟨fun h => by simp [illA] at h, by simp [illA]⟩
  · exact ⟨fun _ => rightB_yes ⟨n, _, rfl, rfl, ⟨hn, fun x hx => by simp at hx; subst hx; exact ⟨Nat.le_refl _, bd.pow_pos' n, by simp⟩, by simp, fun x hx hlt => by simp at hx; subst hx; simp at hlt⟩⟩, by simp⟩
theorem pages_few (m : Int) (xs : List Pr) : (pagesI m xs).length ≤ 32 := by
  by_cases h : RightI m xs
  · obtain ⟨n, l, rfl, rfl, hr⟩ := h
    rw [pagesI_of hr, List.length_map, bd.pages_len]
    exact Nat.le_trans hr.sum_le (bd.pow_le32 hr.ord)
  · rw [pagesI_none h]; simp
theorem seven {W : World} {P1 X P2 Y Z : Nat} {m m1 p1 q1 m2 ma pa qa m3 p3 q3 : Int} {v u1 v2 u2 u3 : Value} {xs ys1 xs2 ys2 ys3 : List Pr} (h1 : Bx W P1 m v xs) (h2 : Ax W X m1 p1 q1 u1 ys1) (h3 : Bx W P2 m2 v2 xs2) (h4 : Ax W Y ma pa qa u2 ys2) (h5 : Ax W Z m3 p3 q3 u3 ys3) :
    (W.cell? ⟨P1, 0, none⟩ = some (.int .i64 m) ∧ W.cell? ⟨P1, 1, none⟩ = some v) ∧ (W.cell? ⟨X, 0, none⟩ = some (.int .i64 m1) ∧ W.cell? ⟨X, 1, none⟩ = some u1 ∧ W.cell? ⟨X, 2, none⟩ = some (.int .i64 p1) ∧ W.cell? ⟨X, 3, none⟩ = some (.int .i64 q1)) ∧ (W.cell? ⟨P2, 0, none⟩ = some (.int .i64 m2) ∧ W.cell? ⟨P2, 1, none⟩ = some v2) ∧ (W.cell? ⟨Y, 0, none⟩ = some (.int .i64 ma) ∧ W.cell? ⟨Y, 1, none⟩ = some u2 ∧ W.cell? ⟨Y, 2, none⟩ = some (.int .i64 pa) ∧ W.cell? ⟨Y, 3, none⟩ = some (.int .i64 qa)) ∧ W.cell? ⟨Z, 0, none⟩ = some (.int .i64 m3) ∧ W.cell? ⟨Z, 1, none⟩ = some u3 ∧ W.cell? ⟨Z, 2, none⟩ = some (.int .i64 p3) ∧ W.cell? ⟨Z, 3, none⟩ = some (.int .i64 q3) :=
  ⟨⟨h1.box.cells.1, h1.box.cells.2.1⟩, h2.box.cells.1, ⟨h3.box.cells.1, h3.box.cells.2.1⟩, h4.box.cells.1, h5.box.cells.1⟩
end Go.Proofs.Ytcokchfedaoccab.blaw
namespace Go.Proofs.Ytcokchfedaoccab.blaw
open Go.Proofs.Ytcokchfedaoccab
open Go.Proofs.Ytcokchfedaoccab.brows
open Go.Proofs.Ytcokchfedaoccab.bspec
open Go.Proofs.Ytcokchfedaoccab.bd (Blk)
set_option linter.unusedVariables false

theorem getD_map (qs : List Nat) (i : Nat) (hi : i < qs.length) : (qs.map fun j : Nat => (j : Int)).getD i 0 = (qs[i] : Int) := by
  simp [List.getD, hi]
/-- the pages of what BuddyOf tells are those that it was told of -/
theorem of_back {o : Int} {ps : List Int} {a : Ans} (h : OfAns o ps a) (h0 : a.2.2.2 = 0) : pagesI a.1 a.2.1 = ps := by
  rcases h with ⟨_, rfl⟩ | ⟨_, _, rfl⟩ | ⟨n, _, _, _, ⟨_, rfl⟩ | ⟨l, hl, rfl⟩⟩
  · simp [illA] at h0
  · simp [illA] at h0
  · simp [illA] at h0
  · have hq : ∀ i (hi : i < ps.length), ps.getD i 0 = ((ps.getD i 0).toNat : Int) := fun i hi => by have := (hl.ok i hi).1; omega
    obtain ⟨qs, hqs⟩ : ∃ qs : List Nat, qs = ps.map Int.toNat := ⟨_, rfl⟩
    have hlen : qs.length = ps.length := by rw [hqs]; simp
    have hget : ∀ i (hi : i < ps.length), ps[i] = ps.getD i 0 := fun i hi => by simp [List.getD, hi]
    have hps : ps = qs.map fun j : Nat => (j : Int) := by
      apply List.ext_getElem
      · simp [hlen]
      · intro i h1 h2
        have := hq i h1
        rw [← hget i h1] at this
        simp only [hqs, List.getElem_map]
        exact this
    have hqi : ∀ i (hi : i < qs.length), (qs[i] : Int) = ps.getD i 0 := fun i hi => by
      rw [hps, getD_map qs i hi]
    have hpw : qs.Pairwise (· < ·) := by
      rw [List.pairwise_iff_getElem]
      intro i j hi hj hij
      have := upto_less hl.ok j i hij (by omega)
      rw [← hqi i hi, ← hqi j hj] at this
      omega
    have hcov : ∀ p, bd.Cov l p ↔ p ∈ qs := fun p => by
      rw [hl.cov p]
      constructor
      · rintro ⟨i, hi, hv⟩
        have h2 := hqi i (by omega)
        rw [hv] at h2
        have e : qs[i] = p := by omega
        rw [← e]; exact List.getElem_mem _
      · intro hm
        obtain ⟨i, hi, e⟩ := List.getElem_of_mem hm
        exact ⟨i, by omega, by rw [← hqi i hi, e]⟩
    show pagesI (n : Int) (l.map emb) = ps
    rw [pagesI_of hl.right, bd.pages_of hl.right hpw hcov, ← hps]
theorem give_more {m : Int} {xs : List Pr} {at' o : Int} {a : Ans} (h : GiveAns m xs (at', o) a) (h0 : a.2.2.2 = 0) : ∃ k : Nat, o = (k : Int) ∧ k ≤ 5 ∧ (pagesI a.1 a.2.1).length = (pagesI m xs).length + 2 ^ k := by
  rcases h with ⟨_, rfl⟩ | ⟨n, l, y, rfl, hx, hin, rfl, hr, ⟨_, rfl⟩ | ⟨l', _, hg, rfl⟩⟩
  · simp [illA] at h0
  · simp [illA] at h0
  · refine ⟨y.2, congrArg Prod.snd hx, by have := hin.ord; have := hr.ord; omega, ?_⟩
    show (pagesI (n : Int) (l'.map emb)).length = _
    rw [pagesI_of hg.1, pagesI_of hr, List.length_map, List.length_map, bd.pages_len, bd.pages_len, hg.2.2]
theorem take_ill {m : Int} {xs : List Pr} {o : Int} {a : Ans} (h : TakeAns m xs o a) (h0 : rightB m xs = false ∨ ordB o = false) : a.2.2.2 = 1 := by
  have h1 : ¬ RightI m xs ∨ ordB o = false := h0.imp (fun h h2 => by rw [rightB_yes h2] at h; cases h) id
  have h2 : TakeAns m xs o (illA 1) := Or.inl ⟨h1, rfl⟩
  rw [take_one h h2]; rfl
/-- BuddyOf of the free pages tells the buddy itself -/
theorem of_self {n : Nat} {l : List Blk} (hr : bd.Right n l) : OfAns n (pagesI n (l.map emb)) ((n : Int), l.map emb, 0, 0) := by
  have hlen : (pagesI (n : Int) (l.map emb)).length = (bd.pagesL l).length := by rw [pagesI_of hr, List.length_map]
  have h32 : (bd.pagesL l).length ≤ 32 := by rw [bd.pages_len]; exact Nat.le_trans hr.sum_le (bd.pow_le32 hr.ord)
  have hg : ∀ i (hi : i < (bd.pagesL l).length), (pagesI (n : Int) (l.map emb)).getD i 0 = ((bd.pagesL l)[i] : Int) := fun i hi => by rw [pagesI_of hr, getD_map _ i hi]
  refine Or.inr (Or.inr ⟨n, rfl, hr.ord, by omega, Or.inr ⟨l, ⟨fun i hi => ?_, hr, fun p => ?_⟩, rfl⟩⟩)
  · rw [hlen] at hi
    have hm : (bd.pagesL l)[i] ∈ bd.pagesL l := List.getElem_mem _
    obtain ⟨y, hy, hc⟩ := (bd.mem_pages l _).1 hm
    have ht := (hr.inn y hy).top hr.ord
    have h1 := hc.2
    refine ⟨by rw [hg i hi]; omega, by rw [hg i hi]; omega, fun h0 => ?_⟩
    rw [hg i hi, hg (i - 1) (by omega)]
    have := List.pairwise_iff_getElem.1 (bd.pages_up hr.ris) (i - 1) i (by omega) hi (by omega)
    omega
  · rw [← bd.mem_pages l p]
    constructor
    · intro hm
      obtain ⟨i, hi, e⟩ := List.getElem_of_mem hm
      exact ⟨i, by omega, by rw [hg i hi, e]⟩
    · rintro ⟨i, hi, e⟩
      rw [hlen] at hi
      rw [hg i hi] at e
      have e2 : (bd.pagesL l)[i] = p := by omega
      rw [← e2]; exact List.getElem_mem _
theorem take_fits {n k : Nat} {l : List Blk} {a : Ans} (hr : bd.Right n l) (hk : k ≤ 5) (h : TakeAns n (l.map emb) k a) : (a.2.2.2 = 0 ↔ ∃ y ∈ l, k ≤ y.2) ∧ (a.2.2.2 = 0 → ∃ (x : Blk) (l' : List Blk), a = ((n : Int), l'.map emb, (x.1 : Int), 0) ∧ bd.Taken n l (x.1, k) l') := by
  rcases h with ⟨h1, rfl⟩ | ⟨n', k', l1, e1, e2, _, e3, _, h⟩
  · exfalso
    rcases h1 with h1 | h1
    · exact h1 ⟨n, l, rfl, rfl, hr⟩
    · rw [ordB_nat hk] at h1; cases h1
  · have en : n = n' := by omega
    have ek : k = k' := by omega
    have el := emb_map_inj e3
    subst en ek el
    rcases h with ⟨hb, rfl⟩ | ⟨i, x, l', hb, hx, ht, rfl⟩
    · refine ⟨⟨fun h => by simp [illA] at h, ?_⟩, fun h => by simp [illA] at h⟩
      rintro ⟨y, hy, hky⟩
      rcases hb with ⟨_, hb⟩ | ⟨i, y', _, e, _⟩
      · obtain ⟨j, hj, e⟩ := List.getElem_of_mem hy
        have := hb j (emb y) hj (by rw [List.getElem?_map, List.getElem?_eq_getElem hj, e]; rfl)
        simp only [emb] at this; omega
      · omega
    · refine ⟨⟨fun _ => ⟨x, List.mem_of_getElem? hx, ?_⟩, fun _ => rfl⟩, fun _ => ⟨x, l', rfl, ht⟩⟩
      rcases hb with ⟨e, _⟩ | ⟨i', y', _, e, hy', hko, _⟩
      · omega
      · have ei : i = i' := by omega
        subst ei
        rw [List.getElem?_map, hx] at hy'
        injection hy' with hy'
        rw [← hy'] at hko
        simp only [emb] at hko; omega
/-- what was taken is given back -/
theorem take_back {n k : Nat} {x : Blk} {l l' : List Blk} (hr : bd.Right n l) (ht : bd.Taken n l (x.1, k) l') : GiveAns n (l'.map emb) ((x.1 : Int), (k : Int)) ((n : Int), l.map emb, 0, 0) ∧ (pagesI n (l'.map emb)).length + 2 ^ k = (pagesI n (l.map emb)).length ∧ bd.Cov l x.1 := by
  refine ⟨Or.inr ⟨n, l', (x.1, k), rfl, rfl, ht.1.inn, rfl, ht.1.right, Or.inr ⟨l, ht.1.off, ⟨hr, fun p => (ht.2.1 p).symm, ht.2.2.symm⟩, rfl⟩⟩, ?_, (ht.2.1 x.1).1 (Or.inr (bd.cv_self (x.1, k)))⟩
  rw [pagesI_of ht.1.right, pagesI_of hr, List.length_map, List.length_map, bd.pages_len, bd.pages_len]
  exact ht.2.2
end Go.Proofs.Ytcokchfedaoccab.blaw
namespace Go.Proofs.Ytcokchfedaoccab.blaw
open Go.RowKit Go.Deep Go.Sort
open Go.Proofs.Ytcokchfedaoccab
open Go.Proofs.Ytcokchfedaoccab.bd (Blk)
set_option linter.unusedVariables false

def Mk (W : World) (Y : Nat) (f : Nat → Bool) : Prop :=
  ∃ cs : Array Value, W.heap[Y]? = some (.cells cs 4 (0, 0)) ∧ ∀ j, j < 64 → cs[j]? = some (.bool (f j))
theorem Mk.lt {W : World} {Y : Nat} {f : Nat → Bool} (h : Mk W Y f) : Y < W.heap.size := by
  obtain ⟨cs, h1, _⟩ := h
  exact (Array.getElem?_eq_some_iff.1 h1).1
theorem Mk.at {W : World} {Y : Nat} {f : Nat → Bool} (h : Mk W Y f) (j : Nat) (hj : j < 64) : W.cell? ⟨Y, j, none⟩ = some (.bool (f j)) ∧ W.frozen? ⟨Y, j, none⟩ = false := by
  obtain ⟨cs, h1, h2⟩ := h
  exact ⟨by rw [cell_of_row W Y j cs 4 (0, 0) h1]; exact h2 j hj, by simp [World.frozen?, h1]⟩
theorem Mk.below {W W' : World} {Y : Nat} {f : Nat → Bool} (h : Mk W Y f) (hb : Below W.heap.size W W') : Mk W' Y f := by
  have hl := h.lt
  obtain ⟨cs, h1, h2⟩ := h
  exact ⟨cs, (hb.block Y hl).trans h1, h2⟩
theorem Mk.set {W : World} {Y : Nat} {f : Nat → Bool} (h : Mk W Y f) (q : Nat) (hq : q < 64) : Mk (W.setCell ⟨Y, q, none⟩ (.bool true)) Y (fun j => f j || j == q) := by
  obtain ⟨cs, h1, h2⟩ := h
  refine ⟨cs.setIfInBounds q (.bool true), heap_setCell_same W Y q cs 4 _ h1, fun j hj => ?_⟩
  have hql : q < cs.size := (Array.getElem?_eq_some_iff.1 (h2 q hq)).1
  by_cases e : q = j
  · subst e
    rw [Array.getElem?_setIfInBounds_self_of_lt hql]; simp
  · rw [Array.getElem?_setIfInBounds_ne e, h2 j hj]
    have : (j == q) = false := by simp; omega
    simp [this]
theorem Mk.congr {W : World} {Y : Nat} {f g : Nat → Bool} (h : Mk W Y f) (e : ∀ j, f j = g j) : Mk W Y g := by rw [← funext e]; exact h
def noM : Array Value := madeCells #[.bool false] 64
theorem info_bool : (Try.prog.info? 4).map (fun i => (i.zero, i.size, i.bytes)) = some (some (.bool false), 1, 1) := by kernel_rfl
theorem make64 (W : World) : (Instr.makeSlice 52 (.int .i64 64) (.int .i64 64)).run Try.prog W = .ok (.slice (some ⟨W.heap.size, 0, none⟩) 64 64) (W.alloc (.cells noM 4)) :=
  run_make_row' (P := Try.prog) 52 4 (.bool false) 1 Try.underlying52 info_bool rfl .i64 .i64 64 (by decide) (by decide) W
theorem mk_new (W : World) : Mk (W.alloc (.cells noM 4)) W.heap.size (fun _ => false) :=
  ⟨noM, (MapKept.heap_alloc W _).1, fun j hj => by simp [noM, madeCells, hj, Nat.mod_one]⟩
/-- which pages are marked when the first i are -/
def seen (pg : List Nat) (i j : Nat) : Bool := decide (j ∈ pg.take i)
theorem seen_zero (pg : List Nat) (j : Nat) : seen pg 0 j = false := by simp [seen]
theorem seen_step (pg : List Nat) (i : Nat) (hi : i < pg.length) (j : Nat) : (seen pg i j || j == pg[i]) = seen pg (i + 1) j := by
  have e : pg.take (i + 1) = pg.take i ++ [pg[i]] := by rw [List.take_add_one, List.getElem?_eq_getElem hi]; rfl
  simp only [seen, e, List.mem_append, List.mem_singleton]
  by_cases h1 : j ∈ pg.take i
  · simp [h1]
  · by_cases h2 : j = pg[i] <;> simp [h1, h2]
theorem seen_all (pg : List Nat) (j : Nat) : seen pg pg.length j = decide (j ∈ pg) := by simp [seen]
/-- all of the first i pages from p on are marked -/
def allM (f : Nat → Bool) (p i : Nat) : Bool := (List.range i).all fun t => f (p + t)
theorem allM_step (f : Nat → Bool) (p i : Nat) : (allM f p i && f (p + i)) = allM f p (i + 1) := by simp [allM, List.range_succ]
/-- one of the first c aligned rows of s pages is all marked -/
def anyM (f : Nat → Bool) (s c : Nat) : Bool := (List.range c).any fun t => allM f (t * s) s
theorem anyM_step (f : Nat → Bool) (s c : Nat) : (anyM f s c || allM f (c * s) s) = anyM f s (c + 1) := by simp [anyM, List.range_succ]
/-- what the second loop finds is what is asked for -/
theorem any_fits {n k c : Nat} {l : List Blk} (hr : bd.Right n l) (h1 : c * 2 ^ k ≤ 2 ^ n) (h2 : 2 ^ n < (c + 1) * 2 ^ k) : anyM (fun j => decide (j ∈ bd.pagesL l)) (2 ^ k) c = true ↔ ∃ y ∈ l, k ≤ y.2 := by
  rw [bd.fits_iff hr k]
  have hs := bd.pow_pos' k
  simp only [anyM, allM, List.any_eq_true, List.all_eq_true, List.mem_range, decide_eq_true_eq, bd.mem_pages]
  constructor
  · rintro ⟨t, ht, hall⟩
    refine ⟨t * 2 ^ k, by simp, ?_, hall⟩
    have : (t + 1) * 2 ^ k ≤ c * 2 ^ k := Nat.mul_le_mul_right _ ht
    rw [Nat.add_mul, Nat.one_mul] at this
    omega
  · rintro ⟨p, hp, hle, hall⟩
    have hp' := bd.al_mul hp
    refine ⟨p / 2 ^ k, ?_, fun i hi => ?_⟩
    · rcases Nat.lt_or_ge (p / 2 ^ k) c with h | h
      · exact h
      · exfalso
        have h3 : (c + 1) * 2 ^ k ≤ (p / 2 ^ k + 1) * 2 ^ k := Nat.mul_le_mul_right _ (by omega)
        rw [Nat.add_mul (p / 2 ^ k), Nat.one_mul, Nat.mul_comm (p / 2 ^ k)] at h3
        omega
    · have := hall i hi
      rw [Nat.mul_comm (p / 2 ^ k), ← hp']
      exact this
theorem shl_one (o : Nat) (ho : o ≤ 5) : wrap64 ((2 : Int) ^ o) = ((2 ^ o : Nat) : Int) := by
  have hp : 2 ^ o ≤ 32 := bd.pow_le32 ho
  have e : (2 : Int) ^ o = ((2 ^ o : Nat) : Int) := by simp
  rw [e]; exact IntWalk.wrap64_in _ (by generalize 2 ^ o = s at *; omega)
end Go.Proofs.Ytcokchfedaoccab.blaw
