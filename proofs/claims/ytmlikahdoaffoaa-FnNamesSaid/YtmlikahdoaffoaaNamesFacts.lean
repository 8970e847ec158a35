/-
  Facts for the law FnNames: what is permuted comes back; of one key no two names are alike; the answer's box and the row of marks.
-/
import Derived.Test.YtmlikahdoaffoaaStreamEq
import Derived.Deep.OwnRows
import Derived.Laws.CopyOwn
namespace Go.Proofs.Ytmlikahdoaffoaa.nfacts
open Go.RowKit Go.Deep
open Go.Proofs.Ytmlikahdoaffoaa
open Go.Proofs.Ytmlikahdoaffoaa.pm
open Go.Proofs.Ytmlikahdoaffoaa.strm (nextS Out rightS)

theorem comes_back (k n : Int) (hk : keyB k = true) (hn : keyB n = true) : 0 ≤ permI k n ∧ unpermI k (permI k n) = n ∧ permI k (unpermI k n) = n := by
  obtain ⟨a, ha, rfl⟩ := key_nat k hk
  obtain ⟨b, hb, rfl⟩ := key_nat n hn
  have e1 : permI a b = (permN a b : Int) := by rw [permI, hk, hn]; rfl
  have e2 : unpermI a b = (unpermN a b : Int) := by rw [unpermI, hk, hn]; rfl
  have l1 := perm_lt a b hb
  have l2 := unperm_lt a b hb
  have k1 : keyB ((permN a b : Nat) : Int) = true := key_of _ (by omega) (by omega)
  have k2 : keyB ((unpermN a b : Nat) : Int) = true := key_of _ (by omega) (by omega)
  have e3 : unpermI a ((permN a b : Nat) : Int) = ((unpermN a (permN a b) : Nat) : Int) := by rw [unpermI, hk, k1]; rfl
  have e4 : permI a ((unpermN a b : Nat) : Int) = ((permN a (unpermN a b) : Nat) : Int) := by rw [permI, hk, k2]; rfl
  rw [e1, e2, e3, e4, unperm_perm a b hb, perm_unperm a b hb]
  exact ⟨by omega, rfl, rfl⟩
theorem not_right (k n : Int) (h : keyB k = false ∨ keyB n = false) : permI k n = -1 := by
  rcases h with h | h <;> simp [permI, h]

/-- what holds of the answer and the marks, round for round: where the code is 0, the marks are of names that were told ahead of this one -/
def Inv (o : Out) (f : Nat → Bool) : Prop := o.code = 0 → ∃ k c : Nat, k < 65536 ∧ c < 1000 ∧ o = ⟨k, (c : Int) + 1, (permN k c : Nat), 0⟩ ∧ ∀ j, f j = true → ∃ d, d < c ∧ j = permN k d

theorem next_nat (k c : Nat) (hk : k < 65536) (hc : c < 1000) : nextS (k : Int) (c : Int) = ⟨k, (c : Int) + 1, (permN k c : Nat), 0⟩ := by
  have hk' : keyB (k : Int) = true := key_of _ (by omega) (by omega)
  have hc' : keyB (c : Int) = true := key_of _ (by omega) (by omega)
  have hr : rightS (k : Int) (c : Int) = true := by
    rw [rightS, hk', decide_eq_true (show 0 ≤ (c : Int) ∧ (c : Int) ≤ 1000 by omega)]; rfl
  have e : permI (k : Int) (c : Int) = ((permN k c : Nat) : Int) := by rw [permI, hk', hc']; rfl
  rw [nextS, hr, if_pos rfl, if_neg (by omega), e]
theorem next_full (k : Nat) (hk : k < 65536) : (nextS (k : Int) 1000).code = 9 := by
  have hk' : keyB (k : Int) = true := key_of _ (by omega) (by omega)
  have hr : rightS (k : Int) 1000 = true := by rw [rightS, hk']; rfl
  rw [nextS, hr, if_pos rfl, if_pos rfl]

theorem inv_start (ks cs : Int) : Inv (nextS ks cs) (fun _ => false) := by
  intro h
  by_cases hr : rightS ks cs = true
  · obtain ⟨hk, h0, h1⟩ := strm.right_of hr
    by_cases he : cs = 1000
    · rw [nextS, hr, if_pos rfl, if_pos he] at h; exact absurd h (by decide)
    · obtain ⟨k, hk', rfl⟩ := key_nat ks hk
      obtain ⟨c, hc', rfl⟩ : ∃ c : Nat, c < 1000 ∧ cs = (c : Int) := ⟨cs.toNat, by omega, by omega⟩
      exact ⟨k, c, hk', hc', next_nat k c hk' hc', fun j hj => absurd hj (by simp)⟩
  · rw [nextS, if_neg hr] at h; exact absurd h (by decide)

theorem inv_step (k c : Nat) (hk : k < 65536) (hc : c < 1000) (f : Nat → Bool) (hf : ∀ j, f j = true → ∃ d, d < c ∧ j = permN k d) :
    Inv (nextS (k : Int) ((c : Int) + 1)) (fun j => f j || j == permN k c) := by
  intro h
  by_cases he : c + 1 = 1000
  · have e : (c : Int) + 1 = 1000 := by omega
    rw [e, next_full k hk] at h; exact absurd h (by decide)
  · refine ⟨k, c + 1, hk, by omega, ?_, fun j hj => ?_⟩
    · have := next_nat k (c + 1) hk (by omega)
      simpa using this
    · simp only [Bool.or_eq_true, beq_iff_eq] at hj
      rcases hj with hj | hj
      · obtain ⟨d, hd, e⟩ := hf j hj
        exact ⟨d, by omega, e⟩
      · exact ⟨c, by omega, hj⟩
theorem not_yet (k c : Nat) (hc : c < 1000) (f : Nat → Bool) (hf : ∀ j, f j = true → ∃ d, d < c ∧ j = permN k d) : f (permN k c) = false := by
  cases h : f (permN k c) with
  | false => rfl
  | true =>
    obtain ⟨d, hd, e⟩ := hf _ h
    have := perm_inj k c d (by omega) (by omega) e
    omega

/-- the answer's box: four cells that may be written -/
def Box4 (W : World) (X : Nat) (o : Out) : Prop :=
  (W.cell? ⟨X, 0, none⟩ = some (.int .i64 o.key) ∧ W.cell? ⟨X, 1, none⟩ = some (.int .i64 o.count) ∧ W.cell? ⟨X, 2, none⟩ = some (.int .i64 o.id) ∧ W.cell? ⟨X, 3, none⟩ = some (.int .i64 o.code)) ∧
  (W.frozen? ⟨X, 0, none⟩ = false ∧ W.frozen? ⟨X, 1, none⟩ = false ∧ W.frozen? ⟨X, 2, none⟩ = false ∧ W.frozen? ⟨X, 3, none⟩ = false) ∧ X < W.heap.size
theorem Box4.below {W W' : World} {X : Nat} {o : Out} (h : Box4 W X o) {B : Nat} (hb : Below B W W') (hX : X < B) : Box4 W' X o := by
  obtain ⟨⟨a0, a1, a2, a3⟩, ⟨f0, f1, f2, f3⟩, hs⟩ := h
  exact ⟨⟨(hb.cell (p := ⟨X, 0, none⟩) hX).trans a0, (hb.cell (p := ⟨X, 1, none⟩) hX).trans a1, (hb.cell (p := ⟨X, 2, none⟩) hX).trans a2, (hb.cell (p := ⟨X, 3, none⟩) hX).trans a3⟩,
    ⟨(hb.frozen (p := ⟨X, 0, none⟩) hX).trans f0, (hb.frozen (p := ⟨X, 1, none⟩) hX).trans f1, (hb.frozen (p := ⟨X, 2, none⟩) hX).trans f2, (hb.frozen (p := ⟨X, 3, none⟩) hX).trans f3⟩, Nat.lt_of_lt_of_le hs hb.size⟩
theorem far {k j : Nat} (h : k ≠ j) (w : World) (i i' : Nat) (v : Value) : (w.setCell ⟨j, i, none⟩ v).cell? ⟨k, i', none⟩ = w.cell? ⟨k, i', none⟩ :=
  World.cell?_setCell_other _ _ _ _ (by intro e; simp only [Addr.mk.injEq] at e; exact h e.1.symm)
theorem near {k i j : Nat} (h : i ≠ j) (w : World) (v : Value) : (w.setCell ⟨k, j, none⟩ v).cell? ⟨k, i, none⟩ = w.cell? ⟨k, i, none⟩ :=
  World.cell?_setCell_other _ _ _ _ (by intro e; simp only [Addr.mk.injEq] at e; exact h e.2.1.symm)
theorem set_size (w : World) (a : Addr) (v : Value) : (w.setCell a v).heap.size = w.heap.size := by simp [World.setCell]
theorem Box4.apart {W : World} {X Y : Nat} {o : Out} (h : Box4 W X o) (hXY : X ≠ Y) (i : Nat) (v : Value) : Box4 (W.setCell ⟨Y, i, none⟩ v) X o := by
  simp only [Box4, far hXY, World.frozen?_setCell, set_size]
  exact h
theorem Box4.set {W : World} {X : Nat} {o : Out} (h : Box4 W X o) (o' : Out) :
    Box4 ((((W.setCell ⟨X, 0, none⟩ (.int .i64 o'.key)).setCell ⟨X, 1, none⟩ (.int .i64 o'.count)).setCell ⟨X, 2, none⟩ (.int .i64 o'.id)).setCell ⟨X, 3, none⟩ (.int .i64 o'.code)) X o' := by
  obtain ⟨⟨a0, a1, a2, a3⟩, f, hs⟩ := h
  refine ⟨⟨?_, ?_, ?_, ?_⟩, ?_, ?_⟩
  · rw [near (by decide), near (by decide), near (by decide)]; exact World.cell?_setCell_same _ _ _ a0
  · rw [near (by decide), near (by decide)]; exact World.cell?_setCell_same _ _ _ (by rw [near (by decide)]; exact a1)
  · rw [near (by decide)]; exact World.cell?_setCell_same _ _ _ (by rw [near (by decide), near (by decide)]; exact a2)
  · exact World.cell?_setCell_same _ _ _ (by rw [near (by decide), near (by decide), near (by decide)]; exact a3)
  · simp only [World.frozen?_setCell]; exact f
  · simp only [set_size]; exact hs

/-- the row of marks in block Y -/
def Marks (W : World) (Y : Nat) (f : Nat → Bool) : Prop :=
  Y < W.heap.size ∧ ∀ j, j < 65536 → W.cell? ⟨Y, j, none⟩ = some (.bool (f j)) ∧ W.frozen? ⟨Y, j, none⟩ = false
theorem Marks.below {W W' : World} {Y : Nat} {f : Nat → Bool} (h : Marks W Y f) {B : Nat} (hb : Below B W W') (hY : Y < B) : Marks W' Y f :=
  ⟨Nat.lt_of_lt_of_le h.1 hb.size, fun j hj => ⟨(hb.cell (p := ⟨Y, j, none⟩) hY).trans (h.2 j hj).1, (hb.frozen (p := ⟨Y, j, none⟩) hY).trans (h.2 j hj).2⟩⟩
theorem Marks.apart {W : World} {X Y : Nat} {f : Nat → Bool} (h : Marks W Y f) (hXY : Y ≠ X) (i : Nat) (v : Value) : Marks (W.setCell ⟨X, i, none⟩ v) Y f :=
  ⟨by rw [set_size]; exact h.1, fun j hj => ⟨by rw [far hXY]; exact (h.2 j hj).1, by rw [World.frozen?_setCell]; exact (h.2 j hj).2⟩⟩
theorem Marks.set {W : World} {Y : Nat} {f : Nat → Bool} (h : Marks W Y f) (q : Nat) (hq : q < 65536) : Marks (W.setCell ⟨Y, q, none⟩ (.bool true)) Y (fun j => f j || j == q) := by
  refine ⟨by rw [set_size]; exact h.1, fun j hj => ⟨?_, by rw [World.frozen?_setCell]; exact (h.2 j hj).2⟩⟩
  by_cases e : j = q
  · subst e
    rw [World.cell?_setCell_same _ _ _ (h.2 j hj).1]; simp
  · rw [near e, (h.2 j hj).1]; simp [e]

/-- no mark at all: what 'make' makes -/
def noMarks : Array Value := madeCells #[.bool false] 65536
theorem made_at (z : Value) (n j : Nat) (hj : j < n) : (madeCells #[z] n)[j]? = some z := by
  simp [madeCells, hj, Nat.mod_one]
theorem noMarks_at (j : Nat) (hj : j < 65536) : noMarks[j]? = some (.bool false) := made_at _ _ j hj
theorem info_bool : (Try.prog.info? 4).map (fun i => (i.zero, i.size, i.bytes)) = some (some (.bool false), 1, 1) := by kernel_rfl
theorem make_marks (W : World) : (Instr.makeSlice 42 (.int .i64 65536) (.int .i64 65536)).run Try.prog W = .ok (.slice (some ⟨W.heap.size, 0, none⟩) 65536 65536) (W.alloc (.cells noMarks 4)) :=
  run_make_row' (P := Try.prog) 42 4 (.bool false) 1 Try.underlying42 info_bool rfl .i64 .i64 65536 (by decide) (by decide) W
theorem unfrozen {w : World} {B : Nat} {cs : Array Value} {T : TypeId} (h : w.heap[B]? = some (.cells cs T (0, 0))) (i : Nat) : w.frozen? ⟨B, i, none⟩ = false := by
  simp [World.frozen?, h]
theorem marks_new (W : World) : Marks (W.alloc (.cells noMarks 4)) W.heap.size (fun _ => false) := by
  have h : (W.alloc (.cells noMarks 4)).heap[W.heap.size]? = some (.cells noMarks 4 (0, 0)) := (MapKept.heap_alloc W _).1
  exact ⟨by simp, fun j hj => ⟨by rw [cell_of_row _ _ j noMarks 4 (0, 0) h]; exact noMarks_at j hj, unfrozen h j⟩⟩
end Go.Proofs.Ytmlikahdoaffoaa.nfacts
