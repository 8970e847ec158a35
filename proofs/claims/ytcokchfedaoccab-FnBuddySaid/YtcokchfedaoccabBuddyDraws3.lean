/-
  The walk of the draw of a buddy.
-/
import Derived.Test.YtcokchfedaoccabBuddyDraws2
import Derived.Deep.RegionLaw
namespace Go.Proofs.Ytcokchfedaoccab.draws
open Go.RowKit Go.Deep Go.Sort Go.Maps
open Go.Proofs.Ytcokchfedaoccab
open Go.Proofs.Ytcokchfedaoccab.brows
open Go.Proofs.Ytcokchfedaoccab.bspec (Box Res Own illA outV SaysO Ans emb rd_nil own_nil)
open Go.Proofs.Ytcokchfedaoccab.bpool (Kept)
set_option linter.unusedVariables false

theorem zero_box (w : World) : Box (w.alloc (.cells #[.int .i64 0, .slice none 0 0] 29)) w.heap.size 0 (.slice none 0 0) := (MapKept.heap_alloc w _).1
theorem bu_new {w : World} {base : Nat} {m : Int} {v : Value} {xs : List Pr} (h1 : Rd w v xs) (h2 : Own w base v) (h3 : xs.length ≤ 32) (h4 : 0 ≤ m) (h5 : m ≤ 5) : Bu (w.alloc (.cells #[.int .i64 m, v] 29)) base w.heap.size m v xs :=
  ⟨(MapKept.heap_alloc w _).1, h1.below ((Below.refl _ _).alloc (Nat.le_refl _) _), h2.below ((Below.refl _ _).alloc (Nat.le_refl _) _), h3, h4, h5⟩
/-- the cells that are read, wherever only the source turns -/
theorem cells_of {B X P : Nat} {x : Option Addr} {len cap : Nat} {w W : World} {m : Int} {v : Value} (hs : Sr B X x len cap w W) (hb : Box w P m v) (hP : P ≠ B) (hX : P ≠ X) :
    W.cell? ⟨P, 0, none⟩ = some (.int .i64 m) ∧ W.cell? ⟨P, 1, none⟩ = some v ∧ Sr B X x len cap w W := by
  have h : Box W P m v := (hs.block hb.lt hP hX).trans hb
  exact ⟨h.cells.1, h.cells.2.1, hs⟩

theorem src_res_ne {W : World} {B X : Nat} {x : Option Addr} {len cap : Nat} {a b c d : Value} (hs : IsSrc W B x len cap) (h : Res W X a b c d) : X ≠ B := by
  intro e
  subst e
  obtain ⟨_, _, _, hh, _⟩ := hs
  have h2 := hh.symm.trans (show W.heap[X]? = _ from h)
  simp at h2
theorem box_res_ne {W : World} {P X : Nat} {m : Int} {v a b c d : Value} (hb : Box W P m v) (h : Res W X a b c d) : P ≠ X := by
  intro e
  subst e
  have h2 := (show W.heap[P]? = _ from hb).symm.trans (show W.heap[P]? = _ from h)
  simp at h2
/-- where the draw of a buddy stands: the source, the buddy in its box P, the result's box -/
structure Ts (B P : Nat) (x : Option Addr) (len cap : Nat) (w : World) (m : Int) (v : Value) (xs : List Pr) (W : World) : Prop where
  sr : Sr B B x len cap w W
  bu : Bu W w.heap.size P m v xs
  zr : Box W w.heap.size 0 (.slice none 0 0)
  hB : B < w.heap.size
  hP : w.heap.size < P
theorem Ts.keep {B P Y : Nat} {x : Option Addr} {len cap : Nat} {w : World} {m : Int} {v : Value} {xs : List Pr} {W W' : World} (h : Ts B P x len cap w m v xs W) (k : Sr B Y x len cap W W') (hY : w.heap.size < Y ∨ Y = B) (hP : P ≠ Y) (hv : ∀ g, v.ownBlock = some g → g ≠ Y) : Ts B P x len cap w m v xs W' :=
  ⟨h.sr.tr k (by rcases hY with h1 | h1; exact Or.inr (Or.inl (by omega)); exact Or.inl h1), h.bu.sr h.sr.src k (by have := h.hB; have := h.hP; omega) hP hv, (k.block h.zr.lt (by have := h.hB; omega) (by have := h.hB; omega)).trans h.zr, h.hB, h.hP⟩
theorem Ts.n {B P : Nat} {x : Option Addr} {len cap : Nat} {w : World} {m : Int} {v : Value} {xs : List Pr} {W W' : World} (h : Ts B P x len cap w m v xs W) (hs : IsSrc W' B x len cap) (hg : W.grownBy W' (some B)) : Ts B P x len cap w m v xs W' :=
  h.keep ((Sr.refl h.sr.src).n hs hg) (Or.inr rfl) (by have := h.hB; have := h.hP; omega) (fun g hg => src_ne h.bu.own h.sr.src g hg)
theorem Ts.below {B P : Nat} {x : Option Addr} {len cap : Nat} {w : World} {m : Int} {v : Value} {xs : List Pr} {W W' : World} (h : Ts B P x len cap w m v xs W) (hb : Below W.heap.size W W') : Ts B P x len cap w m v xs W' :=
  h.keep ((Sr.refl h.sr.src).below (Nat.lt_of_lt_of_le h.hB h.sr.size) hb) (Or.inr rfl) (by have := h.hB; have := h.hP; omega) (fun g hg => src_ne h.bu.own h.sr.src g hg)
theorem Ts.alloc {B P : Nat} {x : Option Addr} {len cap : Nat} {w : World} {m : Int} {v : Value} {xs : List Pr} {W : World} (h : Ts B P x len cap w m v xs W) (o : Obj) : Ts B P x len cap w m v xs (W.alloc o) := h.below ((Below.refl _ _).alloc (Nat.le_refl _) _)
theorem Ts.drew {B P : Nat} {x : Option Addr} {len cap : Nat} {w : World} {m : Int} {v : Value} {xs : List Pr} {W : World} (h : Ts B P x len cap w m v xs W) : Ts B P x len cap w m v xs W.drew := ⟨h.sr.drew, ⟨h.bu.box, rd_move h.bu.rd (Nat.le_refl _) (fun _ _ _ => rfl), h.bu.own.move (fun _ _ _ _ => rfl), h.bu.len, h.bu.lo, h.bu.hi⟩, h.zr, h.hB, h.hP⟩
theorem Ts.res4 {B P X : Nat} {x : Option Addr} {len cap : Nat} {w : World} {m : Int} {v : Value} {xs : List Pr} {W : World} {a b c d a' b' c' d' : Value} (h : Ts B P x len cap w m v xs W) (hX : w.heap.size < X) (hr : Res W X a b c d) :
    Ts B P x len cap w m v xs ((((W.setCell ⟨X, 0, none⟩ a').setCell ⟨X, 1, none⟩ b').setCell ⟨X, 2, none⟩ c').setCell ⟨X, 3, none⟩ d') :=
  h.keep ((Sr.refl h.sr.src).set4 (Nat.lt_of_lt_of_le h.hB h.sr.size) (src_res_ne h.sr.src hr) (Or.inl rfl)) (Or.inl hX) (box_res_ne h.bu.box hr) (bspec.own_ne h.bu.own hr)
/-- the cells that are read, and where it stands -/
def Tc (B P : Nat) (x : Option Addr) (len cap : Nat) (w : World) (m : Int) (v : Value) (xs : List Pr) (W : World) : Prop := W.cell? ⟨P, 0, none⟩ = some (.int .i64 m) ∧ W.cell? ⟨P, 1, none⟩ = some v ∧ Ts B P x len cap w m v xs W
theorem Ts.tc {B P : Nat} {x : Option Addr} {len cap : Nat} {w : World} {m : Int} {v : Value} {xs : List Pr} {W : World} (h : Ts B P x len cap w m v xs W) : W.cell? ⟨P, 0, none⟩ = some (.int .i64 m) ∧ W.cell? ⟨P, 1, none⟩ = some v ∧ Ts B P x len cap w m v xs W := ⟨h.bu.box.cells.1, h.bu.box.cells.2.1, h⟩
/-- a new box for an answer -/
def Yb (w W : World) (X : Nat) : Prop := w.heap.size < X ∧ Res W X (.int .i64 0) (.slice none 0 0) (.int .i64 0) (.int .i64 0)
theorem Ts.yb4 {B P X : Nat} {x : Option Addr} {len cap : Nat} {w : World} {m : Int} {v : Value} {xs : List Pr} {W : World} {a' b' c' d' : Value} (h : Ts B P x len cap w m v xs W) (y : Hid (Yb w W X)) :
    ((((W.setCell ⟨X, 0, none⟩ a').setCell ⟨X, 1, none⟩ b').setCell ⟨X, 2, none⟩ c').setCell ⟨X, 3, none⟩ d').cell? ⟨P, 0, none⟩ = some (.int .i64 m) ∧ ((((W.setCell ⟨X, 0, none⟩ a').setCell ⟨X, 1, none⟩ b').setCell ⟨X, 2, none⟩ c').setCell ⟨X, 3, none⟩ d').cell? ⟨P, 1, none⟩ = some v ∧ Ts B P x len cap w m v xs ((((W.setCell ⟨X, 0, none⟩ a').setCell ⟨X, 1, none⟩ b').setCell ⟨X, 2, none⟩ c').setCell ⟨X, 3, none⟩ d') := (h.res4 y.out.1 y.out.2).tc
/-- an answer in a box, where the draw stands -/
def CutR (B P : Nat) (x : Option Addr) (len cap : Nat) (w : World) (m : Int) (v : Value) (xs : List Pr) (t5 : Value) (W : World) : Prop := ∃ (X : Nat) (a : Ans) (u : Value), t5 = .pointer (some ⟨X, 0, none⟩) ∧ w.heap.size < X ∧ Hid (Au W w.heap.size X a u) ∧ Hid (Ts B P x len cap w m v xs W)
theorem cut_set {B P X : Nat} {x : Option Addr} {len cap : Nat} {w : World} {m : Int} {v : Value} {xs : List Pr} {W : World} {m6 p6 q6 : Int} {ys6 : List Pr} {u : Value} (y : Hid (Yb w W X)) (h1 : Hid (Rd W u ys6)) (h2 : Hid (Own W w.heap.size u)) (h3 : Hid (BOk (m6, ys6, p6, q6))) (h : Ts B P x len cap w m v xs W) :
    CutR B P x len cap w m v xs (.pointer (some ⟨X, 0, none⟩)) ((((W.setCell ⟨X, 0, none⟩ (.int .i64 m6)).setCell ⟨X, 1, none⟩ u).setCell ⟨X, 2, none⟩ (.int .i64 p6)).setCell ⟨X, 3, none⟩ (.int .i64 q6)) :=
  ⟨X, (m6, ys6, p6, q6), u, rfl, y.out.1, au_set (a := (m6, ys6, p6, q6)) y.out.2 h1.out h2.out h3.out, h.res4 y.out.1 y.out.2⟩
theorem cut_new {B P : Nat} {x : Option Addr} {len cap : Nat} {w : World} {m : Int} {v : Value} {xs : List Pr} {W : World} {m6 p6 q6 : Int} {ys6 : List Pr} {u : Value} (h1 : Hid (Rd W u ys6)) (h2 : Hid (Own W w.heap.size u)) (h3 : Hid (BOk (m6, ys6, p6, q6))) (h : Ts B P x len cap w m v xs W) :
    CutR B P x len cap w m v xs (.pointer (some ⟨W.heap.size, 0, none⟩)) (W.alloc (.cells #[.int .i64 m6, u, .int .i64 p6, .int .i64 q6] 37)) :=
  ⟨W.heap.size, (m6, ys6, p6, q6), u, rfl, Nat.lt_trans h.hP h.bu.box.lt, au_new (a := (m6, ys6, p6, q6)) h1.out h2.out h3.out, h.alloc _⟩
theorem Au.n {W W' : World} {base X B : Nat} {a : Ans} {v : Value} {x : Option Addr} {len cap : Nat} (h : Au W base X a v) (hs0 : IsSrc W B x len cap) (hs : IsSrc W' B x len cap) (hg : W.grownBy W' (some B)) : Au W' base X a v :=
  h.sr hs0 ((Sr.refl hs0 (X := B)).n hs hg) (src_res_ne hs0 h.box) (src_res_ne hs0 h.box) (fun g hg => src_ne h.own hs0 g hg)
/-- an answer in the box X, where the draw stands -/
def CutG (B P X : Nat) (x : Option Addr) (len cap : Nat) (w : World) (m : Int) (v : Value) (xs : List Pr) (W : World) : Prop := ∃ (a : Ans) (u : Value), Hid (Au W w.heap.size X a u) ∧ Hid (Ts B P x len cap w m v xs W)
theorem cutg_set {B P X : Nat} {x : Option Addr} {len cap : Nat} {w : World} {m : Int} {v : Value} {xs : List Pr} {W : World} {m6 p6 q6 : Int} {ys6 : List Pr} {u b0 b1 b2 b3 : Value} (hX : w.heap.size < X) (y : Hid (Res W X b0 b1 b2 b3)) (h1 : Hid (Rd W u ys6)) (h2 : Hid (Own W w.heap.size u)) (h3 : Hid (BOk (m6, ys6, p6, q6))) (h : Ts B P x len cap w m v xs W) :
    CutG B P X x len cap w m v xs ((((W.setCell ⟨X, 0, none⟩ (.int .i64 m6)).setCell ⟨X, 1, none⟩ u).setCell ⟨X, 2, none⟩ (.int .i64 p6)).setCell ⟨X, 3, none⟩ (.int .i64 q6)) :=
  ⟨(m6, ys6, p6, q6), u, au_set (a := (m6, ys6, p6, q6)) y.out h1.out h2.out h3.out, h.res4 hX y.out⟩
theorem Ts.rs4 {B P X : Nat} {x : Option Addr} {len cap : Nat} {w : World} {m : Int} {v : Value} {xs : List Pr} {W : World} {a b c d a' b' c' d' : Value} (h : Ts B P x len cap w m v xs W) (hX : w.heap.size < X) (y : Hid (Res W X a b c d)) :
    ((((W.setCell ⟨X, 0, none⟩ a').setCell ⟨X, 1, none⟩ b').setCell ⟨X, 2, none⟩ c').setCell ⟨X, 3, none⟩ d').cell? ⟨P, 0, none⟩ = some (.int .i64 m) ∧ ((((W.setCell ⟨X, 0, none⟩ a').setCell ⟨X, 1, none⟩ b').setCell ⟨X, 2, none⟩ c').setCell ⟨X, 3, none⟩ d').cell? ⟨P, 1, none⟩ = some v ∧ Ts B P x len cap w m v xs ((((W.setCell ⟨X, 0, none⟩ a').setCell ⟨X, 1, none⟩ b').setCell ⟨X, 2, none⟩ c').setCell ⟨X, 3, none⟩ d') := (h.res4 hX y.out).tc
/-- the buddy is taken over out of the answer -/
theorem Ts.over {B P X : Nat} {x : Option Addr} {len cap : Nat} {w : World} {m : Int} {v : Value} {xs : List Pr} {W : World} {a : Ans} {u : Value} (h : Ts B P x len cap w m v xs W) (h2 : Au W w.heap.size X a u) :
    Ts B P x len cap w a.1 u a.2.1 ((W.setCell ⟨P, 0, none⟩ (.int .i64 a.1)).setCell ⟨P, 1, none⟩ u) := by
  have hne := box_ne h2.own h.bu.box
  have hB := h.hB
  have hP := h.hP
  have hBW : B < W.heap.size := Nat.lt_of_lt_of_le h.hB h.sr.size
  have hs : Sr B P x len cap W ((W.setCell ⟨P, 0, none⟩ (.int .i64 a.1)).setCell ⟨P, 1, none⟩ u) := ((Sr.refl h.sr.src).set hBW (by omega) (Or.inl rfl)).set hBW (by omega) (Or.inl rfl)
  refine ⟨h.sr.tr hs (Or.inr (Or.inl (by omega))), ⟨?_, ?_, (h2.own.far hne _ _).far hne _ _, h2.ok.1, h2.ok.2.1, h2.ok.2.2⟩, (hs.block h.zr.lt (by omega) (by omega)).trans h.zr, hB, hP⟩
  · exact heap_setCell_same _ P 1 _ 29 _ (heap_setCell_same W P 0 _ 29 _ h.bu.box)
  · exact rd_move h2.rd (by simp) fun g hg hl => by rw [Below.heap_setCell _ _ _ _ (hne g hg), Below.heap_setCell _ _ _ _ (hne g hg)]
/-- where the draw stands at its end -/
structure Be (B P : Nat) (x : Option Addr) (len cap : Nat) (w : World) (m : Int) (v : Value) (xs : List Pr) (W : World) : Prop where
  sr : Sr B B x len cap w W
  box : Box W P m v
  rd : Rd W v xs
  zr : Box W w.heap.size 0 (.slice none 0 0)
  ne : ∀ g, v.ownBlock = some g → g ≠ w.heap.size
  hB : B < w.heap.size
  lo : -10 ≤ m
  hi : m ≤ 10
  len : xs.length ≤ 40
theorem Ts.be {B P : Nat} {x : Option Addr} {len cap : Nat} {w : World} {m : Int} {v : Value} {xs : List Pr} {W : World} (h : Ts B P x len cap w m v xs W) : Be B P x len cap w m v xs W :=
  ⟨h.sr, h.bu.box, h.bu.rd, h.zr, box_ne h.bu.own h.zr, h.hB, by have := h.bu.lo; omega, by have := h.bu.hi; omega, by have := h.bu.len; omega⟩
theorem be_end {B P : Nat} {x : Option Addr} {len cap : Nat} {w : World} {m : Int} {v : Value} {xs : List Pr} {W : World} (h : Be B P x len cap w m v xs W) : BuPost B x len cap w (.returned (.agg #[.int .i64 m, v])) ((W.setCell ⟨w.heap.size, 0, none⟩ (.int .i64 m)).setCell ⟨w.heap.size, 1, none⟩ v) := by
  have hB := h.hB
  refine ⟨m, v, xs, rfl, h.lo, h.hi, h.len, ?_, (h.sr.set hB (by omega) (Or.inr (Nat.le_refl _))).set hB (by omega) (Or.inr (Nat.le_refl _))⟩
  exact rd_move h.rd (by simp) fun g hg hl => by rw [Below.heap_setCell _ _ _ _ (h.ne g hg), Below.heap_setCell _ _ _ _ (h.ne g hg)]
/-- the order is another one -/
theorem Ts.order {B P : Nat} {x : Option Addr} {len cap : Nat} {w : World} {m : Int} {v : Value} {xs : List Pr} {W : World} (h : Ts B P x len cap w m v xs W) {m' : Int} (h1 : -10 ≤ m') (h2 : m' ≤ 10) : Be B P x len cap w m' v xs (W.setCell ⟨P, 0, none⟩ (.int .i64 m')) := by
  have hB := h.hB
  have hP := h.hP
  have hne := box_ne h.bu.own h.bu.box
  refine ⟨h.sr.set hB (by omega) (Or.inr (by omega)), heap_setCell_same W P 0 _ 29 _ h.bu.box, ?_, (Below.heap_setCell _ _ _ _ (show w.heap.size ≠ P by omega)).trans h.zr, box_ne h.bu.own h.zr, hB, h1, h2, by have := h.bu.len; omega⟩
  exact rd_move h.bu.rd (by simp) fun g hg hl => by rw [Below.heap_setCell _ _ _ _ (hne g hg)]
/-- another row in the box -/
theorem be_row {B P : Nat} {x : Option Addr} {len cap : Nat} {w : World} {m : Int} {u v : Value} {ys : List Pr} {W : World} (hs : Sr B B x len cap w W) (hb : Box W P m u) (hz : Box W w.heap.size 0 (.slice none 0 0)) (hr : Row W w.heap.size v ys) (hB : B < w.heap.size) (hP : w.heap.size < P) (h1 : 0 ≤ m) (h2 : m ≤ 5) (h3 : ys.length ≤ 40) :
    Be B P x len cap w m v ys (W.setCell ⟨P, 1, none⟩ v) := by
  have hne := box_ne (⟨_, hr⟩ : Own W w.heap.size v) hb
  refine ⟨hs.set hB (by omega) (Or.inr (by omega)), hb.store, ?_, (Below.heap_setCell _ _ _ _ (show w.heap.size ≠ P by omega)).trans hz, box_ne (⟨_, hr⟩ : Own W w.heap.size v) hz, hB, by omega, by omega, h3⟩
  exact rd_move hr.rd (by simp) fun g hg hl => by rw [Below.heap_setCell _ _ _ _ (hne g hg)]
/-- what is read and is its own is an owned row -/
theorem row_of {W : World} {base : Nat} {v : Value} {xs : List Pr} (h : Rd W v xs) (ho : Own W base v) : Row W base v xs := by
  obtain ⟨ys, hy⟩ := ho
  have hl : ys.length = xs.length := by
    obtain ⟨a, c, e1, _⟩ := h.form
    obtain ⟨a', c', e2, _⟩ := hy.rd.form
    rw [e1] at e2
    injection e2 with _ e2 _
    exact e2.symm
  have he : ys = xs := by
    apply List.ext_getElem hl
    intro i h1 h2
    obtain ⟨g, c, e1, _, _, _, hc⟩ := h.at (by omega)
    obtain ⟨g', c', e2, _, _, _, hc'⟩ := hy.rd.at (by omega)
    rw [e1] at e2
    injection e2 with e2 _ _
    injection e2 with e2
    injection e2 with e2 _ _
    subst e2
    have a1 := (hc i h2).1
    have a2 := (hc i h2).2
    rw [(hc' i h1).1] at a1
    rw [(hc' i h1).2] at a2
    simp at a1 a2
    exact Prod.ext a1 a2
  exact he ▸ hy
theorem be_cells {B P : Nat} {x : Option Addr} {len cap : Nat} {w : World} {m : Int} {v : Value} {xs : List Pr} {W : World} (h : Be B P x len cap w m v xs W) :
    ((W.setCell ⟨w.heap.size, 0, none⟩ (.int .i64 m)).setCell ⟨w.heap.size, 1, none⟩ v).cell? ⟨w.heap.size, 0, none⟩ = some (.int .i64 m) ∧ ((W.setCell ⟨w.heap.size, 0, none⟩ (.int .i64 m)).setCell ⟨w.heap.size, 1, none⟩ v).cell? ⟨w.heap.size, 1, none⟩ = some v := by
  have h1 : Box ((W.setCell ⟨w.heap.size, 0, none⟩ (.int .i64 m)).setCell ⟨w.heap.size, 1, none⟩ v) w.heap.size m v := heap_setCell_same _ _ 1 _ 29 _ (heap_setCell_same W _ 0 _ 29 _ h.zr)
  exact ⟨h1.cells.1, h1.cells.2.1⟩
theorem set_alloc {w : World} {P i : Nat} {v : Value} {o : Obj} (h : P < w.heap.size) : (w.alloc o).setCell ⟨P, i, none⟩ v = (w.setCell ⟨P, i, none⟩ v).alloc o := by
  simp only [World.setCell, World.alloc]
  congr 1
  apply Array.ext
  · simp
  · intro k h1 h2
    rw [Array.getElem_modify, Array.getElem_push, Array.getElem_push]
    by_cases hk : k < w.heap.size
    · simp only [Array.size_modify, hk, dif_pos, Array.getElem_modify]
    · have hP : P ≠ k := by omega
      simp only [Array.size_modify, hk, hP, dif_neg, not_false_eq_true, if_neg]
/-- the first block's order is another one -/
theorem be_first {B P g LX cv : Nat} {x : Option Addr} {len cap : Nat} {w : World} {m : Int} {xs : List Pr} {W : World} (h : Ts B P x len cap w m (.slice (some ⟨g, 0, none⟩) LX cv) xs W) (h0 : 0 < xs.length) (q : Int) :
    Be B P x len cap w m (.slice (some ⟨g, 0, none⟩) LX cv) (xs.set 0 ((xs[0]).1, q)) (W.setCell ⟨g, 1, none⟩ (.int .i64 q)) := by
  have hB := h.hB
  have hg := own_at h.bu.own g rfl
  have hgB := src_ne h.bu.own h.sr.src g rfl
  have hgP := box_ne h.bu.own h.bu.box g rfl
  have hgZ := box_ne h.bu.own h.zr g rfl
  refine ⟨h.sr.set hB hgB (Or.inr hg.1), (Below.heap_setCell _ _ _ _ (Ne.symm hgP)).trans h.bu.box, ?_, (Below.heap_setCell _ _ _ _ (Ne.symm hgZ)).trans h.zr, box_ne h.bu.own h.zr, hB, by have := h.bu.lo; omega, by have := h.bu.hi; omega, by have := h.bu.len; simp; omega⟩
  have hrow := row_of h.bu.rd h.bu.own
  obtain ⟨a, c, e, h1, h2, h3⟩ := h.bu.rd
  injection e with ea el ec
  refine ⟨some ⟨g, 0, none⟩, cv, by rw [List.length_set, el], by rw [List.length_set]; omega, by omega, fun _ => ⟨g, rfl, by simpa using hg.2, fun i hi => ?_⟩⟩
  obtain ⟨g', e', _, hc⟩ := h3 h0
  rw [← ea] at e'
  injection e' with e'
  injection e' with e' _ _
  subst e'
  have hi' : i < xs.length := by simpa using hi
  obtain ⟨hl, hr⟩ := hrow
  rcases hr with ⟨hv, _⟩ | ⟨g', cap', cur, hv, _, hcur, _, _, hcs, ht⟩
  · cases hv
  · cases hv
    have hh : (W.setCell ⟨g, 1, none⟩ (.int .i64 q)).heap[g]? = some (.cells (cur.setIfInBounds 1 (.int .i64 q)) 68 (0, 0)) := heap_setCell_same W g 1 _ 68 _ hcur
    have k1 : ∀ j, W.cell? ⟨g, j, none⟩ = cur[j]? := fun j => cell_of_row W g j _ 68 (0, 0) hcur
    have k2 : ∀ j, (W.setCell ⟨g, 1, none⟩ (.int .i64 q)).cell? ⟨g, j, none⟩ = (cur.setIfInBounds 1 (.int .i64 q))[j]? := fun j => cell_of_row _ g j _ 68 (0, 0) hh
    have hc' := hc i hi'
    rw [k1, k1] at hc'
    rw [k2, k2]
    by_cases hi0 : i = 0
    · subst hi0
      have h1l : 1 < cur.size := (Array.getElem?_eq_some_iff.1 hc'.2).1
      simp only [Nat.zero_mul, Nat.zero_add] at hc' ⊢
      refine ⟨?_, ?_⟩
      · rw [Array.getElem?_setIfInBounds_ne (by decide), hc'.1]; simp
      · rw [Array.getElem?_setIfInBounds_self_of_lt h1l]; simp
    · have hs : (xs.set 0 ((xs[0]).1, q))[i]'hi = xs[i] := List.getElem_set_ne (by omega) _
      rw [hs, Array.getElem?_setIfInBounds_ne (by omega), Array.getElem?_setIfInBounds_ne (by omega)]
      exact hc'
/-- one more block behind the row -/
theorem be_more {B P LX : Nat} {x : Option Addr} {len cap : Nat} {w : World} {m p q : Int} {v v9 : Value} {xs : List Pr} {W w9 : World} (h : Ts B P x len cap w m v xs W) (hL : LX = xs.length) (ho : w9.ownsRow w.heap.size 68 2 v9 (LX + 1) (cellsB xs ++ [.int .i64 p, .int .i64 q])) (hg : W.grownBy w9 v.ownBlock) :
    Box w9 P m v ∧ Box w9 w.heap.size 0 (.slice none 0 0) ∧ Rd w9 v9 (xs ++ [(p, q)]) ∧ Be B P x len cap w m v9 (xs ++ [(p, q)]) (w9.setCell ⟨P, 1, none⟩ v9) := by
  have hB := h.hB
  have hP := h.hP
  have hrow : Row w9 w.heap.size v9 (xs ++ [(p, q)]) := by
    have e1 : (xs ++ [(p, q)]).length = LX + 1 := by rw [hL]; simp
    have e2 : cellsB (xs ++ [(p, q)]) = cellsB xs ++ [.int .i64 p, .int .i64 q] := by rw [cellsB_app]; rfl
    rw [Row, e1, e2]; exact ho
  have hb : Box w9 P m v := (hg.block P h.bu.box.lt (fun e => box_ne h.bu.own h.bu.box P e.symm rfl)).trans h.bu.box
  have hz : Box w9 w.heap.size 0 (.slice none 0 0) := (hg.block _ h.zr.lt (fun e => box_ne h.bu.own h.zr _ e.symm rfl)).trans h.zr
  have hs : Sr B B x len cap w w9 := ⟨IsSrc.other h.sr.src hg (Nat.lt_of_lt_of_le hB h.sr.size) (fun e => src_ne h.bu.own h.sr.src B e rfl), h.sr.kept.grown (Nat.le_refl _) hg (fun k hk => Or.inr (Or.inr (own_at h.bu.own k hk).1))⟩
  exact ⟨hb, hz, hrow.rd, be_row hs hb hz hrow hB hP h.bu.lo h.bu.hi (by have := h.bu.len; simp; omega)⟩
theorem own_row {W : World} {base LX : Nat} {v : Value} {xs : List Pr} (h : Rd W v xs) (ho : Own W base v) (hL : LX = xs.length) : W.ownsRow base 68 2 v LX (cellsB xs) := by
  have := row_of h ho
  rw [Row, ← hL] at this; exact this
theorem two_cells (w : World) (p q : Int) : ∀ j u, [Value.int .i64 p, .int .i64 q][j]? = some u → (w.alloc (.cells #[.int .i64 p, .int .i64 q] 68)).cell? ((⟨w.heap.size, 0, none⟩ : Addr).add j) = some u := by
  intro j u hu
  match j, hu with
  | 0, hu => simp at hu; subst hu; simp [Addr.add]
  | 1, hu => simp at hu; subst hu; simp [Addr.add]
theorem one_row (w : World) (p q : Int) : Row (w.alloc (.cells #[.int .i64 p, .int .i64 q] 68)) w.heap.size (.slice (some ⟨w.heap.size, 0, none⟩) 1 1) [(p, q)] :=
  ⟨by simp [cellsB], Or.inr ⟨w.heap.size, 1, #[.int .i64 p, .int .i64 q], rfl, Nat.le_refl _, (MapKept.heap_alloc w _).1, by simp, by unfold maxLen; omega, by simp, by simp [cellsB]⟩⟩
theorem row_down {w : World} {b b' : Nat} {v : Value} {xs : List Pr} (h : Row w b' v xs) (hb : b ≤ b') : Row w b v xs := bpool.Row.down h hb
theorem rd_cells {w : World} {g c : Nat} {xs : List Pr} {n : Nat} (h : Rd w (.slice (some ⟨g, 0, none⟩) n c) xs) : ∀ j u, (cellsB xs)[j]? = some u → w.cell? ((⟨g, 0, none⟩ : Addr).add j) = some u := by
  intro j u hu
  have hj : j < xs.length * 2 := by
    have := (List.getElem?_eq_some_iff.1 hu).1
    rw [cellsB_len] at this; exact this
  obtain ⟨g', c', e, _, _, _, hc⟩ := h.at (by omega)
  injection e with e _ _
  injection e with e
  injection e with e _ _
  subst e
  rw [bspec.add_at, Nat.zero_add]
  have h2 := cellsB_at xs (j / 2) (by omega)
  have h3 := hc (j / 2) (by omega)
  rcases Nat.mod_two_eq_zero_or_one j with h | h
  · have e : j / 2 * 2 = j := by omega
    rw [e] at h2 h3
    rw [h2.1] at hu
    rw [h3.1]; exact hu
  · have e : j / 2 * 2 + 1 = j := by omega
    rw [e] at h2 h3
    rw [h2.2] at hu
    rw [h3.2]; exact hu
theorem yb_new {B P : Nat} {x : Option Addr} {len cap : Nat} {w : World} {m : Int} {v : Value} {xs : List Pr} {W W' : World} (h : Ts B P x len cap w m v xs (W.alloc (.cells #[.int .i64 0, .slice none 0 0, .int .i64 0, .int .i64 0] 37))) (hg : (W.alloc (.cells #[.int .i64 0, .slice none 0 0, .int .i64 0, .int .i64 0] 37)).grownBy W' (some B)) : Yb w W' W.heap.size := by
  have h1 := h.bu.box.lt
  have hP := h.hP
  simp at h1
  have h2 : Res (W.alloc (.cells #[.int .i64 0, .slice none 0 0, .int .i64 0, .int .i64 0] 37)) W.heap.size (.int .i64 0) (.slice none 0 0) (.int .i64 0) (.int .i64 0) := (MapKept.heap_alloc W _).1
  have h3 := src_res_ne h.sr.src h2
  exact ⟨by omega, (hg.block _ (by simp) (by simp; omega)).trans h2⟩
theorem yb_newb {B P : Nat} {x : Option Addr} {len cap : Nat} {w : World} {m : Int} {v : Value} {xs : List Pr} {W W' : World} (h : Ts B P x len cap w m v xs (W.alloc (.cells #[.int .i64 0, .slice none 0 0, .int .i64 0, .int .i64 0] 37))) (hb : Below (W.alloc (.cells #[.int .i64 0, .slice none 0 0, .int .i64 0, .int .i64 0] 37)).heap.size (W.alloc (.cells #[.int .i64 0, .slice none 0 0, .int .i64 0, .int .i64 0] 37)) W') : Yb w W' W.heap.size := yb_new h (bspec.grown_of_below hb _)
theorem yb_grown {w W W' : World} {B X : Nat} {x : Option Addr} {len cap : Nat} (h : Yb w W X) (hs : IsSrc W B x len cap) (hg : W.grownBy W' (some B)) : Yb w W' X := ⟨h.1, (hg.block X h.2.lt (by have := src_res_ne hs h.2; simp; omega)).trans h.2⟩
theorem yb_below {w W W' : World} {X : Nat} (h : Yb w W X) (hb : Below W.heap.size W W') : Yb w W' X := ⟨h.1, h.2.below hb h.2.lt⟩

set_option maxRecDepth 100000 in
set_option maxHeartbeats 4000000 in
theorem buddy_any (B : Nat) (x : Option Addr) (len cap : Nat) (w : World) (hB : B < w.heap.size) (h : IsSrc w B x len cap) (hby : Byts w x len B) :
    Calls Try.prog 37 #[.pointer (some ⟨B, 0, none⟩)] w (BuPost B x len cap w) := by
  have HS0 : Hid (Sr B B x len cap w w) := Sr.refl h
  have HY : Hid (Byts w x len B) := hby
  have HN : Hid (∀ (most : Int) W, most ≤ 9223372036854775807 → Sr B B x len cap w W → Calls Try.prog 38 #[.pointer (some ⟨B, 0, none⟩), .int .i64 most] W (NP B x len cap most W)) := fun most W hm hW => n_of hW (Nat.le_refl _) hB HY.out most hm
  have HONE : Hid (∀ (most : Int) W, most ≤ 9223372036854775807 → Sr B B x len cap w W → Calls Try.prog 42 #[.pointer (some ⟨B, 0, none⟩), .int .i64 most] W (OPost B x len cap W)) := fun most W hm hW => one_of hW (Nat.le_refl _) hB HY.out most hm
  clear h hby
  have HS1 : Hid (Sr B B x len cap w (w.alloc (.cells #[.int .i64 0, .slice none 0 0] 29))) := HS0.out.alloc hB _
  have HZ1 : Hid (Box (w.alloc (.cells #[.int .i64 0, .slice none 0 0] 29)) w.heap.size 0 (.slice none 0 0)) := zero_box w
  go_enter Try.func37, Try.ntmps37
  go_wp2_with fail
  refine Calls.mono (HN.out 6 _ (by omega) HS1.out) ?_
  rintro e w1 ⟨k0, rfl, hk0, hs1, hg1⟩
  have HS2 : Hid (Sr B B x len cap w w1) := HS1.out.n hs1 hg1
  have HZ2 : Hid (Box w1 w.heap.size 0 (.slice none 0 0)) := (hg1.block _ HZ1.out.lt (by simp; omega)).trans HZ1.out
  have hk5 : k0 ≤ 5 := by omega
  have HNEW : Hid (∀ W, Calls Try.prog 54 #[.int .i64 k0] W (bspec.New0 k0 W)) := fun W => bspec.spec_new0 k0 W
  clear hs1 hg1 hk0 HS1 HZ1
  go_wp2_with fail
  refine Calls.mono (HNEW.out _) ?_
  rintro e w2 ⟨v, rfl, hrd2, hb2, hown2⟩
  have HS3 : Hid (Sr B B x len cap w w2) := HS2.out.below hB hb2
  have HZ3 : Hid (Box w2 w.heap.size 0 (.slice none 0 0)) := (hb2.block _ HZ2.out.lt).trans HZ2.out
  have HRD2 : Hid (Rd w2 v ([((0, k0) : bd.Blk)].map emb)) := hrd2
  have HOW2 : Hid (Own w2 w.heap.size v) := hown2.down HS2.out.size
  obtain ⟨a2, c2, hv2, _⟩ := hrd2.form
  have hv2' : v = .slice a2 1 c2 := hv2
  subst hv2'
  clear hb2 hrd2 hown2 hv2 HS2 HZ2
  go_wp2_with fail
  obtain ⟨V, hV⟩ : ∃ V, V = w2.alloc (.cells #[.int .i64 k0, .slice a2 1 c2] 29) := ⟨_, rfl⟩
  have HBU : Hid (Bu V w.heap.size w2.heap.size k0 (.slice a2 1 c2) ([((0, k0) : bd.Blk)].map emb)) := by rw [hV]; exact bu_new HRD2.out HOW2.out (by simp) (by omega) (by omega)
  have HS4 : Hid (Sr B B x len cap w V) := by rw [hV]; exact HS3.out.alloc hB _
  have HZ4 : Hid (Box V w.heap.size 0 (.slice none 0 0)) := by rw [hV]; exact ((World.grownBy_alloc _ _ none).block _ HZ3.out.lt (by simp)).trans HZ3.out
  have hPw : w.heap.size < w2.heap.size := HZ3.out.lt
  obtain ⟨P, hP⟩ : ∃ P, P = w2.heap.size := ⟨_, rfl⟩
  rw [← hP] at HBU hPw
  rw [← hV, ← hP]
  clear hV HRD2 HOW2 HS3 HZ3 hP
  refine Calls.mono (HN.out 9 _ (by omega) HS4.out) ?_
  rintro e w3 ⟨k1, rfl, hk1, hs3, hg3⟩
  have hk8 : k1 ≤ 8 := by omega
  have HSS : Hid (Sr B B x len cap V w3) := (Sr.refl HS4.out.src).n hs3 hg3
  have HS5 : Hid (Sr B B x len cap w w3) := HS4.out.n hs3 hg3
  have HZ5 : Hid (Box w3 w.heap.size 0 (.slice none 0 0)) := (hg3.block _ HZ4.out.lt (by simp; omega)).trans HZ4.out
  have HB5 : Hid (Bu w3 w.heap.size P k0 (.slice a2 1 c2) ([((0, k0) : bd.Blk)].map emb)) := HBU.out.sr HS4.out.src HSS.out (by omega) (by omega) (fun g hg => src_ne HBU.out.own HS4.out.src g hg)
  clear hs3 hg3 hk1 HBU HS4 HZ4 HSS
  go_wp2_with fail
  have HTS5 : Hid (Ts B P x len cap w k0 (.slice a2 1 c2) ([((0, k0) : bd.Blk)].map emb) w3) := ⟨HS5.out, HB5.out, HZ5.out, hB, hPw⟩
  clear HB5 HZ5 HS5
  have HNT : Hid (∀ (m : Int) (v : Value) (xs : List Pr) (most : Int) W, most ≤ 9223372036854775807 → (W.cell? ⟨P, 0, none⟩ = some (.int .i64 m) ∧ W.cell? ⟨P, 1, none⟩ = some v ∧ Ts B P x len cap w m v xs W) → Calls Try.prog 38 #[.pointer (some ⟨B, 0, none⟩), .int .i64 most] W (NP B x len cap most W)) := fun m v xs most W hm hW => HN.out most W hm hW.2.2.sr
  have HTT : Hid (∀ (m : Int) (v : Value) (xs : List Pr) (o : Int) W, (W.cell? ⟨P, 0, none⟩ = some (.int .i64 m) ∧ W.cell? ⟨P, 1, none⟩ = some v ∧ Ts B P x len cap w m v xs W) → Calls Try.prog 19 #[.agg #[.int .i64 m, v], .int .i64 o] W (SaysO BOk W)) := fun m v xs o W hW => take_ok m o v xs W hW.2.2.bu.rd
  have HTG : Hid (∀ (m : Int) (v : Value) (xs : List Pr) (a o : Int) W, (W.cell? ⟨P, 0, none⟩ = some (.int .i64 m) ∧ W.cell? ⟨P, 1, none⟩ = some v ∧ Ts B P x len cap w m v xs W) → Calls Try.prog 20 #[.agg #[.int .i64 m, v], .int .i64 a, .int .i64 o] W (SaysO BOk W)) := fun m v xs a o W hW => give_ok m (a, o) v xs W hW.2.2.bu.rd
  go_loopw [4] (fun t4 wr => ∃ (k : Nat) (m : Int) (v : Value) (xs : List Pr), t4 = .int .i64 k ∧ k ≤ 8 ∧ Hid (Ts B P x len cap w m v xs wr)) (fun t4 _ => (intOf t4).toNat)
  case atStart => exact ⟨k1, k0, _, _, rfl, hk8, HTS5.out⟩
  case round =>
    obtain ⟨k, m, v, xs, rfl, hk, HTS⟩ := hrel
    clear HTS5
    obtain ⟨b0, b1, _, _⟩ := HTS.out.bu.box.cells
    by_cases hk0 : 0 < k
    · go_upto_region 5 with fail
      obtain ⟨av, cv, hv, _⟩ := HTS.out.bu.rd.form
      generalize xs.length = LX at hv
      subst hv
      have HSN : Hid (∀ (most : Int) W, most ≤ 9223372036854775807 → (W.cell? ⟨P, 0, none⟩ = some (.int .i64 m) ∧ W.cell? ⟨P, 1, none⟩ = some (.slice av LX cv) ∧ Ts B P x len cap w m (.slice av LX cv) xs W) → _) := HNT.out m (.slice av LX cv) xs
      have HST : Hid (∀ (o : Int) W, (W.cell? ⟨P, 0, none⟩ = some (.int .i64 m) ∧ W.cell? ⟨P, 1, none⟩ = some (.slice av LX cv) ∧ Ts B P x len cap w m (.slice av LX cv) xs W) → _) := HTT.out m (.slice av LX cv) xs
      have HSG : Hid (∀ (a o : Int) W, (W.cell? ⟨P, 0, none⟩ = some (.int .i64 m) ∧ W.cell? ⟨P, 1, none⟩ = some (.slice av LX cv) ∧ Ts B P x len cap w m (.slice av LX cv) xs W) → _) := HTG.out m (.slice av LX cv) xs
      have HCN : Hid (∀ W W' : World, (W.cell? ⟨P, 0, none⟩ = some (.int .i64 m) ∧ W.cell? ⟨P, 1, none⟩ = some (.slice av LX cv) ∧ Ts B P x len cap w m (.slice av LX cv) xs W) → IsSrc W' B x len cap → W.grownBy W' (some B) → (W'.cell? ⟨P, 0, none⟩ = some (.int .i64 m) ∧ W'.cell? ⟨P, 1, none⟩ = some (.slice av LX cv) ∧ Ts B P x len cap w m (.slice av LX cv) xs W')) := fun W W' h hs hg => (h.2.2.n hs hg).tc
      have HCB : Hid (∀ W W' : World, (W.cell? ⟨P, 0, none⟩ = some (.int .i64 m) ∧ W.cell? ⟨P, 1, none⟩ = some (.slice av LX cv) ∧ Ts B P x len cap w m (.slice av LX cv) xs W) → Below W.heap.size W W' → (W'.cell? ⟨P, 0, none⟩ = some (.int .i64 m) ∧ W'.cell? ⟨P, 1, none⟩ = some (.slice av LX cv) ∧ Ts B P x len cap w m (.slice av LX cv) xs W')) := fun W W' h hb => (h.2.2.below hb).tc
      have HCA : Hid (∀ (o : Obj) (W : World), (W.cell? ⟨P, 0, none⟩ = some (.int .i64 m) ∧ W.cell? ⟨P, 1, none⟩ = some (.slice av LX cv) ∧ Ts B P x len cap w m (.slice av LX cv) xs W) → ((W.alloc o).cell? ⟨P, 0, none⟩ = some (.int .i64 m) ∧ (W.alloc o).cell? ⟨P, 1, none⟩ = some (.slice av LX cv) ∧ Ts B P x len cap w m (.slice av LX cv) xs (W.alloc o))) := fun o W h => (h.2.2.alloc o).tc
      have HYN : Hid (∀ W W' : World, ((W.alloc (.cells #[.int .i64 0, .slice none 0 0, .int .i64 0, .int .i64 0] 37)).cell? ⟨P, 0, none⟩ = some (.int .i64 m) ∧ (W.alloc (.cells #[.int .i64 0, .slice none 0 0, .int .i64 0, .int .i64 0] 37)).cell? ⟨P, 1, none⟩ = some (.slice av LX cv) ∧ Ts B P x len cap w m (.slice av LX cv) xs (W.alloc (.cells #[.int .i64 0, .slice none 0 0, .int .i64 0, .int .i64 0] 37))) → (W.alloc (.cells #[.int .i64 0, .slice none 0 0, .int .i64 0, .int .i64 0] 37)).grownBy W' (some B) → Hid (Yb w W' W.heap.size)) := fun W W' h hg => yb_new h.2.2 hg
      have HYM : Hid (∀ W W' : World, (W.alloc (.cells #[.int .i64 0, .slice none 0 0, .int .i64 0, .int .i64 0] 37)).drew.grownBy W' (some B) → (W'.cell? ⟨P, 0, none⟩ = some (.int .i64 m) ∧ W'.cell? ⟨P, 1, none⟩ = some (.slice av LX cv) ∧ Ts B P x len cap w m (.slice av LX cv) xs W') → w.heap.size < W.heap.size → Hid (Yb w W' W.heap.size)) := fun W W' hg h hw => ⟨hw, (hg.block _ (by simp [World.drew]) (by have := h.2.2.hB; simp; omega)).trans (MapKept.heap_alloc W _).1⟩
      have hwr : w.heap.size < wr.heap.size := Nat.lt_trans HTS.out.hP HTS.out.bu.box.lt
      have HYT : Hid (∀ W W' : World, ((W.alloc (.cells #[.int .i64 0, .slice none 0 0, .int .i64 0, .int .i64 0] 37)).cell? ⟨P, 0, none⟩ = some (.int .i64 m) ∧ (W.alloc (.cells #[.int .i64 0, .slice none 0 0, .int .i64 0, .int .i64 0] 37)).cell? ⟨P, 1, none⟩ = some (.slice av LX cv) ∧ Ts B P x len cap w m (.slice av LX cv) xs (W.alloc (.cells #[.int .i64 0, .slice none 0 0, .int .i64 0, .int .i64 0] 37))) → Below (W.alloc (.cells #[.int .i64 0, .slice none 0 0, .int .i64 0, .int .i64 0] 37)).heap.size (W.alloc (.cells #[.int .i64 0, .slice none 0 0, .int .i64 0, .int .i64 0] 37)) W' → Hid (Yb w W' W.heap.size)) := fun W W' h hb => yb_newb h.2.2 hb
      have HYC : Hid (∀ (X : Nat) (W W' : World), Hid (Yb w W X) → (W.cell? ⟨P, 0, none⟩ = some (.int .i64 m) ∧ W.cell? ⟨P, 1, none⟩ = some (.slice av LX cv) ∧ Ts B P x len cap w m (.slice av LX cv) xs W) → W.grownBy W' (some B) → Hid (Yb w W' X)) := fun X W W' h hW hg => yb_grown h.out hW.2.2.sr.src hg
      have HYD : Hid (∀ (X : Nat) (W W' : World), Hid (Yb w W X) → Below W.heap.size W W' → Hid (Yb w W' X)) := fun X W W' h hb => yb_below h.out hb
      have HOD : Hid (∀ (u : Value) (W W' : World), (W.cell? ⟨P, 0, none⟩ = some (.int .i64 m) ∧ W.cell? ⟨P, 1, none⟩ = some (.slice av LX cv) ∧ Ts B P x len cap w m (.slice av LX cv) xs W) → Own W' W.heap.size u → Own W' w.heap.size u) := fun u W W' h ho => ho.down h.2.2.sr.size
      go_cut [5] from 11 to 37 (fun t5 W => CutR B P x len cap w m (.slice av LX cv) xs t5 W)
      case first => as_aux_lemma =>
        go_region_held3 (fun W => W.cell? ⟨P, 0, none⟩ = some (.int .i64 m) ∧ W.cell? ⟨P, 1, none⟩ = some (.slice av LX cv) ∧ Ts B P x len cap w m (.slice av LX cv) xs W)
          (with_reducible first | assumption | exact HTS.out.tc | exact Z6.2.2.yb4 y | exact HTS.out.drew.tc | exact HCA.out _ _ (by with_reducible assumption) | exact HCA.out _ _ HTS.out.drew.tc | exact HCA.out _ _ HTS.out.tc | exact (HTS.out.alloc _).drew.tc | (trace_state; fail))
          (first | (go_at_call 38; refine Calls.mono (HSN.out _ _ (by omega) (by with_reducible assumption)) ?_; rintro e w4 ⟨q4, rfl, hq4, hs4, hg4⟩; have Z := HCN.out _ _ (by with_reducible assumption) hs4 hg4; (first | (with_reducible have y := HYN.out _ _ (by with_reducible assumption) hg4) | (with_reducible have y := HYM.out _ _ hg4 Z hwr) | (with_reducible have y := HYC.out _ _ _ y (by with_reducible assumption) hg4) | (have y := trivial))) | (go_at_call 19; refine Calls.mono (HST.out _ _ (by with_reducible assumption)) ?_; rintro e w6 ⟨⟨m6, ys6, p6, q6⟩, v6, hok, rfl, hrd6, hown6, hb6⟩; have Z6 := HCB.out _ _ (by with_reducible assumption) hb6; (first | (with_reducible have y := HYT.out _ _ (by with_reducible assumption) hb6) | (with_reducible have y := HYD.out _ _ _ y hb6) | (have y := trivial)); have HRD6 : Hid (Rd w6 v6 ys6) := hrd6; have HOK6 : Hid (BOk (m6, ys6, p6, q6)) := hok; have HOW6 : Hid (Own w6 w.heap.size v6) := HOD.out _ _ _ (by with_reducible assumption) hown6; obtain ⟨a6, c6, hv6, _⟩ := hrd6.form; generalize ys6.length = L6 at hv6; subst hv6; simp only [outV]; clear hok hrd6 hown6; (first | (obtain ⟨⟨z0, z1, z2, z3⟩, f0, f1, f2, f3⟩ := y.out.2.cells) | skip)))
        all_goals (go_wp2_with fail; go_meet; (case rel => first | with_reducible exact cut_set y HRD6 HOW6 HOK6 Z6.2.2 | with_reducible exact cut_new HRD6 HOW6 HOK6 Z6.2.2 | (trace_state; fail)))
      case rest =>
        obtain ⟨X, a, u, rfl, hX, HAU, HTC⟩ := hcut
        obtain ⟨j, rfl⟩ : ∃ j, k = j + 1 := ⟨k - 1, by omega⟩
        obtain ⟨mn, rfl⟩ : ∃ n : Nat, m = (n : Int) := ⟨m.toNat, by have := HTC.out.bu.lo; omega⟩
        have hmn : mn ≤ 5 := by have := HTC.out.bu.hi; omega
        clear HTS b0 b1
        go_wp2_with fail
        refine Calls.mono (HONE.out 3 _ (by omega) HTC.out.sr) ?_
        rintro e w4 ⟨t, rfl, hs4, hg4⟩
        have HTS4 : Hid (Ts B P x len cap w mn (.slice av LX cv) xs w4) := HTC.out.n hs4 hg4
        have HAU4 : Hid (Au w4 w.heap.size X a u) := HAU.out.n HTC.out.sr.src hs4 hg4
        clear hs4 hg4 HTC HAU
        cases t with
        | false =>
          obtain ⟨⟨m5, ys5, p5, q5⟩, u5, HAU5, HTS5⟩ : CutG B P X x len cap w mn (.slice av LX cv) xs w4 := ⟨a, u, HAU4, HTS4⟩
          obtain ⟨⟨r0, r1, r2, r3⟩, _⟩ := HAU5.out.box.cells
          simp only at r0 r2 r3
          obtain ⟨b0, b1, g0, g1⟩ := HTS5.out.bu.box.cells
          obtain ⟨a5, c5, hu5, _⟩ := HAU5.out.rd.form
          generalize (m5, ys5, p5, q5).2.1.length = L5 at hu5
          subst hu5
          by_cases hq : q5 = 0
          · subst hq
            have HOV : Hid (Ts B P x len cap w m5 (.slice a5 L5 c5) ys5 ((w4.setCell ⟨P, 0, none⟩ (.int .i64 m5)).setCell ⟨P, 1, none⟩ (.slice a5 L5 c5))) := HTS5.out.over HAU5.out
            go_wp2_with fail
            go_roundw
            case rel => exact ⟨j, m5, _, ys5, by go_num, by omega, HOV.out⟩
            case measure => simp [intOf]
          · have hqb : (q5 == 0) = false := by simp [hq]
            go_wp2_with fail
            go_roundw
            case rel => exact ⟨j, mn, _, xs, by go_num, by omega, HTS5.out⟩
            case measure => simp [intOf]
        | true =>
          go_upto_region 7 with fail
          have hp32 := bd.pow_le32 hmn
          have HSZ : Hid (∀ W, _) := fun W => bspec.spec_size mn hmn W
          obtain ⟨s, hs⟩ : ∃ s, s = 2 ^ mn := ⟨_, rfl⟩
          rw [← hs] at hp32
          simp only [← hs] at HSZ
          clear hs
          obtain ⟨v0, v1, v2, v3, y⟩ : ∃ v0 v1 v2 v3, Hid (Res w4 X v0 v1 v2 v3) := ⟨_, _, _, _, HAU4.out.box⟩
          have HRC : Hid (∀ W W' : World, Hid (Res W X v0 v1 v2 v3) → (W.cell? ⟨P, 0, none⟩ = some (.int .i64 mn) ∧ W.cell? ⟨P, 1, none⟩ = some (.slice av LX cv) ∧ Ts B P x len cap w mn (.slice av LX cv) xs W) → W.grownBy W' (some B) → Hid (Res W' X v0 v1 v2 v3)) := fun W W' h hW hg => (hg.block X h.out.lt (by have := src_res_ne hW.2.2.sr.src h.out; simp; omega)).trans h.out
          have HRB : Hid (∀ W W' : World, Hid (Res W X v0 v1 v2 v3) → Below W.heap.size W W' → Hid (Res W' X v0 v1 v2 v3)) := fun W W' h hb => h.out.below hb h.out.lt
          have yd : Hid (Res w4.drew X v0 v1 v2 v3) := y.out
          clear HAU4
          go_cut [] from 11 to 37 (fun W => CutG B P X x len cap w mn (.slice av LX cv) xs W)
          case first => as_aux_lemma =>
            go_region_held3 (fun W => W.cell? ⟨P, 0, none⟩ = some (.int .i64 mn) ∧ W.cell? ⟨P, 1, none⟩ = some (.slice av LX cv) ∧ Ts B P x len cap w mn (.slice av LX cv) xs W)
              (with_reducible first | assumption | exact HTS4.out.tc | exact Z6.2.2.rs4 hX y | exact HTS4.out.drew.tc | (trace_state; fail))
              (first | (go_at_call 46; refine Calls.mono (HSZ.out _) ?_; rintro e w' ⟨rfl, rfl⟩) | (go_at_call 38; refine Calls.mono (HSN.out _ _ (by omega) (by with_reducible assumption)) ?_; rintro e w5 ⟨q4, rfl, hq4, hs4, hg4⟩; have Z := HCN.out _ _ (by with_reducible assumption) hs4 hg4; (first | (with_reducible have y := HRC.out _ _ y (by with_reducible assumption) hg4) | (with_reducible have y := HRC.out _ _ yd (by with_reducible assumption) hg4))) | (go_at_call 20; refine Calls.mono (HSG.out _ _ _ (by with_reducible assumption)) ?_; rintro e w6 ⟨⟨m6, ys6, p6, q6⟩, v6, hok, rfl, hrd6, hown6, hb6⟩; have Z6 := HCB.out _ _ (by with_reducible assumption) hb6; (with_reducible have y := HRB.out _ _ y hb6); have HRD6 : Hid (Rd w6 v6 ys6) := hrd6; have HOK6 : Hid (BOk (m6, ys6, p6, q6)) := hok; have HOW6 : Hid (Own w6 w.heap.size v6) := HOD.out _ _ _ (by with_reducible assumption) hown6; obtain ⟨a6, c6, hv6, _⟩ := hrd6.form; generalize ys6.length = L6 at hv6; subst hv6; simp only [outV]; clear hok hrd6 hown6; obtain ⟨⟨z0, z1, z2, z3⟩, f0, f1, f2, f3⟩ := y.out.cells))
            all_goals (go_wp2_with fail; go_meet; (case rel => first | with_reducible exact cutg_set hX y HRD6 HOW6 HOK6 Z6.2.2 | (trace_state; fail)))
          case rest =>
            clear HTS4 y yd HRC HRB HSZ
            obtain ⟨⟨m5, ys5, p5, q5⟩, u5, HAU5, HTS5⟩ : CutG B P X x len cap w mn (.slice av LX cv) xs wc := hcut
            obtain ⟨⟨r0, r1, r2, r3⟩, _⟩ := HAU5.out.box.cells
            simp only at r0 r2 r3
            obtain ⟨b0, b1, g0, g1⟩ := HTS5.out.bu.box.cells
            obtain ⟨a5, c5, hu5, _⟩ := HAU5.out.rd.form
            generalize (m5, ys5, p5, q5).2.1.length = L5 at hu5
            subst hu5
            by_cases hq : q5 = 0
            · subst hq
              have HOV : Hid (Ts B P x len cap w m5 (.slice a5 L5 c5) ys5 ((wc.setCell ⟨P, 0, none⟩ (.int .i64 m5)).setCell ⟨P, 1, none⟩ (.slice a5 L5 c5))) := HTS5.out.over HAU5.out
              go_wp2_with fail
              go_roundw
              case rel => exact ⟨j, m5, _, ys5, by go_num, by omega, HOV.out⟩
              case measure => simp [intOf]
            · have hqb : (q5 == 0) = false := by simp [hq]
              go_wp2_with fail
              go_roundw
              case rel => exact ⟨j, mn, _, xs, by go_num, by omega, HTS5.out⟩
              case measure => simp [intOf]
    · obtain rfl : k = 0 := by omega
      obtain ⟨av, cv, hv, _⟩ := HTS.out.bu.rd.form
      obtain ⟨LX, hLX⟩ : ∃ L, L = xs.length := ⟨_, rfl⟩
      rw [← hLX] at hv
      subst hv
      have hLX32 : LX ≤ 32 := by have := HTS.out.bu.len; omega
      have HLX : Hid (LX = xs.length) := hLX
      clear hLX
      clear HNT HTT HTG b0 b1
      go_wp2_with fail
      refine Calls.mono (HONE.out 15 _ (by omega) HTS.out.sr) ?_
      rintro e w5 ⟨t, rfl, hs5, hg5⟩
      have HTS5 : Hid (Ts B P x len cap w m (.slice av LX cv) xs w5) := HTS.out.n hs5 hg5
      clear hs5 hg5 HTS
      cases t with
      | false =>
        obtain ⟨z0, z1, zf0, zf1⟩ := HTS5.out.zr.cells
        obtain ⟨b0, b1, _, _⟩ := HTS5.out.bu.box.cells
        go_wp2_with fail
        exact bodyPost_ret (v := .agg #[.int .i64 m, .slice av LX cv]) (by simp [results, Try.results37, go_sem, z0, z1]) rfl (be_end HTS5.out.be)
      | true =>
        go_wp2_with fail
        refine Calls.mono (HN.out 4 _ (by omega) HTS5.out.sr) ?_
        rintro e w6 ⟨c6, rfl, hc6, hs6, hg6⟩
        have HTS6 : Hid (Ts B P x len cap w m (.slice av LX cv) xs w6) := HTS5.out.n hs6 hg6
        clear hs6 hg6 HTS5
        obtain ⟨z0, z1, zf0, zf1⟩ := HTS6.out.zr.cells
        obtain ⟨b0, b1, g0, g1⟩ := HTS6.out.bu.box.cells
        have hP := HTS6.out.hP
        have hPl := HTS6.out.bu.box.lt
        have hRl : w.heap.size < w6.heap.size := HTS6.out.zr.lt
        have hc3 : c6 = 0 ∨ c6 = 1 ∨ c6 = 2 ∨ c6 = 3 := by omega
        clear hc6
        rcases hc3 with rfl | rfl | rfl | rfl
        · go_wp2_with fail
          refine Calls.mono (HN.out 8 _ (by omega) HTS6.out.sr) ?_
          rintro e w7 ⟨c7, rfl, hc7, hs7, hg7⟩
          have HTS7 : Hid (Ts B P x len cap w m (.slice av LX cv) xs w7) := HTS6.out.n hs7 hg7
          have HBE : Hid (Be B P x len cap w ((c7 : Int) - 1) (.slice av LX cv) xs (w7.setCell ⟨P, 0, none⟩ (.int .i64 ((c7 : Int) - 1)))) := HTS7.out.order (by omega) (by omega)
          have hc8 : c7 < 8 := by omega
          clear hs7 hg7 HTS6 b0 b1 g0 g1 hc7 z0 z1 zf0 zf1
          obtain ⟨z0, z1, zf0, zf1⟩ := HTS7.out.zr.cells
          obtain ⟨b0, b1, g0, g1⟩ := HTS7.out.bu.box.cells
          have hPR : ¬ P = w.heap.size := by omega
          have hRP : ¬ w.heap.size = P := by omega
          go_wp2_with fail
          exact bodyPost_ret (v := .agg #[.int .i64 ((c7 : Int) - 1), .slice av LX cv]) (by simp [results, Try.results37, go_sem, z0, z1]) rfl (be_end HBE.out)
        · have hPR : ¬ P = w.heap.size := by omega
          have hRP : ¬ w.heap.size = P := by omega
          obtain ⟨i0, hi, hz0, hz1, hz2⟩ := info_parts bspec.info_blk
          have HOWN : Hid (∀ W, Ts B P x len cap w m (.slice av LX cv) xs W → W.ownsRow w.heap.size 68 2 (.slice av LX cv) LX (cellsB xs)) := fun W hW => own_row hW.bu.rd hW.bu.own HLX.out
          have HMORE : Hid (∀ (p q : Int) (v9 : Value) W w9, Ts B P x len cap w m (.slice av LX cv) xs W → w9.ownsRow w.heap.size 68 2 v9 (LX + 1) (cellsB xs ++ [.int .i64 p, .int .i64 q]) → W.grownBy w9 (Value.slice av LX cv).ownBlock → Box w9 P m (.slice av LX cv) ∧ Box w9 w.heap.size 0 (.slice none 0 0) ∧ Rd w9 v9 (xs ++ [(p, q)]) ∧ Be B P x len cap w m v9 (xs ++ [(p, q)]) (w9.setCell ⟨P, 1, none⟩ v9)) := fun p q v9 W w9 hW ho hg => be_more hW HLX.out ho hg
          have hz6 := HTS6.out.sr.size
          have HTN : Hid (∀ W W', Hid (Ts B P x len cap w m (.slice av LX cv) xs W) → IsSrc W' B x len cap → W.grownBy W' (some B) → Hid (Ts B P x len cap w m (.slice av LX cv) xs W')) := fun W W' h hs hg => h.out.n hs hg
          have HTM : Hid (∀ W W', Hid (Ts B P x len cap w m (.slice av LX cv) xs W) → IsSrc W' B x len cap → W.drew.grownBy W' (some B) → Hid (Ts B P x len cap w m (.slice av LX cv) xs W')) := fun W W' h hs hg => h.out.drew.n hs hg
          have HSZ : Hid (∀ W, Ts B P x len cap w m (.slice av LX cv) xs W → w.heap.size ≤ W.heap.size) := fun W hW => hW.sr.size
          go_wp2_with fail
          go_region_law (first | (rw [if_pos (by rfl)]; refine wp_append_own _ (.tmp 57) (.tmp 63) 27 rfl w.heap.size 68 i0 (.agg #[.int .i64 0, .int .i64 0]) 2 16 Try.underlying27 hi hz0 hz1 hz2 rfl (by decide) _ LX (cellsB xs) rfl (HOWN.out _ (Z8.out.alloc _)) ⟨w8.heap.size, 0, none⟩ 1 1 [.int .i64 q7, .int .i64 q8] rfl rfl (two_cells w8 q7 q8) (fun u hu => by simp at hu; rcases hu with rfl | rfl <;> rfl) (by unfold maxLen; omega) (by omega) (HSZ.out _ (Z8.out.alloc _)) ?_; intro v9 w9 own9 gr9 _; obtain ⟨hb9, hzb9, hr9, he9⟩ := HMORE.out _ _ _ _ _ (Z8.out.alloc _) own9 gr9; have HBE : Hid (Be B P x len cap w m v9 (xs ++ [((q7 : Int), (q8 : Int))]) (w9.setCell ⟨P, 1, none⟩ v9)) := he9; obtain ⟨z0, z1, zf0, zf1⟩ := hzb9.cells; clear hzb9; obtain ⟨b0, b1, g0, g1⟩ := hb9.cells; obtain ⟨a9, c9, hv9, _⟩ := hr9.form; generalize (xs ++ [((q7 : Int), (q8 : Int))]).length = L9 at hv9; subst hv9; have hz9 := HBE.out.sr.size; simp at hz9; clear own9 gr9 hb9 hr9 he9) | (have hh := q7; go_simp; go_at_call 38; refine Calls.mono (HN.out 3 _ (by omega) (by first | with_reducible exact Z.out.sr | with_reducible exact Z.out.drew.sr)) ?_; rintro e w8 ⟨q8, rfl, hq8, hs8, hg8⟩; have Z8 : Hid (Ts B P x len cap w m (.slice av LX cv) xs w8) := (by first | with_reducible exact HTN.out _ _ Z hs8 hg8 | with_reducible exact HTM.out _ _ Z hs8 hg8); clear hh hs8 hg8; obtain ⟨b0, b1, g0, g1⟩ := Z8.out.bu.box.cells; have hP8 := Z8.out.bu.box.lt; have hR8 := Z8.out.zr.lt; have hz8 := Z8.out.sr.size) | (go_simp; go_at_call 38; refine Calls.mono (HN.out 32 _ (by omega) (by first | with_reducible exact HTS6.out.sr | with_reducible exact HTS6.out.drew.sr)) ?_; rintro e w7 ⟨q7, rfl, hq7, hs7, hg7⟩; have Z : Hid (Ts B P x len cap w m (.slice av LX cv) xs w7) := (by first | with_reducible exact HTN.out _ _ HTS6 hs7 hg7 | with_reducible exact HTM.out _ _ HTS6 hs7 hg7); clear hs7 hg7; obtain ⟨b0, b1, g0, g1⟩ := Z.out.bu.box.cells; have hz7 := Z.out.sr.size))
          all_goals
            go_wp2_with fail
            exact bodyPost_ret (v := .agg #[.int .i64 m, .slice a9 L9 c9]) (by simp [results, Try.results37, go_sem, z0, z1]) rfl (be_end HBE.out)
        · have hPR : ¬ P = w.heap.size := by omega
          have hRP : ¬ w.heap.size = P := by omega
          by_cases h0 : LX = 0
          · subst h0
            go_wp2_with fail
            exact bodyPost_ret (v := .agg #[.int .i64 m, .slice av 0 cv]) (by simp [results, Try.results37, go_sem, z0, z1]) rfl (be_end HTS6.out.be)
          · have hx0 : 0 < xs.length := by have := HLX.out; omega
            obtain ⟨g, rfl⟩ : ∃ g, av = some ⟨g, 0, none⟩ := by
              obtain ⟨g', c', e, _⟩ := HTS6.out.bu.rd.at hx0
              injection e with e _ _
              exact ⟨g', e⟩
            have hLX0 : 0 < LX := by omega
            have HFR : Hid (∀ W, Ts B P x len cap w m (.slice (some ⟨g, 0, none⟩) LX cv) xs W → (∃ old, W.cell? ⟨g, 1, none⟩ = some (.int .i64 old)) ∧ W.frozen? ⟨g, 1, none⟩ = false) := fun W hW => by
              obtain ⟨_, hc, hf⟩ := (row_of hW.bu.rd hW.bu.own).cells
              exact ⟨⟨_, by simpa using (hc 0 hx0).2⟩, hf 1⟩
            have HBF : Hid (∀ (q : Int) W, Ts B P x len cap w m (.slice (some ⟨g, 0, none⟩) LX cv) xs W → ∃ ys, Be B P x len cap w m (.slice (some ⟨g, 0, none⟩) LX cv) ys (W.setCell ⟨g, 1, none⟩ (.int .i64 q))) := fun q W hW => ⟨_, be_first hW hx0 q⟩
            have HNE : Hid (∀ W, Ts B P x len cap w m (.slice (some ⟨g, 0, none⟩) LX cv) xs W → ¬ g = P ∧ ¬ g = w.heap.size ∧ ¬ P = g ∧ ¬ w.heap.size = g) := fun W hW => ⟨box_ne hW.bu.own hW.bu.box g rfl, box_ne hW.bu.own hW.zr g rfl, fun e => box_ne hW.bu.own hW.bu.box g rfl e.symm, fun e => box_ne hW.bu.own hW.zr g rfl e.symm⟩
            have HT7 : Hid (∀ W W', (W = w6 ∨ W = w6.drew) → IsSrc W' B x len cap → W.grownBy W' (some B) → Ts B P x len cap w m (.slice (some ⟨g, 0, none⟩) LX cv) xs W') := fun W W' hW hs hg => by
              rcases hW with rfl | rfl
              · exact HTS6.out.n hs hg
              · exact HTS6.out.drew.n hs hg
            go_wp2_with fail
            go_region_with (go_at_call 38; refine Calls.mono (HN.out 7 _ (by omega) (by first | with_reducible exact HTS6.out.sr | with_reducible exact HTS6.out.drew.sr)) ?_; rintro e w7 ⟨q7, rfl, hq7, hs7, hg7⟩; have Z : Hid (Ts B P x len cap w m (.slice (some ⟨g, 0, none⟩) LX cv) xs w7) := HT7.out _ _ (by first | exact Or.inl rfl | exact Or.inr rfl) hs7 hg7; clear hs7 hg7; obtain ⟨b0, b1, g0, g1⟩ := Z.out.bu.box.cells; obtain ⟨z0, z1, zf0, zf1⟩ := Z.out.zr.cells; obtain ⟨⟨old, k0⟩, k1⟩ := HFR.out _ Z.out; obtain ⟨n1, n2, n3, n4⟩ := HNE.out _ Z.out)
            all_goals
              obtain ⟨ys, HBE⟩ := HBF.out q7 _ Z.out
              have HBE2 : Hid (Be B P x len cap w m (.slice (some ⟨g, 0, none⟩) LX cv) ys (w7.setCell ⟨g, 1, none⟩ (.int .i64 q7))) := HBE
              clear HBE
              go_wp2_with fail
              exact bodyPost_ret (v := .agg #[.int .i64 m, .slice (some ⟨g, 0, none⟩) LX cv]) (by simp [results, Try.results37, go_sem, z0, z1]) rfl (be_end HBE2.out)
        · obtain ⟨i0, hi, hz0, hz1, hz2⟩ := info_parts bspec.info_blk
          have HR3 : Hid (Row (w6.alloc (.cells #[.int .i64 1, .int .i64 1] 68)) w.heap.size (.slice (some ⟨w6.heap.size, 0, none⟩) 1 1) [(1, 1)]) := row_down (one_row w6 1 1) HTS6.out.sr.size
          have HT7 : Hid (Ts B P x len cap w m (.slice av LX cv) xs (w6.alloc (.cells #[.int .i64 1, .int .i64 1] 68))) := HTS6.out.alloc _
          have hPR : ¬ P = w.heap.size := by omega
          have hRP : ¬ w.heap.size = P := by omega
          by_cases h0 : LX = 0
          · subst h0
            have HBE : Hid (Be B P x len cap w m (.slice (some ⟨w6.heap.size, 0, none⟩) 1 1) [(1, 1)] ((w6.alloc (.cells #[.int .i64 1, .int .i64 1] 68)).setCell ⟨P, 1, none⟩ (.slice (some ⟨w6.heap.size, 0, none⟩) 1 1))) := be_row HT7.out.sr HT7.out.bu.box HT7.out.zr HR3.out hB hP HT7.out.bu.lo HT7.out.bu.hi (by simp)
            have HE : Hid _ := be_end HBE.out
            obtain ⟨q0, q1⟩ := be_cells HBE.out
            rw [set_alloc hPl, set_alloc (by simpa using hRl), set_alloc (by simpa using hRl)] at HE q0 q1
            cases av
            all_goals
              go_wp2_with fail
              exact bodyPost_ret (v := .agg #[.int .i64 m, .slice (some ⟨w6.heap.size, 0, none⟩) 1 1]) (by simp [results, Try.results37, go_sem, q0, q1]) rfl HE.out
          · obtain ⟨g, rfl⟩ : ∃ g, av = some ⟨g, 0, none⟩ := by
              obtain ⟨g', c', e, _⟩ := HTS6.out.bu.rd.at (by have := HLX.out; omega)
              injection e with e _ _
              exact ⟨g', e⟩
            have HC : Hid _ := rd_cells HT7.out.bu.rd
            have HCL : Hid ((cellsB xs).length = LX * 2) := by rw [Hid, cellsB_len, HLX.out]
            have hLX0 : 0 < LX := by omega
            go_wp2_with (at_builtin; refine wpList_append_own_at _ rfl _ _ 27 rfl w.heap.size 68 i0 (.agg #[.int .i64 0, .int .i64 0]) 2 16 Try.underlying27 hi hz0 hz1 hz2 rfl (by decide) _ 1 _ rfl HR3.out ⟨g, 0, none⟩ LX cv (cellsB xs) rfl HCL.out HC.out (fun u hu => bspec.cellsB_one hu) (by unfold maxLen; omega) (by omega) (by simp; omega) ?_)
            intro v8 w8 own8 gr8 _ hob
            have HW8 : Hid (Row w8 w.heap.size v8 ((1, 1) :: xs)) := by
              have e1 : ((1, 1) :: xs).length = 1 + LX := by rw [List.length_cons, HLX.out]; omega
              rw [Hid, Row, e1]; exact own8
            have hg8 : (w6.alloc (.cells #[.int .i64 1, .int .i64 1] 68)).grownBy w8 (some w6.heap.size) := gr8
            have HP8 : Hid (Box w8 P m (.slice (some ⟨g, 0, none⟩) LX cv)) := (hg8.block P (by simp; omega) (by simp; omega)).trans HT7.out.bu.box
            have HZ8 : Hid (Box w8 w.heap.size 0 (.slice none 0 0)) := (hg8.block _ (by simp; omega) (by simp; omega)).trans HT7.out.zr
            have HS8 : Hid (Sr B B x len cap w w8) := ⟨IsSrc.other HT7.out.sr.src hg8 (by simp; omega) (by simp; omega), HT7.out.sr.kept.grown (Nat.le_refl _) hg8 (fun k hk => by cases hk; exact Or.inr (Or.inr (by omega)))⟩
            have HBE : Hid (Be B P x len cap w m v8 ((1, 1) :: xs) (w8.setCell ⟨P, 1, none⟩ v8)) := be_row HS8.out HP8.out HZ8.out HW8.out hB hP HT7.out.bu.lo HT7.out.bu.hi (by have := HT7.out.bu.len; simp; omega)
            obtain ⟨a8, c8, hv8, _⟩ := HW8.out.rd.form
            generalize ((1, 1) :: xs).length = L8 at hv8
            subst hv8
            clear own8 gr8 hg8 hob z0 z1 zf0 zf1 b0 b1 g0 g1 HC HCL HR3
            obtain ⟨z0, z1, zf0, zf1⟩ := HZ8.out.cells
            obtain ⟨b0, b1, g0, g1⟩ := HP8.out.cells
            go_wp2_with fail
            exact bodyPost_ret (v := .agg #[.int .i64 m, .slice a8 L8 c8]) (by simp [results, Try.results37, go_sem, z0, z1]) rfl (be_end HBE.out)
end Go.Proofs.Ytcokchfedaoccab.draws
