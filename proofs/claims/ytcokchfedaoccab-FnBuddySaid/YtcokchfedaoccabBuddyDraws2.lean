/-
  The draw of a buddy.
-/
import Derived.Test.YtcokchfedaoccabBuddyDraws
import Derived.Deep.RegionHeld3
import Derived.Deep.Cut
import Derived.Deep.CutRange
namespace Go.Proofs.Ytcokchfedaoccab.draws
open Go.RowKit Go.Deep Go.Sort Go.Maps
open Go.Proofs.Ytcokchfedaoccab
open Go.Proofs.Ytcokchfedaoccab.brows
open Go.Proofs.Ytcokchfedaoccab.bspec (Box Res Own illA outV SaysO Ans emb rd_nil own_nil)
open Go.Proofs.Ytcokchfedaoccab.bpool (Kept)
set_option linter.unusedVariables false

/-- what l04Buddy leaves -/
def BuPost (B : Nat) (x : Option Addr) (len cap : Nat) (w : World) (e : Ending) (w' : World) : Prop :=
  ∃ (m : Int) (v : Value) (xs : List Pr), e = .returned (.agg #[.int .i64 m, v]) ∧ -10 ≤ m ∧ m ≤ 10 ∧ xs.length ≤ 40 ∧ Rd w' v xs ∧ Sr B B x len cap w w'
/-- a buddy in a box P, its row its own from base on -/
structure Bu (W : World) (base P : Nat) (m : Int) (v : Value) (xs : List Pr) : Prop where
  box : Box W P m v
  rd : Rd W v xs
  own : Own W base v
  len : xs.length ≤ 32
  lo : 0 ≤ m
  hi : m ≤ 5
theorem box_ne {w : World} {base R : Nat} {v b : Value} {m : Int} (h : Own w base v) (hr : Box w R m b) : ∀ g, v.ownBlock = some g → g ≠ R := by
  intro g hg e
  obtain ⟨ys, hl, h1⟩ := h
  rcases h1 with ⟨rfl, _⟩ | ⟨g', cap, cur, rfl, _, hc, _⟩
  · simp [Value.ownBlock] at hg
  · simp [Value.ownBlock] at hg
    subst hg e
    have h2 : some (Obj.cells cur 68 (0, 0)) = some (Obj.cells #[.int .i64 m, b] 29 (0, 0)) := hc.symm.trans hr
    simp at h2
theorem own_at {w : World} {base : Nat} {v : Value} (h : Own w base v) : ∀ g, v.ownBlock = some g → base ≤ g ∧ g < w.heap.size := by
  intro g hg
  obtain ⟨ys, hl, h1⟩ := h
  rcases h1 with ⟨rfl, _⟩ | ⟨g', cap, cur, rfl, hb, hc, _⟩
  · simp [Value.ownBlock] at hg
  · simp [Value.ownBlock] at hg
    subst hg
    exact ⟨hb, (Array.getElem?_eq_some_iff.1 hc).1⟩
theorem src_ne {w : World} {base B : Nat} {v : Value} {x : Option Addr} {len cap : Nat} (h : Own w base v) (hs : IsSrc w B x len cap) : ∀ g, v.ownBlock = some g → g ≠ B := by
  intro g hg e
  obtain ⟨ys, hl, h1⟩ := h
  obtain ⟨_, _, _, hh, _⟩ := hs
  rcases h1 with ⟨rfl, _⟩ | ⟨g', cap, cur, rfl, _, hc, _⟩
  · simp [Value.ownBlock] at hg
  · simp [Value.ownBlock] at hg
    subst hg e
    rw [hc] at hh
    simp at hh
theorem rd_move {w w' : World} {v : Value} {xs : List Pr} (h : Rd w v xs) (hs : w.heap.size ≤ w'.heap.size) (hk : ∀ g, v.ownBlock = some g → g < w.heap.size → w'.heap[g]? = w.heap[g]?) : Rd w' v xs := by
  obtain ⟨a, c, rfl, h1, h2, h3⟩ := h
  refine ⟨a, c, rfl, h1, h2, fun hn => ?_⟩
  obtain ⟨g, rfl, hg, hc⟩ := h3 hn
  have e := hk g rfl hg
  exact ⟨g, rfl, by omega, fun i hi => ⟨(World.cell?_of_block (a := ⟨g, i * 2, none⟩) e).trans (hc i hi).1, (World.cell?_of_block (a := ⟨g, i * 2 + 1, none⟩) e).trans (hc i hi).2⟩⟩
/-- a buddy in its box stays what it is, wherever only the source and another block turn -/
theorem Bu.sr {W W' : World} {base P B X : Nat} {m : Int} {v : Value} {xs : List Pr} {x : Option Addr} {len cap : Nat} (h : Bu W base P m v xs) (hs0 : IsSrc W B x len cap) (hs : Sr B X x len cap W W') (hP : P ≠ B) (hX : P ≠ X) (hv : ∀ g, v.ownBlock = some g → g ≠ X) : Bu W' base P m v xs :=
  ⟨(hs.block h.box.lt hP hX).trans h.box, rd_move h.rd hs.size (fun g hg hl => hs.block hl (src_ne h.own hs0 g hg) (hv g hg)), h.own.move (fun g _ hl hg => hs.block hl (src_ne h.own hs0 g hg) (hv g hg)), h.len, h.lo, h.hi⟩
/-- an answer in a box X, its row its own from base on -/
structure Au (W : World) (base X : Nat) (a : Ans) (v : Value) : Prop where
  box : Res W X (.int .i64 a.1) v (.int .i64 a.2.2.1) (.int .i64 a.2.2.2)
  rd : Rd W v a.2.1
  own : Own W base v
  ok : BOk a
theorem Au.sr {W W' : World} {base X B Y : Nat} {a : Ans} {v : Value} {x : Option Addr} {len cap : Nat} (h : Au W base X a v) (hs0 : IsSrc W B x len cap) (hs : Sr B Y x len cap W W') (hX : X ≠ B) (hXY : X ≠ Y) (hv : ∀ g, v.ownBlock = some g → g ≠ Y) : Au W' base X a v :=
  ⟨(hs.block h.box.lt hX hXY).trans h.box, rd_move h.rd hs.size (fun g hg hl => hs.block hl (src_ne h.own hs0 g hg) (hv g hg)), h.own.move (fun g _ hl hg => hs.block hl (src_ne h.own hs0 g hg) (hv g hg)), h.ok⟩
theorem au_new {w : World} {base : Nat} {a : Ans} {v : Value} (h1 : Rd w v a.2.1) (h2 : Own w base v) (h3 : BOk a) : Au (w.alloc (.cells #[.int .i64 a.1, v, .int .i64 a.2.2.1, .int .i64 a.2.2.2] 37)) base w.heap.size a v :=
  ⟨(MapKept.heap_alloc w _).1, h1.below ((Below.refl _ _).alloc (Nat.le_refl _) _), h2.below ((Below.refl _ _).alloc (Nat.le_refl _) _), h3⟩
theorem res_set4 {w : World} {R : Nat} {a b c d a' b' c' d' : Value} (h : Res w R a b c d) : Res ((((w.setCell ⟨R, 0, none⟩ a').setCell ⟨R, 1, none⟩ b').setCell ⟨R, 2, none⟩ c').setCell ⟨R, 3, none⟩ d') R a' b' c' d' :=
  heap_setCell_same _ R 3 _ 37 _ (heap_setCell_same _ R 2 _ 37 _ (heap_setCell_same _ R 1 _ 37 _ (heap_setCell_same w R 0 _ 37 _ h)))
theorem au_set {w : World} {base X : Nat} {a : Ans} {v b0 b1 b2 b3 : Value} (h : Res w X b0 b1 b2 b3) (h1 : Rd w v a.2.1) (h2 : Own w base v) (h3 : BOk a) :
    Au ((((w.setCell ⟨X, 0, none⟩ (.int .i64 a.1)).setCell ⟨X, 1, none⟩ v).setCell ⟨X, 2, none⟩ (.int .i64 a.2.2.1)).setCell ⟨X, 3, none⟩ (.int .i64 a.2.2.2)) base X a v := by
  have hn := bspec.own_ne h2 h
  refine ⟨res_set4 h, ?_, (((h2.far hn _ _).far hn _ _).far hn _ _).far hn _ _, h3⟩
  exact rd_move h1 (by simp) fun g hg hl => by
    have hne := hn g hg
    rw [Below.heap_setCell _ _ _ _ hne, Below.heap_setCell _ _ _ _ hne, Below.heap_setCell _ _ _ _ hne, Below.heap_setCell _ _ _ _ hne]
theorem res_zero {w W : World} {B : Nat} (h : (w.alloc (.cells #[.int .i64 0, .slice none 0 0, .int .i64 0, .int .i64 0] 37)).grownBy W (some B)) (hB : B < w.heap.size) : Res W w.heap.size (.int .i64 0) (.slice none 0 0) (.int .i64 0) (.int .i64 0) :=
  (h.block w.heap.size (by simp) (by simp; omega)).trans (MapKept.heap_alloc w _).1
theorem res_zero' {w W : World} (h : Below (w.alloc (.cells #[.int .i64 0, .slice none 0 0, .int .i64 0, .int .i64 0] 37)).heap.size (w.alloc (.cells #[.int .i64 0, .slice none 0 0, .int .i64 0, .int .i64 0] 37)) W) : Res W w.heap.size (.int .i64 0) (.slice none 0 0) (.int .i64 0) (.int .i64 0) :=
  (h.block w.heap.size (by simp)).trans (MapKept.heap_alloc w _).1
end Go.Proofs.Ytcokchfedaoccab.draws
