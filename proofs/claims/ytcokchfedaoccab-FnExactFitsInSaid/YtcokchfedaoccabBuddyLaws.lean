/-
  What the laws on buddies share: the buddy that was handed in, in a box; a shell for a buddy that is handed in.
-/
import Derived.Test.YtcokchfedaoccabBlkTo
import Derived.Test.YtcokchfedaoccabBuddyRightJ
import Derived.Deep.SlicePairs
import Derived.Lib.SmallJoins
import Derived.OpenShut
import Derived.Carry
import Derived.ProofKit
namespace Go.Proofs.Ytcokchfedaoccab.blaws
open Go.RowKit Go.Deep Go.Sort
open Go.Proofs.Ytcokchfedaoccab.brows
open Go.Proofs.Ytcokchfedaoccab.bspec (Box)
set_option linter.unusedVariables false

/-- the law's own buddy, in a box -/
def LBox (w : World) (B : Nat) (m : Int) (v : Value) : Prop := w.heap[B]? = some (.cells #[.int .i64 m, v] 24 (0, 0))
theorem LBox.cells {w : World} {B : Nat} {m : Int} {v : Value} (h : LBox w B m v) : w.cell? ⟨B, 0, none⟩ = some (.int .i64 m) ∧ w.cell? ⟨B, 1, none⟩ = some v := by
  unfold LBox at h
  constructor
  · simp [World.cell?, h]
  · simp [World.cell?, h]
theorem LBox.lt {w : World} {B : Nat} {m : Int} {v : Value} (h : LBox w B m v) : B < w.heap.size := (Array.getElem?_eq_some_iff.1 h).1
theorem LBox.below {w w' : World} {B : Nat} {m : Int} {v : Value} (h : LBox w B m v) (hb : Below w.heap.size w w') : LBox w' B m v := (hb.block B h.lt).trans h
theorem lbox_new (w : World) (m : Int) (v : Value) : LBox (w.alloc (.cells #[.int .i64 m, v] 24)) w.heap.size m v := (MapKept.heap_alloc w _).1
theorem box_below {w w' : World} {B : Nat} {m : Int} {v : Value} (h : Box w B m v) (hb : Below w.heap.size w w') : Box w' B m v := (hb.block B h.lt).trans h
theorem box_one (w : World) (m : Int) (v : Value) : Box (w.alloc (.cells #[.int .i64 m, v] 29)) w.heap.size m v := (MapKept.heap_alloc w _).1
theorem below_one (w : World) (o : Obj) : Below w.heap.size w (w.alloc o) := (Below.refl _ _).alloc (Nat.le_refl _) _
theorem below_tr {w a b : World} (h : Below w.heap.size w a) (k : Below a.heap.size a b) : Below w.heap.size w b := h.trans (k.mono h.size)
theorem twice {w W : World} {B X : Nat} {m : Int} {v v2 : Value} (hb : Below w.heap.size w W) (h1 : LBox w B m v) (h2 : Box w X m v2) :
    W.cell? ⟨B, 0, none⟩ = some (.int .i64 m) ∧ W.cell? ⟨B, 1, none⟩ = some v ∧ W.cell? ⟨X, 0, none⟩ = some (.int .i64 m) ∧ W.cell? ⟨X, 1, none⟩ = some v2 :=
  ⟨(h1.below hb).cells.1, (h1.below hb).cells.2, (box_below h2 hb).cells.1, (box_below h2 hb).cells.2.1⟩

theorem laidOut : laidOutB Try.prog = true := by kernel_rfl
open Go.ChangeShapes Go.WideShapes Go.ChangeAt Go.Joins in
/-- a slice of blocks that was handed in -/
theorem opened {H : Type} {enc : TypeId × Value → H} {W : World} {n : Nat} {v : Value} {y : DataW H × List MemPlace}
    (h : DataW.trod enc Try.prog W 0 (fun _ => true) true n 22 [v] = some y) : ∃ xs, RdO W v xs := by
  rcases open_slice_pairs Try.underlying22 Try.underlying85 (by kernel_rfl) rfl rfl (by kernel_rfl) (by kernel_rfl) h with ⟨hcs, _⟩ | ⟨a, len, cap, m, n', V0, V1, D0, D1, P0, P1, hcs, _, hl, hm, hmm, _, hx⟩
  · simp at hcs
    subst hcs
    exact ⟨[], none, 0, rfl, by simp, fun h => absurd h (by simp)⟩
  · simp at hcs
    subst hcs
    simp only [if_true] at hmm
    subst hmm
    have each : ∀ i, i < len → ∃ p : Int × Int, V0 i = .int .i64 p.1 ∧ V1 i = .int .i64 p.2 := fun i hi => by
      obtain ⟨_, _, g0, g1⟩ := hx i (by omega)
      obtain ⟨a0, e0, _, _⟩ := DataW.trod_int Try.underlying2 g0
      obtain ⟨b0, e1, _, _⟩ := DataW.trod_int Try.underlying2 g1
      simp at e0 e1
      exact ⟨(a0, b0), e0, e1⟩
    obtain ⟨q, hq⟩ := choose_lt each
    refine ⟨(List.range len).map q, some a, m, by simp, by simp; omega, fun h0 => ?_⟩
    simp only [List.length_map, List.length_range] at h0
    obtain ⟨b, off, spot⟩ := a
    have hsp : spot = none := by
      cases spot with
      | none => rfl
      | some k =>
        exfalso
        have h1 := (hx 0 (by omega)).1
        have : W.cell? ⟨b, off, some k⟩ = none := by unfold World.cell?; split <;> simp
        rw [show (Addr.add ⟨b, off, some k⟩ (0 * 2)) = ⟨b, off, some k⟩ from rfl, this] at h1
        simp at h1
    subst hsp
    have ea : ∀ i, Addr.add ⟨b, off, none⟩ i = ⟨b, off + i, none⟩ := fun i => by
      unfold Addr.add; split
      · next h => subst h; rfl
      · rfl
    have hc : ∀ i, i < len → W.cell? ⟨b, off + i * 2, none⟩ = some (.int .i64 (q i).1) ∧ W.cell? ⟨b, off + i * 2 + 1, none⟩ = some (.int .i64 (q i).2) := fun i hi => by
      obtain ⟨g0, g1, _, _⟩ := hx i (by omega)
      rw [ea, (hq i hi).1] at g0
      rw [ea, (hq i hi).2] at g1
      exact ⟨g0, by rw [Nat.add_assoc]; exact g1⟩
    refine ⟨b, off, rfl, ?_, fun i hi => ?_⟩
    · have := (hc 0 h0).1
      exact Go.Proofs.Ytcokchfedaoccab.bspec.cell_lt this
    · have hi' : i < len := by simpa using hi
      have := hc i hi'
      simpa using this
end Go.Proofs.Ytcokchfedaoccab.blaws
