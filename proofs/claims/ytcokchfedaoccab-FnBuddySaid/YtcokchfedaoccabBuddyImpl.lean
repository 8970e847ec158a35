/-
  The walks of the program's small functions on blocks.
-/
import Derived.Test.YtcokchfedaoccabBuddyRight
import Derived.Lib.QuietBelow
import Derived.BigQuiet
import Derived.Deep.RegionHeld3
import Derived.Laws.StructEq
namespace Go.Proofs.Ytcokchfedaoccab.bimpl
open Go.RowKit Go.Deep Go.Sort
open Go.Proofs.Ytcokchfedaoccab
open Go.Proofs.Ytcokchfedaoccab.brows
open Go.Proofs.Ytcokchfedaoccab.bspec
open Go.Proofs.Ytcokchfedaoccab.bd (Blk)
set_option linter.unusedVariables false

theorem impl_order (n : Int) (w : World) : Calls Try.prog 32 #[.int .i64 n] w fun e w' => e = .returned (.bool (ordB n)) ∧ w' = w := by
  by_cases h0 : 0 ≤ n
  · by_cases h1 : n ≤ 5
    · rw [show ordB n = true by simp [ordB, h0, h1]]
      go_enter Try.func32, Try.ntmps32
      go_wp2
      go_ret
      exact ⟨by simp, rfl⟩
    · rw [show ordB n = false by simp [ordB, h1]]
      go_enter Try.func32, Try.ntmps32
      go_wp2
      go_ret
      exact ⟨by simp, rfl⟩
  · rw [show ordB n = false by simp [ordB, h0]]
    go_enter Try.func32, Try.ntmps32
    go_wp2
    go_ret
    exact ⟨by simp, rfl⟩

theorem impl_pagesOf (o : Nat) (ho : o ≤ 5) (w : World) : Calls Try.prog 63 #[.int .i64 o] w fun e w' => e = .returned (.int .i64 ((2 ^ o : Nat) : Int)) ∧ w' = w := by
  have hp : 2 ^ o ≤ 32 := bd.pow_le32 ho
  have HW : Hid (wrap64 ((2 : Int) ^ o) = ((2 ^ o : Nat) : Int)) := by
    have e : (2 : Int) ^ o = ((2 ^ o : Nat) : Int) := by simp
    show wrap64 ((2 : Int) ^ o) = ((2 ^ o : Nat) : Int)
    rw [e]; exact IntWalk.wrap64_in _ (by generalize 2 ^ o = s at *; omega)
  clear hp
  go_enter Try.func63, Try.ntmps63
  go_wp2
  go_ret
  exact ⟨ret_int HW.out, rfl⟩

theorem impl_pages (a : Int) (o : Nat) (ho : o ≤ 5) (w : World) : Calls Try.prog 48 #[.agg #[.int .i64 a, .int .i64 o]] w fun e w' => e = .returned (.int .i64 ((2 ^ o : Nat) : Int)) ∧ Below w.heap.size w w' := by
  have HS : Hid (∀ W, _) := fun W => impl_pagesOf o ho W
  generalize 2 ^ o = s at *
  go_enter Try.func48, Try.ntmps48
  go_wp2_with fail
  refine Calls.mono (HS.out _) ?_
  rintro e w' ⟨rfl, rfl⟩
  go_wp2
  go_ret
  exact ⟨rfl, (Below.refl _ _).alloc (Nat.le_refl _) _⟩

theorem two_boxes {V w1 : World} {B : Nat} {a b c d : Value} (h : Below V.heap.size V w1) (hB : B + 1 < V.heap.size) (x0 : V.cell? ⟨B, 0, none⟩ = some a) (x1 : V.cell? ⟨B, 1, none⟩ = some b) (q0 : V.cell? ⟨B + 1, 0, none⟩ = some c) (q1 : V.cell? ⟨B + 1, 1, none⟩ = some d)
    (f0 : V.frozen? ⟨B + 1, 0, none⟩ = false) (f1 : V.frozen? ⟨B + 1, 1, none⟩ = false) :
    (w1.cell? ⟨B, 0, none⟩ = some a ∧ w1.cell? ⟨B, 1, none⟩ = some b) ∧ w1.cell? ⟨B + 1, 0, none⟩ = some c ∧ w1.cell? ⟨B + 1, 1, none⟩ = some d ∧ w1.frozen? ⟨B + 1, 0, none⟩ = false ∧ w1.frozen? ⟨B + 1, 1, none⟩ = false := by
  have hB' : B < V.heap.size := by omega
  exact ⟨⟨(h.cell (p := ⟨B, 0, none⟩) hB').trans x0, (h.cell (p := ⟨B, 1, none⟩) hB').trans x1⟩, (h.cell (p := ⟨B + 1, 0, none⟩) hB).trans q0, (h.cell (p := ⟨B + 1, 1, none⟩) hB).trans q1, (h.frozen (p := ⟨B + 1, 0, none⟩) hB).trans f0, (h.frozen (p := ⟨B + 1, 1, none⟩) hB).trans f1⟩
theorem cell_far {w : World} {a b : Addr} (h : a.block ≠ b.block) (u : Value) : (w.setCell b u).cell? a = w.cell? a := by
  unfold World.cell?
  rw [Below.heap_setCell w b u a.block h]
theorem store_two {w : World} {B : Nat} {a b x y : Value} (h : w.cell? ⟨B, 0, none⟩ = some a ∧ w.cell? ⟨B, 1, none⟩ = some b) :
    ((w.setCell ⟨B + 1, 0, none⟩ x).setCell ⟨B + 1, 1, none⟩ y).cell? ⟨B, 0, none⟩ = some a ∧ ((w.setCell ⟨B + 1, 0, none⟩ x).setCell ⟨B + 1, 1, none⟩ y).cell? ⟨B, 1, none⟩ = some b := by
  rw [cell_far (by simp), cell_far (by simp), cell_far (by simp), cell_far (by simp)]; exact h

/-- what a fellow is told as -/
theorem impl_fellow (a o : Nat) (ha : a < 64) (ho : o ≤ 5) (w : World) : Calls Try.prog 56 #[.agg #[.int .i64 a, .int .i64 o]] w fun e w' => e = .returned (.agg #[.int .i64 ((a ^^^ 2 ^ o : Nat) : Int), .int .i64 o]) ∧ Below w.heap.size w w' := by
  have HS : Hid (∀ W, _) := fun W => impl_pages (a : Int) o ho W
  have hp : 2 ^ o ≤ 32 := bd.pow_le32 ho
  have HX : Hid (bits .xor .i64 (a : Int) ((2 ^ o : Nat) : Int) = ((a ^^^ 2 ^ o : Nat) : Int)) := pm.xor_i64 a (2 ^ o) (by omega) (by omega)
  generalize 2 ^ o = s at *
  go_enter Try.func56, Try.ntmps56
  go_wp2_with fail
  obtain ⟨V, hV⟩ : ∃ V, V = (w.alloc (.cells #[.int .i64 a, .int .i64 o] 68)).alloc (.cells #[.int .i64 0, .int .i64 0] 68) := ⟨_, rfl⟩
  have HBV : Hid (Below w.heap.size w V) := by rw [hV]; exact ((Below.refl _ _).alloc (Nat.le_refl _) _).alloc (by simp) _
  have hV2 : w.heap.size + 1 < V.heap.size := by rw [hV]; simp
  have X0 : V.cell? ⟨w.heap.size, 0, none⟩ = some (.int .i64 a) := by rw [hV]; simp
  have X1 : V.cell? ⟨w.heap.size, 1, none⟩ = some (.int .i64 o) := by rw [hV]; simp
  have Q0 : V.cell? ⟨w.heap.size + 1, 0, none⟩ = some (.int .i64 0) := by rw [hV]; simp
  have Q1 : V.cell? ⟨w.heap.size + 1, 1, none⟩ = some (.int .i64 0) := by rw [hV]; simp
  have QF0 : V.frozen? ⟨w.heap.size + 1, 0, none⟩ = false := by rw [hV]; simp
  have QF1 : V.frozen? ⟨w.heap.size + 1, 1, none⟩ = false := by rw [hV]; simp
  rw [← hV]
  clear hV
  go_region_held3 (fun W => W.cell? ⟨w.heap.size, 0, none⟩ = some (.int .i64 a) ∧ W.cell? ⟨w.heap.size, 1, none⟩ = some (.int .i64 o))
    (first | assumption | exact ⟨X0, X1⟩ | exact ⟨Z0, Z1⟩ | exact store_two ⟨Z0, Z1⟩)
    (first | (go_at_call 48; refine Calls.mono (HS.out _) ?_; rintro e w1 ⟨rfl, hb1⟩; obtain ⟨⟨Z0, Z1⟩, R0, R1, RF0, RF1⟩ := two_boxes (V := V) (Below.trans (Below.drew (Below.refl V.heap.size V)) hb1) hV2 X0 X1 Q0 Q1 QF0 QF1; have HB1 : Hid (Below V.heap.size V w1) := (Below.trans (Below.drew (Below.refl V.heap.size V)) hb1); clear hb1))
  go_wp2_with fail
  refine bodyPost_ret (v := .agg #[.int .i64 ((a ^^^ s : Nat) : Int), .int .i64 o]) ?_ rfl ⟨rfl, ?_⟩
  · simp [results, Try.results56, go_sem, R0, R1, HX.out]
  · exact ((HBV.out.trans (HB1.out.mono HBV.out.size)).setCell (by simp) _).setCell (by simp) _
end Go.Proofs.Ytcokchfedaoccab.bimpl
