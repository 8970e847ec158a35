/-
  The walks of the laws' own helpers: a stream copied, two streams and two answers compared.
-/
import Derived.Test.YtmlikahdoaffoaaStream
namespace Go.Proofs.Ytmlikahdoaffoaa.strm
open Go.RowKit
open Go.Proofs.Ytmlikahdoaffoaa

theorem spec_rightB (k c : Int) (w : World) : Calls Try.prog 15 #[.agg #[.int .i64 k, .int .i64 c]] w fun e w' => e = .returned (.bool (rightS k c)) ∧ Below w.heap.size w w' :=
  (spec_right k c w).mono fun _ _ h => ⟨h.1, by rw [h.2]; exact (Below.refl _ _).alloc (Nat.le_refl _) _⟩
theorem impl_rightB (k c : Int) (w : World) : Calls Try.prog 17 #[.agg #[.int .i64 k, .int .i64 c]] w fun e w' => e = .returned (.bool (rightS k c)) ∧ Below w.heap.size w w' :=
  (impl_right k c w).mono fun _ _ h => ⟨h.1, by rw [h.2]; exact (Below.refl _ _).alloc (Nat.le_refl _) _⟩
/-- two cells behind a call that makes memory of its own -/
theorem cells2 {w w' : World} {B : Nat} {a b : Value} (h : Below w.heap.size w w') (h0 : w.cell? ⟨B, 0, none⟩ = some a) (h1 : w.cell? ⟨B, 1, none⟩ = some b) (hB : B < w.heap.size) :
    w'.cell? ⟨B, 0, none⟩ = some a ∧ w'.cell? ⟨B, 1, none⟩ = some b ∧ B < w'.heap.size :=
  ⟨(h.cell (p := ⟨B, 0, none⟩) hB).trans h0, (h.cell (p := ⟨B, 1, none⟩) hB).trans h1, Nat.lt_of_lt_of_le hB h.size⟩
theorem cells4 {w w' : World} {B : Nat} {a b c d : Value} (h : Below w.heap.size w w') (h0 : w.cell? ⟨B, 0, none⟩ = some a) (h1 : w.cell? ⟨B, 1, none⟩ = some b) (h2 : w.cell? ⟨B, 2, none⟩ = some c) (h3 : w.cell? ⟨B, 3, none⟩ = some d) (hB : B < w.heap.size) :
    w'.cell? ⟨B, 0, none⟩ = some a ∧ w'.cell? ⟨B, 1, none⟩ = some b ∧ w'.cell? ⟨B, 2, none⟩ = some c ∧ w'.cell? ⟨B, 3, none⟩ = some d ∧ B < w'.heap.size :=
  ⟨(h.cell (p := ⟨B, 0, none⟩) hB).trans h0, (h.cell (p := ⟨B, 1, none⟩) hB).trans h1, (h.cell (p := ⟨B, 2, none⟩) hB).trans h2, (h.cell (p := ⟨B, 3, none⟩) hB).trans h3, Nat.lt_of_lt_of_le hB h.size⟩
theorem to_stream (k c : Int) (w : World) : Calls Try.prog 16 #[.agg #[.int .i64 k, .int .i64 c]] w fun e w' => e = .returned (.agg #[.int .i64 k, .int .i64 c]) ∧ Below w.heap.size w w' := by
  go_enter Try.func16, Try.ntmps16
  go_wp2
  exact bodyPost_ret (v := .agg #[.int .i64 k, .int .i64 c]) (by simp [results, Try.results16, go_sem]) rfl
    ⟨rfl, (((Below.refl _ _).alloc (Nat.le_refl _) _).alloc (by simp) _).alloc (by simp; omega) _⟩
theorem eq_stream (k c : Int) (w : World) : Calls Try.prog 33 #[.agg #[.int .i64 k, .int .i64 c], .agg #[.int .i64 k, .int .i64 c]] w fun e w' => e = .returned (.bool true) ∧ w' = (w.alloc (.cells #[.int .i64 k, .int .i64 c] 29)).alloc (.cells #[.int .i64 k, .int .i64 c] 29) := by
  go_enter Try.func33, Try.ntmps33
  go_wp2
  go_ret
  exact ⟨rfl, rfl⟩
theorem eq_out (o : Out) (w : World) : Calls Try.prog 20 #[o.val, o.val] w fun e w' => e = .returned (.bool true) ∧ Below w.heap.size w w' := by
  obtain ⟨k, c, i, d⟩ := o
  simp only [Out.val]
  have HE : Hid (∀ W, _) := fun W => eq_stream k c W
  go_enter Try.func20, Try.ntmps20
  go_wp2_with fail
  refine Calls.mono (HE.out _) ?_
  rintro e w1 ⟨rfl, rfl⟩
  go_wp2
  go_ret
  exact ⟨rfl, ((((Below.refl _ _).alloc (Nat.le_refl _) _).alloc (by simp) _).alloc (by simp; omega) _).alloc (by simp; omega) _⟩
end Go.Proofs.Ytmlikahdoaffoaa.strm
