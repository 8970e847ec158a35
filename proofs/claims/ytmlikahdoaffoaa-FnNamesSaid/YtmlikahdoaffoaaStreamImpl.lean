/-
  The walk of the program's StreamNext at every stream. No condition.
-/
import Derived.Test.YtmlikahdoaffoaaStream
import Derived.Deep.RegionHeld3
namespace Go.Proofs.Ytmlikahdoaffoaa.strm
open Go.RowKit
open Go.Proofs.Ytmlikahdoaffoaa
open Go.Proofs.Ytmlikahdoaffoaa.pm
open Go.Proofs.Ytmlikahdoaffoaa.mix (ret_int val_int)

/-- the two boxes behind a call that makes memory of its own -/
theorem boxes {W w1 : World} {B : Nat} {a b z : Value} (h : Below W.heap.size W w1) (hB : B + 1 < W.heap.size)
    (k : W.cell? ⟨B, 0, none⟩ = some a ∧ W.cell? ⟨B, 1, none⟩ = some b)
    (c : ∀ i, i < 4 → W.cell? ⟨B + 1, i, none⟩ = some z ∧ W.frozen? ⟨B + 1, i, none⟩ = false) :
    (w1.cell? ⟨B, 0, none⟩ = some a ∧ w1.cell? ⟨B, 1, none⟩ = some b) ∧
    (w1.cell? ⟨B + 1, 0, none⟩ = some z ∧ w1.cell? ⟨B + 1, 1, none⟩ = some z ∧ w1.cell? ⟨B + 1, 2, none⟩ = some z ∧ w1.cell? ⟨B + 1, 3, none⟩ = some z) ∧
    w1.frozen? ⟨B + 1, 0, none⟩ = false ∧ w1.frozen? ⟨B + 1, 1, none⟩ = false ∧ w1.frozen? ⟨B + 1, 2, none⟩ = false ∧ w1.frozen? ⟨B + 1, 3, none⟩ = false := by
  have q : ∀ i, i < 4 → w1.cell? ⟨B + 1, i, none⟩ = some z := fun i hi => (h.cell (p := ⟨B + 1, i, none⟩) hB).trans (c i hi).1
  have f : ∀ i, i < 4 → w1.frozen? ⟨B + 1, i, none⟩ = false := fun i hi => (h.frozen (p := ⟨B + 1, i, none⟩) hB).trans (c i hi).2
  exact ⟨⟨(h.cell (p := ⟨B, 0, none⟩) (by show B < _; omega)).trans k.1, (h.cell (p := ⟨B, 1, none⟩) (by show B < _; omega)).trans k.2⟩,
    ⟨q 0 (by omega), q 1 (by omega), q 2 (by omega), q 3 (by omega)⟩, f 0 (by omega), f 1 (by omega), f 2 (by omega), f 3 (by omega)⟩

/-- three new blocks in a row: what the first and the second hold -/
theorem three (w : World) (a b z : Value) (T Z : TypeId) (A : Obj) :
    let W := ((w.alloc (.cells #[a, b] T)).alloc (.cells #[z, z, z, z] Z)).alloc A
    w.heap.size + 1 < W.drew.heap.size ∧ (W.drew.cell? ⟨w.heap.size, 0, none⟩ = some a ∧ W.drew.cell? ⟨w.heap.size, 1, none⟩ = some b) ∧
    (∀ i, i < 4 → W.drew.cell? ⟨w.heap.size + 1, i, none⟩ = some z ∧ W.drew.frozen? ⟨w.heap.size + 1, i, none⟩ = false) := by
  intro W
  have h1 : Below (w.alloc (.cells #[a, b] T)).heap.size (w.alloc (.cells #[a, b] T)) W.drew :=
    (((Below.refl _ (w.alloc (.cells #[a, b] T))).alloc (Nat.le_refl _) _).alloc (by simp) _).drew
  have h2 : Below ((w.alloc (.cells #[a, b] T)).alloc (.cells #[z, z, z, z] Z)).heap.size ((w.alloc (.cells #[a, b] T)).alloc (.cells #[z, z, z, z] Z)) W.drew :=
    ((Below.refl _ _).alloc (Nat.le_refl _) _).drew
  refine ⟨by have := h2.size; simp at this ⊢; omega, ⟨(h1.cell (p := ⟨w.heap.size, 0, none⟩) (by simp)).trans (by simp), (h1.cell (p := ⟨w.heap.size, 1, none⟩) (by simp)).trans (by simp)⟩, fun i hi => ?_⟩
  have e1 := h2.cell (p := ⟨w.heap.size + 1, i, none⟩) (by simp)
  have e2 := h2.frozen (p := ⟨w.heap.size + 1, i, none⟩) (by simp)
  rw [e1, e2]
  match i, hi with
  | 0, _ => exact ⟨by simp, by simp⟩
  | 1, _ => exact ⟨by simp, by simp⟩
  | 2, _ => exact ⟨by simp, by simp⟩
  | 3, _ => exact ⟨by simp, by simp⟩

theorem keep_set {W : World} {B : Nat} {a b x0 x1 x2 x3 : Value} (h : W.cell? ⟨B, 0, none⟩ = some a ∧ W.cell? ⟨B, 1, none⟩ = some b) :
    let V := (((W.setCell ⟨B + 1, 0, none⟩ x0).setCell ⟨B + 1, 1, none⟩ x1).setCell ⟨B + 1, 2, none⟩ x2).setCell ⟨B + 1, 3, none⟩ x3
    V.cell? ⟨B, 0, none⟩ = some a ∧ V.cell? ⟨B, 1, none⟩ = some b := by
  intro V
  simp only [V]
  constructor
  · rw [World.cell?_setCell_other _ _ _ _ (by simp), World.cell?_setCell_other _ _ _ _ (by simp), World.cell?_setCell_other _ _ _ _ (by simp), World.cell?_setCell_other _ _ _ _ (by simp)]; exact h.1
  · rw [World.cell?_setCell_other _ _ _ _ (by simp), World.cell?_setCell_other _ _ _ _ (by simp), World.cell?_setCell_other _ _ _ _ (by simp), World.cell?_setCell_other _ _ _ _ (by simp)]; exact h.2

set_option maxHeartbeats 4000000 in
set_option maxRecDepth 100000 in
theorem impl_next (k c : Int) (w : World) : Calls Try.prog 19 #[.agg #[.int .i64 k, .int .i64 c]] w fun e w' => e = .returned (nextS k c).val ∧ Below w.heap.size w w' := by
  have HR : Hid (∀ W, _) := fun W => impl_right k c W
  cases hr : rightS k c with
  | false =>
    have hf : nextS k c = ⟨0, 0, 0, 1⟩ := by simp [nextS, hr]
    rw [hf]
    simp only [Out.val]
    go_enter Try.func19, Try.ntmps19
    go_wp2_with (first | (go_at_call 17; refine Calls.mono (HR.out _) ?_; rintro e w1 ⟨rfl, rfl⟩))
    exact bodyPost_ret (v := .agg #[.int .i64 0, .int .i64 0, .int .i64 0, .int .i64 1]) (by simp [results, Try.results19, go_sem]) rfl
      ⟨rfl, (((Below.refl _ _).alloc (Nat.le_refl _) _).alloc (by simp) _).alloc (by simp; omega) _⟩
  | true =>
    obtain ⟨hk, h0, h1⟩ := right_of hr
    by_cases he : c = 1000
    · subst he
      have hf : nextS k 1000 = ⟨0, 0, 0, 9⟩ := by simp [nextS, hr]
      rw [hf]
      simp only [Out.val]
      go_enter Try.func19, Try.ntmps19
      go_wp2_with (first | (go_at_call 17; refine Calls.mono (HR.out _) ?_; rintro e w1 ⟨rfl, rfl⟩))
      exact bodyPost_ret (v := .agg #[.int .i64 0, .int .i64 0, .int .i64 0, .int .i64 9]) (by simp [results, Try.results19, go_sem]) rfl
        ⟨rfl, (((Below.refl _ _).alloc (Nat.le_refl _) _).alloc (by simp) _).alloc (by simp; omega) _⟩
    · have hf : nextS k c = ⟨k, c + 1, permI k c, 0⟩ := by rw [nextS, hr, if_pos rfl, if_neg he]
      rw [hf]
      simp only [Out.val]
      have HP : Hid (∀ W, _) := fun W => perm.impl_perm k c W
      have hc : c < 1000 := by omega
      generalize permI k c = x at *
      clear he h1
      go_enter Try.func19, Try.ntmps19
      go_wp2_with (first | (go_at_call 17; refine Calls.mono (HR.out _) ?_; rintro e w1 ⟨rfl, rfl⟩))
      have HW : Hid (IntKind.i64.wrap (c + 1) = c + 1) := IntWalk.i64_in _ (by omega)
      have H3 : Hid _ := three w (.int .i64 k) (.int .i64 c) (.int .i64 0) 29 33 (.cells #[.int .i64 k, .int .i64 c] 29)
      go_region_held3 (fun W => W.cell? ⟨w.heap.size, 0, none⟩ = some (.int .i64 k) ∧ W.cell? ⟨w.heap.size, 1, none⟩ = some (.int .i64 c))
        (first | assumption | exact H3.out.2.1 | exact keep_set (by assumption))
        (first | (go_at_call 12; refine Calls.mono (HP.out _) ?_; rintro e w1 ⟨rfl, hb⟩; obtain ⟨hs, ⟨q0, q1, q2, q3⟩, f0, f1, f2, f3⟩ := boxes hb H3.out.1 H3.out.2.1 H3.out.2.2))
      go_wp2_with fail
      rw [HW.out]
      have hB1 : Below w.heap.size w w1 := ((((Below.refl w.heap.size w).alloc (Nat.le_refl _) _).alloc (by simp) _).alloc (by simp; omega) _).drew.trans (hb.mono (by simp; omega))
      exact bodyPost_ret (v := .agg #[.int .i64 k, .int .i64 (c + 1), .int .i64 x, .int .i64 0]) (by simp [results, Try.results19, go_sem, q0, q1, q2, q3]) rfl
        ⟨rfl, (((hB1.setCell (by simp) _).setCell (by simp) _).setCell (by simp) _).setCell (by simp) _⟩
end Go.Proofs.Ytmlikahdoaffoaa.strm
