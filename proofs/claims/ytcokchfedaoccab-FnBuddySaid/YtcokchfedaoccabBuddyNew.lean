/-
  The walk of the specification's BuddyNew at every order.
-/
import Derived.Test.YtcokchfedaoccabBuddyTops
namespace Go.Proofs.Ytcokchfedaoccab.bspec
open Go.RowKit Go.Deep Go.Sort
open Go.Proofs.Ytcokchfedaoccab
open Go.Proofs.Ytcokchfedaoccab.brows
open Go.Proofs.Ytcokchfedaoccab.bd (Blk)
set_option linter.unusedVariables false

/-- what BuddyNew tells -/
def NewPost (o : Int) (w : World) (e : Ending) (w' : World) : Prop :=
  (ordB o = false ∧ e = .returned (illV 1) ∧ Below w.heap.size w w') ∨
  ∃ (n : Nat) (v : Value), o = (n : Int) ∧ n ≤ 5 ∧ e = .returned (.agg #[.int .i64 n, v, .int .i64 0, .int .i64 0]) ∧ Rd w' v ([((0, n) : Blk)].map emb) ∧ Below w.heap.size w w'

theorem own_two (w : World) (o : Obj) (n : Nat) : Own ((w.alloc o).alloc (.cells #[.int .i64 0, .int .i64 n] 68)) w.heap.size (.slice (some ⟨w.heap.size + 1, 0, none⟩) 1 1) := by
  have e := (MapKept.heap_alloc (w.alloc o) (.cells #[.int .i64 0, .int .i64 n] 68)).1
  rw [show (w.alloc o).heap.size = w.heap.size + 1 by simp] at e
  exact ⟨[(0, (n : Int))], by simp [cellsB], Or.inr ⟨w.heap.size + 1, 1, #[.int .i64 0, .int .i64 n], rfl, by omega, e, by simp, by unfold maxLen; omega, by simp, by simp [cellsB]⟩⟩
def New0 (n : Nat) (w : World) (e : Ending) (w' : World) : Prop := ∃ v, e = .returned (.agg #[.int .i64 n, v]) ∧ Rd w' v ([((0, n) : Blk)].map emb) ∧ Below w.heap.size w w' ∧ Own w' w.heap.size v
theorem spec_new0 (n : Nat) (w : World) : Calls Try.prog 54 #[.int .i64 n] w (New0 n w) := by
  go_enter Try.func54, Try.ntmps54
  go_wp2
  refine bodyPost_ret (v := .agg #[.int .i64 n, .slice (some ⟨w.heap.size + 1, 0, none⟩) 1 1]) (by simp [results, Try.results54, go_sem]) rfl ⟨_, rfl, ?_, ((Below.refl _ _).alloc (Nat.le_refl _) _).alloc (by simp) _, ?_⟩
  case refine_2 => exact own_two w _ n
  refine ⟨_, 1, rfl, Nat.le_refl _, by unfold maxLen; omega, fun _ => ⟨w.heap.size + 1, rfl, by simp, fun i hi => ?_⟩⟩
  have hi1 : i < 1 := by simpa using hi
  obtain rfl : i = 0 := by omega
  exact ⟨by simp [emb], by simp [emb]⟩

set_option maxHeartbeats 2000000 in
theorem spec_new (o : Int) (w : World) : Calls Try.prog 23 #[.int .i64 o] w (NewPost o w) := by
  have HILL : Hid (∀ W, _) := fun W => spec_ill 1 W
  have HOR : Hid (∀ W, _) := fun W => spec_order o W
  have hres : Res (w.alloc (.cells #[.int .i64 0, .slice none 0 0, .int .i64 0, .int .i64 0] 37)) w.heap.size (.int .i64 0) (.slice none 0 0) (.int .i64 0) (.int .i64 0) := (MapKept.heap_alloc w _).1
  have HRES : Hid (Res (w.alloc (.cells #[.int .i64 0, .slice none 0 0, .int .i64 0, .int .i64 0] 37)) w.heap.size (.int .i64 0) (.slice none 0 0) (.int .i64 0) (.int .i64 0)) := hres
  clear hres
  cases ho : ordB o with
  | false =>
    have HNR : Hid (ordB o = false) := ho
    go_enter Try.func23, Try.ntmps23
    go_wp2_with (first | (go_at_call 29; refine Calls.mono (HOR.out _) ?_; rintro e w' ⟨rfl, rfl⟩))
    refine Calls.mono (HILL.out _) ?_
    rintro e w2 ⟨rfl, hb2⟩
    have HR2 : Hid (Res w2 w.heap.size (.int .i64 0) (.slice none 0 0) (.int .i64 0) (.int .i64 0)) := HRES.out.below hb2 HRES.out.lt
    have HB2 : Hid (Below w.heap.size w w2) := ((Below.refl _ _).alloc (Nat.le_refl _) _).trans (hb2.mono (by simp))
    obtain ⟨⟨r0, r1, r2, r3⟩, q0, q1, q2, q3⟩ := HR2.out.cells
    clear hb2
    simp only [illV]
    go_wp2
    exact bodyPost_ret (v := illV 1) (by simp [results, Try.results23, go_sem, illV, r0, r1, r2, r3]) rfl (Or.inl ⟨HNR.out, rfl, four_end HB2.out (Nat.le_refl _)⟩)
  | true =>
    obtain ⟨n, hn, rfl⟩ := ord_nat ho
    have HN : Hid (∀ W, _) := fun W => spec_new0 n W
    go_enter Try.func23, Try.ntmps23
    go_wp2_with (first | (go_at_call 29; refine Calls.mono (HOR.out _) ?_; rintro e w' ⟨rfl, rfl⟩))
    refine Calls.mono (HN.out _) ?_
    rintro e w2 ⟨v, rfl, hrd2, hb2, _⟩
    have HR2 : Hid (Res w2 w.heap.size (.int .i64 0) (.slice none 0 0) (.int .i64 0) (.int .i64 0)) := HRES.out.below hb2 HRES.out.lt
    have HB2 : Hid (Below w.heap.size w w2) := ((Below.refl _ _).alloc (Nat.le_refl _) _).trans (hb2.mono (by simp))
    have HRD2 : Hid (Rd w2 v ([((0, n) : Blk)].map emb)) := hrd2
    obtain ⟨⟨r0, r1, r2, r3⟩, q0, q1, q2, q3⟩ := HR2.out.cells
    obtain ⟨a2, c2, hv2, _⟩ := hrd2.form
    have hv2' : v = .slice a2 1 c2 := hv2
    subst hv2'
    clear hb2 hrd2 hv2
    go_wp2
    exact bodyPost_ret (v := .agg #[.int .i64 n, .slice a2 1 c2, .int .i64 0, .int .i64 0]) (by simp [results, Try.results23, go_sem, r0, r1, r2, r3]) rfl
      (Or.inr ⟨n, .slice a2 1 c2, rfl, hn, rfl, rd_res4 HRD2.out HR2.out, four_end HB2.out (Nat.le_refl _)⟩)
end Go.Proofs.Ytcokchfedaoccab.bspec
