/-
  The laws' own lwBuddy: two answers that read the same are told to be alike.
-/
import Derived.Test.YtcokchfedaoccabBuddyAns
import Derived.Test.YtcokchfedaoccabBuddyRightW
namespace Go.Proofs.Ytcokchfedaoccab.blaw
open Go.RowKit Go.Deep Go.Sort
open Go.Proofs.Ytcokchfedaoccab
open Go.Proofs.Ytcokchfedaoccab.brows
open Go.Proofs.Ytcokchfedaoccab.bspec
set_option linter.unusedVariables false

theorem res_two (w : World) (m p q : Int) (va vb : Value) (V : World) (hV : V = (w.alloc (.cells #[.int .i64 m, va, .int .i64 p, .int .i64 q] 37)).alloc (.cells #[.int .i64 m, vb, .int .i64 p, .int .i64 q] 37)) :
    Res V w.heap.size (.int .i64 m) va (.int .i64 p) (.int .i64 q) ∧ Res V (w.heap.size + 1) (.int .i64 m) vb (.int .i64 p) (.int .i64 q) ∧ Below w.heap.size w V := by
  subst hV
  have h1 : Res (w.alloc (.cells #[.int .i64 m, va, .int .i64 p, .int .i64 q] 37)) w.heap.size (.int .i64 m) va (.int .i64 p) (.int .i64 q) := (MapKept.heap_alloc w _).1
  have h2 := (MapKept.heap_alloc (w.alloc (.cells #[.int .i64 m, va, .int .i64 p, .int .i64 q] 37)) (.cells #[.int .i64 m, vb, .int .i64 p, .int .i64 q] 37)).1
  rw [show (w.alloc (.cells #[.int .i64 m, va, .int .i64 p, .int .i64 q] 37)).heap.size = w.heap.size + 1 by simp] at h2
  exact ⟨((World.grownBy_alloc _ _ none).block _ h1.lt (by simp)).trans h1, h2, ((Below.refl _ _).alloc (Nat.le_refl _) _).alloc (by simp) _⟩

set_option maxRecDepth 100000 in
set_option maxHeartbeats 4000000 in
theorem lw_buddy (m p q : Int) (xs : List Pr) (va vb : Value) (w : World) (ha : Rd w va xs) (hb : Rd w vb xs) (hr : q = 0 → rightB m xs = true) (hl : xs.length ≤ 1000) :
    Calls Try.prog 18 #[.agg #[.int .i64 m, va, .int .i64 p, .int .i64 q], .agg #[.int .i64 m, vb, .int .i64 p, .int .i64 q]] w fun e w' => e = .returned (.bool true) ∧ Below w.heap.size w w' := by
  have HA : Hid (Rd w va xs) := ha
  have HB : Hid (Rd w vb xs) := hb
  have HR : Hid (∀ W, Below w.heap.size w W → Calls Try.prog 27 #[.agg #[.int .i64 m, va]] W fun e w' => e = .returned (.bool (rightB m xs)) ∧ Below W.heap.size W w') := fun W hW => spec_right m va xs W (HA.out.below hW)
  obtain ⟨a, c, hva, _⟩ := ha.form
  obtain ⟨b, d, hvb, _⟩ := hb.form
  obtain ⟨L, hL⟩ : ∃ L, L = xs.length := ⟨_, rfl⟩
  rw [← hL] at hva hvb hl
  have HL : Hid (L = xs.length) := hL
  have HQ : Hid (q = 0 → rightB m xs = true) := hr
  subst hva hvb
  clear ha hb hL hr
  obtain ⟨V, hV⟩ : ∃ V, V = (w.alloc (.cells #[.int .i64 m, .slice a L c, .int .i64 p, .int .i64 q] 37)).alloc (.cells #[.int .i64 m, .slice b L d, .int .i64 p, .int .i64 q] 37) := ⟨_, rfl⟩
  obtain ⟨hx, hy, hbV⟩ := res_two w m p q _ _ V hV
  have HX : Hid (Res V w.heap.size (.int .i64 m) (.slice a L c) (.int .i64 p) (.int .i64 q)) := hx
  have HY : Hid (Res V (w.heap.size + 1) (.int .i64 m) (.slice b L d) (.int .i64 p) (.int .i64 q)) := hy
  have HBV : Hid (Below w.heap.size w V) := hbV
  clear hx hy hbV
  go_enter Try.func18, Try.ntmps18
  go_upto_region 1 with fail
  rw [← hV]
  clear hV
  obtain ⟨⟨x0, x1, x2, x3⟩, _⟩ := HX.out.cells
  obtain ⟨⟨y0, y1, y2, y3⟩, _⟩ := HY.out.cells
  go_wp2_with fail
  go_loopw [5] (fun t5 wr => ∃ k : Nat, t5 = .int .i64 k ∧ k ≤ L ∧ Hid (Below V.heap.size V wr)) (fun t5 _ => L - (intOf t5).toNat)
  case atStart => exact ⟨0, rfl, by omega, Below.refl _ _⟩
  case round =>
    obtain ⟨k, rfl, hk, HBE⟩ := hrel
    have HXW : Hid (Res wr w.heap.size (.int .i64 m) (.slice a L c) (.int .i64 p) (.int .i64 q)) := HX.out.below HBE.out HX.out.lt
    have HYW : Hid (Res wr (w.heap.size + 1) (.int .i64 m) (.slice b L d) (.int .i64 p) (.int .i64 q)) := HY.out.below HBE.out HY.out.lt
    have HBW : Hid (Below w.heap.size w wr) := HBV.out.trans (HBE.out.mono HBV.out.size)
    clear x0 x1 x2 x3 y0 y1 y2 y3
    obtain ⟨⟨x0, x1, x2, x3⟩, _⟩ := HXW.out.cells
    obtain ⟨⟨y0, y1, y2, y3⟩, _⟩ := HYW.out.cells
    by_cases hlt : k < L
    · have hkx : k < xs.length := by rw [← HL.out]; exact hlt
      obtain ⟨ga, ea, e0, e1⟩ : ∃ g, a = some ⟨g, 0, none⟩ ∧ wr.cell? ⟨g, k * 2, none⟩ = some (.int .i64 (xs[k]).1) ∧ wr.cell? ⟨g, k * 2 + 1, none⟩ = some (.int .i64 (xs[k]).2) := by
        obtain ⟨g, c', e, _, _, _, hc⟩ := (HA.out.below HBW.out).at (by omega)
        injection e with e _ _
        exact ⟨g, e, hc k hkx⟩
      obtain ⟨gb, eb, d0, d1⟩ : ∃ g, b = some ⟨g, 0, none⟩ ∧ wr.cell? ⟨g, k * 2, none⟩ = some (.int .i64 (xs[k]).1) ∧ wr.cell? ⟨g, k * 2 + 1, none⟩ = some (.int .i64 (xs[k]).2) := by
        obtain ⟨g, c', e, _, _, _, hc⟩ := (HB.out.below HBW.out).at (by omega)
        injection e with e _ _
        exact ⟨g, e, hc k hkx⟩
      subst ea eb
      generalize (xs[k]).1 = u0 at *
      generalize (xs[k]).2 = u1 at *
      clear hkx
      go_wp2_with fail
      go_quiet (fail)
      have HBE2 : Hid (Below V.heap.size V (wr.drewN nq)) := ⟨HBE.out.os, HBE.out.tape, HBE.out.output, HBE.out.size, HBE.out.block⟩
      go_wp2_with fail
      go_roundw
      case rel => exact ⟨k + 1, by go_num, by omega, HBE2.out⟩
      case measure => simp [intOf]; omega
    · obtain rfl : k = L := by omega
      by_cases hq : q = 0
      · subst hq
        have HT : Hid (rightB m xs = true) := HQ.out rfl
        rw [HT.out] at HR
        go_wp2_with fail
        refine Calls.mono (HR.out _ HBW.out) ?_
        rintro e w2 ⟨rfl, hb2⟩
        have HB2 : Hid (Below w.heap.size w w2) := HBW.out.trans (hb2.mono HBW.out.size)
        clear hb2
        go_wp2_with fail
        go_ret
        exact ⟨rfl, HB2.out⟩
      · go_wp2_with fail
        go_ret
        exact ⟨rfl, HBW.out⟩
end Go.Proofs.Ytcokchfedaoccab.blaw
