/-
  The laws' own helpers on rows of blocks: two that read the same are told to be the same.
-/
import Derived.Test.YtcokchfedaoccabBlkRows
import Derived.Lib.QuietBelow
import Derived.BigQuiet
namespace Go.Proofs.Ytcokchfedaoccab.brows
open Go.RowKit Go.Deep Go.Sort
set_option linter.unusedVariables false

theorem eq_block (x : Pr) (w : World) : Calls Try.prog 62 #[.agg #[.int .i64 x.1, .int .i64 x.2], .agg #[.int .i64 x.1, .int .i64 x.2]] w fun e w' => e = .returned (.bool true) ∧ Below w.heap.size w w' := by
  go_enter Try.func62, Try.ntmps62
  go_wp2
  go_ret
  exact ⟨rfl, ((Below.refl _ _).alloc (Nat.le_refl _) _).alloc (by simp) _⟩

set_option maxHeartbeats 2000000 in
theorem eq_none (a b : Option Addr) (c d : Nat) (w : World) :
    Calls Try.prog 35 #[.slice a 0 c, .slice b 0 d] w fun e w' => e = .returned (.bool true) ∧ Below w.heap.size w w' := by
  go_enter Try.func35, Try.ntmps35
  go_wp2
  go_loop [5] (fun i => i = .int .i64 0) (fun _ => 0)
  case atStart => exact rfl
  case round =>
    subst hrel
    go_wp2
    go_ret
    exact ⟨rfl, Below.refl _ _⟩

set_option maxHeartbeats 2000000 in
theorem eq_rows {w : World} {va vb : Value} {xs : List Pr} (h1 : Rd w va xs) (h2 : Rd w vb xs) :
    Calls Try.prog 35 #[va, vb] w fun e w' => e = .returned (.bool true) ∧ Below w.heap.size w w' := by
  by_cases h0 : xs.length = 0
  · obtain ⟨a, c, rfl, _⟩ := h1.form
    obtain ⟨b, d, rfl, _⟩ := h2.form
    rw [h0]
    exact eq_none a b c d w
  obtain ⟨g1, c1, rfl, hl1, hm1, hg1, hc1⟩ := h1.at (by omega)
  obtain ⟨g2, c2, rfl, _, _, hg2, hc2⟩ := h2.at (by omega)
  have HC1 : Hid _ := hc1
  have HC2 : Hid _ := hc2
  unfold maxLen at hm1
  have hn : (xs.length : Int) ≤ 9223372036854775807 := by omega
  have HEQ : Hid (∀ (x : Pr) W, _) := fun x W => eq_block x W
  clear hc1 hc2 h1 h2
  go_enter Try.func35, Try.ntmps35
  go_wp2
  go_loopw [5] (fun i wr => ∃ k : Nat, k ≤ xs.length ∧ i = .int .i64 k ∧ Hid (Below w.heap.size w wr)) (fun i _ => xs.length - (intOf i).toNat)
  case atStart => exact ⟨0, by omega, rfl, Below.refl _ _⟩
  case round =>
    obtain ⟨k, hk, rfl, HB⟩ := hrel
    by_cases hlt : k < xs.length
    · have e0 := (HB.out.cell (p := ⟨g1, k * 2, none⟩) hg1).trans (HC1.out k hlt).1
      have e1 := (HB.out.cell (p := ⟨g1, k * 2 + 1, none⟩) hg1).trans (HC1.out k hlt).2
      have d0 := (HB.out.cell (p := ⟨g2, k * 2, none⟩) hg2).trans (HC2.out k hlt).1
      have d1 := (HB.out.cell (p := ⟨g2, k * 2 + 1, none⟩) hg2).trans (HC2.out k hlt).2
      have HE1 : Hid (∀ W, _) := HEQ.out xs[k]
      generalize xs[k] = x at *
      obtain ⟨p, q⟩ := x
      simp only at e0 e1 d0 d1 HE1
      have ke0 := cell_regrown e0
      have ke1 := cell_regrown e1
      have kd0 := cell_regrown d0
      have kd1 := cell_regrown d1
      have cE : ∀ d os, _ := fun d os => Calls.regrown_of (w := wr) (d := d) (os := os) (HE1.out _)
      go_wp2_with fail
      refine wp_region_quiet_below (by kernel_rfl) (by kernel_rfl) ?_
      repeat (go_big_quiet_step (first | (go_at_call 62; exact cE _ _)))
      refine wpQuiet_nil ?_
      intro _ hw'
      obtain ⟨⟨dq, osq⟩, hw''⟩ := hw'
      subst hw''
      have HB2 : Hid (Below w.heap.size w (grow (redrawn wr dq) osq)) := HB.out.trans ((below_regrown wr dq osq).mono HB.out.size)
      go_wp2_with fail
      go_roundw
      case rel => exact ⟨k + 1, by omega, by go_num, HB2.out⟩
      case measure => simp [intOf]; omega
    · go_wp2
      go_ret
      exact ⟨rfl, HB.out⟩
end Go.Proofs.Ytcokchfedaoccab.brows
