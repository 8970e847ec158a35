/-
  Slices of Handle (3 numbers each): made anew, measured, compared. No condition but their lengths.
-/
import Derived.Test.YtljgcdemepjpaaaDeep
import Derived.Deep.RegionHeld3
import Derived.Lib.QuietBelow
import Derived.BigQuiet
namespace Go.Proofs.Ytljgcdemepjpaaa.deep
open Go.RowKit Go.Deep Go.Sort
set_option linter.unusedVariables false

abbrev Thd := Int × Int × Int
def chd (x : Thd) : List Value := [.int .i64 x.1, .int .i64 x.2.1, .int .i64 x.2.2]
def zhd : List Value := [.int .i64 0, .int .i64 0, .int .i64 0]
theorem info_hd : (Try.prog.info? 32).map (fun i => (i.zero, i.size, i.bytes)) = some (some (.agg #[.int .i64 0, .int .i64 0, .int .i64 0]), 3, 24) := by kernel_rfl

theorem to_hd (p0 p1 p2 : Int) (w : World) : Calls Try.prog 5 #[.agg #[.int .i64 p0, .int .i64 p1, .int .i64 p2]] w fun e w' => e = .returned (.agg #[.int .i64 p0, .int .i64 p1, .int .i64 p2]) ∧ w' = ((w.alloc (.cells #[.int .i64 p0, .int .i64 p1, .int .i64 p2] 23)).alloc (.cells #[.int .i64 p0, .int .i64 p1, .int .i64 p2] 32)).alloc (.cells #[.int .i64 p0, .int .i64 p1, .int .i64 p2] 32) := by
  skip
  go_enter Try.func5, Try.ntmps5
  go_wp2
  exact bodyPost_ret (v := .agg #[.int .i64 p0, .int .i64 p1, .int .i64 p2]) (by simp [results, Try.results5, go_sem]) rfl ⟨rfl, rfl⟩

theorem eq_hd (p0 p1 p2 : Int) (w : World) : Calls Try.prog 23 #[.agg #[.int .i64 p0, .int .i64 p1, .int .i64 p2], .agg #[.int .i64 p0, .int .i64 p1, .int .i64 p2]] w fun e w' => e = .returned (.bool true) ∧ w' = (w.alloc (.cells #[.int .i64 p0, .int .i64 p1, .int .i64 p2] 32)).alloc (.cells #[.int .i64 p0, .int .i64 p1, .int .i64 p2] 32) := by
  skip
  go_enter Try.func23, Try.ntmps23
  go_wp2
  go_ret
  exact ⟨rfl, rfl⟩



set_option maxHeartbeats 2000000 in
theorem eq_hds0 (a b : Option Addr) (c d : Nat) (w : World) :
    Calls Try.prog 15 #[.slice a 0 c, .slice b 0 d] w fun e w' => e = .returned (.bool true) ∧ Below w.heap.size w w' := by
  go_enter Try.func15, Try.ntmps15
  go_wp2
  go_loop [5] (fun i => i = .int .i64 0) (fun _ => 0)
  case atStart => exact rfl
  case round =>
    subst hrel
    go_wp2
    go_ret
    exact ⟨rfl, Below.refl _ _⟩

set_option maxHeartbeats 2000000 in
theorem eq_hds {l1 l2 : Nat} {w : World} {va vb : Value} {xs : List Thd} (h1 : RowE (Plain chd) 3 l1 w va xs) (h2 : RowE (Plain chd) 3 l2 w vb xs) :
    Calls Try.prog 15 #[va, vb] w fun e w' => e = .returned (.bool true) ∧ Below w.heap.size w w' := by
  by_cases h0 : xs.length = 0
  · obtain ⟨a, c, rfl, _⟩ := h1.form
    obtain ⟨b, d, rfl, _⟩ := h2.form
    rw [h0]
    exact eq_hds0 a b c d w
  obtain ⟨g1, o1, c1, rfl, hm1, _, hg1, hc1⟩ := h1.at (by omega)
  obtain ⟨g2, o2, c2, rfl, _, _, hg2, hc2⟩ := h2.at (by omega)
  have HC1 : Hid (∀ i (hi : i < xs.length), w.cell? ⟨g1, o1 + i * 3, none⟩ = some (.int .i64 xs[i].1) ∧ w.cell? ⟨g1, o1 + i * 3 + 1, none⟩ = some (.int .i64 xs[i].2.1) ∧ w.cell? ⟨g1, o1 + i * 3 + 2, none⟩ = some (.int .i64 xs[i].2.2)) := fun i hi => by
    obtain ⟨cs, _, hcc, rfl⟩ := hc1 i hi
    exact ⟨hcc 0 (by decide), hcc 1 (by decide), hcc 2 (by decide)⟩
  have HC2 : Hid (∀ i (hi : i < xs.length), w.cell? ⟨g2, o2 + i * 3, none⟩ = some (.int .i64 xs[i].1) ∧ w.cell? ⟨g2, o2 + i * 3 + 1, none⟩ = some (.int .i64 xs[i].2.1) ∧ w.cell? ⟨g2, o2 + i * 3 + 2, none⟩ = some (.int .i64 xs[i].2.2)) := fun i hi => by
    obtain ⟨cs, _, hcc, rfl⟩ := hc2 i hi
    exact ⟨hcc 0 (by decide), hcc 1 (by decide), hcc 2 (by decide)⟩
  unfold maxLen at hm1
  have hn : (xs.length : Int) ≤ 9223372036854775807 := by omega
  have HEQ : Hid (∀ (p0 p1 p2 : Int) W, Calls Try.prog 23 #[.agg #[.int .i64 p0, .int .i64 p1, .int .i64 p2], .agg #[.int .i64 p0, .int .i64 p1, .int .i64 p2]] W fun e w' => e = .returned (.bool true) ∧ Below W.heap.size W w') := fun p0 p1 p2 W => (eq_hd p0 p1 p2 W).mono fun e w' h => ⟨h.1, by rw [h.2]; exact (((Below.refl _ _).alloc (Nat.le_refl _) _).alloc (by simp) _)⟩
  clear hc1 hc2 h1 h2
  go_enter Try.func15, Try.ntmps15
  go_wp2
  go_loopw [5] (fun i wr => ∃ k : Nat, k ≤ xs.length ∧ i = .int .i64 k ∧ Hid (Below w.heap.size w wr)) (fun i _ => xs.length - (intOf i).toNat)
  case atStart => exact ⟨0, by omega, rfl, Below.refl _ _⟩
  case round =>
    obtain ⟨k, hk, rfl, HB⟩ := hrel
    by_cases hlt : k < xs.length
    · obtain ⟨f0, f1, f2⟩ := HC1.out k hlt
      obtain ⟨h0, h1, h2⟩ := HC2.out k hlt
      have e0 := (HB.out.cell (p := ⟨g1, o1 + k * 3, none⟩) hg1).trans f0
      have e1 := (HB.out.cell (p := ⟨g1, o1 + k * 3 + 1, none⟩) hg1).trans f1
      have e2 := (HB.out.cell (p := ⟨g1, o1 + k * 3 + 2, none⟩) hg1).trans f2
      have d0 := (HB.out.cell (p := ⟨g2, o2 + k * 3, none⟩) hg2).trans h0
      have d1 := (HB.out.cell (p := ⟨g2, o2 + k * 3 + 1, none⟩) hg2).trans h1
      have d2 := (HB.out.cell (p := ⟨g2, o2 + k * 3 + 2, none⟩) hg2).trans h2
      clear f0 f1 f2 h0 h1 h2
      generalize xs[k] = x at *
      obtain ⟨p0, p1, p2⟩ := x
      simp only at e0 e1 e2 d0 d1 d2
      have HE1 : Hid (∀ W, _) := HEQ.out p0 p1 p2
      have ke0 := cell_regrown e0
      have kd0 := cell_regrown d0
      have ke1 := cell_regrown e1
      have kd1 := cell_regrown d1
      have ke2 := cell_regrown e2
      have kd2 := cell_regrown d2
      have cE : ∀ d os, _ := fun d os => Calls.regrown_of (w := wr) (d := d) (os := os) (HE1.out _)
      go_wp2_with fail
      refine wp_region_quiet_below (by kernel_rfl) (by kernel_rfl) ?_
      repeat (go_big_quiet_step (first | (go_at_call 23; exact cE _ _)))
      refine wpQuiet_nil ?_
      intro _ hw'
      obtain ⟨⟨dq, osq⟩, hw''⟩ := hw'
      subst hw''
      have HB2 : Hid (Below w.heap.size w (grow (redrawn wr dq) osq)) := HB.out.trans ((below_regrown wr dq osq).mono HB.out.size)
      go_wp2_with fail
      go_roundw
      case rel => exact ⟨k + 1, by omega, by go_num, HB2.out⟩
      case measure => simp [intOf]; omega
    · go_wp2
      go_ret
      exact ⟨rfl, HB.out⟩
end Go.Proofs.Ytljgcdemepjpaaa.deep
