/-
  Slices of Call (9 numbers each): made anew, measured, compared. No condition but their lengths.
-/
import Derived.Test.YtpehmphcnimegaaDeep
import Derived.Test.YtpehmphcnimegaaCall
import Derived.Test.YtpehmphcnimegaaCallOpen
import Derived.Lib.QuietBelow
import Derived.BigQuiet
namespace Go.Proofs.Ytpehmphcnimegaa.deep
open Go.RowKit Go.Deep Go.Sort
set_option linter.unusedVariables false

abbrev Tcl := call.CallD
def ccl (x : Tcl) : List Value := [.int .i64 x.q0, .int .i64 x.q1, .int .i64 x.q2, .int .i64 x.q3, .int .i64 x.q4, .int .i64 x.q5, .int .i64 x.q6, .int .i64 x.q7, .int .i64 x.q8]
def zcl : List Value := [.int .i64 0, .int .i64 0, .int .i64 0, .int .i64 0, .int .i64 0, .int .i64 0, .int .i64 0, .int .i64 0, .int .i64 0]
theorem info_cl : (Try.prog.info? 42).map (fun i => (i.zero, i.size, i.bytes)) = some (some (.agg #[.int .i64 0, .int .i64 0, .int .i64 0, .int .i64 0, .int .i64 0, .int .i64 0, .int .i64 0, .int .i64 0, .int .i64 0]), 9, 72) := by kernel_rfl

theorem nine {W : World} {B t : Nat} {q0 q1 q2 q3 q4 q5 q6 q7 q8 : Int} (h : Blk W B t [.int .i64 q0, .int .i64 q1, .int .i64 q2, .int .i64 q3, .int .i64 q4, .int .i64 q5, .int .i64 q6, .int .i64 q7, .int .i64 q8]) : W.cell? ⟨B, 0, none⟩ = some (.int .i64 q0) ∧ W.cell? ⟨B, 1, none⟩ = some (.int .i64 q1) ∧ W.cell? ⟨B, 2, none⟩ = some (.int .i64 q2) ∧ W.cell? ⟨B, 3, none⟩ = some (.int .i64 q3) ∧ W.cell? ⟨B, 4, none⟩ = some (.int .i64 q4) ∧ W.cell? ⟨B, 5, none⟩ = some (.int .i64 q5) ∧ W.cell? ⟨B, 6, none⟩ = some (.int .i64 q6) ∧ W.cell? ⟨B, 7, none⟩ = some (.int .i64 q7) ∧ W.cell? ⟨B, 8, none⟩ = some (.int .i64 q8) :=
  ⟨h.cell 0, h.cell 1, h.cell 2, h.cell 3, h.cell 4, h.cell 5, h.cell 6, h.cell 7, h.cell 8⟩
theorem eq_ref (p0 p1 : Int) (w : World) : Calls Try.prog 34 #[.agg #[.int .i64 p0, .int .i64 p1], .agg #[.int .i64 p0, .int .i64 p1]] w fun e w' => e = .returned (.bool true) ∧ Below w.heap.size w w' := by
  go_enter Try.func34, Try.ntmps34
  go_wp2
  go_ret
  exact ⟨rfl, below2 _ _ _⟩

theorem eq_cl (p0 p1 p2 p3 p4 p5 p6 p7 p8 : Int) (w : World) : Calls Try.prog 22 #[.agg #[.int .i64 p0, .int .i64 p1, .int .i64 p2, .int .i64 p3, .int .i64 p4, .int .i64 p5, .int .i64 p6, .int .i64 p7, .int .i64 p8], .agg #[.int .i64 p0, .int .i64 p1, .int .i64 p2, .int .i64 p3, .int .i64 p4, .int .i64 p5, .int .i64 p6, .int .i64 p7, .int .i64 p8]] w fun e w' => e = .returned (.bool true) ∧ Below w.heap.size w w' := by
  have HA : Hid (∀ p q W, Calls Try.prog 34 #[.agg #[.int .i64 p, .int .i64 q], .agg #[.int .i64 p, .int .i64 q]] W fun e w' => e = .returned (.bool true) ∧ Below W.heap.size W w') := fun p q W => eq_ref p q W
  go_enter Try.func22, Try.ntmps22
  go_wp2_with fail
  refine Calls.mono (HA.out _ _ _) ?_
  rintro e w1 ⟨rfl, hb1⟩
  have F := blk2 w [.int .i64 p0, .int .i64 p1, .int .i64 p2, .int .i64 p3, .int .i64 p4, .int .i64 p5, .int .i64 p6, .int .i64 p7, .int .i64 p8] [.int .i64 p0, .int .i64 p1, .int .i64 p2, .int .i64 p3, .int .i64 p4, .int .i64 p5, .int .i64 p6, .int .i64 p7, .int .i64 p8] 42 42
  have HX1 : Hid (Blk w1 w.heap.size 42 [.int .i64 p0, .int .i64 p1, .int .i64 p2, .int .i64 p3, .int .i64 p4, .int .i64 p5, .int .i64 p6, .int .i64 p7, .int .i64 p8]) := F.1.later hb1
  have HY1 : Hid (Blk w1 (w.heap.size + 1) 42 [.int .i64 p0, .int .i64 p1, .int .i64 p2, .int .i64 p3, .int .i64 p4, .int .i64 p5, .int .i64 p6, .int .i64 p7, .int .i64 p8]) := F.2.later hb1
  have HB1 : Hid (Below w.heap.size w w1) := below_tr (below2 w _ _) hb1
  clear hb1 F
  obtain ⟨c0, c1, c2, c3, c4, c5, c6, c7, c8⟩ := nine HX1.out
  obtain ⟨d0, d1, d2, d3, d4, d5, d6, d7, d8⟩ := nine HY1.out
  go_wp2_with fail
  refine Calls.mono (HA.out _ _ _) ?_
  rintro e w2 ⟨rfl, hb2⟩
  have HX2 : Hid (Blk w2 w.heap.size 42 [.int .i64 p0, .int .i64 p1, .int .i64 p2, .int .i64 p3, .int .i64 p4, .int .i64 p5, .int .i64 p6, .int .i64 p7, .int .i64 p8]) := HX1.out.later hb2
  have HY2 : Hid (Blk w2 (w.heap.size + 1) 42 [.int .i64 p0, .int .i64 p1, .int .i64 p2, .int .i64 p3, .int .i64 p4, .int .i64 p5, .int .i64 p6, .int .i64 p7, .int .i64 p8]) := HY1.out.later hb2
  have HB2 : Hid (Below w.heap.size w w2) := below_tr HB1.out hb2
  clear hb2 HX1 HY1 HB1 c0 c1 c2 c3 c4 c5 c6 c7 c8 d0 d1 d2 d3 d4 d5 d6 d7 d8
  obtain ⟨c0, c1, c2, c3, c4, c5, c6, c7, c8⟩ := nine HX2.out
  obtain ⟨d0, d1, d2, d3, d4, d5, d6, d7, d8⟩ := nine HY2.out
  go_wp2
  go_ret
  exact ⟨rfl, HB2.out⟩

theorem sz_cls (a : Option Addr) (n c : Nat) (k : Int) (hn : (n : Int) ≤ 9223372036854775807) (hk0 : 0 ≤ k) (hk1 : k ≤ 1048576) (w : World) : Calls Try.prog 5 #[.slice a n c, .int .i64 k] w fun e w' => e = .returned (.int .i64 (if (n : Int) ≤ k then k - n else -1)) ∧ w' = w := by
  by_cases h : (n : Int) ≤ k
  · rw [if_pos h]
    go_enter Try.func5, Try.ntmps5
    go_wp2
    go_ret
    exact ⟨rfl, rfl⟩
  · rw [if_neg h]
    go_enter Try.func5, Try.ntmps5
    go_wp2
    go_ret
    exact ⟨rfl, rfl⟩

/-- what toXS leaves -/
def Tocls (xs : List Tcl) (w : World) (e : Ending) (w' : World) : Prop := ∃ v', e = .returned v' ∧ RowE (Plain ccl) 9 w.heap.size w' v' xs ∧ Below w.heap.size w w'
/-- and that it may be written -/
def ToclsF (xs : List Tcl) (w : World) (e : Ending) (w' : World) : Prop := ∃ v', e = .returned v' ∧ RowE (Plain ccl) 9 w.heap.size w' v' xs ∧ Below w.heap.size w w' ∧ Free w' v'

set_option maxHeartbeats 2000000 in
theorem to_clsF {lo : Nat} {w : World} {v : Value} {xs : List Tcl} (h : RowE (Plain ccl) 9 lo w v xs) (hn : xs.length ≤ 1048576) : Calls Try.prog 7 #[v] w (ToclsF xs w) := by
  obtain ⟨a, c, rfl, hml, h3⟩ := h
  obtain ⟨i0, hi, hz0, hz1, hz2⟩ := info_parts info_cl
  have HT : Hid (∀ (p0 p1 p2 p3 p4 p5 p6 p7 p8 : Int) W, Calls Try.prog 20 #[.agg #[.int .i64 p0, .int .i64 p1, .int .i64 p2, .int .i64 p3, .int .i64 p4, .int .i64 p5, .int .i64 p6, .int .i64 p7, .int .i64 p8]] W fun e w' => e = .returned (.agg #[.int .i64 p0, .int .i64 p1, .int .i64 p2, .int .i64 p3, .int .i64 p4, .int .i64 p5, .int .i64 p6, .int .i64 p7, .int .i64 p8]) ∧ Below W.heap.size W w') := fun p0 p1 p2 p3 p4 p5 p6 p7 p8 W => call.to_call p0 p1 p2 p3 p4 p5 p6 p7 p8 W
  obtain ⟨n, hx⟩ : ∃ n, n = xs.length := ⟨_, rfl⟩
  have H3 : Hid (0 < xs.length → ∃ g o, a = some ⟨g, o, none⟩ ∧ g < w.heap.size ∧ ∀ i (hi : i < xs.length), w.cell? ⟨g, o + i * 9, none⟩ = some (.int .i64 xs[i].q0) ∧ w.cell? ⟨g, o + i * 9 + 1, none⟩ = some (.int .i64 xs[i].q1) ∧ w.cell? ⟨g, o + i * 9 + 2, none⟩ = some (.int .i64 xs[i].q2) ∧ w.cell? ⟨g, o + i * 9 + 3, none⟩ = some (.int .i64 xs[i].q3) ∧ w.cell? ⟨g, o + i * 9 + 4, none⟩ = some (.int .i64 xs[i].q4) ∧ w.cell? ⟨g, o + i * 9 + 5, none⟩ = some (.int .i64 xs[i].q5) ∧ w.cell? ⟨g, o + i * 9 + 6, none⟩ = some (.int .i64 xs[i].q6) ∧ w.cell? ⟨g, o + i * 9 + 7, none⟩ = some (.int .i64 xs[i].q7) ∧ w.cell? ⟨g, o + i * 9 + 8, none⟩ = some (.int .i64 xs[i].q8)) := fun h0 => by
    obtain ⟨g, o, ha, _, hg, hc⟩ := h3 h0
    refine ⟨g, o, ha, hg, fun i hi => ?_⟩
    obtain ⟨cs, _, hcc, rfl⟩ := hc i hi
    exact ⟨hcc 0 (by decide), hcc 1 (by decide), hcc 2 (by decide), hcc 3 (by decide), hcc 4 (by decide), hcc 5 (by decide), hcc 6 (by decide), hcc 7 (by decide), hcc 8 (by decide)⟩
  have HX : Hid (n = xs.length) := hx
  have HML : Hid (xs.length ≤ maxLen) := hml
  rw [← hx] at hn ⊢
  clear h3 hx hml
  go_enter Try.func7, Try.ntmps7
  go_wp2_with (first | (at_make; refine wpList_make_full _ rfl _ _ 24 rfl w.heap.size 42 i0 (.agg #[.int .i64 0, .int .i64 0, .int .i64 0, .int .i64 0, .int .i64 0, .int .i64 0, .int .i64 0, .int .i64 0, .int .i64 0]) 9 Try.underlying24 hi hz0 hz1 .i64 .i64 _ _ n rfl rfl rfl rfl (by rw [hz2]; omega) (by unfold maxLen; omega) (Nat.le_refl _) ?_; intro w1 own1 gr1) | go_in)
  have HM : Hid (Made w1 w.heap.size 42 9 n (filled ((xs.take 0).map ccl) n zcl)) := made_new (z := zcl) rfl (by decide) own1
  have HB1 : Hid (Below w.heap.size w w1) := (Below.refl w.heap.size w).grown gr1 (Nat.le_refl _) (fun k hk => by cases hk)
  clear own1 gr1
  go_wp2_with fail
  go_loopw [4] (fun i wr => ∃ j : Nat, j ≤ n ∧ i = .int .i64 j ∧ Hid (Made wr w.heap.size 42 9 n (filled ((xs.take j).map ccl) n zcl)) ∧ Hid (Below w.heap.size w wr)) (fun i _ => n - (intOf i).toNat)
  case atStart => exact ⟨0, by omega, rfl, HM.out, HB1.out⟩
  case round =>
    obtain ⟨j, hj, rfl, HR, HB⟩ := hrel
    by_cases hlt : j < n
    · have hlx : j < xs.length := by rw [← HX.out]; exact hlt
      obtain ⟨g, o, rfl, hg, hc⟩ := H3.out (by omega)
      obtain ⟨f0, f1, f2, f3, f4, f5, f6, f7, f8⟩ := hc j hlx
      have e0 := (HB.out.cell (p := ⟨g, o + j * 9, none⟩) hg).trans f0
      have e1 := (HB.out.cell (p := ⟨g, o + j * 9 + 1, none⟩) hg).trans f1
      have e2 := (HB.out.cell (p := ⟨g, o + j * 9 + 2, none⟩) hg).trans f2
      have e3 := (HB.out.cell (p := ⟨g, o + j * 9 + 3, none⟩) hg).trans f3
      have e4 := (HB.out.cell (p := ⟨g, o + j * 9 + 4, none⟩) hg).trans f4
      have e5 := (HB.out.cell (p := ⟨g, o + j * 9 + 5, none⟩) hg).trans f5
      have e6 := (HB.out.cell (p := ⟨g, o + j * 9 + 6, none⟩) hg).trans f6
      have e7 := (HB.out.cell (p := ⟨g, o + j * 9 + 7, none⟩) hg).trans f7
      have e8 := (HB.out.cell (p := ⟨g, o + j * 9 + 8, none⟩) hg).trans f8
      have HSET : Hid (∀ W, Made W w.heap.size 42 9 n (filled ((xs.take j).map ccl) n zcl) → Made (putW W w.heap.size (j * 9) (ccl xs[j])) w.heap.size 42 9 n (filled ((xs.take (j + 1)).map ccl) n zcl)) := fun W hW => by
        rw [← filled_step ccl xs j hlx n (by rw [HX.out]) zcl]; exact hW.put j (by rw [filled_len (by simp; omega)]; exact hlt) rfl
      have HOLD : Hid (∀ W, Made W w.heap.size 42 9 n (filled ((xs.take j).map ccl) n zcl) → ∀ r, r < 9 → W.cell? ⟨w.heap.size, j * 9 + r, none⟩ = zcl[r]?) := fun W hW r hr => by
        rw [hW.at j (by rw [filled_len (by simp; omega)]; exact hlt) r hr, filled_old (by simp; omega) hlt]
      clear hc HM HB1 f0 f1 f2 f3 f4 f5 f6 f7 f8
      generalize xs[j] = x at *
      obtain ⟨p0, p1, p2, p3, p4, p5, p6, p7, p8⟩ := x
      simp only at e0 e1 e2 e3 e4 e5 e6 e7 e8
      go_wp2_with fail
      refine Calls.mono (HT.out _ _ _ _ _ _ _ _ _ _) ?_
      rintro e w2 ⟨rfl, hb2⟩
      have HR2 : Hid (Made w2 w.heap.size 42 9 n (filled ((xs.take j).map ccl) n zcl)) := HR.out.later hb2
      have HB2 : Hid (Below w.heap.size w w2) := below_tr HB.out hb2
      have q0 : w2.cell? ⟨w.heap.size, j * 9, none⟩ = some (.int .i64 0) := HOLD.out _ HR2.out 0 (by decide)
      have y0 := HR2.out.free (j * 9)
      have q1 : w2.cell? ⟨w.heap.size, j * 9 + 1, none⟩ = some (.int .i64 0) := HOLD.out _ HR2.out 1 (by decide)
      have y1 := HR2.out.free (j * 9 + 1)
      have q2 : w2.cell? ⟨w.heap.size, j * 9 + 2, none⟩ = some (.int .i64 0) := HOLD.out _ HR2.out 2 (by decide)
      have y2 := HR2.out.free (j * 9 + 2)
      have q3 : w2.cell? ⟨w.heap.size, j * 9 + 3, none⟩ = some (.int .i64 0) := HOLD.out _ HR2.out 3 (by decide)
      have y3 := HR2.out.free (j * 9 + 3)
      have q4 : w2.cell? ⟨w.heap.size, j * 9 + 4, none⟩ = some (.int .i64 0) := HOLD.out _ HR2.out 4 (by decide)
      have y4 := HR2.out.free (j * 9 + 4)
      have q5 : w2.cell? ⟨w.heap.size, j * 9 + 5, none⟩ = some (.int .i64 0) := HOLD.out _ HR2.out 5 (by decide)
      have y5 := HR2.out.free (j * 9 + 5)
      have q6 : w2.cell? ⟨w.heap.size, j * 9 + 6, none⟩ = some (.int .i64 0) := HOLD.out _ HR2.out 6 (by decide)
      have y6 := HR2.out.free (j * 9 + 6)
      have q7 : w2.cell? ⟨w.heap.size, j * 9 + 7, none⟩ = some (.int .i64 0) := HOLD.out _ HR2.out 7 (by decide)
      have y7 := HR2.out.free (j * 9 + 7)
      have q8 : w2.cell? ⟨w.heap.size, j * 9 + 8, none⟩ = some (.int .i64 0) := HOLD.out _ HR2.out 8 (by decide)
      have y8 := HR2.out.free (j * 9 + 8)
      clear hb2 HR HOLD
      go_wp2_with fail
      go_roundw
      case rel => exact ⟨j + 1, by omega, by go_num, HSET.out _ HR2.out, putW_below (ccl ⟨p0, p1, p2, p3, p4, p5, p6, p7, p8⟩) HB2.out (Nat.le_refl _)⟩
      case measure => simp [intOf]; omega
    · obtain rfl : j = n := by omega
      have HRE : Hid (RowE (Plain ccl) 9 w.heap.size wr (.slice (some ⟨w.heap.size, 0, none⟩) j j) xs) := made_plain HR.out HX.out HML.out (Nat.le_refl _)
      have HFR : Hid (Free wr (.slice (some ⟨w.heap.size, 0, none⟩) j j)) := fun g o hs _ i => by
        simp only [spotOf, Option.some.injEq, Prod.mk.injEq] at hs
        rw [← hs.1]; exact HR.out.free i
      go_wp2_with fail
      go_ret
      exact ⟨_, rfl, HRE.out, HB.out, HFR.out⟩
theorem to_cls {lo : Nat} {w : World} {v : Value} {xs : List Tcl} (h : RowE (Plain ccl) 9 lo w v xs) (hn : xs.length ≤ 1048576) : Calls Try.prog 7 #[v] w (Tocls xs w) :=
  (to_clsF h hn).mono fun e w' ⟨v', h1, h2, h3, _⟩ => ⟨v', h1, h2, h3⟩

set_option maxHeartbeats 2000000 in
theorem eq_cls0 (a b : Option Addr) (c d : Nat) (w : World) :
    Calls Try.prog 9 #[.slice a 0 c, .slice b 0 d] w fun e w' => e = .returned (.bool true) ∧ Below w.heap.size w w' := by
  go_enter Try.func9, Try.ntmps9
  go_wp2
  go_loop [5] (fun i => i = .int .i64 0) (fun _ => 0)
  case atStart => exact rfl
  case round =>
    subst hrel
    go_wp2
    go_ret
    exact ⟨rfl, Below.refl _ _⟩

set_option maxHeartbeats 2000000 in
theorem eq_cls {l1 l2 : Nat} {w : World} {va vb : Value} {xs : List Tcl} (h1 : RowE (Plain ccl) 9 l1 w va xs) (h2 : RowE (Plain ccl) 9 l2 w vb xs) :
    Calls Try.prog 9 #[va, vb] w fun e w' => e = .returned (.bool true) ∧ Below w.heap.size w w' := by
  by_cases h0 : xs.length = 0
  · obtain ⟨a, c, rfl, _⟩ := h1.form
    obtain ⟨b, d, rfl, _⟩ := h2.form
    rw [h0]
    exact eq_cls0 a b c d w
  obtain ⟨g1, o1, c1, rfl, hm1, _, hg1, hc1⟩ := h1.at (by omega)
  obtain ⟨g2, o2, c2, rfl, _, _, hg2, hc2⟩ := h2.at (by omega)
  have HC1 : Hid (∀ i (hi : i < xs.length), w.cell? ⟨g1, o1 + i * 9, none⟩ = some (.int .i64 xs[i].q0) ∧ w.cell? ⟨g1, o1 + i * 9 + 1, none⟩ = some (.int .i64 xs[i].q1) ∧ w.cell? ⟨g1, o1 + i * 9 + 2, none⟩ = some (.int .i64 xs[i].q2) ∧ w.cell? ⟨g1, o1 + i * 9 + 3, none⟩ = some (.int .i64 xs[i].q3) ∧ w.cell? ⟨g1, o1 + i * 9 + 4, none⟩ = some (.int .i64 xs[i].q4) ∧ w.cell? ⟨g1, o1 + i * 9 + 5, none⟩ = some (.int .i64 xs[i].q5) ∧ w.cell? ⟨g1, o1 + i * 9 + 6, none⟩ = some (.int .i64 xs[i].q6) ∧ w.cell? ⟨g1, o1 + i * 9 + 7, none⟩ = some (.int .i64 xs[i].q7) ∧ w.cell? ⟨g1, o1 + i * 9 + 8, none⟩ = some (.int .i64 xs[i].q8)) := fun i hi => by
    obtain ⟨cs, _, hcc, rfl⟩ := hc1 i hi
    exact ⟨hcc 0 (by decide), hcc 1 (by decide), hcc 2 (by decide), hcc 3 (by decide), hcc 4 (by decide), hcc 5 (by decide), hcc 6 (by decide), hcc 7 (by decide), hcc 8 (by decide)⟩
  have HC2 : Hid (∀ i (hi : i < xs.length), w.cell? ⟨g2, o2 + i * 9, none⟩ = some (.int .i64 xs[i].q0) ∧ w.cell? ⟨g2, o2 + i * 9 + 1, none⟩ = some (.int .i64 xs[i].q1) ∧ w.cell? ⟨g2, o2 + i * 9 + 2, none⟩ = some (.int .i64 xs[i].q2) ∧ w.cell? ⟨g2, o2 + i * 9 + 3, none⟩ = some (.int .i64 xs[i].q3) ∧ w.cell? ⟨g2, o2 + i * 9 + 4, none⟩ = some (.int .i64 xs[i].q4) ∧ w.cell? ⟨g2, o2 + i * 9 + 5, none⟩ = some (.int .i64 xs[i].q5) ∧ w.cell? ⟨g2, o2 + i * 9 + 6, none⟩ = some (.int .i64 xs[i].q6) ∧ w.cell? ⟨g2, o2 + i * 9 + 7, none⟩ = some (.int .i64 xs[i].q7) ∧ w.cell? ⟨g2, o2 + i * 9 + 8, none⟩ = some (.int .i64 xs[i].q8)) := fun i hi => by
    obtain ⟨cs, _, hcc, rfl⟩ := hc2 i hi
    exact ⟨hcc 0 (by decide), hcc 1 (by decide), hcc 2 (by decide), hcc 3 (by decide), hcc 4 (by decide), hcc 5 (by decide), hcc 6 (by decide), hcc 7 (by decide), hcc 8 (by decide)⟩
  unfold maxLen at hm1
  have hn : (xs.length : Int) ≤ 9223372036854775807 := by omega
  have HEQ : Hid (∀ (p0 p1 p2 p3 p4 p5 p6 p7 p8 : Int) W, Calls Try.prog 22 #[.agg #[.int .i64 p0, .int .i64 p1, .int .i64 p2, .int .i64 p3, .int .i64 p4, .int .i64 p5, .int .i64 p6, .int .i64 p7, .int .i64 p8], .agg #[.int .i64 p0, .int .i64 p1, .int .i64 p2, .int .i64 p3, .int .i64 p4, .int .i64 p5, .int .i64 p6, .int .i64 p7, .int .i64 p8]] W fun e w' => e = .returned (.bool true) ∧ Below W.heap.size W w') := fun p0 p1 p2 p3 p4 p5 p6 p7 p8 W => (eq_cl p0 p1 p2 p3 p4 p5 p6 p7 p8 W).mono fun e w' h => ⟨h.1, h.2⟩
  clear hc1 hc2 h1 h2
  go_enter Try.func9, Try.ntmps9
  go_wp2
  go_loopw [5] (fun i wr => ∃ k : Nat, k ≤ xs.length ∧ i = .int .i64 k ∧ Hid (Below w.heap.size w wr)) (fun i _ => xs.length - (intOf i).toNat)
  case atStart => exact ⟨0, by omega, rfl, Below.refl _ _⟩
  case round =>
    obtain ⟨k, hk, rfl, HB⟩ := hrel
    by_cases hlt : k < xs.length
    · obtain ⟨f0, f1, f2, f3, f4, f5, f6, f7, f8⟩ := HC1.out k hlt
      obtain ⟨h0, h1, h2, h3, h4, h5, h6, h7, h8⟩ := HC2.out k hlt
      have e0 := (HB.out.cell (p := ⟨g1, o1 + k * 9, none⟩) hg1).trans f0
      have e1 := (HB.out.cell (p := ⟨g1, o1 + k * 9 + 1, none⟩) hg1).trans f1
      have e2 := (HB.out.cell (p := ⟨g1, o1 + k * 9 + 2, none⟩) hg1).trans f2
      have e3 := (HB.out.cell (p := ⟨g1, o1 + k * 9 + 3, none⟩) hg1).trans f3
      have e4 := (HB.out.cell (p := ⟨g1, o1 + k * 9 + 4, none⟩) hg1).trans f4
      have e5 := (HB.out.cell (p := ⟨g1, o1 + k * 9 + 5, none⟩) hg1).trans f5
      have e6 := (HB.out.cell (p := ⟨g1, o1 + k * 9 + 6, none⟩) hg1).trans f6
      have e7 := (HB.out.cell (p := ⟨g1, o1 + k * 9 + 7, none⟩) hg1).trans f7
      have e8 := (HB.out.cell (p := ⟨g1, o1 + k * 9 + 8, none⟩) hg1).trans f8
      have d0 := (HB.out.cell (p := ⟨g2, o2 + k * 9, none⟩) hg2).trans h0
      have d1 := (HB.out.cell (p := ⟨g2, o2 + k * 9 + 1, none⟩) hg2).trans h1
      have d2 := (HB.out.cell (p := ⟨g2, o2 + k * 9 + 2, none⟩) hg2).trans h2
      have d3 := (HB.out.cell (p := ⟨g2, o2 + k * 9 + 3, none⟩) hg2).trans h3
      have d4 := (HB.out.cell (p := ⟨g2, o2 + k * 9 + 4, none⟩) hg2).trans h4
      have d5 := (HB.out.cell (p := ⟨g2, o2 + k * 9 + 5, none⟩) hg2).trans h5
      have d6 := (HB.out.cell (p := ⟨g2, o2 + k * 9 + 6, none⟩) hg2).trans h6
      have d7 := (HB.out.cell (p := ⟨g2, o2 + k * 9 + 7, none⟩) hg2).trans h7
      have d8 := (HB.out.cell (p := ⟨g2, o2 + k * 9 + 8, none⟩) hg2).trans h8
      clear f0 f1 f2 f3 f4 f5 f6 f7 f8 h0 h1 h2 h3 h4 h5 h6 h7 h8
      generalize xs[k] = x at *
      obtain ⟨p0, p1, p2, p3, p4, p5, p6, p7, p8⟩ := x
      simp only at e0 e1 e2 e3 e4 e5 e6 e7 e8 d0 d1 d2 d3 d4 d5 d6 d7 d8
      have HE1 : Hid (∀ W, _) := HEQ.out p0 p1 p2 p3 p4 p5 p6 p7 p8
      have ke0 := cell_regrown e0
      have kd0 := cell_regrown d0
      have ke1 := cell_regrown e1
      have kd1 := cell_regrown d1
      have ke2 := cell_regrown e2
      have kd2 := cell_regrown d2
      have ke3 := cell_regrown e3
      have kd3 := cell_regrown d3
      have ke4 := cell_regrown e4
      have kd4 := cell_regrown d4
      have ke5 := cell_regrown e5
      have kd5 := cell_regrown d5
      have ke6 := cell_regrown e6
      have kd6 := cell_regrown d6
      have ke7 := cell_regrown e7
      have kd7 := cell_regrown d7
      have ke8 := cell_regrown e8
      have kd8 := cell_regrown d8
      have cE : ∀ d os, _ := fun d os => Calls.regrown_of (w := wr) (d := d) (os := os) (HE1.out _)
      go_wp2_with fail
      refine wp_region_quiet_below (by kernel_rfl) (by kernel_rfl) ?_
      repeat (go_big_quiet_step (first | (go_at_call 22; exact cE _ _)))
      refine wpQuiet_nil ?_
      intro _ hw'
      obtain ⟨⟨dq, osq⟩, hw''⟩ := hw'
      subst hw''
      have HB2 : Hid (Below w.heap.size w (grow (redrawn wr dq) osq)) := HB.out.trans ((below_regrown wr dq osq).mono HB.out.size)
      go_wp2_with fail
      go_roundw
      case rel => exact ⟨k + 1, by omega, by go_num, HB2.out⟩
      case measure => simp [intOf]; omega
    · go_wp2
      go_ret
      exact ⟨rfl, HB.out⟩
end Go.Proofs.Ytpehmphcnimegaa.deep
