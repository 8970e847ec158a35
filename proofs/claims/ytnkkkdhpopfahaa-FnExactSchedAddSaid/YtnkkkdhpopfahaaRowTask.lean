/-
  Slices of Task (3 numbers each): made anew, measured, compared. No condition but their lengths.
-/
import Derived.Test.YtnkkkdhpopfahaaDeep
import Derived.Deep.RegionHeld3
import Derived.Lib.QuietBelow
import Derived.BigQuiet
namespace Go.Proofs.Ytnkkkdhpopfahaa.deep
open Go.RowKit Go.Deep Go.Sort
set_option linter.unusedVariables false

abbrev Ttk := Int × Int × Int
def ctk (x : Ttk) : List Value := [.int .i64 x.1, .int .i64 x.2.1, .int .i64 x.2.2]
def ztk : List Value := [.int .i64 0, .int .i64 0, .int .i64 0]
theorem info_tk : (Try.prog.info? 35).map (fun i => (i.zero, i.size, i.bytes)) = some (some (.agg #[.int .i64 0, .int .i64 0, .int .i64 0]), 3, 24) := by kernel_rfl

theorem to_tk (p0 p1 p2 : Int) (w : World) : Calls Try.prog 62 #[.agg #[.int .i64 p0, .int .i64 p1, .int .i64 p2]] w fun e w' => e = .returned (.agg #[.int .i64 p0, .int .i64 p1, .int .i64 p2]) ∧ w' = ((w.alloc (.cells #[.int .i64 p0, .int .i64 p1, .int .i64 p2] 84)).alloc (.cells #[.int .i64 p0, .int .i64 p1, .int .i64 p2] 35)).alloc (.cells #[.int .i64 p0, .int .i64 p1, .int .i64 p2] 35) := by
  skip
  go_enter Try.func62, Try.ntmps62
  go_wp2
  exact bodyPost_ret (v := .agg #[.int .i64 p0, .int .i64 p1, .int .i64 p2]) (by simp [results, Try.results62, go_sem]) rfl ⟨rfl, rfl⟩

theorem eq_tk (p0 p1 p2 : Int) (w : World) : Calls Try.prog 45 #[.agg #[.int .i64 p0, .int .i64 p1, .int .i64 p2], .agg #[.int .i64 p0, .int .i64 p1, .int .i64 p2]] w fun e w' => e = .returned (.bool true) ∧ w' = (w.alloc (.cells #[.int .i64 p0, .int .i64 p1, .int .i64 p2] 35)).alloc (.cells #[.int .i64 p0, .int .i64 p1, .int .i64 p2] 35) := by
  skip
  go_enter Try.func45, Try.ntmps45
  go_wp2
  go_ret
  exact ⟨rfl, rfl⟩

theorem sz_tks (a : Option Addr) (n c : Nat) (k : Int) (hn : (n : Int) ≤ 9223372036854775807) (hk0 : 0 ≤ k) (hk1 : k ≤ 1048576) (w : World) : Calls Try.prog 35 #[.slice a n c, .int .i64 k] w fun e w' => e = .returned (.int .i64 (if (n : Int) ≤ k then k - n else -1)) ∧ w' = w := by
  by_cases h : (n : Int) ≤ k
  · rw [if_pos h]
    go_enter Try.func35, Try.ntmps35
    go_wp2
    go_ret
    exact ⟨rfl, rfl⟩
  · rw [if_neg h]
    go_enter Try.func35, Try.ntmps35
    go_wp2
    go_ret
    exact ⟨rfl, rfl⟩

/-- what toXS leaves -/
def Totks (xs : List Ttk) (w : World) (e : Ending) (w' : World) : Prop := ∃ v', e = .returned v' ∧ RowE (Plain ctk) 3 w.heap.size w' v' xs ∧ Below w.heap.size w w'
/-- and that it may be written -/
def TotksF (xs : List Ttk) (w : World) (e : Ending) (w' : World) : Prop := ∃ v', e = .returned v' ∧ RowE (Plain ctk) 3 w.heap.size w' v' xs ∧ Below w.heap.size w w' ∧ Free w' v' ∧ ∃ g n, v' = .slice (some ⟨g, 0, none⟩) n n

set_option maxHeartbeats 2000000 in
theorem to_tksF {lo : Nat} {w : World} {v : Value} {xs : List Ttk} (h : RowE (Plain ctk) 3 lo w v xs) (hn : xs.length ≤ 1048576) : Calls Try.prog 40 #[v] w (TotksF xs w) := by
  obtain ⟨a, c, rfl, hml, h3⟩ := h
  obtain ⟨i0, hi, hz0, hz1, hz2⟩ := info_parts info_tk
  have HT : Hid (∀ (p0 p1 p2 : Int) W, Calls Try.prog 62 #[.agg #[.int .i64 p0, .int .i64 p1, .int .i64 p2]] W fun e w' => e = .returned (.agg #[.int .i64 p0, .int .i64 p1, .int .i64 p2]) ∧ Below W.heap.size W w') := fun p0 p1 p2 W => (to_tk p0 p1 p2 W).mono fun e w' h => ⟨h.1, by rw [h.2]; exact ((((Below.refl _ _).alloc (Nat.le_refl _) _).alloc (by simp) _).alloc (by simp; omega) _)⟩
  obtain ⟨n, hx⟩ : ∃ n, n = xs.length := ⟨_, rfl⟩
  have H3 : Hid (0 < xs.length → ∃ g o, a = some ⟨g, o, none⟩ ∧ g < w.heap.size ∧ ∀ i (hi : i < xs.length), w.cell? ⟨g, o + i * 3, none⟩ = some (.int .i64 xs[i].1) ∧ w.cell? ⟨g, o + i * 3 + 1, none⟩ = some (.int .i64 xs[i].2.1) ∧ w.cell? ⟨g, o + i * 3 + 2, none⟩ = some (.int .i64 xs[i].2.2)) := fun h0 => by
    obtain ⟨g, o, ha, _, hg, hc⟩ := h3 h0
    refine ⟨g, o, ha, hg, fun i hi => ?_⟩
    obtain ⟨cs, _, hcc, rfl⟩ := hc i hi
    exact ⟨hcc 0 (by decide), hcc 1 (by decide), hcc 2 (by decide)⟩
  have HX : Hid (n = xs.length) := hx
  have HML : Hid (xs.length ≤ maxLen) := hml
  rw [← hx] at hn ⊢
  clear h3 hx hml
  go_enter Try.func40, Try.ntmps40
  go_wp2_with (first | (at_make; refine wpList_make_full _ rfl _ _ 28 rfl w.heap.size 35 i0 (.agg #[.int .i64 0, .int .i64 0, .int .i64 0]) 3 Try.underlying28 hi hz0 hz1 .i64 .i64 _ _ n rfl rfl rfl rfl (by rw [hz2]; omega) (by unfold maxLen; omega) (Nat.le_refl _) ?_; intro w1 own1 gr1) | go_in)
  have HM : Hid (Made w1 w.heap.size 35 3 n (filled ((xs.take 0).map ctk) n ztk)) := made_new (z := ztk) rfl (by decide) own1
  have HB1 : Hid (Below w.heap.size w w1) := (Below.refl w.heap.size w).grown gr1 (Nat.le_refl _) (fun k hk => by cases hk)
  clear own1 gr1
  go_wp2_with fail
  go_loopw [4] (fun i wr => ∃ j : Nat, j ≤ n ∧ i = .int .i64 j ∧ Hid (Made wr w.heap.size 35 3 n (filled ((xs.take j).map ctk) n ztk)) ∧ Hid (Below w.heap.size w wr)) (fun i _ => n - (intOf i).toNat)
  case atStart => exact ⟨0, by omega, rfl, HM.out, HB1.out⟩
  case round =>
    obtain ⟨j, hj, rfl, HR, HB⟩ := hrel
    by_cases hlt : j < n
    · have hlx : j < xs.length := by rw [← HX.out]; exact hlt
      obtain ⟨g, o, rfl, hg, hc⟩ := H3.out (by omega)
      obtain ⟨f0, f1, f2⟩ := hc j hlx
      have e0 := (HB.out.cell (p := ⟨g, o + j * 3, none⟩) hg).trans f0
      have e1 := (HB.out.cell (p := ⟨g, o + j * 3 + 1, none⟩) hg).trans f1
      have e2 := (HB.out.cell (p := ⟨g, o + j * 3 + 2, none⟩) hg).trans f2
      have HSET : Hid (∀ W, Made W w.heap.size 35 3 n (filled ((xs.take j).map ctk) n ztk) → Made (putW W w.heap.size (j * 3) (ctk xs[j])) w.heap.size 35 3 n (filled ((xs.take (j + 1)).map ctk) n ztk)) := fun W hW => by
        rw [← filled_step ctk xs j hlx n (by rw [HX.out]) ztk]; exact hW.put j (by rw [filled_len (by simp; omega)]; exact hlt) rfl
      have HOLD : Hid (∀ W, Made W w.heap.size 35 3 n (filled ((xs.take j).map ctk) n ztk) → ∀ r, r < 3 → W.cell? ⟨w.heap.size, j * 3 + r, none⟩ = ztk[r]?) := fun W hW r hr => by
        rw [hW.at j (by rw [filled_len (by simp; omega)]; exact hlt) r hr, filled_old (by simp; omega) hlt]
      clear hc HM HB1 f0 f1 f2
      generalize xs[j] = x at *
      obtain ⟨p0, p1, p2⟩ := x
      simp only at e0 e1 e2
      go_wp2_with fail
      refine Calls.mono (HT.out _ _ _ _) ?_
      rintro e w2 ⟨rfl, hb2⟩
      have HR2 : Hid (Made w2 w.heap.size 35 3 n (filled ((xs.take j).map ctk) n ztk)) := HR.out.later hb2
      have HB2 : Hid (Below w.heap.size w w2) := below_tr HB.out hb2
      have q0 : w2.cell? ⟨w.heap.size, j * 3, none⟩ = some (.int .i64 0) := HOLD.out _ HR2.out 0 (by decide)
      have y0 := HR2.out.free (j * 3)
      have q1 : w2.cell? ⟨w.heap.size, j * 3 + 1, none⟩ = some (.int .i64 0) := HOLD.out _ HR2.out 1 (by decide)
      have y1 := HR2.out.free (j * 3 + 1)
      have q2 : w2.cell? ⟨w.heap.size, j * 3 + 2, none⟩ = some (.int .i64 0) := HOLD.out _ HR2.out 2 (by decide)
      have y2 := HR2.out.free (j * 3 + 2)
      clear hb2 HR HOLD
      go_wp2_with fail
      go_roundw
      case rel => exact ⟨j + 1, by omega, by go_num, HSET.out _ HR2.out, putW_below (ctk (p0, p1, p2)) HB2.out (Nat.le_refl _)⟩
      case measure => simp [intOf]; omega
    · obtain rfl : j = n := by omega
      have HRE : Hid (RowE (Plain ctk) 3 w.heap.size wr (.slice (some ⟨w.heap.size, 0, none⟩) j j) xs) := made_plain HR.out HX.out HML.out (Nat.le_refl _)
      have HFR : Hid (Free wr (.slice (some ⟨w.heap.size, 0, none⟩) j j)) := fun g o hs _ i => by
        simp only [spotOf, Option.some.injEq, Prod.mk.injEq] at hs
        rw [← hs.1]; exact HR.out.free i
      go_wp2_with fail
      go_ret
      exact ⟨_, rfl, HRE.out, HB.out, HFR.out, _, _, rfl⟩
theorem to_tks {lo : Nat} {w : World} {v : Value} {xs : List Ttk} (h : RowE (Plain ctk) 3 lo w v xs) (hn : xs.length ≤ 1048576) : Calls Try.prog 40 #[v] w (Totks xs w) :=
  (to_tksF h hn).mono fun e w' ⟨v', h1, h2, h3, _⟩ => ⟨v', h1, h2, h3⟩

set_option maxHeartbeats 2000000 in
theorem eq_tks0 (a b : Option Addr) (c d : Nat) (w : World) :
    Calls Try.prog 29 #[.slice a 0 c, .slice b 0 d] w fun e w' => e = .returned (.bool true) ∧ Below w.heap.size w w' := by
  go_enter Try.func29, Try.ntmps29
  go_wp2
  go_loop [5] (fun i => i = .int .i64 0) (fun _ => 0)
  case atStart => exact rfl
  case round =>
    subst hrel
    go_wp2
    go_ret
    exact ⟨rfl, Below.refl _ _⟩

set_option maxHeartbeats 2000000 in
theorem eq_tks {l1 l2 : Nat} {w : World} {va vb : Value} {xs : List Ttk} (h1 : RowE (Plain ctk) 3 l1 w va xs) (h2 : RowE (Plain ctk) 3 l2 w vb xs) :
    Calls Try.prog 29 #[va, vb] w fun e w' => e = .returned (.bool true) ∧ Below w.heap.size w w' := by
  by_cases h0 : xs.length = 0
  · obtain ⟨a, c, rfl, _⟩ := h1.form
    obtain ⟨b, d, rfl, _⟩ := h2.form
    rw [h0]
    exact eq_tks0 a b c d w
  obtain ⟨g1, o1, c1, rfl, hm1, _, hg1, hc1⟩ := h1.at (by omega)
  obtain ⟨g2, o2, c2, rfl, _, _, hg2, hc2⟩ := h2.at (by omega)
  have HC1 : Hid (∀ i (hi : i < xs.length), w.cell? ⟨g1, o1 + i * 3, none⟩ = some (.int .i64 xs[i].1) ∧ w.cell? ⟨g1, o1 + i * 3 + 1, none⟩ = some (.int .i64 xs[i].2.1) ∧ w.cell? ⟨g1, o1 + i * 3 + 2, none⟩ = some (.int .i64 xs[i].2.2)) := fun i hi => by
    obtain ⟨cs, _, hcc, rfl⟩ := hc1 i hi
    exact ⟨hcc 0 (by decide), hcc 1 (by decide), hcc 2 (by decide)⟩
  have HC2 : Hid (∀ i (hi : i < xs.length), w.cell? ⟨g2, o2 + i * 3, none⟩ = some (.int .i64 xs[i].1) ∧ w.cell? ⟨g2, o2 + i * 3 + 1, none⟩ = some (.int .i64 xs[i].2.1) ∧ w.cell? ⟨g2, o2 + i * 3 + 2, none⟩ = some (.int .i64 xs[i].2.2)) := fun i hi => by
    obtain ⟨cs, _, hcc, rfl⟩ := hc2 i hi
    exact ⟨hcc 0 (by decide), hcc 1 (by decide), hcc 2 (by decide)⟩
  unfold maxLen at hm1
  have hn : (xs.length : Int) ≤ 9223372036854775807 := by omega
  have HEQ : Hid (∀ (p0 p1 p2 : Int) W, Calls Try.prog 45 #[.agg #[.int .i64 p0, .int .i64 p1, .int .i64 p2], .agg #[.int .i64 p0, .int .i64 p1, .int .i64 p2]] W fun e w' => e = .returned (.bool true) ∧ Below W.heap.size W w') := fun p0 p1 p2 W => (eq_tk p0 p1 p2 W).mono fun e w' h => ⟨h.1, by rw [h.2]; exact (((Below.refl _ _).alloc (Nat.le_refl _) _).alloc (by simp) _)⟩
  clear hc1 hc2 h1 h2
  go_enter Try.func29, Try.ntmps29
  go_wp2
  go_loopw [5] (fun i wr => ∃ k : Nat, k ≤ xs.length ∧ i = .int .i64 k ∧ Hid (Below w.heap.size w wr)) (fun i _ => xs.length - (intOf i).toNat)
  case atStart => exact ⟨0, by omega, rfl, Below.refl _ _⟩
  case round =>
    obtain ⟨k, hk, rfl, HB⟩ := hrel
    by_cases hlt : k < xs.length
    · obtain ⟨f0, f1, f2⟩ := HC1.out k hlt
      obtain ⟨h0, h1, h2⟩ := HC2.out k hlt
      have e0 := (HB.out.cell (p := ⟨g1, o1 + k * 3, none⟩) hg1).trans f0
      have e1 := (HB.out.cell (p := ⟨g1, o1 + k * 3 + 1, none⟩) hg1).trans f1
      have e2 := (HB.out.cell (p := ⟨g1, o1 + k * 3 + 2, none⟩) hg1).trans f2
      have d0 := (HB.out.cell (p := ⟨g2, o2 + k * 3, none⟩) hg2).trans h0
      have d1 := (HB.out.cell (p := ⟨g2, o2 + k * 3 + 1, none⟩) hg2).trans h1
      have d2 := (HB.out.cell (p := ⟨g2, o2 + k * 3 + 2, none⟩) hg2).trans h2
      clear f0 f1 f2 h0 h1 h2
      generalize xs[k] = x at *
      obtain ⟨p0, p1, p2⟩ := x
      simp only at e0 e1 e2 d0 d1 d2
      have HE1 : Hid (∀ W, _) := HEQ.out p0 p1 p2
      have ke0 := cell_regrown e0
      have kd0 := cell_regrown d0
      have ke1 := cell_regrown e1
      have kd1 := cell_regrown d1
      have ke2 := cell_regrown e2
      have kd2 := cell_regrown d2
      have cE : ∀ d os, _ := fun d os => Calls.regrown_of (w := wr) (d := d) (os := os) (HE1.out _)
      go_wp2_with fail
      refine wp_region_quiet_below (by kernel_rfl) (by kernel_rfl) ?_
      repeat (go_big_quiet_step (first | (go_at_call 45; exact cE _ _)))
      refine wpQuiet_nil ?_
      intro _ hw'
      obtain ⟨⟨dq, osq⟩, hw''⟩ := hw'
      subst hw''
      have HB2 : Hid (Below w.heap.size w (grow (redrawn wr dq) osq)) := HB.out.trans ((below_regrown wr dq osq).mono HB.out.size)
      go_wp2_with fail
      go_roundw
      case rel => exact ⟨k + 1, by omega, by go_num, HB2.out⟩
      case measure => simp [intOf]; omega
    · go_wp2
      go_ret
      exact ⟨rfl, HB.out⟩
end Go.Proofs.Ytnkkkdhpopfahaa.deep
