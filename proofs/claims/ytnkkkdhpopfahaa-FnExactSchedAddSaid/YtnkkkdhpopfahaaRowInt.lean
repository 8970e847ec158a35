/-
  Slices of int64: made anew, measured, compared, marked and held, in the terms of the other rows. No condition but their lengths.
-/
import Derived.Test.YtnkkkdhpopfahaaDeep
import Derived.Test.YtnkkkdhpopfahaaMarks
import Derived.Deep.RegionHeld3
import Derived.Lib.QuietBelow
import Derived.BigQuiet
namespace Go.Proofs.Ytnkkkdhpopfahaa.deep
open Go.RowKit Go.Deep Go.Sort
set_option linter.unusedVariables false

def cint (n : Int) : List Value := [.int .i64 n]
def zint : List Value := [.int .i64 0]
theorem info_in : (Try.prog.info? 2).map (fun i => (i.zero, i.size, i.bytes)) = some (some (.int .i64 0), 1, 8) := by kernel_rfl
/-- a row of numbers, cell by cell -/
theorem in_at {lo : Nat} {w : World} {v : Value} {xs : List Int} (h : RowE (Plain cint) 1 lo w v xs) : ∃ a c, v = .slice a xs.length c ∧ xs.length ≤ maxLen ∧ (0 < xs.length → ∃ g o, a = some ⟨g, o, none⟩ ∧ g < w.heap.size ∧ ∀ i (hi : i < xs.length), w.cell? ⟨g, o + i, none⟩ = some (.int .i64 xs[i])) := by
  obtain ⟨a, c, rfl, hm, h3⟩ := h
  refine ⟨a, c, rfl, hm, fun h0 => ?_⟩
  obtain ⟨g, o, ha, _, hg, hc⟩ := h3 h0
  refine ⟨g, o, ha, hg, fun i hi => ?_⟩
  obtain ⟨cs, _, hcc, rfl⟩ := hc i hi
  have := hcc 0 (by decide)
  rw [show o + i * 1 + 0 = o + i by omega] at this
  exact this

theorem sz_ins (a : Option Addr) (n c : Nat) (k : Int) (hn : (n : Int) ≤ 9223372036854775807) (hk0 : 0 ≤ k) (hk1 : k ≤ 1048576) (w : World) : Calls Try.prog 34 #[.slice a n c, .int .i64 k] w fun e w' => e = .returned (.int .i64 (if (n : Int) ≤ k then k - n else -1)) ∧ w' = w := by
  by_cases h : (n : Int) ≤ k
  · rw [if_pos h]
    go_enter Try.func34, Try.ntmps34
    go_wp2
    go_ret
    exact ⟨rfl, rfl⟩
  · rw [if_neg h]
    go_enter Try.func34, Try.ntmps34
    go_wp2
    go_ret
    exact ⟨rfl, rfl⟩

/-- what toInt64S leaves -/
def ToinsF (xs : List Int) (w : World) (e : Ending) (w' : World) : Prop := ∃ v', e = .returned v' ∧ RowE (Plain cint) 1 w.heap.size w' v' xs ∧ Below w.heap.size w w' ∧ Free w' v' ∧ ∃ g n, v' = .slice (some ⟨g, 0, none⟩) n n
set_option maxHeartbeats 2000000 in
theorem to_insF {lo : Nat} {w : World} {v : Value} {xs : List Int} (h : RowE (Plain cint) 1 lo w v xs) (hn : xs.length ≤ 1048576) : Calls Try.prog 15 #[v] w (ToinsF xs w) := by
  obtain ⟨a, c, rfl, hml, h3⟩ := in_at h
  obtain ⟨i0, hi, hz0, hz1, hz2⟩ := info_parts info_in
  obtain ⟨n, hx⟩ : ∃ n, n = xs.length := ⟨_, rfl⟩
  have H3 : Hid (0 < xs.length → ∃ g o, a = some ⟨g, o, none⟩ ∧ g < w.heap.size ∧ ∀ i (hi : i < xs.length), w.cell? ⟨g, o + i, none⟩ = some (.int .i64 xs[i])) := h3
  have HX : Hid (n = xs.length) := hx
  have HML : Hid (xs.length ≤ maxLen) := hml
  rw [← hx] at hn ⊢
  clear h3 hx hml h
  go_enter Try.func15, Try.ntmps15
  go_wp2_with (first | (at_make; refine wpList_make_full _ rfl _ _ 22 rfl w.heap.size 2 i0 (.int .i64 0) 1 Try.underlying22 hi hz0 hz1 .i64 .i64 _ _ n rfl rfl rfl rfl (by rw [hz2]; omega) (by unfold maxLen; omega) (Nat.le_refl _) ?_; intro w1 own1 gr1) | go_in)
  have HM : Hid (Made w1 w.heap.size 2 1 n (filled ((xs.take 0).map cint) n zint)) := made_new (z := zint) rfl (by decide) own1
  have HB1 : Hid (Below w.heap.size w w1) := (Below.refl w.heap.size w).grown gr1 (Nat.le_refl _) (fun k hk => by cases hk)
  clear own1 gr1
  go_wp2_with fail
  go_loopw [4] (fun i wr => ∃ j : Nat, j ≤ n ∧ i = .int .i64 j ∧ Hid (Made wr w.heap.size 2 1 n (filled ((xs.take j).map cint) n zint)) ∧ Hid (Below w.heap.size w wr)) (fun i _ => n - (intOf i).toNat)
  case atStart => exact ⟨0, by omega, rfl, HM.out, HB1.out⟩
  case round =>
    obtain ⟨j, hj, rfl, HR, HB⟩ := hrel
    by_cases hlt : j < n
    · have hlx : j < xs.length := by rw [← HX.out]; exact hlt
      obtain ⟨g, o, rfl, hg, hc⟩ := H3.out (by omega)
      have e0 := (HB.out.cell (p := ⟨g, o + j, none⟩) hg).trans (hc j hlx)
      have HSET : Hid (Made (putW wr w.heap.size j (cint xs[j])) w.heap.size 2 1 n (filled ((xs.take (j + 1)).map cint) n zint)) := by
        have h1 := HR.out.put j (by rw [filled_len (by simp; omega)]; exact hlt) (cs := cint xs[j]) rfl
        rw [filled_step cint xs j hlx n (by rw [HX.out]) zint, Nat.mul_one] at h1
        exact h1
      have q0 : wr.cell? ⟨w.heap.size, j, none⟩ = some (.int .i64 0) := by
        have h1 := HR.out.at j (by rw [filled_len (by simp; omega)]; exact hlt) 0 (by decide)
        rw [filled_old (by simp; omega) hlt, show j * 1 + 0 = j by omega] at h1
        exact h1
      have y0 := HR.out.free j
      have HB2 : Hid (Below w.heap.size w (putW wr w.heap.size j (cint xs[j]))) := putW_below (cint xs[j]) HB.out (Nat.le_refl _)
      clear hc HM HB1
      generalize xs[j] = x at *
      go_wp2_with fail
      go_roundw
      case rel => exact ⟨j + 1, by omega, by go_num, HSET.out, HB2.out⟩
      case measure => simp [intOf]; omega
    · obtain rfl : j = n := by omega
      have HRE : Hid (RowE (Plain cint) 1 w.heap.size wr (.slice (some ⟨w.heap.size, 0, none⟩) j j) xs) := made_plain HR.out HX.out HML.out (Nat.le_refl _)
      have HFR : Hid (Free wr (.slice (some ⟨w.heap.size, 0, none⟩) j j)) := fun g o hs _ i => by
        simp only [spotOf, Option.some.injEq, Prod.mk.injEq] at hs
        rw [← hs.1]; exact HR.out.free i
      go_wp2_with fail
      go_ret
      exact ⟨_, rfl, HRE.out, HB.out, HFR.out, _, _, rfl⟩

set_option maxHeartbeats 1000000 in
theorem eq_ins0 (a b : Option Addr) (c d : Nat) (w : World) :
    Calls Try.prog 18 #[.slice a 0 c, .slice b 0 d] w fun e w' => e = .returned (.bool true) ∧ Below w.heap.size w w' := by
  go_enter Try.func18, Try.ntmps18
  go_wp2
  go_loop [5] (fun i => i = .int .i64 0) (fun _ => 0)
  case atStart => exact rfl
  case round =>
    subst hrel
    go_wp2
    go_ret
    exact ⟨rfl, Below.refl _ _⟩
set_option maxHeartbeats 1000000 in
theorem eq_ins {l1 l2 : Nat} {w : World} {va vb : Value} {xs : List Int} (h1 : RowE (Plain cint) 1 l1 w va xs) (h2 : RowE (Plain cint) 1 l2 w vb xs) :
    Calls Try.prog 18 #[va, vb] w fun e w' => e = .returned (.bool true) ∧ Below w.heap.size w w' := by
  obtain ⟨a1, c1, rfl, hm1, hc1⟩ := in_at h1
  obtain ⟨a2, c2, rfl, _, hc2⟩ := in_at h2
  clear h1 h2
  by_cases h0 : xs.length = 0
  · rw [h0]
    exact eq_ins0 _ _ _ _ w
  obtain ⟨g1, o1, rfl, hg1, hc1⟩ := hc1 (by omega)
  obtain ⟨g2, o2, rfl, hg2, hc2⟩ := hc2 (by omega)
  have HC1 : Hid _ := hc1
  have HC2 : Hid _ := hc2
  unfold maxLen at hm1
  have hn : (xs.length : Int) ≤ 9223372036854775807 := by omega
  clear hc1 hc2 h0 hm1
  go_enter Try.func18, Try.ntmps18
  go_wp2
  go_loopw [5] (fun i wr => ∃ k : Nat, k ≤ xs.length ∧ i = .int .i64 k ∧ Below w.heap.size w wr) (fun i _ => xs.length - (intOf i).toNat)
  case atStart => exact ⟨0, by omega, rfl, Below.refl _ _⟩
  case round =>
    obtain ⟨k, hk, rfl, hbel⟩ := hrel
    by_cases hlt : k < xs.length
    · have e1 : wr.cell? ⟨g1, o1 + k, none⟩ = some (.int .i64 xs[k]) := (hbel.cell (p := ⟨g1, o1 + k, none⟩) hg1).trans (HC1.out k hlt)
      have e2 : wr.cell? ⟨g2, o2 + k, none⟩ = some (.int .i64 xs[k]) := (hbel.cell (p := ⟨g2, o2 + k, none⟩) hg2).trans (HC2.out k hlt)
      generalize xs[k] = x at e1 e2
      go_wp2
      go_region
      go_wp2
      go_roundw
      case rel => exact ⟨k + 1, by omega, by go_num, hbel.drew⟩
      case measure => simp [intOf]; omega
    · go_wp2
      go_ret
      exact ⟨rfl, hbel⟩

set_option maxHeartbeats 1000000 in
theorem mark_ins0 (a : Option Addr) (c : Nat) (k : Int) (w : World) : Calls Try.prog 19 #[.slice a 0 c, .int .i64 k] w fun e w' => e = .returned (.int .i64 k) ∧ w' = w := by
  go_enter Try.func19, Try.ntmps19
  go_wp2
  go_loop [1, 5] (fun tk i => i = .int .i64 0 ∧ tk = .int .i64 k) (fun _ _ => 0)
  case atStart => exact ⟨rfl, rfl⟩
  case round =>
    obtain ⟨rfl, rfl⟩ := hrel
    go_wp2
    go_ret
    exact ⟨rfl, rfl⟩
set_option maxHeartbeats 4000000 in
theorem mark_ins {w : World} {v : Value} {k : Int} (h : Mks w 1 v) (hk0 : 0 ≤ k) (hk1 : k ≤ 1000000000) : Calls Try.prog 19 #[v, .int .i64 k] w fun e w' => e = .returned (.int .i64 (k + (lenOf v : Int))) ∧ w' = markV w 1 v k := by
  obtain ⟨a, n, c, rfl, hn, hi⟩ := h
  by_cases h0 : n = 0
  · subst h0
    refine (mark_ins0 a c k w).mono ?_
    rintro e w' ⟨rfl, rfl⟩
    refine ⟨by simp [lenOf], ?_⟩
    cases a <;> simp [markV, nums_zero, putW]
  obtain ⟨g, o, rfl, hi2⟩ := hi (by omega)
  have hn0 : 0 < n := by omega
  rw [Nat.mul_one] at hi2
  have HI : Hid (deep.Ints w g o n) := hi2
  simp only [markV, lenOf, Nat.mul_one]
  clear hi hi2 h0
  go_enter Try.func19, Try.ntmps19
  go_wp2
  go_loopw [1, 5] (fun tk i wr => ∃ j : Nat, j ≤ n ∧ i = .int .i64 j ∧ tk = .int .i64 (k + j) ∧ Hid (wr = putW w g o (nums k j))) (fun _ i _ => n - (intOf i).toNat)
  case atStart => exact ⟨0, by omega, rfl, by simp, by simp [Hid, nums_zero, putW]⟩
  case round =>
    obtain ⟨j, hj, rfl, rfl, HW⟩ := hrel
    by_cases hlt : j < n
    · have HJ : Hid (deep.Ints wr g o n) := by rw [HW.out]; exact HI.out.putN _ _ _ (nums_int _ _)
      obtain ⟨⟨x0, c0⟩, f0⟩ : (∃ x, wr.cell? ⟨g, o + j, none⟩ = some (.int .i64 x)) ∧ wr.frozen? ⟨g, o + j, none⟩ = false := HJ.out j hlt
      have HS : Hid (∀ W, W = putW w g o (nums k j) → putW W g (o + j) [.int .i64 (k + (j : Int))] = putW w g o (nums k (j + 1))) := fun W hW => by
        have h1 := put_next (w := w) (g := g) (o := o) (k := k) (j := j) (K := 1) (hs := [.int .i64 (k + (j : Int))]) (by simp [nums])
        rw [Nat.mul_one, Nat.mul_one] at h1
        rw [hW]; exact h1
      clear HJ
      go_wp2
      go_roundw
      case rel => exact ⟨j + 1, by omega, by go_num, by rw [Value.int.injEq]; exact ⟨rfl, by omega⟩, HS.out _ HW.out⟩
      case measure => simp [intOf]; omega
    · obtain rfl : j = n := by omega
      go_wp2
      go_ret
      exact ⟨rfl, HW.out⟩

set_option maxHeartbeats 1000000 in
theorem held_ins0 (a : Option Addr) (c : Nat) (k : Int) (w : World) : Calls Try.prog 63 #[.slice a 0 c, .int .i64 k] w fun e w' => e = .returned (.int .i64 k) ∧ w' = w := by
  go_enter Try.func63, Try.ntmps63
  go_wp2
  go_loop [1, 5] (fun tk i => i = .int .i64 0 ∧ tk = .int .i64 k) (fun _ _ => 0)
  case atStart => exact ⟨rfl, rfl⟩
  case round =>
    obtain ⟨rfl, rfl⟩ := hrel
    go_wp2
    go_ret
    exact ⟨rfl, rfl⟩
set_option maxHeartbeats 4000000 in
theorem held_ins {w : World} {v : Value} {k : Int} (h : HeldV w 1 v k) (hk0 : 0 ≤ k) (hk1 : k ≤ 1000000000) : Calls Try.prog 63 #[v, .int .i64 k] w fun e w' => e = .returned (.int .i64 (k + (lenOf v : Int))) ∧ w' = w := by
  obtain ⟨a, n, c, rfl, hn, hi⟩ := h
  by_cases h0 : n = 0
  · subst h0
    refine (held_ins0 a c k w).mono ?_
    rintro e w' ⟨rfl, rfl⟩
    exact ⟨by simp [lenOf], rfl⟩
  obtain ⟨g, o, rfl, hi2⟩ := hi (by omega)
  have hn0 : 0 < n := by omega
  have HI : Hid (∀ i, i < n → w.cell? ⟨g, o + i, none⟩ = some (.int .i64 (k + (i : Int)))) := fun i hi => hi2 i (by omega)
  simp only [lenOf]
  clear hi hi2 h0
  go_enter Try.func63, Try.ntmps63
  go_wp2
  go_loop [1, 5] (fun tk i => ∃ j : Nat, j ≤ n ∧ i = .int .i64 j ∧ tk = .int .i64 (k + j)) (fun _ i => n - (intOf i).toNat)
  case atStart => exact ⟨0, by omega, rfl, by simp⟩
  case round =>
    obtain ⟨j, hj, rfl, rfl⟩ := hrel
    by_cases hlt : j < n
    · have c0 := HI.out j hlt
      go_wp2
      go_round
      case rel => exact ⟨j + 1, by omega, by go_num, by rw [Value.int.injEq]; exact ⟨rfl, by omega⟩⟩
      case measure => simp [intOf]; omega
    · obtain rfl : j = n := by omega
      go_wp2
      go_ret
      exact ⟨rfl, rfl⟩
end Go.Proofs.Ytnkkkdhpopfahaa.deep
