/-
  The law FnExactKept answers true at every list of calls, every list of replies and every label: Kept answers as the specification, writes into no argument, and its answer owns its memory. Conditions: none.
-/
import Derived.Test.YtpehmphcnimegaaKeptM
import Derived.Test.YtpehmphcnimegaaMarkCall
import Derived.Test.YtpehmphcnimegaaReplyOpen
import Derived.OpenShut
namespace Go.Proofs.Ytpehmphcnimegaa.fnExactKept
open Go.ChangeShapes Go.WideShapes Go.ChangeAt Go.RowKit
open Go.Proofs.Ytpehmphcnimegaa
open Go.Proofs.Ytpehmphcnimegaa.deep
set_option linter.unusedVariables false
set_option maxRecDepth 100000

theorem own : ownKnob Try.prog.godebug = none := by kernel_rfl
theorem marks_of {w : World} {v : Value} {xs : List Tcl} {lo : Nat} (h : RowE (Plain ccl) 9 lo w v xs) (hf : Free w v) (hn : xs.length ≤ 1048576) : Mks w 9 v :=
  Mks.of h (fun x => ⟨[x.q0, x.q1, x.q2, x.q3, x.q4, x.q5, x.q6, x.q7, x.q8], rfl⟩) hf hn (by decide)
theorem repE_of {lo k : Nat} {w : World} {v : Value} {xs : List RepD} (h : RowE RepF k lo w v xs) : RowE RepE k lo w v xs := by
  obtain ⟨a, c, rfl, h1, h3⟩ := h
  refine ⟨a, c, rfl, h1, fun hn => ?_⟩
  obtain ⟨g, o, rfl, h4, h5, h6⟩ := h3 hn
  refine ⟨g, o, rfl, h4, h5, fun i hi => ?_⟩
  obtain ⟨cs, h7, h8, h9⟩ := h6 i hi
  exact ⟨cs, h7, h8, rep_of h9⟩
/-- what toReplyS leaves, as it is wanted here -/
def NewReps (xs : List RepD) (w : World) (e : Ending) (w' : World) : Prop := ∃ v' ds, e = .returned v' ∧ RowE RepE 6 w.heap.size w' v' xs ∧ Below w.heap.size w w' ∧ RM w' v' ds ∧ OneL ds ∧ sumE 5 ds ds.length = 5 * (xs.length : Int) + 3 * (bulkR xs : Int) ∧ Span w.heap.size w'.heap.size v' ds
theorem new_reps {lo : Nat} {w : World} {v : Value} {xs : List RepD} (h : RowE RepE 6 lo w v xs) (hn : xs.length ≤ 1048576) (hbk : bulkR xs ≤ 1048576) : Calls Try.prog 14 #[v] w (NewReps xs w) := by
  refine (to_reps h hn hbk).mono ?_
  rintro e w' ⟨c, rfl, hr, ⟨css, hcl, hm, hf⟩, hb⟩
  obtain ⟨ds, h1, h2, _, h3, h4⟩ := reps_rm (c := c) hcl hm hf hn (rep_bulk hbk)
  exact ⟨_, ds, rfl, repE_of hr, hb, h1, h2, h3, h4⟩
/-- what the program's Kept leaves, as it is wanted here -/
def NewKept (ys : List RepD) (w : World) (e : Ending) (w' : World) : Prop := ∃ v' ds, e = .returned v' ∧ Below w.heap.size w w' ∧ RowE RepE 6 w.heap.size w' v' ys ∧ RM w' v' ds ∧ OneL ds ∧ DistinctE ds ∧ sumE 5 ds ds.length = 5 * (ys.length : Int) + 3 * (bulkR ys : Int) ∧ Span w.heap.size w'.heap.size v' ds
theorem new_kept (lb : Int) {lo lo2 : Nat} {w : World} {v v2 : Value} {xs : List Tcl} {rs : List RepD} (h : RowE (Plain ccl) 9 lo w v xs) (h2 : RowE RepE 6 lo2 w v2 rs) (hbk : bulkR rs ≤ 1048576) : Calls Try.prog 15 #[v, v2, .int .i64 lb] w (NewKept (kept2 (pw lb) xs rs) w) := by
  refine (im_kept lb h h2 hbk).mono ?_
  rintro e w' ⟨v', rfl, hb, hw⟩
  obtain ⟨hr, ds, h1, h2, h3, h4, h5⟩ := whole_rm hw (kept2_le _ _ _)
  exact ⟨v', ds, rfl, hb, hr, h1, h2, h3, h4, h5⟩

set_option maxHeartbeats 8000000 in
theorem walk (v u : Value) (xs : List Tcl) (rs : List RepD) (lb : Int) (w : World) (h : RowE (Plain ccl) 9 0 w v xs) (hr : RowE RepE 6 0 w u rs) :
    Calls Try.prog 4 #[v, u, .int .i64 lb] w fun e w' => e = .returned (.bool true) ∧ Below w.heap.size w w' := by
  obtain ⟨a, c, rfl, hml⟩ := h.form
  obtain ⟨ar, cr, qu, _⟩ := hr.form
  unfold maxLen at hml
  obtain ⟨n, hx⟩ : ∃ n, n = xs.length := ⟨_, rfl⟩
  obtain ⟨m, hm⟩ : ∃ n, n = rs.length := ⟨_, rfl⟩
  obtain ⟨bk, hbk⟩ : ∃ b : Nat, b = rs.length + bulkR rs := ⟨_, rfl⟩
  rw [← hm] at qu
  clear hm
  have HSZ : Hid (∀ W, Calls Try.prog 5 #[.slice a n c, .int .i64 1048576] W fun e w' => e = .returned (.int .i64 (if (n : Int) ≤ 1048576 then 1048576 - n else -1)) ∧ w' = W) := fun W => sz_cls a n c 1048576 (by omega) (by omega) (by omega) W
  have HA : Hid (RowE (Plain ccl) 9 0 w (.slice a n c) xs) := by rw [hx]; exact h
  have HX : Hid (n = xs.length) := hx
  rw [← hx]
  clear h hml hx
  by_cases hn : (n : Int) ≤ 1048576
  · rw [if_pos hn] at HSZ
    have hk0 : (0 : Int) ≤ 1048576 - n := by omega
    have HSR : Hid (∀ W, Below w.heap.size w W → Calls Try.prog 12 #[u, .int .i64 (1048576 - n)] W fun e w' => e = .returned (.int .i64 (if (bk : Int) ≤ 1048576 - n then 1048576 - n - bk else -1)) ∧ Below W.heap.size W w') := fun W hW => by rw [hbk]; exact sz_reps (hr.below rep_stays hW) (1048576 - n) (by omega) (by omega)
    by_cases hb : (bk : Int) ≤ 1048576 - n
    · rw [if_pos hb] at HSR
      have hb0 : (0 : Int) ≤ 1048576 - n - bk := by omega
      have hrl : rs.length ≤ 1048576 := by omega
      have hrb : bulkR rs ≤ 1048576 := by omega
      have hxl : xs.length ≤ 1048576 := by rw [← HX.out]; omega
      have hsum : 1 + 9 * (n : Int) + (5 * (rs.length : Int) + 3 * (bulkR rs : Int)) ≤ 500000000 := by omega
      have HT : Hid (∀ W, Below w.heap.size w W → Calls Try.prog 7 #[.slice a n c] W (ToclsF xs W)) := fun W hW => to_clsF (HA.out.below (plain_stays _) hW) hxl
      have HTR : Hid (∀ W, Below w.heap.size w W → Calls Try.prog 14 #[u] W (NewReps rs W)) := fun W hW => new_reps (hr.below rep_stays hW) hrl hrb
      have HS : Hid (∀ lo lo2 u1 u2 W, RowE (Plain ccl) 9 lo W u1 xs → RowE RepE 6 lo2 W u2 rs → Calls Try.prog 13 #[u1, u2, .int .i64 lb] W (KeptS lb xs rs W)) := fun lo lo2 u1 u2 W h1 h2 => sp_kept lb h1 h2 hrb
      have HI : Hid (∀ lo lo2 u1 u2 W, RowE (Plain ccl) 9 lo W u1 xs → RowE RepE 6 lo2 W u2 rs → Calls Try.prog 15 #[u1, u2, .int .i64 lb] W (NewKept (kept2 (pw lb) xs rs) W)) := fun lo lo2 u1 u2 W h1 h2 => new_kept lb h1 h2 hrb
      obtain ⟨ys, hys⟩ : ∃ ys, ys = kept2 (pw lb) xs rs := ⟨_, rfl⟩
      have hyb : bulkR ys ≤ 1048576 := by rw [hys]; exact Nat.le_trans (kept2_bulk _ _ _) hrb
      have hyl : ys.length ≤ 400 := by rw [hys]; exact kept2_le _ _ _
      have HYS : Hid (1 + (5 * (ys.length : Int) + 3 * (bulkR ys : Int)) ≤ 500000000) := by show _ ≤ _; omega
      have HXS : Hid (1 + 9 * (n : Int) + (5 * (rs.length : Int) + 3 * (bulkR rs : Int)) ≤ 500000000) := hsum
      have HXL : Hid (xs.length ≤ 1048576) := hxl
      unfold KeptS at HS
      rw [← hys] at HS HI
      have HEC : Hid (∀ l1 l2 u1 u2 W, RowE (Plain ccl) 9 l1 W u1 xs → RowE (Plain ccl) 9 l2 W u2 xs → Calls Try.prog 9 #[u1, u2] W fun e w' => e = .returned (.bool true) ∧ Below W.heap.size W w') := fun _ _ _ _ _ h1 h2 => eq_cls h1 h2
      have HER : Hid (∀ zs l1 l2 u1 u2 W, RowE RepE 6 l1 W u1 zs → RowE RepE 6 l2 W u2 zs → Calls Try.prog 16 #[u1, u2] W fun e w' => e = .returned (.bool true) ∧ Below W.heap.size W w') := fun _ _ _ _ _ _ h1 h2 => eq_reps h1 h2
      have HMC : Hid (∀ u W, Mks W 9 u → Calls Try.prog 10 #[u, .int .i64 1] W fun e w' => e = .returned (.int .i64 (1 + 9 * (lenOf u : Int))) ∧ w' = markV W 9 u 1) := fun u W h => mark_cls h (by omega) (by omega)
      have HB0 : Hid ((bk : Nat) = bk) := rfl
      clear hys hrl hrb hxl hsum hyb hyl hr hbk
      subst qu
      go_enter Try.func4, Try.ntmps4
      go_wp2_with fail
      refine Calls.mono (HSZ.out _) ?_
      rintro e w1 ⟨rfl, rfl⟩
      go_wp2_with fail
      refine Calls.mono (HSR.out _ (Below.refl _ _)) ?_
      rintro e w2 ⟨rfl, hb2⟩
      have HB2 : Hid (Below w1.heap.size w1 w2) := hb2
      clear hb2
      go_wp2_with fail
      refine Calls.mono (HT.out _ HB2.out) ?_
      rintro e w3 ⟨v3, rfl, hr3, hb3, _⟩
      have HR3 : Hid (RowE (Plain ccl) 9 w2.heap.size w3 v3 xs) := hr3
      have HB3 : Hid (Below w1.heap.size w1 w3) := below_tr HB2.out hb3
      clear hr3 hb3
      go_wp2_with fail
      refine Calls.mono (HTR.out _ HB3.out) ?_
      rintro e w4 ⟨v4, _, rfl, hr4, hb4, _, _, _, _⟩
      have HR4 : Hid (RowE RepE 6 w3.heap.size w4 v4 rs) := hr4
      have HR34 : Hid (RowE (Plain ccl) 9 w2.heap.size w4 v3 xs) := HR3.out.below (plain_stays _) hb4
      have HB4 : Hid (Below w1.heap.size w1 w4) := below_tr HB3.out hb4
      clear hr4 hb4 HR3 HB3 HB2
      go_wp2_with fail
      refine Calls.mono (HS.out _ _ _ _ _ HR34.out HR4.out) ?_
      rintro e w5 ⟨v5, rfl, hr5, hb5⟩
      have HW5 : Hid (RowE RepE 6 w4.heap.size w5 v5 ys) := hr5
      have HB5 : Hid (Below w1.heap.size w1 w5) := below_tr HB4.out hb5
      clear hr5 hb5 HR34 HR4 HB4
      go_wp2_with fail
      refine Calls.mono (HT.out _ HB5.out) ?_
      rintro e w6 ⟨v6, rfl, hr6, hb6, hf6⟩
      have HC6 : Hid (RowE (Plain ccl) 9 w5.heap.size w6 v6 xs) := hr6
      have HM6 : Hid (Mks w6 9 v6) := marks_of hr6 hf6 HXL.out
      have hs6 : ∀ g o, spotOf v6 = some (g, o) → 0 < lenOf v6 → w5.heap.size ≤ g ∧ g < w6.heap.size := row_spot hr6
      have HS6 : Hid (∀ g o, spotOf v6 = some (g, o) → 0 < lenOf v6 → w5.heap.size ≤ g ∧ g < w6.heap.size) := hs6
      have hl6 : lenOf v6 = n := by rw [len_of hr6, HX.out]
      have HK6 : Hid (Below w5.heap.size w5 w6) := hb6
      have HB6 : Hid (Below w1.heap.size w1 w6) := below_tr HB5.out hb6
      have h56 : w5.heap.size ≤ w6.heap.size := hb6.size
      have h15 : w1.heap.size ≤ w5.heap.size := HB5.out.size
      clear hr6 hf6 hb6 hs6 HB5
      go_wp2_with fail
      refine Calls.mono (HTR.out _ HB6.out) ?_
      rintro e w7 ⟨v7, ds7, rfl, hr7, hb7, hm7, ho7, hsum7, hsp7⟩
      have HR7 : Hid (RowE RepE 6 w6.heap.size w7 v7 rs) := hr7
      have HD7 : Hid (RM w7 v7 ds7) := hm7
      have HO7 : Hid (OneL ds7) := ho7
      have HSM7 : Hid (sumE 5 ds7 ds7.length = 5 * (rs.length : Int) + 3 * (bulkR rs : Int)) := hsum7
      have HSP7 : Hid (Span w6.heap.size w7.heap.size v7 ds7) := hsp7
      have HC7 : Hid (RowE (Plain ccl) 9 w5.heap.size w7 v6 xs) := HC6.out.below (plain_stays _) hb7
      have HM7 : Hid (Mks w7 9 v6) := HM6.out.later hb7
      have HK7 : Hid (Below w5.heap.size w5 w7) := below_tr HK6.out hb7
      have HB7 : Hid (Below w1.heap.size w1 w7) := below_tr HB6.out hb7
      have h67 : w6.heap.size ≤ w7.heap.size := hb7.size
      clear hr7 hb7 hm7 ho7 hsum7 hsp7 HC6 HM6 HK6 HB6
      go_wp2_with fail
      refine Calls.mono (HI.out _ _ _ _ _ HC7.out HR7.out) ?_
      rintro e w8 ⟨v8, ds8, rfl, hb8, hr8, hm8, ho8, hdi8, hsum8, hsp8⟩
      have HG8 : Hid (RowE RepE 6 w7.heap.size w8 v8 ys) := hr8
      have HE8 : Hid (RM w8 v8 ds8) := hm8
      have HO8 : Hid (OneL ds8) := ho8
      have HDI8 : Hid (DistinctE ds8) := hdi8
      have HSM8 : Hid (sumE 5 ds8 ds8.length = 5 * (ys.length : Int) + 3 * (bulkR ys : Int)) := hsum8
      have HSP8 : Hid (Span w7.heap.size w8.heap.size v8 ds8) := hsp8
      have HR8 : Hid (RowE RepE 6 w6.heap.size w8 v7 rs) := HR7.out.below rep_stays hb8
      have HD8 : Hid (RM w8 v7 ds7) := HD7.out.later hb8
      have HC8 : Hid (RowE (Plain ccl) 9 w5.heap.size w8 v6 xs) := HC7.out.below (plain_stays _) hb8
      have HM8 : Hid (Mks w8 9 v6) := HM7.out.later hb8
      have HK8 : Hid (Below w5.heap.size w5 w8) := below_tr HK7.out hb8
      have HB8 : Hid (Below w1.heap.size w1 w8) := below_tr HB7.out hb8
      have HW8 : Hid (RowE RepE 6 w4.heap.size w8 v5 ys) := HW5.out.below rep_stays HK8.out
      have h78 : w7.heap.size ≤ w8.heap.size := hb8.size
      clear hb8 hr8 hm8 ho8 hdi8 hsum8 hsp8 HR7 HD7 HC7 HM7 HK7 HB7
      go_wp2_with fail
      refine Calls.mono (HER.out _ _ _ _ _ _ HG8.out HW8.out) ?_
      rintro e w9 ⟨rfl, hb9⟩
      have HG9 : Hid (RowE RepE 6 w7.heap.size w9 v8 ys) := HG8.out.below rep_stays hb9
      have HE9 : Hid (RM w9 v8 ds8) := HE8.out.later hb9
      have HR9 : Hid (RowE RepE 6 w6.heap.size w9 v7 rs) := HR8.out.below rep_stays hb9
      have HD9 : Hid (RM w9 v7 ds7) := HD8.out.later hb9
      have HC9 : Hid (RowE (Plain ccl) 9 w5.heap.size w9 v6 xs) := HC8.out.below (plain_stays _) hb9
      have HM9 : Hid (Mks w9 9 v6) := HM8.out.later hb9
      have HK9 : Hid (Below w5.heap.size w5 w9) := below_tr HK8.out hb9
      have HB9 : Hid (Below w1.heap.size w1 w9) := below_tr HB8.out hb9
      have h89 : w8.heap.size ≤ w9.heap.size := hb9.size
      clear hb9 HG8 HE8 HR8 HD8 HC8 HM8 HK8 HB8 HW8
      go_wp2_with fail
      refine Calls.mono (HT.out _ HB9.out) ?_
      rintro e wa ⟨va, rfl, hra, hba, _⟩
      have HXa : Hid (RowE (Plain ccl) 9 w9.heap.size wa va xs) := hra
      have HGa : Hid (RowE RepE 6 w7.heap.size wa v8 ys) := HG9.out.below rep_stays hba
      have HEa : Hid (RM wa v8 ds8) := HE9.out.later hba
      have HRa : Hid (RowE RepE 6 w6.heap.size wa v7 rs) := HR9.out.below rep_stays hba
      have HDa : Hid (RM wa v7 ds7) := HD9.out.later hba
      have HCa : Hid (RowE (Plain ccl) 9 w5.heap.size wa v6 xs) := HC9.out.below (plain_stays _) hba
      have HMa : Hid (Mks wa 9 v6) := HM9.out.later hba
      have HKa : Hid (Below w5.heap.size w5 wa) := below_tr HK9.out hba
      have HBa : Hid (Below w1.heap.size w1 wa) := below_tr HB9.out hba
      have h9a : w9.heap.size ≤ wa.heap.size := hba.size
      clear hba hra HG9 HE9 HR9 HD9 HC9 HM9 HK9 HB9
      go_wp2_with fail
      refine Calls.mono (HEC.out _ _ _ _ _ HCa.out HXa.out) ?_
      rintro e wb ⟨rfl, hbb⟩
      have HGb : Hid (RowE RepE 6 w7.heap.size wb v8 ys) := HGa.out.below rep_stays hbb
      have HEb : Hid (RM wb v8 ds8) := HEa.out.later hbb
      have HRb : Hid (RowE RepE 6 w6.heap.size wb v7 rs) := HRa.out.below rep_stays hbb
      have HDb : Hid (RM wb v7 ds7) := HDa.out.later hbb
      have HMb : Hid (Mks wb 9 v6) := HMa.out.later hbb
      have HKb : Hid (Below w5.heap.size w5 wb) := below_tr HKa.out hbb
      have HBb : Hid (Below w1.heap.size w1 wb) := below_tr HBa.out hbb
      have hab : wa.heap.size ≤ wb.heap.size := hbb.size
      clear hbb HGa HEa HRa HDa HCa HXa HMa HKa HBa
      go_wp2_with fail
      refine Calls.mono (HTR.out _ HBb.out) ?_
      rintro e wc' ⟨vc, _, rfl, hrc, hbc, _, _, _, _⟩
      have HYc : Hid (RowE RepE 6 wb.heap.size wc' vc rs) := hrc
      have HGc : Hid (RowE RepE 6 w7.heap.size wc' v8 ys) := HGb.out.below rep_stays hbc
      have HEc : Hid (RM wc' v8 ds8) := HEb.out.later hbc
      have HRc : Hid (RowE RepE 6 w6.heap.size wc' v7 rs) := HRb.out.below rep_stays hbc
      have HDc : Hid (RM wc' v7 ds7) := HDb.out.later hbc
      have HMc : Hid (Mks wc' 9 v6) := HMb.out.later hbc
      have HKc : Hid (Below w5.heap.size w5 wc') := below_tr HKb.out hbc
      have HBc : Hid (Below w1.heap.size w1 wc') := below_tr HBb.out hbc
      have hbcs : wb.heap.size ≤ wc'.heap.size := hbc.size
      clear hbc hrc HGb HEb HRb HDb HMb HKb HBb
      go_wp2_with fail
      refine Calls.mono (HER.out _ _ _ _ _ _ HRc.out HYc.out) ?_
      rintro e wd ⟨rfl, hbd⟩
      have HGd : Hid (RowE RepE 6 w7.heap.size wd v8 ys) := HGc.out.below rep_stays hbd
      have HEd : Hid (RM wd v8 ds8) := HEc.out.later hbd
      have HDd : Hid (RM wd v7 ds7) := HDc.out.later hbd
      have HMd : Hid (Mks wd 9 v6) := HMc.out.later hbd
      have HKd : Hid (Below w5.heap.size w5 wd) := below_tr HKc.out hbd
      have HBd : Hid (Below w1.heap.size w1 wd) := below_tr HBc.out hbd
      have hcd : wc'.heap.size ≤ wd.heap.size := hbd.size
      clear hbd HGc HEc HRc HYc HDc HMc HKc HBc
      go_wp2_with fail
      refine Calls.mono (HMC.out _ _ HMd.out) ?_
      rintro e we ⟨rfl, hwe⟩
      rw [hl6]
      have hke : Keep w6.heap.size wd we := by rw [hwe]; exact mark_keep fun g o hs hl => (HS6.out g o hs hl).2
      have hse : we.heap.size = wd.heap.size := by rw [hwe]; exact markV_size _ _ _ _
      have HDe : Hid (RM we v7 ds7) := HDd.out.keep HSP7.out hke (by omega)
      have HEe : Hid (RM we v8 ds8) := HEd.out.keep (HSP8.out.up h67 (Nat.le_refl _)) hke (by omega)
      have HGe : Hid (RowE RepE 6 w7.heap.size we v8 ys) := rowE_stays rep_stays HGd.out ⟨hke.size, fun b h1 h2 => hke.block b (Nat.le_trans h67 h1) h2⟩
      have HKe : Hid (Below w5.heap.size w5 we) := by rw [hwe]; exact markV_below HKd.out fun g o hs hl => (HS6.out g o hs hl).1
      have HBe : Hid (Below w1.heap.size w1 we) := by rw [hwe]; exact markV_below HBd.out fun g o hs hl => Nat.le_trans h15 (HS6.out g o hs hl).1
      clear hwe hke HGd HEd HDd HMd HKd HBd HMC
      have HC7x : Hid (Calls Try.prog 17 #[v7, .int .i64 (1 + 9 * (n : Int))] we fun e w' => e = .returned (.int .i64 (1 + 9 * (n : Int) + sumE 5 ds7 ds7.length)) ∧ w' = markR we v7 ds7 (1 + 9 * (n : Int))) := mark_repsV HDe.out HO7.out (by omega) (by rw [HSM7.out]; exact HXS.out)
      have hsum0 : 0 ≤ sumE 5 ds7 ds7.length := sumE_pos 5 ds7 ds7.length
      generalize sumE 5 ds7 ds7.length = s7 at *
      go_wp2_with fail
      refine Calls.mono HC7x.out ?_
      rintro e wf ⟨rfl, hwf⟩
      have hkf : Keep w7.heap.size we wf := by rw [hwf]; exact markR_keep HDe.out HSP7.out
      have hsf : wf.heap.size = we.heap.size := by rw [hwf]; exact markR_size _ _ _ _
      have HEf : Hid (RM wf v8 ds8) := HEe.out.keep HSP8.out hkf (by omega)
      have HGf : Hid (RowE RepE 6 w7.heap.size wf v8 ys) := rowE_stays rep_stays HGe.out hkf
      have HKf : Hid (Below w5.heap.size w5 wf) := by rw [hwf]; exact markR_below HDe.out HKe.out HSP7.out h56
      have HBf : Hid (Below w1.heap.size w1 wf) := by rw [hwf]; exact markR_below HDe.out HBe.out HSP7.out (by omega)
      have HWf : Hid (RowE RepE 6 w4.heap.size wf v5 ys) := HW5.out.below rep_stays HKf.out
      clear hwf hkf HDe HEe HGe HKe HBe HC7x
      go_wp2_with fail
      refine Calls.mono (HER.out _ _ _ _ _ _ HGf.out HWf.out) ?_
      rintro e wg ⟨rfl, hbg⟩
      have HEg : Hid (RM wg v8 ds8) := HEf.out.later hbg
      have HKg : Hid (Below w5.heap.size w5 wg) := below_tr HKf.out hbg
      have HBg : Hid (Below w1.heap.size w1 wg) := below_tr HBf.out hbg
      have hfg : wf.heap.size ≤ wg.heap.size := hbg.size
      clear hbg HEf HGf HKf HBf HWf
      have HC8x : Hid (Calls Try.prog 17 #[v8, .int .i64 1] wg fun e w' => e = .returned (.int .i64 (1 + sumE 5 ds8 ds8.length)) ∧ w' = markR wg v8 ds8 1) := mark_repsV HEg.out HO8.out (by omega) (by rw [HSM8.out]; exact HYS.out)
      have HC8h : Hid (∀ W, RH W v8 ds8 1 → Calls Try.prog 18 #[v8, .int .i64 1] W fun e w' => e = .returned (.int .i64 (1 + sumE 5 ds8 ds8.length)) ∧ w' = W) := fun W h => held_repsV h HO8.out (by omega) (by rw [HSM8.out]; exact HYS.out)
      have hsum1 : 0 ≤ sumE 5 ds8 ds8.length := sumE_pos 5 ds8 ds8.length
      generalize sumE 5 ds8 ds8.length = s8 at *
      go_wp2_with fail
      refine Calls.mono HC8x.out ?_
      rintro e wh ⟨rfl, hwh⟩
      have hsh : wh.heap.size = wg.heap.size := by rw [hwh]; exact markR_size _ _ _ _
      have HHh : Hid (RH wh v8 ds8 1) := by rw [hwh]; exact HEg.out.held HDI8.out 1
      have HKh : Hid (Below w5.heap.size w5 wh) := by rw [hwh]; exact markR_below HEg.out HKg.out HSP8.out (by omega)
      have HBh : Hid (Below w1.heap.size w1 wh) := by rw [hwh]; exact markR_below HEg.out HBg.out HSP8.out (by omega)
      have HSPh : Hid (Span w7.heap.size wh.heap.size v8 ds8) := HSP8.out.up (Nat.le_refl _) (by omega)
      clear hwh HEg HKg HBg HC8x
      go_wp2_with fail
      refine Calls.mono (HC8h.out _ HHh.out) ?_
      rintro e wh' ⟨rfl, rfl⟩
      go_wp2_with fail
      refine Calls.mono (HT.out _ HBh.out) ?_
      rintro e wi ⟨vi, rfl, hri, hbi, _⟩
      have HXi : Hid (RowE (Plain ccl) 9 wh'.heap.size wi vi xs) := hri
      have HHi : Hid (RH wi v8 ds8 1) := HHh.out.later HSPh.out hbi
      have HSPi : Hid (Span w7.heap.size wi.heap.size v8 ds8) := HSPh.out.up (Nat.le_refl _) hbi.size
      have HKi : Hid (Below w5.heap.size w5 wi) := below_tr HKh.out hbi
      have HBi : Hid (Below w1.heap.size w1 wi) := below_tr HBh.out hbi
      clear hri hbi HHh HSPh HKh HBh
      go_wp2_with fail
      refine Calls.mono (HTR.out _ HBi.out) ?_
      rintro e wj ⟨vj, _, rfl, hrj, hbj, _, _, _, _⟩
      have HRj : Hid (RowE RepE 6 wi.heap.size wj vj rs) := hrj
      have HXj : Hid (RowE (Plain ccl) 9 wh'.heap.size wj vi xs) := HXi.out.below (plain_stays _) hbj
      have HHj : Hid (RH wj v8 ds8 1) := HHi.out.later HSPi.out hbj
      have HSPj : Hid (Span w7.heap.size wj.heap.size v8 ds8) := HSPi.out.up (Nat.le_refl _) hbj.size
      have HKj : Hid (Below w5.heap.size w5 wj) := below_tr HKi.out hbj
      have HBj : Hid (Below w1.heap.size w1 wj) := below_tr HBi.out hbj
      clear hrj hbj HHi HSPi HKi HBi HXi
      go_wp2_with fail
      refine Calls.mono (HI.out _ _ _ _ _ HXj.out HRj.out) ?_
      rintro e wk ⟨vk, _, rfl, hbk, hrk, _, _, _, _, _⟩
      have HGk : Hid (RowE RepE 6 wj.heap.size wk vk ys) := hrk
      have HHk : Hid (RH wk v8 ds8 1) := HHj.out.later HSPj.out hbk
      have HSPk : Hid (Span w7.heap.size wk.heap.size v8 ds8) := HSPj.out.up (Nat.le_refl _) hbk.size
      have HKk : Hid (Below w5.heap.size w5 wk) := below_tr HKj.out hbk
      have HBk : Hid (Below w1.heap.size w1 wk) := below_tr HBj.out hbk
      have HWk : Hid (RowE RepE 6 w4.heap.size wk v5 ys) := HW5.out.below rep_stays HKk.out
      clear hrk hbk HHj HSPj HKj HBj HXj HRj
      go_wp2_with fail
      refine Calls.mono (HER.out _ _ _ _ _ _ HGk.out HWk.out) ?_
      rintro e wl ⟨rfl, hbl⟩
      have HHl : Hid (RH wl v8 ds8 1) := HHk.out.later HSPk.out hbl
      have HBl : Hid (Below w1.heap.size w1 wl) := below_tr HBk.out hbl
      clear hbl HHk HSPk HKk HBk HGk HWk
      go_wp2_with fail
      refine Calls.mono (HC8h.out _ HHl.out) ?_
      rintro e wm ⟨rfl, rfl⟩
      go_wp2_with fail
      go_ret
      exact ⟨rfl, HBl.out⟩
    · rw [if_neg hb] at HSR
      clear hr hbk
      subst qu
      go_enter Try.func4, Try.ntmps4
      go_wp2_with fail
      refine Calls.mono (HSZ.out _) ?_
      rintro e w1 ⟨rfl, rfl⟩
      go_wp2_with fail
      refine Calls.mono (HSR.out _ (Below.refl _ _)) ?_
      rintro e w2 ⟨rfl, hb2⟩
      have HB2 : Hid (Below w1.heap.size w1 w2) := hb2
      clear hb2
      go_wp2_with fail
      go_ret
      exact ⟨rfl, HB2.out⟩
  · rw [if_neg hn] at HSZ
    clear hr hbk
    subst qu
    go_enter Try.func4, Try.ntmps4
    go_wp2_with fail
    refine Calls.mono (HSZ.out _) ?_
    rintro e w1 ⟨rfl, rfl⟩
    go_wp2_with fail
    go_ret
    exact ⟨rfl, Below.refl _ _⟩

theorem laidOutL : laidOutB Try.prog = true := by kernel_rfl
set_option maxRecDepth 100000 in
/-- a slice is one cell -/
theorem slice_cells {W : World} {base : Nat} {v : Value} (h : Value.okWide Try.prog W .any base 22 v) : v.cells.toList = [v] := by
  cases v with
  | agg c => simp [Value.okWide, Cell.okWide, Cell.ok, Try.underlying22] at h
  | _ => rfl
set_option maxRecDepth 100000 in
theorem slice_cells2 {W : World} {base : Nat} {v : Value} (h : Value.okWide Try.prog W .any base 30 v) : v.cells.toList = [v] := by
  cases v with
  | agg c => simp [Value.okWide, Cell.okWide, Cell.ok, Try.underlying30] at h
  | _ => rfl

set_option maxRecDepth 100000 in
theorem lifted (os : Os) (started : os.Started) (H : Type) (enc : TypeId × Value → H) :
    ReturnsInHanded {} Try.checked os 4 .any (Rows.fnExactKeptSpec.pre6 enc Try.prog Try.f4 Rows.fnExactKeptRow.domain false) (Rows.fnExactKeptSpec.post enc Try.prog Try.f4 false true false false) := by
  refine returnsInHanded_of_change (C := Try.checked) own started (by kernel_rfl) Try.func4
    (ChangeSpec.witness6 (enc := enc) (C := Try.checked) false ⟨#[], #[.slice none 0 0, .slice none 0 0, .int .i64 0], []⟩ 8 (by kernel_rfl) (by kernel_rfl) (by kernel_rfl) (by kernel_rfl)) ?_
  intro W base args ds gs before hval0 hW hcnd _
  have hval : ∀ (j : Nat) t v, Try.f4.params[j]? = some t → args[j]? = some v → Value.okWide Try.prog W .any base t v := hval0
  have hW' := hW
  obtain ⟨p, q, hA0, hV, rfl, hfz, hnd⟩ := hW
  have hA : DataW.TrodAll enc Try.prog W 0 (fun _ => true) true Try.f4.params.toList args.toList ds p := hA0
  rw [Try.params4] at hA hval
  obtain ⟨v0, vs0, d0, ds0, p0, q0, hargs, rfl, rfl, h0, r0⟩ := trodAll_cons hA
  obtain ⟨v1, vs1, d1, ds1, p1, q1, hargs1, rfl, rfl, h1, r1⟩ := trodAll_cons r0
  obtain ⟨v2, vs2, d2, ds2, p2, q2, hargs2, rfl, rfl, h2, r2⟩ := trodAll_cons r1
  obtain ⟨rfl, rfl, rfl⟩ := trodAll_nil r2
  obtain rfl : args = #[v0, v1, v2] := by cases args; simp_all
  obtain ⟨rfl, rfl⟩ := trodVars_none hV
  have h0k := h0
  obtain ⟨fuel, hf⟩ := h0k
  rw [slice_cells (hval 0 22 v0 rfl rfl)] at hf
  obtain ⟨xs, hx⟩ := open_row (E := Plain ccl) Try.underlying22 call.cells_cl (by decide) (fun m cs z hl hz => call.open_cl m cs z hl hz) hf
  have h1k := h1
  obtain ⟨fuel1, hf1⟩ := h1k
  rw [slice_cells2 (hval 1 30 v1 rfl rfl)] at hf1
  obtain ⟨rs, hrs⟩ := open_row (E := RepE) Try.underlying30 repo.cells_rp (by decide) (fun m cs z hl hz => repo.open_rp m cs z hl hz) hf1
  obtain ⟨a2, rfl, rfl, rfl, w2⟩ := open_int Try.underlying2 (hval 2 2 v2 rfl rfl) h2
  clear hA0 hval0 hf hf1
  simp only [List.append_nil] at hW'
  have hlt : ∀ y ∈ p0 ++ p1, y.block < W.heap.size := fun y hy => hW'.lt y (by simpa using hy)
  refine (walk v0 v1 xs rs a2 W hx hrs).mono fun e W' ⟨he, hg⟩ => ?_
  subst he
  have harg0 : DataW.Trod enc Try.prog W' 0 (fun b => decide (b < W.heap.size)) true 22 v0 d0 p0 :=
    Below.trod laidOutL (by kernel_rfl) (of_decide_eq_true (by kernel_rfl)) h0 hg (fun y hy => hlt y (List.mem_append_left _ hy))
  have harg1 : DataW.Trod enc Try.prog W' 0 (fun b => decide (b < W.heap.size)) true 30 v1 d1 p1 :=
    Below.trod laidOutL (by kernel_rfl) (of_decide_eq_true (by kernel_rfl)) h1 hg (fun y hy => hlt y (List.mem_append_right _ hy))
  exact ⟨_, rfl, _, _, _, [], _, [], hW', (trodAll_cons_mk (shut_bool Try.underlying4 _) trodAll_mk0), (trodAll_cons_mk harg0 (trodAll_cons_mk harg1 (trodAll_cons_mk (shut_int Try.underlying2 w2) trodAll_mk0))), rfl, hg.frame _, fun h => by cases h⟩

/-- the statement -/
theorem proved : Rows.FnExactKeptSaid :=
  OpenClaim.holds_of_wide 4 Try.f4 rfl rfl rfl rfl rfl rfl rfl ⟨rfl, rfl, rfl, rfl, rfl⟩ rfl rfl rfl rfl rfl (by kernel_rfl) Try.func4 (by kernel_rfl)
    (of_decide_eq_true (by kernel_rfl)) (by unfold Func.isWrapper; first | (rw [if_pos (by decide +kernel)]; kernel_rfl) | (rw [if_neg (by decide +kernel)]; exact ⟨rfl, rfl⟩))
    (fun os started H enc _ => lifted os started H enc)
#print axioms proved
end Go.Proofs.Ytpehmphcnimegaa.fnExactKept
