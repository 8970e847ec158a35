/-
  The law FnExactPurge answers true at every list of calls and every label: Purge answers as the specification, writes into no argument, and its answer owns its memory. Conditions: none.
-/
import Derived.Test.YtpehmphcnimegaaPurgeI
import Derived.Test.YtpehmphcnimegaaMarkCall
import Derived.OpenShut
namespace Go.Proofs.Ytpehmphcnimegaa.fnExactPurge
open Go.ChangeShapes Go.WideShapes Go.ChangeAt Go.RowKit
open Go.Proofs.Ytpehmphcnimegaa
open Go.Proofs.Ytpehmphcnimegaa.deep
set_option linter.unusedVariables false
set_option maxRecDepth 100000

theorem own : ownKnob Try.prog.godebug = none := by kernel_rfl
theorem marks_of {w : World} {v : Value} {xs : List Tcl} {lo : Nat} (h : RowE (Plain ccl) 9 lo w v xs) (hf : Free w v) (hn : xs.length ≤ 1048576) : Mks w 9 v :=
  Mks.of h (fun x => ⟨[x.q0, x.q1, x.q2, x.q3, x.q4, x.q5, x.q6, x.q7, x.q8], rfl⟩) hf hn (by decide)
set_option maxHeartbeats 8000000 in
theorem walk (v : Value) (xs : List Tcl) (lb : Int) (w : World) (h : RowE (Plain ccl) 9 0 w v xs) :
    Calls Try.prog 3 #[v, .int .i64 lb] w fun e w' => e = .returned (.bool true) ∧ Below w.heap.size w w' := by
  obtain ⟨a, c, rfl, hml⟩ := h.form
  unfold maxLen at hml
  obtain ⟨n, hx⟩ : ∃ n, n = xs.length := ⟨_, rfl⟩
  have HSZ : Hid (∀ W, Calls Try.prog 5 #[.slice a n c, .int .i64 1048576] W fun e w' => e = .returned (.int .i64 (if (n : Int) ≤ 1048576 then 1048576 - n else -1)) ∧ w' = W) := fun W => sz_cls a n c 1048576 (by omega) (by omega) (by omega) W
  have HA : Hid (RowE (Plain ccl) 9 0 w (.slice a n c) xs) := by rw [hx]; exact h
  have HX : Hid (n = xs.length) := hx
  rw [← hx]
  clear h hml hx
  by_cases hn : (n : Int) ≤ 1048576
  · rw [if_pos hn] at HSZ
    have HT : Hid (∀ W, Below w.heap.size w W → Calls Try.prog 7 #[.slice a n c] W (ToclsF xs W)) := fun W hW => to_clsF (HA.out.below (plain_stays _) hW) (by rw [← HX.out]; omega)
    have HS : Hid (∀ lo u W, RowE (Plain ccl) 9 lo W u xs → Calls Try.prog 6 #[u, .int .i64 lb] W (Purged lb xs W)) := fun lo u W hW => sp_purge lb hW
    have HI : Hid (∀ lo u W, RowE (Plain ccl) 9 lo W u xs → Calls Try.prog 8 #[u, .int .i64 lb] W (Purged lb xs W)) := fun lo u W hW => im_purge lb hW
    obtain ⟨ys, hys⟩ : ∃ ys, ys = keptL (fun x => label.flo x.q0 lb) xs := ⟨_, rfl⟩
    have HY : Hid (ys.length ≤ 400) := by rw [hys]; exact keptL_le _ _
    unfold Purged at HS HI
    rw [← hys] at HS HI
    have hb0 : (0 : Int) ≤ 1048576 - n := by omega
    have hnn : xs.length ≤ 1048576 := by rw [← HX.out]; omega
    have HNN : Hid (xs.length ≤ 1048576) := hnn
    clear hnn
    have HE : Hid (∀ l1 l2 u1 u2 W, RowE (Plain ccl) 9 l1 W u1 xs → RowE (Plain ccl) 9 l2 W u2 xs → Calls Try.prog 9 #[u1, u2] W fun e w' => e = .returned (.bool true) ∧ Below W.heap.size W w') := fun _ _ _ _ _ h1 h2 => eq_cls h1 h2
    have HG : Hid (∀ l1 l2 u1 u2 W, RowE (Plain ccl) 9 l1 W u1 ys → RowE (Plain ccl) 9 l2 W u2 ys → Calls Try.prog 9 #[u1, u2] W fun e w' => e = .returned (.bool true) ∧ Below W.heap.size W w') := fun _ _ _ _ _ h1 h2 => eq_cls h1 h2
    have HM : Hid (∀ u W, Mks W 9 u → Calls Try.prog 10 #[u, .int .i64 1] W fun e w' => e = .returned (.int .i64 (1 + 9 * (lenOf u : Int))) ∧ w' = markV W 9 u 1) := fun u W h => mark_cls h (by omega) (by omega)
    have HH : Hid (∀ u W, HeldV W 9 u 1 → Calls Try.prog 11 #[u, .int .i64 1] W fun e w' => e = .returned (.int .i64 (1 + 9 * (lenOf u : Int))) ∧ w' = W) := fun u W h => held_cls h (by omega) (by omega)
    clear hys
    go_enter Try.func3, Try.ntmps3
    go_wp2_with fail
    refine Calls.mono (HSZ.out _) ?_
    rintro e w1 ⟨rfl, rfl⟩
    go_wp2_with fail
    refine Calls.mono (HT.out _ (Below.refl _ _)) ?_
    rintro e w2 ⟨v2, rfl, hr2, hb2, hf2⟩
    have HR2 : Hid _ := hr2
    have HB2 : Hid _ := hb2
    clear hr2 hb2 hf2
    go_wp2_with fail
    refine Calls.mono (HS.out _ _ _ HR2.out) ?_
    rintro e w3 ⟨v3, rfl, hr3, hb3⟩
    have HW3 : Hid (RowE (Plain ccl) 9 w2.heap.size w3 v3 ys) := hr3.plain
    have HB3 : Hid (Below w1.heap.size w1 w3) := below_tr HB2.out hb3
    clear hr3 hb3 HR2 HB2
    go_wp2_with fail
    refine Calls.mono (HT.out _ HB3.out) ?_
    rintro e w4 ⟨v4, rfl, hr4, hb4, hf4⟩
    have HR4 : Hid (RowE (Plain ccl) 9 w3.heap.size w4 v4 xs) := hr4
    have HF4 : Hid (Free w4 v4) := hf4
    have HW4 : Hid (RowE (Plain ccl) 9 w2.heap.size w4 v3 ys) := HW3.out.below (plain_stays _) hb4
    have HB4 : Hid (Below w1.heap.size w1 w4) := below_tr HB3.out hb4
    have HK4 : Hid (Below w3.heap.size w3 w4) := hb4
    have HB3s : w1.heap.size ≤ w3.heap.size := HB3.out.size
    clear hr4 hb4 hf4 HB3
    go_wp2_with fail
    refine Calls.mono (HI.out _ _ _ HR4.out) ?_
    rintro e w5 ⟨v5, rfl, hr5, hb5⟩
    have hm4 : Mks w4 9 v4 := marks_of HR4.out HF4.out HNN.out
    have HM5 : Hid (Mks w5 9 v5) := marks_of hr5.plain hr5.free (Nat.le_trans HY.out (by omega))
    have HM4 : Hid (Mks w5 9 v4) := hm4.later hb5
    have HR5 : Hid (RowE (Plain ccl) 9 w3.heap.size w5 v4 xs) := HR4.out.below (plain_stays _) hb5
    have HS4 : Hid (∀ g o, spotOf v4 = some (g, o) → 0 < lenOf v4 → w3.heap.size ≤ g ∧ g < w4.heap.size) := row_spot HR4.out
    have HG5 : Hid (RowE (Plain ccl) 9 w4.heap.size w5 v5 ys) := hr5.plain
    have HW5 : Hid (RowE (Plain ccl) 9 w2.heap.size w5 v3 ys) := HW4.out.below (plain_stays _) hb5
    have HK5 : Hid (Below w3.heap.size w3 w5) := below_tr HK4.out hb5
    have HB5 : Hid (Below w1.heap.size w1 w5) := below_tr HB4.out hb5
    have h45 : w4.heap.size ≤ w5.heap.size := hb5.size
    have h34 : w3.heap.size ≤ w4.heap.size := HK4.out.size
    have h13 : w1.heap.size ≤ w3.heap.size := HB3s
    clear hr5 hb5 hm4 HR4 HF4 HW4 HB4 HK4
    go_wp2_with fail
    refine Calls.mono (HG.out _ _ _ _ _ HG5.out HW5.out) ?_
    rintro e w6 ⟨rfl, hb6⟩
    have HM5' : Hid (Mks w6 9 v5) := HM5.out.later hb6
    have HM4' : Hid (Mks w6 9 v4) := HM4.out.later hb6
    have HR6 : Hid (RowE (Plain ccl) 9 w3.heap.size w6 v4 xs) := HR5.out.below (plain_stays _) hb6
    have HG6 : Hid (RowE (Plain ccl) 9 w4.heap.size w6 v5 ys) := HG5.out.below (plain_stays _) hb6
    have HK6 : Hid (Below w3.heap.size w3 w6) := below_tr HK5.out hb6
    have HB6 : Hid (Below w1.heap.size w1 w6) := below_tr HB5.out hb6
    have h56 : w5.heap.size ≤ w6.heap.size := hb6.size
    clear hb6 HM5 HM4 HR5 HG5 HW5 HK5 HB5
    go_wp2_with fail
    refine Calls.mono (HT.out _ HB6.out) ?_
    rintro e w7 ⟨v7, rfl, hr7, hb7, _⟩
    have HR7 : Hid (RowE (Plain ccl) 9 w6.heap.size w7 v7 xs) := hr7
    have HM7 : Hid (Mks w7 9 v5) := HM5'.out.later hb7
    have HN7 : Hid (Mks w7 9 v4) := HM4'.out.later hb7
    have HX7 : Hid (RowE (Plain ccl) 9 w3.heap.size w7 v4 xs) := HR6.out.below (plain_stays _) hb7
    have HG7 : Hid (RowE (Plain ccl) 9 w4.heap.size w7 v5 ys) := HG6.out.below (plain_stays _) hb7
    have HK7 : Hid (Below w3.heap.size w3 w7) := below_tr HK6.out hb7
    have HB7 : Hid (Below w1.heap.size w1 w7) := below_tr HB6.out hb7
    clear hr7 hb7 HM5' HM4' HR6 HG6 HK6 HB6
    go_wp2_with fail
    refine Calls.mono (HE.out _ _ _ _ _ HX7.out HR7.out) ?_
    rintro e w8 ⟨rfl, hb8⟩
    have HM8 : Hid (Mks w8 9 v5) := HM7.out.later hb8
    have HN8 : Hid (Mks w8 9 v4) := HN7.out.later hb8
    have HG8 : Hid (RowE (Plain ccl) 9 w4.heap.size w8 v5 ys) := HG7.out.below (plain_stays _) hb8
    have HK8 : Hid (Below w3.heap.size w3 w8) := below_tr HK7.out hb8
    have HB8 : Hid (Below w1.heap.size w1 w8) := below_tr HB7.out hb8
    clear hb8 HM7 HN7 HX7 HR7 HG7 HK7 HB7
    go_wp2_with fail
    refine Calls.mono (HM.out _ _ HN8.out) ?_
    rintro e w9 ⟨rfl, hw9⟩
    have HM9 : Hid (Mks w9 9 v5) := by rw [hw9]; exact HM8.out.mark _
    have HG9 : Hid (RowE (Plain ccl) 9 w4.heap.size w9 v5 ys) := by rw [hw9]; exact rowE_stays (plain_stays _) HG8.out (mark_keep fun g o hs hl => (HS4.out g o hs hl).2)
    have HK9 : Hid (Below w3.heap.size w3 w9) := by rw [hw9]; exact markV_below HK8.out fun g o hs hl => (HS4.out g o hs hl).1
    have HB9 : Hid (Below w1.heap.size w1 w9) := by rw [hw9]; exact markV_below HB8.out fun g o hs hl => Nat.le_trans h13 (HS4.out g o hs hl).1
    have HW9 : Hid (RowE (Plain ccl) 9 w2.heap.size w9 v3 ys) := HW3.out.below (plain_stays _) HK9.out
    clear hw9 HM8 HN8 HG8 HK8 HB8
    go_wp2_with fail
    refine Calls.mono (HG.out _ _ _ _ _ HG9.out HW9.out) ?_
    rintro e w10 ⟨rfl, hb10⟩
    have HM10 : Hid (Mks w10 9 v5) := HM9.out.later hb10
    have HG10 : Hid (RowE (Plain ccl) 9 w4.heap.size w10 v5 ys) := HG9.out.below (plain_stays _) hb10
    have HK10 : Hid (Below w3.heap.size w3 w10) := below_tr HK9.out hb10
    have HB10 : Hid (Below w1.heap.size w1 w10) := below_tr HB9.out hb10
    clear hb10 HM9 HG9 HK9 HB9 HW9
    go_wp2_with fail
    refine Calls.mono (HM.out _ _ HM10.out) ?_
    rintro e w11 ⟨rfl, hw11⟩
    have HS5 : Hid (∀ g o, spotOf v5 = some (g, o) → 0 < lenOf v5 → w4.heap.size ≤ g ∧ g < w10.heap.size) := row_spot HG10.out
    have h11 : w11.heap.size = w10.heap.size := by rw [hw11]; exact markV_size _ _ _ _
    have HH11 : Hid (HeldV w11 9 v5 1) := by rw [hw11]; exact HeldV.here HM10.out 1
    have HS11 : Hid (∀ g o, spotOf v5 = some (g, o) → 0 < lenOf v5 → g < w11.heap.size) := fun g o hs hl => by rw [h11]; exact (HS5.out g o hs hl).2
    have HK11 : Hid (Below w3.heap.size w3 w11) := by rw [hw11]; exact markV_below HK10.out fun g o hs hl => Nat.le_trans h34 (HS5.out g o hs hl).1
    have HB11 : Hid (Below w1.heap.size w1 w11) := by rw [hw11]; exact markV_below HB10.out fun g o hs hl => Nat.le_trans (Nat.le_trans h13 h34) (HS5.out g o hs hl).1
    clear hw11 HM10 HG10 HK10 HB10 HS5 h11
    go_wp2_with fail
    refine Calls.mono (HH.out _ _ HH11.out) ?_
    rintro e w11' ⟨rfl, rfl⟩
    go_wp2_with fail
    refine Calls.mono (HT.out _ HB11.out) ?_
    rintro e w12 ⟨v12, rfl, hr12, hb12, _⟩
    have HR12 : Hid (RowE (Plain ccl) 9 w11'.heap.size w12 v12 xs) := hr12
    have HH12 : Hid (HeldV w12 9 v5 1) := HH11.out.later HS11.out hb12
    have HS12 : Hid (∀ g o, spotOf v5 = some (g, o) → 0 < lenOf v5 → g < w12.heap.size) := fun g o hs hl => Nat.lt_of_lt_of_le (HS11.out g o hs hl) hb12.size
    have HK12 : Hid (Below w3.heap.size w3 w12) := below_tr HK11.out hb12
    have HB12 : Hid (Below w1.heap.size w1 w12) := below_tr HB11.out hb12
    clear hr12 hb12 HH11 HS11 HK11 HB11
    go_wp2_with fail
    refine Calls.mono (HI.out _ _ _ HR12.out) ?_
    rintro e w13 ⟨v13, rfl, hr13, hb13⟩
    have HR13 : Hid (RowE (Plain ccl) 9 w12.heap.size w13 v13 ys) := hr13.plain
    have HH13 : Hid (HeldV w13 9 v5 1) := HH12.out.later HS12.out hb13
    have HS13 : Hid (∀ g o, spotOf v5 = some (g, o) → 0 < lenOf v5 → g < w13.heap.size) := fun g o hs hl => Nat.lt_of_lt_of_le (HS12.out g o hs hl) hb13.size
    have HK13 : Hid (Below w3.heap.size w3 w13) := below_tr HK12.out hb13
    have HB13 : Hid (Below w1.heap.size w1 w13) := below_tr HB12.out hb13
    have HW13 : Hid (RowE (Plain ccl) 9 w2.heap.size w13 v3 ys) := HW3.out.below (plain_stays _) HK13.out
    clear hr13 hb13 HH12 HS12 HK12 HB12 HR12
    go_wp2_with fail
    refine Calls.mono (HG.out _ _ _ _ _ HR13.out HW13.out) ?_
    rintro e w14 ⟨rfl, hb14⟩
    have HH14 : Hid (HeldV w14 9 v5 1) := HH13.out.later HS13.out hb14
    have HB14 : Hid (Below w1.heap.size w1 w14) := below_tr HB13.out hb14
    clear hb14 HH13 HS13 HB13
    go_wp2_with fail
    refine Calls.mono (HH.out _ _ HH14.out) ?_
    rintro e w15 ⟨rfl, rfl⟩
    go_wp2_with fail
    go_ret
    exact ⟨rfl, HB14.out⟩
  · rw [if_neg hn] at HSZ
    go_enter Try.func3, Try.ntmps3
    go_wp2_with fail
    refine Calls.mono (HSZ.out _) ?_
    rintro e w1 ⟨rfl, rfl⟩
    go_wp2_with fail
    go_ret
    exact ⟨rfl, Below.refl _ _⟩

theorem laidOutL : laidOutB Try.prog = true := by kernel_rfl
set_option maxRecDepth 100000 in
/-- a slice is one cell -/
theorem slice_cells {W : World} {base : Nat} {v : Value} (h : Value.okWide Try.prog W .any base 22 v) : v.cells.toList = [v] := by
  cases v with
  | agg c => simp [Value.okWide, Cell.okWide, Cell.ok, Try.underlying22] at h
  | _ => rfl

set_option maxRecDepth 100000 in
theorem lifted (os : Os) (started : os.Started) (H : Type) (enc : TypeId × Value → H) :
    ReturnsInHanded {} Try.checked os 3 .any (Rows.fnExactPurgeSpec.pre6 enc Try.prog Try.f3 Rows.fnExactPurgeRow.domain false) (Rows.fnExactPurgeSpec.post enc Try.prog Try.f3 false true false false) := by
  refine returnsInHanded_of_change (C := Try.checked) own started (by kernel_rfl) Try.func3
    (ChangeSpec.witness6 (enc := enc) (C := Try.checked) false ⟨#[], #[.slice none 0 0, .int .i64 0], []⟩ 8 (by kernel_rfl) (by kernel_rfl) (by kernel_rfl) (by kernel_rfl)) ?_
  intro W base args ds gs before hval0 hW hcnd _
  have hval : ∀ (j : Nat) t v, Try.f3.params[j]? = some t → args[j]? = some v → Value.okWide Try.prog W .any base t v := hval0
  have hW' := hW
  obtain ⟨p, q, hA0, hV, rfl, hfz, hnd⟩ := hW
  have hA : DataW.TrodAll enc Try.prog W 0 (fun _ => true) true Try.f3.params.toList args.toList ds p := hA0
  rw [Try.params3] at hA hval
  obtain ⟨v0, vs0, d0, ds0, p0, q0, hargs, rfl, rfl, h0, r0⟩ := trodAll_cons hA
  obtain ⟨v1, vs1, d1, ds1, p1, q1, hargs1, rfl, rfl, h1, r1⟩ := trodAll_cons r0
  obtain ⟨rfl, rfl, rfl⟩ := trodAll_nil r1
  obtain rfl : args = #[v0, v1] := by cases args; simp_all
  obtain ⟨rfl, rfl⟩ := trodVars_none hV
  have h0k := h0
  obtain ⟨fuel, hf⟩ := h0k
  rw [slice_cells (hval 0 22 v0 rfl rfl)] at hf
  obtain ⟨xs, hx⟩ := open_row (E := Plain ccl) Try.underlying22 call.cells_cl (by decide) (fun m cs z hl hz => call.open_cl m cs z hl hz) hf
  obtain ⟨a1, rfl, rfl, rfl, w1⟩ := open_int Try.underlying2 (hval 1 2 v1 rfl rfl) h1
  clear hA0 hval0 hf
  simp only [List.append_nil] at hW'
  have hlt : ∀ y ∈ p0, y.block < W.heap.size := fun y hy => by simpa using hW'.lt y hy
  refine (walk v0 xs a1 W hx).mono fun e W' ⟨he, hg⟩ => ?_
  subst he
  have harg0 : DataW.Trod enc Try.prog W' 0 (fun b => decide (b < W.heap.size)) true 22 v0 d0 p0 :=
    Below.trod laidOutL (by kernel_rfl) (of_decide_eq_true (by kernel_rfl)) h0 hg (fun y hy => hlt y hy)
  exact ⟨_, rfl, _, _, _, [], _, [], hW', (trodAll_cons_mk (shut_bool Try.underlying4 _) trodAll_mk0), (trodAll_cons_mk harg0 (trodAll_cons_mk (shut_int Try.underlying2 w1) trodAll_mk0)), rfl, hg.frame _, fun h => by cases h⟩

/-- the statement -/
theorem proved : Rows.FnExactPurgeSaid :=
  OpenClaim.holds_of_wide 3 Try.f3 rfl rfl rfl rfl rfl rfl rfl ⟨rfl, rfl, rfl, rfl, rfl⟩ rfl rfl rfl rfl rfl (by kernel_rfl) Try.func3 (by kernel_rfl)
    (of_decide_eq_true (by kernel_rfl)) (by unfold Func.isWrapper; first | (rw [if_pos (by decide +kernel)]; kernel_rfl) | (rw [if_neg (by decide +kernel)]; exact ⟨rfl, rfl⟩))
    (fun os started H enc _ => lifted os started H enc)
#print axioms proved
end Go.Proofs.Ytpehmphcnimegaa.fnExactPurge
