/-
  The program's SchedTick. Condition: the list of tasks is no longer than its room.
-/
import Derived.Test.YtnkkkdhpopfahaaSchSt2
import Derived.Test.YtnkkkdhpopfahaaSchSo
import Derived.Test.YtnkkkdhpopfahaaSchIr
namespace Go.Proofs.Ytnkkkdhpopfahaa.sch
open Go.RowKit Go.Deep Go.Sort
open Go.Proofs.Ytnkkkdhpopfahaa
open Go.Proofs.Ytnkkkdhpopfahaa.deep
set_option linter.unusedVariables false
set_option maxRecDepth 100000

theorem impl_end {d : SoD} {w W : World} {vo vt : Value} {b1 b2 : Nat} (hB : Below w.heap.size w W) (h1 : Ints b1 W vo d.y.order) (h2 : Tks b2 W vt d.y.tasks) (hb1 : w.heap.size + 1 < b1) (hb2 : w.heap.size + 1 < b2) (cs : List Value) : ImplAns d w (.returned (soV d vo vt)) (putW W (w.heap.size + 1) 0 cs) := by
  have p1 : Ints w.heap.size (putW W (w.heap.size + 1) 0 cs) vo d.y.order := own_put h1 _ 0 cs hb1 (by omega)
  have p2 : Tks w.heap.size (putW W (w.heap.size + 1) 0 cs) vt d.y.tasks := own_put h2 _ 0 cs hb2 (by omega)
  exact ⟨vo, vt, rfl, ⟨OwnC.plain p1, OwnC.plain p2⟩, putW_below _ hB (by omega), OwnC.free p1, OwnC.free p2, own_two p1 p2 (by decide)⟩
theorem three_put {W : World} {Y R : Nat} {a b c : Value} (cs : List Value) (h : W.cell? ⟨Y, 0, none⟩ = some a ∧ W.cell? ⟨Y, 1, none⟩ = some b ∧ W.cell? ⟨Y, 2, none⟩ = some c) (hne : Y ≠ R) : (putW W R 0 cs).cell? ⟨Y, 0, none⟩ = some a ∧ (putW W R 0 cs).cell? ⟨Y, 1, none⟩ = some b ∧ (putW W R 0 cs).cell? ⟨Y, 2, none⟩ = some c := by
  have hb := putW_other cs W R 0 Y hne
  exact ⟨(World.cell?_of_block (w := W) (a := ⟨Y, 0, none⟩) hb).trans h.1, (World.cell?_of_block (w := W) (a := ⟨Y, 1, none⟩) hb).trans h.2.1, (World.cell?_of_block (w := W) (a := ⟨Y, 2, none⟩) hb).trans h.2.2⟩
theorem three_set7 {W : World} {Y R : Nat} {a b c v0 v1 v2 v3 v4 v5 v6 : Value} (h : W.cell? ⟨Y, 0, none⟩ = some a ∧ W.cell? ⟨Y, 1, none⟩ = some b ∧ W.cell? ⟨Y, 2, none⟩ = some c) (hne : Y ≠ R) : (((((((W.setCell ⟨R, 0, none⟩ v0).setCell ⟨R, 1, none⟩ v1).setCell ⟨R, 2, none⟩ v2).setCell ⟨R, 3, none⟩ v3).setCell ⟨R, 4, none⟩ v4).setCell ⟨R, 5, none⟩ v5).setCell ⟨R, 6, none⟩ v6).cell? ⟨Y, 0, none⟩ = some a ∧ (((((((W.setCell ⟨R, 0, none⟩ v0).setCell ⟨R, 1, none⟩ v1).setCell ⟨R, 2, none⟩ v2).setCell ⟨R, 3, none⟩ v3).setCell ⟨R, 4, none⟩ v4).setCell ⟨R, 5, none⟩ v5).setCell ⟨R, 6, none⟩ v6).cell? ⟨Y, 1, none⟩ = some b ∧ (((((((W.setCell ⟨R, 0, none⟩ v0).setCell ⟨R, 1, none⟩ v1).setCell ⟨R, 2, none⟩ v2).setCell ⟨R, 3, none⟩ v3).setCell ⟨R, 4, none⟩ v4).setCell ⟨R, 5, none⟩ v5).setCell ⟨R, 6, none⟩ v6).cell? ⟨Y, 2, none⟩ = some c := three_put [v0, v1, v2, v3, v4, v5, v6] h hne
theorem ill_endI (k : Int) {w W : World} (hB : Below w.heap.size w W) (cs : List Value) : ImplAns (illD k) w (.returned (.agg #[.slice none 0 0, .int .i64 0, .slice none 0 0, .int .i64 0, .int .i64 0, .int .i64 0, .int .i64 k])) (putW W (w.heap.size + 1) 0 cs) := ill_impl k (putW_below _ hB (by omega))
set_option maxHeartbeats 8000000 in
theorem impl_ticks (x : SchedD) {lo : Nat} {w : World} {vo : Value} (a : Option Addr) (n c : Nat) (hnc : n ≤ c) (h : SF lo w vo (.slice a n c) x) : Calls Try.prog 26 #[.agg #[vo, .int .i64 x.now, .slice a n c]] w (ImplAns (tickA x) w) := by
  have HR : Hid (∀ W, Below w.heap.size w W → Calls Try.prog 12 #[.agg #[vo, .int .i64 x.now, .slice a n c]] W fun e w' => e = .returned (.bool (schedB x)) ∧ Below W.heap.size W w') := fun W hW => impl_right x a n c hnc (h.later hW)
  have HWO : Hid (schedB x = true → ∀ W, Below w.heap.size w W → Calls Try.prog 52 #[.agg #[vo, .int .i64 x.now, .slice a n c]] W (WheelOf x W)) := fun hr W hW => wheel_of x hr (h.later hW)
  obtain ⟨ao, co, hvo, -⟩ := int_at h.1
  generalize x.order.length = no at hvo
  subst hvo
  obtain ⟨V, hV⟩ : ∃ V, V = (w.alloc (.cells #[.slice ao no co, .int .i64 x.now, .slice a n c] 30)).alloc (.cells #[.slice none 0 0, .int .i64 0, .slice none 0 0, .int .i64 0, .int .i64 0, .int .i64 0, .int .i64 0] 37) := ⟨_, rfl⟩
  have HB : Hid (Below w.heap.size w V) := by rw [hV]; exact below2 _ _ _
  obtain ⟨b1, b2⟩ : Blk V w.heap.size 30 [.slice ao no co, .int .i64 x.now, .slice a n c] ∧ Blk V (w.heap.size + 1) 37 [.slice none 0 0, .int .i64 0, .slice none 0 0, .int .i64 0, .int .i64 0, .int .i64 0, .int .i64 0] := by rw [hV]; exact blk2 _ _ _ _ _
  have HX : Hid (Blk V w.heap.size 30 [.slice ao no co, .int .i64 x.now, .slice a n c]) := b1
  have HY : Hid (Blk V (w.heap.size + 1) 37 [.slice none 0 0, .int .i64 0, .slice none 0 0, .int .i64 0, .int .i64 0, .int .i64 0, .int .i64 0]) := b2
  clear b1 b2
  obtain ⟨x0, x1, x2⟩ := cells3s HX.out
  clear h
  cases hs : schedB x with
  | false =>
    have HE : Hid (tickA x = illD 1) := by rw [Hid, tickA, hs]; rfl
    rw [hs] at HR
    rw [HE.out]
    go_enter Try.func26, Try.ntmps26
    go_wp2_with fail
    rw [← hV]
    clear hV
    refine Calls.mono (HR.out _ HB.out) ?_
    rintro e w1 ⟨rfl, hb1⟩
    have HB1 : Hid (Below w.heap.size w w1) := below_tr HB.out hb1
    obtain ⟨y0, y1, y2, y3, y4, y5, y6⟩ := seven (HY.out.later hb1)
    obtain ⟨z0, z1, z2, z3, z4, z5, z6⟩ := seven_free (HY.out.later hb1)
    clear hb1
    go_wp2_with fail
    refine bodyPost_ret (v := .agg #[.slice none 0 0, .int .i64 0, .slice none 0 0, .int .i64 0, .int .i64 0, .int .i64 0, .int .i64 1]) ?_ rfl ?_
    · simp [results, Try.results26, go_sem, y0, y1, y2, y3, y4, y5, y6]
    · exact ill_endI 1 HB1.out [.slice none 0 0, .int .i64 0, .slice none 0 0, .int .i64 0, .int .i64 0, .int .i64 0, .int .i64 1]
  | true =>
    rw [hs] at HR
    have HW2 : Hid _ := HWO.out hs
    obtain ⟨f1, f2, f3, f4⟩ := sched_facts hs
    have HSB : Hid (schedB x = true) := hs
    have HE : Hid (tickA x = if x.now < 999999 then tickD x else illD 1) := by
      rw [Hid, tickA, hs]
      by_cases hn : x.now < 999999
      · rw [decide_eq_true hn, if_pos hn]; rfl
      · rw [decide_eq_false hn, if_neg hn]; rfl
    clear f1 f4 HWO hs
    generalize hD : tickA x = D at *
    go_enter Try.func26, Try.ntmps26
    go_wp2_with fail
    rw [← hV]
    clear hV hD
    refine Calls.mono (HR.out _ HB.out) ?_
    rintro e w1 ⟨rfl, hb1⟩
    have HB1 : Hid (Below w.heap.size w w1) := below_tr HB.out hb1
    have HX1 : Hid (Blk w1 w.heap.size 30 [.slice ao no co, .int .i64 x.now, .slice a n c]) := HX.out.later hb1
    have HY1 : Hid (Blk w1 (w.heap.size + 1) 37 [.slice none 0 0, .int .i64 0, .slice none 0 0, .int .i64 0, .int .i64 0, .int .i64 0, .int .i64 0]) := HY.out.later hb1
    clear hb1 x0 x1 x2 HX HY
    obtain ⟨x0, x1, x2⟩ := cells3s HX1.out
    go_wp2_with fail
    refine Calls.mono (HW2.out _ HB1.out) ?_
    rintro e w3 ⟨B, v3, rfl, hBg, hw3, hi3, hb3⟩
    have HB3 : Hid (Below w.heap.size w w3) := below_tr HB1.out hb3
    have HY3 : Hid (Blk w3 (w.heap.size + 1) 37 [.slice none 0 0, .int .i64 0, .slice none 0 0, .int .i64 0, .int .i64 0, .int .i64 0, .int .i64 0]) := HY1.out.later hb3
    have HW3 : Hid (Wheel w3 B v3 x.now x.tasks.length (fun _ => 0) (placed x.tasks 0)) := hw3
    have HI3 : Hid (Ints w1.heap.size w3 v3 x.order) := hi3
    have hw1 : w.heap.size + 1 < w1.heap.size := HY1.out.lt
    have hB3 : B < w3.heap.size := hw3.lt
    have hBw : w.heap.size + 1 < B := by omega
    have hw13 : w1.heap.size ≤ w3.heap.size := hb3.size
    clear hb3 hw3 hi3 x0 x1 x2 HX1 HY1 hBg
    go_wp2_with fail
    refine Calls.mono (turns_of B w3) ?_
    rintro e w4 ⟨rfl, hX4, hb4, hw4⟩
    obtain ⟨b3, n3, c3, rfl⟩ := ints_form HI3.out
    have HB4 : Hid (Below w.heap.size w w4) := below_tr HB3.out hb4
    have HY4 : Hid (Blk w4 (w.heap.size + 1) 37 [.slice none 0 0, .int .i64 0, .slice none 0 0, .int .i64 0, .int .i64 0, .int .i64 0, .int .i64 0]) := HY3.out.later hb4
    have HI4 : Hid (Ints w1.heap.size w4 (.slice b3 n3 c3) x.order) := OwnC.later HI3.out hb4
    have HR4 : Hid (RunI x B w3.heap.size b3 n3 c3 0 w4) := ⟨hX4, (Ints.lower HI3.out (Nat.zero_le _)).later hb4, x.tasks.length, fun _ => 0, placed x.tasks 0, by simpa using HW3.out.later (hb4.block B hB3), placed_ok HSB.out, by omega, by omega, placed_tasks _ _⟩
    have hBX : w3.heap.size ≠ B := by omega
    have H13 : w1.heap.size ≤ w4.heap.size := by omega
    generalize w3.heap.size = X at *
    clear hX4 hb4 hw4 HI3 HW3 HB3 HY3 HW2 HR HB1 HB hB3
    go_wp2_with fail
    by_cases hn : x.now < 999999
    · obtain ⟨r0, r1, r2, hr⟩ : ∃ r0 r1 r2, (tickD x).r = (r0, r1, r2) := ⟨_, _, _, rfl⟩
      have HDD : Hid (D = tickD x) := by rw [Hid, HE.out, if_pos hn]
      have HTK : Hid (Calls Try.prog 71 #[.pointer (some ⟨X, 0, none⟩)] w4 fun e w' => e = .returned (.tuple #[.agg #[.int .i64 r0, .int .i64 r1, .int .i64 r2], .bool true]) ∧ w4.grownBy w' (some B) ∧ RunI x B X b3 n3 c3 1 w') := by
        have := run_turn HSB.out HR4.out hBX (by simpa using hn) (by omega)
        rw [show (tickD (stN 0 x)).r = (r0, r1, r2) from hr] at this
        exact this
      have HRR : Hid ((tickD x).r = (r0, r1, r2)) := hr
      clear hr HE
      refine Calls.mono HTK.out ?_
      rintro e w5 ⟨rfl, hg5, hR5⟩
      have hw5 := hg5.size
      obtain ⟨-, -, last0, f0, ws0, ⟨cur0, hc0, -⟩, -⟩ := HR4.out
      have HI5 : Hid (Ints w1.heap.size w5 (.slice b3 n3 c3) x.order) := ints_apart HI4.out hc0 (by decide) hg5
      have HB5 : Hid (Below w.heap.size w w5) := HB4.out.grown hg5 HB4.out.size (fun k e => by injection e with e; omega)
      have HY5 : Hid (Blk w5 (w.heap.size + 1) 37 [.slice none 0 0, .int .i64 0, .slice none 0 0, .int .i64 0, .int .i64 0, .int .i64 0, .int .i64 0]) := (hg5.block _ HY4.out.lt (fun e => by injection e with e; omega)).trans HY4.out
      obtain ⟨-, -, last, f, ws, hW, hok, -, -, hmap⟩ := hR5
      have HW5 : Hid (Wheel w5 B (.slice b3 n3 c3) (x.now + 1) last f ws) := by rw [Hid]; simpa using hW
      have HOK : Hid (LineOk ws last) := hok
      have HMP : Hid (ws.map (·.1) = (tickX x).tasks) := hmap
      clear hg5 hW hok hmap hc0 HTK HR4 HI4 HB4 HY4
      go_upto_region 6 with fail
      obtain ⟨U, hU⟩ : ∃ U, U = w5.alloc (.cells #[.int .i64 r0, .int .i64 r1, .int .i64 r2] 35) := ⟨_, rfl⟩
      have hbU : Below w5.heap.size w5 U := by rw [hU]; exact below_one _ _
      have HRN : Hid (Blk U w5.heap.size 35 [.int .i64 r0, .int .i64 r1, .int .i64 r2]) := by rw [Hid, hU]; exact blk_new _ _ _
      have HBU : Hid (Below w.heap.size w U) := below_tr HB5.out hbU
      have HYU : Hid (Blk U (w.heap.size + 1) 37 [.slice none 0 0, .int .i64 0, .slice none 0 0, .int .i64 0, .int .i64 0, .int .i64 0, .int .i64 0]) := HY5.out.later hbU
      have HIU : Hid (Ints w1.heap.size U (.slice b3 n3 c3) x.order) := OwnC.later HI5.out hbU
      have HSC : Hid (∀ W, Below U.heap.size U W → Calls Try.prog 55 #[.pointer (some ⟨B, 0, none⟩)] W (SchedPost (.slice b3 n3 c3) (x.now + 1) (tickX x).tasks W)) := fun W hW => by
        have hWU := HW5.out.later (hbU.block B HW5.out.lt)
        have := impl_sched B b3 n3 c3 (x.now + 1) last f ws (hWU.later (hW.block B hWU.lt)) HOK.out
        rw [HMP.out] at this
        exact this
      have hUw : w1.heap.size ≤ U.heap.size := by have := HIU.out; have h1 := hbU.size; have h2 := HB5.out.size; exact Nat.le_trans H13 (Nat.le_trans hw5 h1)
      rw [← hU]
      clear hU hbU HI5 HB5 HY5
      obtain ⟨q0, q1, q2⟩ := cells3s HRN.out
      have hYR : w5.heap.size ≠ w.heap.size + 1 := by omega
      obtain ⟨Y, hYY⟩ : ∃ Y, Y = w5.heap.size := ⟨_, rfl⟩
      have HRN2 : Hid (Blk U Y 35 [.int .i64 r0, .int .i64 r1, .int .i64 r2]) := by rw [hYY]; exact HRN.out
      rw [← hYY] at hYR q0 q1 q2 ⊢
      clear hYY HRN
      go_upto_region 8 with fail
      go_region_held3 (fun W => W.cell? ⟨Y, 0, none⟩ = some (.int .i64 r0) ∧ W.cell? ⟨Y, 1, none⟩ = some (.int .i64 r1) ∧ W.cell? ⟨Y, 2, none⟩ = some (.int .i64 r2))
        (first | (with_reducible assumption) | with_reducible exact cells3s HRN2.out | with_reducible exact three_of HRN2.out (bd0 U) | with_reducible exact H7.out | with_reducible exact three_set7 H7.out hYR)
        (first | (go_at_call 55; refine Calls.mono (HSC.out _ (bd0 U)) ?_; (refine fun e w7 hh => ?_); (obtain ⟨v7, rfl, hk7, hb7⟩ := hh); (have HD7 : Hid (Below U.heap.size U w7) := (bd0 U).trans hb7); (have HB7 : Hid (Below w.heap.size w w7) := below_tr HBU.out HD7.out); (have HR7 : Hid (Blk w7 (w.heap.size + 1) 37 [.slice none 0 0, .int .i64 0, .slice none 0 0, .int .i64 0, .int .i64 0, .int .i64 0, .int .i64 0]) := HYU.out.later HD7.out); (have H7 : Hid (w7.cell? ⟨Y, 0, none⟩ = some (.int .i64 r0) ∧ w7.cell? ⟨Y, 1, none⟩ = some (.int .i64 r1) ∧ w7.cell? ⟨Y, 2, none⟩ = some (.int .i64 r2)) := three_of HRN2.out HD7.out); (have HI7 : Hid (Ints w1.heap.size w7 (.slice b3 n3 c3) x.order) := OwnC.later HIU.out HD7.out); (have HK7 : Hid (Tks U.heap.size w7 v7 (tickX x).tasks) := hk7); (obtain ⟨a7, c7, hv7, -⟩ := OwnC.form hk7); (generalize (List.map ctk (tickX x).tasks).length = m7 at hv7); (subst hv7); (clear hk7 hb7); (obtain ⟨y0, y1, y2, y3, y4, y5, y6⟩ := seven HR7.out); (obtain ⟨z0, z1, z2, z3, z4, z5, z6⟩ := seven_free HR7.out)))
      all_goals
        have hv : soV (tickD x) (.slice b3 n3 c3) (.slice a7 m7 c7) = .agg #[.slice b3 n3 c3, .int .i64 (x.now + 1), .slice a7 m7 c7, .int .i64 r0, .int .i64 r1, .int .i64 r2, .int .i64 0] := by
          have hy : (tickD x).y.now = x.now + 1 := rfl
          have hcd : (tickD x).code = 0 := rfl
          unfold soV soC soL
          rw [HRR.out, hy, hcd]
        have HEND : Hid (ImplAns D w (.returned (.agg #[.slice b3 n3 c3, .int .i64 (x.now + 1), .slice a7 m7 c7, .int .i64 r0, .int .i64 r1, .int .i64 r2, .int .i64 0])) (putW w7 (w.heap.size + 1) 0 [.slice b3 n3 c3, .int .i64 (x.now + 1), .slice a7 m7 c7, .int .i64 r0, .int .i64 r1, .int .i64 r2, .int .i64 0])) := by
          rw [Hid, HDD.out, ← hv]
          exact impl_end HB7.out HI7.out HK7.out hw1 (by omega) _
        clear hv
        go_wp2_with fail
        refine bodyPost_ret (v := .agg #[.slice b3 n3 c3, .int .i64 (x.now + 1), .slice a7 m7 c7, .int .i64 r0, .int .i64 r1, .int .i64 r2, .int .i64 0]) ?_ rfl ?_
        · simp [results, Try.results26, go_sem, y0, y1, y2, y3, y4, y5, y6]
        · exact HEND.out
    · have HDD : Hid (D = illD 1) := by rw [Hid, HE.out, if_neg hn]
      refine Calls.mono (run_over HR4.out (by simp; omega)) ?_
      rintro e w5 ⟨rfl, hb5⟩
      have HB5 : Hid (Below w.heap.size w w5) := below_tr HB4.out hb5
      have HY5 : Hid (Blk w5 (w.heap.size + 1) 37 [.slice none 0 0, .int .i64 0, .slice none 0 0, .int .i64 0, .int .i64 0, .int .i64 0, .int .i64 0]) := HY4.out.later hb5
      clear hb5 HE
      go_upto_region 6 with fail
      obtain ⟨U, hU⟩ : ∃ U, U = w5.alloc (.cells #[.int .i64 0, .int .i64 0, .int .i64 0] 35) := ⟨_, rfl⟩
      have hbU : Below w5.heap.size w5 U := by rw [hU]; exact below_one _ _
      have HBU : Hid (Below w.heap.size w U) := below_tr HB5.out hbU
      obtain ⟨y0, y1, y2, y3, y4, y5, y6⟩ := seven (HY5.out.later hbU)
      obtain ⟨z0, z1, z2, z3, z4, z5, z6⟩ := seven_free (HY5.out.later hbU)
      rw [← hU]
      clear hU hbU
      go_wp2_with fail
      refine bodyPost_ret (v := .agg #[.slice none 0 0, .int .i64 0, .slice none 0 0, .int .i64 0, .int .i64 0, .int .i64 0, .int .i64 1]) ?_ rfl ?_
      · simp [results, Try.results26, go_sem, y0, y1, y2, y3, y4, y5, y6]
      · rw [HDD.out]; exact ill_endI 1 HBU.out [.slice none 0 0, .int .i64 0, .slice none 0 0, .int .i64 0, .int .i64 0, .int .i64 0, .int .i64 1]
end Go.Proofs.Ytnkkkdhpopfahaa.sch
