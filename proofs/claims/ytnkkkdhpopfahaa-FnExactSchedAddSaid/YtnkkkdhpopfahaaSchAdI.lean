/-
  The program's SchedAdd. Condition: the list of tasks is no longer than its room.
-/
import Derived.Test.YtnkkkdhpopfahaaSchAd
import Derived.Test.YtnkkkdhpopfahaaSchTk2
import Derived.Test.YtnkkkdhpopfahaaSchMay
namespace Go.Proofs.Ytnkkkdhpopfahaa.sch
open Go.RowKit Go.Deep Go.Sort
open Go.Proofs.Ytnkkkdhpopfahaa
open Go.Proofs.Ytnkkkdhpopfahaa.deep
set_option linter.unusedVariables false
set_option maxRecDepth 100000

theorem line_app {ws : List Wt} {last : Int} (h : LineOk ws last) (hn : ws.length ≤ 40) (h0 : 0 ≤ last) {l : Nat} (hl : l < 16) {t1 t2 : Int} (ht : 1 ≤ t2 ∧ t2 ≤ 99) : LineOk (ws ++ [(((l : Int), t1, t2), last)]) (last + 1) := by
  refine ⟨by simp; omega, fun z hz => ?_, fun z hz => ?_, fun z hz => ?_, ?_⟩
  · rcases List.mem_append.1 hz with hz | hz
    · exact h.lab z hz
    · rw [List.mem_singleton.1 hz]; simp only; omega
  · rcases List.mem_append.1 hz with hz | hz
    · exact h.need z hz
    · rw [List.mem_singleton.1 hz]; exact ht
  · rcases List.mem_append.1 hz with hz | hz
    · have := h.place z hz; omega
    · rw [List.mem_singleton.1 hz]; simp only; omega
  · rw [List.pairwise_append]
    refine ⟨h.rise, List.pairwise_singleton _ _, fun a ha b hb => ?_⟩
    rw [List.mem_singleton.1 hb]
    exact (h.place a ha).2
set_option maxHeartbeats 8000000 in
theorem impl_add (x : SchedD) (t0 t1 t2 : Int) {lo : Nat} {w : World} {vo : Value} (a : Option Addr) (n c : Nat) (hnc : n ≤ c) (h : SF lo w vo (.slice a n c) x) : Calls Try.prog 23 #[.agg #[vo, .int .i64 x.now, .slice a n c], .int .i64 t0, .int .i64 t1, .int .i64 t2] w (ImplAns (addA x (t0, t1, t2)) w) := by
  have HR : Hid (∀ W, Below w.heap.size w W → Calls Try.prog 12 #[.agg #[vo, .int .i64 x.now, .slice a n c]] W fun e w' => e = .returned (.bool (schedB x)) ∧ Below W.heap.size W w') := fun W hW => impl_right x a n c hnc (h.later hW)
  have HTK : Hid (∀ W, Below w.heap.size w W → Calls Try.prog 50 #[.agg #[.int .i64 t0, .int .i64 t1, .int .i64 t2], vo] W fun e w' => e = .returned (.bool (taskB x.order (t0, t1, t2))) ∧ Below W.heap.size W w') := fun W hW => impl_task x.order t0 t1 t2 (h.later hW).1
  have HTH : Hid (∀ W, Below w.heap.size w W → Calls Try.prog 51 #[.slice a n c, .agg #[.int .i64 t0, .int .i64 t1, .int .i64 t2]] W fun e w' => e = .returned (.bool (decide (0 ≤ atI x.tasks t0 t1))) ∧ Below W.heap.size W w') := fun W hW => by rw [← has_at]; exact impl_there t0 t1 t2 (h.later hW).2
  have HWO : Hid (schedB x = true → ∀ W, Below w.heap.size w W → Calls Try.prog 52 #[.agg #[vo, .int .i64 x.now, .slice a n c]] W (WheelOf x W)) := fun hr W hW => wheel_of x hr (h.later hW)
  have HMA : Hid (schedB x = true → ∀ W, Below w.heap.size w W → Calls Try.prog 53 #[vo, .int .i64 t0] W fun e w' => e = .returned (.int .i64 ((40 : Int) / x.order.length * oft x.order t0)) ∧ w' = W) := fun hr W hW => by have := order_len (sched_facts hr).1; exact impl_may t0 (h.later hW).1 this.1 this.2
  have HA : Hid (addA x (t0, t1, t2) = if schedB x && taskB x.order (t0, t1, t2) then (if 0 ≤ atI x.tasks t0 t1 then illD 7 else if fullB x t0 = true then illD 9 else ⟨⟨x.order, x.now, x.tasks ++ [(t0, t1, t2)]⟩, (0, 0, 0), 0⟩) else illD 1) := rfl
  obtain ⟨ao, co, hvo, -⟩ := int_at h.1
  obtain ⟨no, hno⟩ : ∃ q, q = x.order.length := ⟨_, rfl⟩
  rw [← hno] at hvo
  subst hvo
  have HFU : Hid (fullB x t0 = decide ((40 : Int) / x.order.length * (oft x.order t0 : Int) ≤ ((ofL x.tasks t0).length : Int))) := rfl
  clear h hno
  generalize hD : addA x (t0, t1, t2) = D at *
  obtain ⟨nw, hnw⟩ : ∃ q, q = x.now := ⟨_, rfl⟩
  have HNW : Hid (nw = x.now) := hnw
  rw [← hnw] at HR HWO ⊢
  obtain ⟨V, hV⟩ : ∃ V, V = ((w.alloc (.cells #[.slice ao no co, .int .i64 nw, .slice a n c] 30)).alloc (.cells #[.slice none 0 0, .int .i64 0, .slice none 0 0, .int .i64 0, .int .i64 0, .int .i64 0, .int .i64 0] 37)).alloc (.cells #[.int .i64 t0, .int .i64 t1, .int .i64 t2] 35) := ⟨_, rfl⟩
  have HP : Hid (PK w (.slice ao no co) (.int .i64 nw) (.slice a n c) (.int .i64 t0) (.int .i64 t1) (.int .i64 t2) V) := by rw [hV]; exact pk_new _ _ _ _ _ _ _
  clear hnw hD
  obtain ⟨x0, x1, x2, u0, u1, u2⟩ := HP.out.ten
  cases hs : schedB x with
  | false =>
    have HE : Hid (D = illD 1) := by rw [Hid, HA.out, hs]; rfl
    rw [hs] at HR
    clear HA HWO HMA HTK HTH hs
    go_enter Try.func23, Try.ntmps23
    go_wp2_with fail
    rw [← hV]
    clear hV
    refine Calls.mono (HR.out _ HP.out.2.2.2) ?_
    rintro e w1 ⟨rfl, hb1⟩
    have HP1 : Hid (PK w (.slice ao no co) (.int .i64 nw) (.slice a n c) (.int .i64 t0) (.int .i64 t1) (.int .i64 t2) w1) := HP.out.later hb1
    clear hb1 x0 x1 x2 u0 u1 u2
    obtain ⟨x0, x1, x2, u0, u1, u2⟩ := HP1.out.ten
    obtain ⟨y0, y1, y2, y3, y4, y5, y6⟩ := seven HP1.out.2.1
    obtain ⟨z0, z1, z2, z3, z4, z5, z6⟩ := seven_free HP1.out.2.1
    go_wp2_with fail
    refine bodyPost_ret (v := .agg #[.slice none 0 0, .int .i64 0, .slice none 0 0, .int .i64 0, .int .i64 0, .int .i64 0, .int .i64 1]) ?_ rfl ?_
    · simp [results, Try.results23, go_sem, y0, y1, y2, y3, y4, y5, y6]
    · rw [HE.out]; exact ill_endI 1 HP1.out.2.2.2 [.slice none 0 0, .int .i64 0, .slice none 0 0, .int .i64 0, .int .i64 0, .int .i64 0, .int .i64 1]
  | true =>
    rw [hs] at HR
    have HW2 : Hid _ := HWO.out hs
    have HM2 : Hid _ := HMA.out hs
    have HSB : Hid (schedB x = true) := hs
    obtain ⟨f1, f2, f3, f4⟩ := sched_facts hs
    have HF1 : Hid (orderB x.order = true) := f1
    clear f1 f4 HWO HMA
    cases htb : taskB x.order (t0, t1, t2) with
    | false =>
      have HE : Hid (D = illD 1) := by rw [Hid, HA.out, hs, htb]; rfl
      rw [htb] at HTK
      clear HA HW2 HM2 HTH hs htb
      go_enter Try.func23, Try.ntmps23
      go_wp2_with fail
      rw [← hV]
      clear hV
      refine Calls.mono (HR.out _ HP.out.2.2.2) ?_
      rintro e w1 ⟨rfl, hb1⟩
      have HP1 : Hid (PK w (.slice ao no co) (.int .i64 nw) (.slice a n c) (.int .i64 t0) (.int .i64 t1) (.int .i64 t2) w1) := HP.out.later hb1
      clear hb1 x0 x1 x2 u0 u1 u2
      obtain ⟨x0, x1, x2, u0, u1, u2⟩ := HP1.out.ten
      go_wp2_with fail
      refine Calls.mono (HTK.out _ HP1.out.2.2.2) ?_
      rintro e w2 ⟨rfl, hb2⟩
      have HP2 : Hid (PK w (.slice ao no co) (.int .i64 nw) (.slice a n c) (.int .i64 t0) (.int .i64 t1) (.int .i64 t2) w2) := HP1.out.later hb2
      clear hb2 x0 x1 x2 u0 u1 u2
      obtain ⟨x0, x1, x2, u0, u1, u2⟩ := HP2.out.ten
      obtain ⟨y0, y1, y2, y3, y4, y5, y6⟩ := seven HP2.out.2.1
      obtain ⟨z0, z1, z2, z3, z4, z5, z6⟩ := seven_free HP2.out.2.1
      go_wp2_with fail
      refine bodyPost_ret (v := .agg #[.slice none 0 0, .int .i64 0, .slice none 0 0, .int .i64 0, .int .i64 0, .int .i64 0, .int .i64 1]) ?_ rfl ?_
      · simp [results, Try.results23, go_sem, y0, y1, y2, y3, y4, y5, y6]
      · rw [HE.out]; exact ill_endI 1 HP2.out.2.2.2 [.slice none 0 0, .int .i64 0, .slice none 0 0, .int .i64 0, .int .i64 0, .int .i64 0, .int .i64 1]
    | true =>
      rw [htb] at HTK
      by_cases hp : 0 ≤ atI x.tasks t0 t1
      · have HE : Hid (D = illD 7) := by rw [Hid, HA.out, hs, htb, Bool.true_and, if_pos rfl, if_pos hp]
        rw [decide_eq_true hp] at HTH
        clear HA HW2 HM2 hs htb hp
        go_enter Try.func23, Try.ntmps23
        go_wp2_with fail
        rw [← hV]
        clear hV
        refine Calls.mono (HR.out _ HP.out.2.2.2) ?_
        rintro e w1 ⟨rfl, hb1⟩
        have HP1 : Hid (PK w (.slice ao no co) (.int .i64 nw) (.slice a n c) (.int .i64 t0) (.int .i64 t1) (.int .i64 t2) w1) := HP.out.later hb1
        clear hb1 x0 x1 x2 u0 u1 u2
        obtain ⟨x0, x1, x2, u0, u1, u2⟩ := HP1.out.ten
        go_wp2_with fail
        refine Calls.mono (HTK.out _ HP1.out.2.2.2) ?_
        rintro e w2 ⟨rfl, hb2⟩
        have HP2 : Hid (PK w (.slice ao no co) (.int .i64 nw) (.slice a n c) (.int .i64 t0) (.int .i64 t1) (.int .i64 t2) w2) := HP1.out.later hb2
        clear hb2 x0 x1 x2 u0 u1 u2
        obtain ⟨x0, x1, x2, u0, u1, u2⟩ := HP2.out.ten
        go_wp2_with fail
        refine Calls.mono (HTH.out _ HP2.out.2.2.2) ?_
        rintro e w3 ⟨rfl, hb3⟩
        have HP3 : Hid (PK w (.slice ao no co) (.int .i64 nw) (.slice a n c) (.int .i64 t0) (.int .i64 t1) (.int .i64 t2) w3) := HP2.out.later hb3
        clear hb3 x0 x1 x2 u0 u1 u2
        obtain ⟨x0, x1, x2, u0, u1, u2⟩ := HP3.out.ten
        obtain ⟨y0, y1, y2, y3, y4, y5, y6⟩ := seven HP3.out.2.1
        obtain ⟨z0, z1, z2, z3, z4, z5, z6⟩ := seven_free HP3.out.2.1
        go_wp2_with fail
        refine bodyPost_ret (v := .agg #[.slice none 0 0, .int .i64 0, .slice none 0 0, .int .i64 0, .int .i64 0, .int .i64 0, .int .i64 7]) ?_ rfl ?_
        · simp [results, Try.results23, go_sem, y0, y1, y2, y3, y4, y5, y6]
        · rw [HE.out]; exact ill_endI 7 HP3.out.2.2.2 [.slice none 0 0, .int .i64 0, .slice none 0 0, .int .i64 0, .int .i64 0, .int .i64 0, .int .i64 7]
      · have HA2 : Hid (D = if fullB x t0 = true then illD 9 else ⟨⟨x.order, x.now, x.tasks ++ [(t0, t1, t2)]⟩, (0, 0, 0), 0⟩) := by rw [Hid, HA.out, hs, htb, Bool.true_and, if_pos rfl, if_neg hp]
        rw [decide_eq_false hp] at HTH
        obtain ⟨l, hl16, hl⟩ := task_label htb HF1.out
        simp only at hl
        have HND : Hid (1 ≤ t2 ∧ t2 ≤ 99) := by
          simp only [taskB, Bool.and_eq_true] at htb
          exact isB_of.1 htb.2.2
        clear HA hs htb hp
        subst hl
        go_enter Try.func23, Try.ntmps23
        go_wp2_with fail
        rw [← hV]
        clear hV
        refine Calls.mono (HR.out _ HP.out.2.2.2) ?_
        rintro e w1 ⟨rfl, hb1⟩
        have HP1 : Hid (PK w (.slice ao no co) (.int .i64 nw) (.slice a n c) (.int .i64 l) (.int .i64 t1) (.int .i64 t2) w1) := HP.out.later hb1
        clear hb1 x0 x1 x2 u0 u1 u2
        obtain ⟨x0, x1, x2, u0, u1, u2⟩ := HP1.out.ten
        go_wp2_with fail
        refine Calls.mono (HTK.out _ HP1.out.2.2.2) ?_
        rintro e w2 ⟨rfl, hb2⟩
        have HP2 : Hid (PK w (.slice ao no co) (.int .i64 nw) (.slice a n c) (.int .i64 l) (.int .i64 t1) (.int .i64 t2) w2) := HP1.out.later hb2
        clear hb2 x0 x1 x2 u0 u1 u2
        obtain ⟨x0, x1, x2, u0, u1, u2⟩ := HP2.out.ten
        go_wp2_with fail
        refine Calls.mono (HTH.out _ HP2.out.2.2.2) ?_
        rintro e w3 ⟨rfl, hb3⟩
        have HP3 : Hid (PK w (.slice ao no co) (.int .i64 nw) (.slice a n c) (.int .i64 l) (.int .i64 t1) (.int .i64 t2) w3) := HP2.out.later hb3
        clear hb3 x0 x1 x2 u0 u1 u2
        obtain ⟨x0, x1, x2, u0, u1, u2⟩ := HP3.out.ten
        go_wp2_with fail
        refine Calls.mono (HW2.out _ HP3.out.2.2.2) ?_
        rintro e w4 ⟨B, v4, rfl, hBg, hw4, hi4, hb4⟩
        have HP4 : Hid (PK w (.slice ao no co) (.int .i64 nw) (.slice a n c) (.int .i64 l) (.int .i64 t1) (.int .i64 t2) w4) := HP3.out.later hb4
        have HW4 : Hid (Wheel w4 B v4 x.now x.tasks.length (fun _ => 0) (placed x.tasks 0)) := hw4
        have HI4 : Hid (Ints w3.heap.size w4 v4 x.order) := hi4
        have HS3 : Hid (w.heap.size + 1 + 1 < w3.heap.size) := HP3.out.2.2.1.lt
        have hB4 : B < w4.heap.size := hw4.lt
        have h34 : w3.heap.size ≤ w4.heap.size := hb4.size
        have HMN : Hid (∀ W, Below w4.heap.size w4 W → W.cell? ⟨B, 2 + l * 162 + 161, none⟩ = some (.int .i64 ((ofL x.tasks l).length))) := fun W hW => by
          obtain ⟨cur, h1, h2⟩ := HW4.out.later (hW.block B hB4)
          rw [cell_cur h1, (h2.ring l hl16).many, ← placed_of x.tasks 0 l, List.length_map]
        clear hb4 hw4 hi4 x0 x1 x2 u0 u1 u2
        obtain ⟨x0, x1, x2, u0, u1, u2⟩ := HP4.out.ten
        have m0 := HMN.out w4 (Below.refl _ _)
        have hl0 : (0 : Int) ≤ (l : Int) := by omega
        have hl1 : (l : Int) < 16 := by omega
        obtain ⟨N, hN⟩ : ∃ N, N = (ofL x.tasks l).length := ⟨_, rfl⟩
        obtain ⟨P, hP⟩ : ∃ P : Int, P = (40 : Int) / x.order.length * oft x.order l := ⟨_, rfl⟩
        have HFU2 : Hid (fullB x l = decide (P ≤ (N : Int))) := by rw [Hid, HFU.out, hN, hP]
        have HP40 : Hid (P ≤ 40) := by
          show _ ≤ _
          rw [hP]
          have h1 := order_len HF1.out
          have h2 : oft x.order l ≤ x.order.length := by rw [oft_eq]; exact List.length_filter_le _ _
          have h3 : (40 : Int) / x.order.length * oft x.order l ≤ (40 : Int) / x.order.length * x.order.length := Int.mul_le_mul_of_nonneg_left (by omega) (Int.ediv_nonneg (by decide) (by omega))
          have h4 : (40 : Int) / x.order.length * x.order.length ≤ 40 := Int.ediv_mul_le _ (by omega)
          omega
        have HNP : Hid (((placed x.tasks 0).filter (isL l)).length = N) := by rw [Hid, hN, ← placed_of x.tasks 0 l, List.length_map]
        rw [← hP] at HM2
        rw [← hN] at m0 HMN
        have HM4 : Hid (∀ W, Below w4.heap.size w4 W → Calls Try.prog 53 #[.slice ao no co, .int .i64 l] W fun e w' => e = .returned (.int .i64 P) ∧ w' = W) := fun W hW => HM2.out W (below_tr HP4.out.2.2.2 hW)
        have HC4 : Hid (∀ W, Below w4.heap.size w4 W → W.cell? ⟨w.heap.size, 0, none⟩ = some (.slice ao no co) ∧ W.cell? ⟨B, 2 + l * 162 + 161, none⟩ = some (.int .i64 N)) := fun W hW => ⟨(HP4.out.three hW).1, HMN.out W hW⟩
        clear hN hP HFU
        go_upto_region 7 with fail
        go_region_held3 (fun W => W.cell? ⟨w.heap.size, 0, none⟩ = some (.slice ao no co) ∧ W.cell? ⟨B, 2 + l * 162 + 161, none⟩ = some (.int .i64 N))
          (first | (with_reducible assumption) | with_reducible exact HC4.out _ (Below.refl _ _) | with_reducible exact HC4.out _ (bd0 _))
          (first | (go_at_call 53; refine Calls.mono (HM4.out _ (bd0 _)) ?_; (refine fun e w5 hh => ?_); (obtain ⟨rfl, rfl⟩ := hh)))
        obtain ⟨U, hU⟩ : ∃ U, U = w4.drew := ⟨_, rfl⟩
        have hbU : Below w4.heap.size w4 U := by rw [hU]; exact bd0 _
        obtain ⟨b4, n4, c4, rfl⟩ := ints_form HI4.out
        have HPU : Hid (PK w (.slice ao no co) (.int .i64 nw) (.slice a n c) (.int .i64 l) (.int .i64 t1) (.int .i64 t2) U) := HP4.out.later hbU
        have HWU : Hid (Wheel U B (.slice b4 n4 c4) x.now x.tasks.length (fun _ => 0) (placed x.tasks 0)) := HW4.out.later (hbU.block B hB4)
        have HIU : Hid (Ints w3.heap.size U (.slice b4 n4 c4) x.order) := OwnC.later HI4.out hbU
        have hUs : w4.heap.size ≤ U.heap.size := hbU.size
        rw [← hU]
        clear hU hbU x0 x1 x2 u0 u1 u2 m0 HC4 HM4 HMN HP4 HW4 HI4
        obtain ⟨x0, x1, x2, u0, u1, u2⟩ := HPU.out.ten
        by_cases hf : P ≤ (N : Int)
        · have HE : Hid (D = illD 9) := by rw [Hid, HA2.out, if_pos (by rw [HFU2.out]; exact decide_eq_true hf)]
          clear HA2
          obtain ⟨y0, y1, y2, y3, y4, y5, y6⟩ := seven HPU.out.2.1
          obtain ⟨z0, z1, z2, z3, z4, z5, z6⟩ := seven_free HPU.out.2.1
          go_wp2_with fail
          refine bodyPost_ret (v := .agg #[.slice none 0 0, .int .i64 0, .slice none 0 0, .int .i64 0, .int .i64 0, .int .i64 0, .int .i64 9]) ?_ rfl ?_
          · simp [results, Try.results23, go_sem, y0, y1, y2, y3, y4, y5, y6]
          · rw [HE.out]; exact ill_endI 9 HPU.out.2.2.2 [.slice none 0 0, .int .i64 0, .slice none 0 0, .int .i64 0, .int .i64 0, .int .i64 0, .int .i64 9]
        · have HE : Hid (D = ⟨⟨x.order, x.now, x.tasks ++ [((l : Int), t1, t2)]⟩, (0, 0, 0), 0⟩) := by rw [Hid, HA2.out, if_neg (by rw [HFU2.out, decide_eq_false hf]; exact Bool.false_ne_true)]
          have hf2 : (N : Int) < P := by omega
          have HN40 : Hid (N < 40) := by have := HP40.out; show _ < _; omega
          have HPT : Hid (Calls Try.prog 54 #[.pointer (some ⟨B, 0, none⟩), .agg #[.int .i64 l, .int .i64 t1, .int .i64 t2]] U (WPutR B (.slice b4 n4 c4) x.now (x.tasks.length + 1) (fun _ => 0) (placed x.tasks 0 ++ [(((l : Int), t1, t2), (x.tasks.length : Int))]) U)) := wheel_put B l hl16 t1 t2 x.now x.tasks.length _ _ HWU.out (by rw [HNP.out]; exact HN40.out) (by omega) (by omega)
          clear HA2
          go_wp2_with fail
          refine Calls.mono HPT.out ?_
          rintro e w6 ⟨rfl, hg6, hW6⟩
          obtain ⟨cur0, hc0, -⟩ := HWU.out
          have hBw : w.heap.size + 1 + 1 < B := by have := HS3.out; omega
          have HB6 : Hid (Below w.heap.size w w6) := HPU.out.2.2.2.grown hg6 HPU.out.2.2.2.size (fun k e => by injection e with e; omega)
          have HY6 : Hid (Blk w6 (w.heap.size + 1) 37 [.slice none 0 0, .int .i64 0, .slice none 0 0, .int .i64 0, .int .i64 0, .int .i64 0, .int .i64 0]) := (hg6.block _ HPU.out.2.1.lt (fun e => by injection e with e; omega)).trans HPU.out.2.1
          have HI6 : Hid (Ints w3.heap.size w6 (.slice b4 n4 c4) x.order) := ints_apart HIU.out hc0 (by decide) hg6
          have HSC : Hid (Calls Try.prog 55 #[.pointer (some ⟨B, 0, none⟩)] w6 (SchedPost (.slice b4 n4 c4) nw (x.tasks ++ [((l : Int), t1, t2)]) w6)) := by
            have := impl_sched B b4 n4 c4 x.now _ _ _ hW6 (line_app (placed_ok HSB.out) (by rw [placed_len]; omega) (by omega) hl16 HND.out)
            rw [List.map_append, placed_tasks] at this
            rw [HNW.out]
            exact this
          have h36 : w3.heap.size ≤ w6.heap.size := by have h1 := hg6.size; omega
          clear hg6 hW6 hc0 HPT x0 x1 x2 u0 u1 u2
          go_wp2_with fail
          refine Calls.mono HSC.out ?_
          rintro e w7 ⟨v7, rfl, hk7, hb7⟩
          have HB7 : Hid (Below w.heap.size w w7) := below_tr HB6.out hb7
          have HR7 : Hid (Blk w7 (w.heap.size + 1) 37 [.slice none 0 0, .int .i64 0, .slice none 0 0, .int .i64 0, .int .i64 0, .int .i64 0, .int .i64 0]) := HY6.out.later hb7
          have HI7 : Hid (Ints w3.heap.size w7 (.slice b4 n4 c4) x.order) := OwnC.later HI6.out hb7
          have HK7 : Hid (Tks w6.heap.size w7 v7 (x.tasks ++ [((l : Int), t1, t2)])) := hk7
          obtain ⟨a7, c7, hv7, -⟩ := OwnC.form hk7
          generalize (List.map ctk (x.tasks ++ [((l : Int), t1, t2)])).length = m7 at hv7
          subst hv7
          have HEND : Hid (ImplAns D w (.returned (.agg #[.slice b4 n4 c4, .int .i64 nw, .slice a7 m7 c7, .int .i64 0, .int .i64 0, .int .i64 0, .int .i64 0])) (putW w7 (w.heap.size + 1) 0 [.slice b4 n4 c4, .int .i64 nw, .slice a7 m7 c7, .int .i64 0, .int .i64 0, .int .i64 0, .int .i64 0])) := by
            rw [Hid, HE.out, HNW.out]
            exact impl_end (d := ⟨⟨x.order, x.now, x.tasks ++ [((l : Int), t1, t2)]⟩, (0, 0, 0), 0⟩) HB7.out HI7.out HK7.out (Nat.lt_of_succ_lt HS3.out) (by have := HS3.out; omega) _
          clear hk7 hb7 HSC
          obtain ⟨y0, y1, y2, y3, y4, y5, y6⟩ := seven HR7.out
          obtain ⟨z0, z1, z2, z3, z4, z5, z6⟩ := seven_free HR7.out
          go_wp2_with fail
          refine bodyPost_ret (v := .agg #[.slice b4 n4 c4, .int .i64 nw, .slice a7 m7 c7, .int .i64 0, .int .i64 0, .int .i64 0, .int .i64 0]) ?_ rfl ?_
          · simp [results, Try.results23, go_sem, y0, y1, y2, y3, y4, y5, y6]
          · exact HEND.out
end Go.Proofs.Ytnkkkdhpopfahaa.sch
