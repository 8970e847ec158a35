/-
  The specification's SchedAdd. Condition: the Sched's lists are no nil lists.
-/
import Derived.Test.YtnkkkdhpopfahaaSchSt2
import Derived.Test.YtnkkkdhpopfahaaSchOf
namespace Go.Proofs.Ytnkkkdhpopfahaa.sch
open Go.RowKit Go.Deep Go.Sort
open Go.Proofs.Ytnkkkdhpopfahaa
open Go.Proofs.Ytnkkkdhpopfahaa.deep
set_option linter.unusedVariables false
set_option maxRecDepth 100000

def fullB (x : SchedD) (l : Int) : Bool := decide ((40 : Int) / x.order.length * oft x.order l ≤ (ofL x.tasks l).length)
def addA (x : SchedD) (t : Tt) : SoD := if schedB x && taskB x.order t then (if 0 ≤ atI x.tasks t.1 t.2.1 then illD 7 else if fullB x t.1 = true then illD 9 else ⟨⟨x.order, x.now, x.tasks ++ [t]⟩, (0, 0, 0), 0⟩) else illD 1
/-- the boxes of SchedAdd -/
def PK (w : World) (u0 u1 u2 t0 t1 t2 : Value) (W : World) : Prop := Blk W w.heap.size 30 [u0, u1, u2] ∧ Blk W (w.heap.size + 1) 37 [.slice none 0 0, .int .i64 0, .slice none 0 0, .int .i64 0, .int .i64 0, .int .i64 0, .int .i64 0] ∧ Blk W (w.heap.size + 1 + 1) 35 [t0, t1, t2] ∧ Below w.heap.size w W
theorem PK.later {w W W' : World} {u0 u1 u2 t0 t1 t2 : Value} (h : PK w u0 u1 u2 t0 t1 t2 W) (hb : Below W.heap.size W W') : PK w u0 u1 u2 t0 t1 t2 W' := ⟨h.1.later hb, h.2.1.later hb, h.2.2.1.later hb, below_tr h.2.2.2 hb⟩
theorem pk_new (w : World) (u0 u1 u2 t0 t1 t2 : Value) : PK w u0 u1 u2 t0 t1 t2 (((w.alloc (.cells #[u0, u1, u2] 30)).alloc (.cells #[.slice none 0 0, .int .i64 0, .slice none 0 0, .int .i64 0, .int .i64 0, .int .i64 0, .int .i64 0] 37)).alloc (.cells #[t0, t1, t2] 35)) := by
  obtain ⟨b1, b2⟩ := blk2 w [u0, u1, u2] [.slice none 0 0, .int .i64 0, .slice none 0 0, .int .i64 0, .int .i64 0, .int .i64 0, .int .i64 0] 30 37
  have hb := below_one ((w.alloc (.cells #[u0, u1, u2] 30)).alloc (.cells #[.slice none 0 0, .int .i64 0, .slice none 0 0, .int .i64 0, .int .i64 0, .int .i64 0, .int .i64 0] 37)) (.cells #[t0, t1, t2] 35)
  refine ⟨b1.later hb, b2.later hb, ?_, below_tr (below2 _ _ _) hb⟩
  have := blk_new ((w.alloc (.cells #[u0, u1, u2] 30)).alloc (.cells #[.slice none 0 0, .int .i64 0, .slice none 0 0, .int .i64 0, .int .i64 0, .int .i64 0, .int .i64 0] 37)) [t0, t1, t2] 35
  simpa using this
theorem PK.ten {w W : World} {u0 u1 u2 t0 t1 t2 : Value} (h : PK w u0 u1 u2 t0 t1 t2 W) : W.cell? ⟨w.heap.size, 0, none⟩ = some u0 ∧ W.cell? ⟨w.heap.size, 1, none⟩ = some u1 ∧ W.cell? ⟨w.heap.size, 2, none⟩ = some u2 ∧ W.cell? ⟨w.heap.size + 1 + 1, 0, none⟩ = some t0 ∧ W.cell? ⟨w.heap.size + 1 + 1, 1, none⟩ = some t1 ∧ W.cell? ⟨w.heap.size + 1 + 1, 2, none⟩ = some t2 :=
  ⟨h.1.cell 0, h.1.cell 1, h.1.cell 2, h.2.2.1.cell 0, h.2.2.1.cell 1, h.2.2.1.cell 2⟩
theorem PK.three {w V W : World} {u0 u1 u2 t0 t1 t2 : Value} (h : PK w u0 u1 u2 t0 t1 t2 V) (hb : Below V.heap.size V W) : W.cell? ⟨w.heap.size, 0, none⟩ = some u0 ∧ W.cell? ⟨w.heap.size, 1, none⟩ = some u1 ∧ W.cell? ⟨w.heap.size, 2, none⟩ = some u2 := by
  obtain ⟨a, b, c, _⟩ := (h.later hb).ten
  exact ⟨a, b, c⟩
theorem own_ne {t k base B T : Nat} {w : World} {v : Value} {css : List (List Value)} {cur : Array Value} (h : OwnC t k base w v css) (hB : w.heap[B]? = some (.cells cur T (0, 0))) (hT : t ≠ T) : ∀ g, v.ownBlock = some g → g ≠ B := by
  intro g hg e
  subst e
  rcases h.row.2 with ⟨rfl, _⟩ | ⟨g1, cap1, cur1, rfl, _, hc1, _⟩
  · simp [Value.ownBlock] at hg
  · simp [Value.ownBlock] at hg
    subst hg
    rw [hB] at hc1
    injection hc1 with hc1
    injection hc1 with _ ht2
    exact hT ht2.symm
set_option maxHeartbeats 8000000 in
theorem spec_add (x : SchedD) (t0 t1 t2 : Int) (ao at' : Addr) (no co nt ct : Nat) {lo : Nat} {w : World} (h : SF lo w (.slice (some ao) no co) (.slice (some at') nt ct) x) : Calls Try.prog 22 #[.agg #[.slice (some ao) no co, .int .i64 x.now, .slice (some at') nt ct], .int .i64 t0, .int .i64 t1, .int .i64 t2] w (SpecAns (addA x (t0, t1, t2)) w) := by
  obtain ⟨i0, hi, hz0, hz1, hz2⟩ := info_parts info_tk
  have HR : Hid (∀ W, Below w.heap.size w W → Calls Try.prog 10 #[.agg #[.slice (some ao) no co, .int .i64 x.now, .slice (some at') nt ct]] W fun e w' => e = .returned (.bool (schedB x)) ∧ Below W.heap.size W w') := fun W hW => spec_right x (h.later hW)
  have HTK : Hid (∀ W, Below w.heap.size w W → Calls Try.prog 38 #[.agg #[.slice (some ao) no co, .int .i64 x.now, .slice (some at') nt ct], .agg #[.int .i64 t0, .int .i64 t1, .int .i64 t2]] W fun e w' => e = .returned (.bool (taskB x.order (t0, t1, t2))) ∧ Below W.heap.size W w') := fun W hW => spec_task x.order x.now t0 t1 t2 (some at') nt ct (h.later hW).1
  have HAT : Hid (∀ W, Below w.heap.size w W → Calls Try.prog 39 #[.agg #[.slice (some ao) no co, .int .i64 x.now, .slice (some at') nt ct], .int .i64 t0, .int .i64 t1] W fun e w' => e = .returned (.int .i64 (atI x.tasks t0 t1)) ∧ Below W.heap.size W w') := fun W hW => spec_at (some ao) no co x.now t0 t1 (h.later hW).2
  have HOF : Hid (schedB x = true → ∀ W, Below w.heap.size w W → Calls Try.prog 47 #[.agg #[.slice (some ao) no co, .int .i64 x.now, .slice (some at') nt ct], .int .i64 t0] W (OfPost (ofL x.tasks t0) W)) := fun hr W hW => spec_of (some ao) no co x.now t0 (h.later hW).2 (right_short hr)
  have HFT : Hid (∀ W, Below w.heap.size w W → Calls Try.prog 48 #[.slice (some ao) no co, .int .i64 t0] W fun e w' => e = .returned (.int .i64 (oft x.order t0)) ∧ w' = W) := fun W hW => spec_often t0 (h.later hW).1
  have HCP : Hid (schedB x = true → ∀ W, Below w.heap.size w W → Calls Try.prog 49 #[.agg #[.slice (some ao) no co, .int .i64 x.now, .slice (some at') nt ct]] W (CopyPost x W)) := fun hr W hW => spec_copy x ao at' no co nt ct (h.later hW) (by have := (order_len (sched_facts hr).1).2; omega) (by have := right_short hr; omega)
  have HIL : Hid (∀ k W, Calls Try.prog 43 #[.int .i64 k] W fun e w' => e = .returned (.agg #[.slice none 0 0, .int .i64 0, .slice none 0 0, .int .i64 0, .int .i64 0, .int .i64 0, .int .i64 k]) ∧ Below W.heap.size W w') := fun k W => spec_ill k W
  have hno : no = x.order.length := by obtain ⟨_, _, e, _⟩ := int_at h.1; cases e; rfl
  have HS : Hid (schedB x = true → 1 ≤ no ∧ no ≤ 16 ∧ x.tasks.length ≤ 40) := fun hr => by have := order_len (sched_facts hr).1; exact ⟨by omega, by omega, right_short hr⟩
  have HFU : Hid (fullB x t0 = decide ((40 : Int) / (no : Int) * (oft x.order t0 : Int) ≤ ((ofL x.tasks t0).length : Int))) := by rw [Hid, hno]; rfl
  have HOL : Hid (oft x.order t0 ≤ no) := by show _ ≤ _; rw [hno, oft_eq]; exact List.length_filter_le _ _
  have HLL : Hid (schedB x = true → (ofL x.tasks t0).length ≤ 40) := fun hr => Nat.le_trans (List.length_filter_le _ _) (right_short hr)
  have HA : Hid (addA x (t0, t1, t2) = if schedB x && taskB x.order (t0, t1, t2) then (if 0 ≤ atI x.tasks t0 t1 then illD 7 else if fullB x t0 = true then illD 9 else ⟨⟨x.order, x.now, x.tasks ++ [(t0, t1, t2)]⟩, (0, 0, 0), 0⟩) else illD 1) := rfl
  clear hno h
  generalize hD : addA x (t0, t1, t2) = D at *
  unfold CopyPost at HCP
  obtain ⟨nw, hnw⟩ : ∃ q, q = x.now := ⟨_, rfl⟩
  have HNW : Hid (nw = x.now) := hnw
  rw [← hnw] at HR HTK HAT HOF HCP ⊢
  obtain ⟨V, hV⟩ : ∃ V, V = ((w.alloc (.cells #[.slice (some ao) no co, .int .i64 nw, .slice (some at') nt ct] 30)).alloc (.cells #[.slice none 0 0, .int .i64 0, .slice none 0 0, .int .i64 0, .int .i64 0, .int .i64 0, .int .i64 0] 37)).alloc (.cells #[.int .i64 t0, .int .i64 t1, .int .i64 t2] 35) := ⟨_, rfl⟩
  have HP : Hid (PK w (.slice (some ao) no co) (.int .i64 nw) (.slice (some at') nt ct) (.int .i64 t0) (.int .i64 t1) (.int .i64 t2) V) := by rw [hV]; exact pk_new _ _ _ _ _ _ _
  clear hnw hD
  obtain ⟨x0, x1, x2, y0, y1, y2⟩ := HP.out.ten
  generalize hs : schedB x = b at *
  cases b with
  | false =>
    have HE : Hid (D = illD 1) := by rw [Hid, HA.out]; rfl
    rw [HE.out]
    clear HA HOF HCP HFT HAT HTK HS HLL HE
    go_enter Try.func22, Try.ntmps22
    go_wp2_with fail
    rw [← hV]
    clear hV
    refine Calls.mono (HR.out _ HP.out.2.2.2) ?_
    rintro e w1 ⟨rfl, hb1⟩
    have HP1 : Hid (PK w (.slice (some ao) no co) (.int .i64 nw) (.slice (some at') nt ct) (.int .i64 t0) (.int .i64 t1) (.int .i64 t2) w1) := HP.out.later hb1
    clear hb1 x0 x1 x2 y0 y1 y2
    obtain ⟨x0, x1, x2, y0, y1, y2⟩ := HP1.out.ten
    go_wp2_with fail
    refine Calls.mono (HIL.out 1 _) ?_
    rintro e w2 ⟨rfl, hb2⟩
    have HP2 : Hid (PK w (.slice (some ao) no co) (.int .i64 nw) (.slice (some at') nt ct) (.int .i64 t0) (.int .i64 t1) (.int .i64 t2) w2) := HP1.out.later hb2
    obtain ⟨y0, y1, y2, y3, y4, y5, y6⟩ := seven HP2.out.2.1
    obtain ⟨z0, z1, z2, z3, z4, z5, z6⟩ := seven_free HP2.out.2.1
    clear hb2
    go_wp2_with fail
    refine bodyPost_ret (v := .agg #[.slice none 0 0, .int .i64 0, .slice none 0 0, .int .i64 0, .int .i64 0, .int .i64 0, .int .i64 1]) ?_ rfl ?_
    · simp [results, Try.results22, go_sem, y0, y1, y2, y3, y4, y5, y6]
    · exact ill_end 1 HP2.out.2.2.2 [.slice none 0 0, .int .i64 0, .slice none 0 0, .int .i64 0, .int .i64 0, .int .i64 0, .int .i64 1]
  | true =>
    have HOF2 : Hid _ := HOF.out rfl
    have HCP2 : Hid _ := HCP.out rfl
    obtain ⟨hn1, hn2, ht40⟩ := HS.out rfl
    have HLL2 : Hid _ := HLL.out rfl
    clear HOF HCP HS HLL
    generalize htb : taskB x.order (t0, t1, t2) = b at *
    cases b with
    | false =>
      have HE : Hid (D = illD 1) := by rw [Hid, HA.out]; rfl
      rw [HE.out]
      clear HA HOF2 HCP2 HFT HAT HLL2 HE
      go_enter Try.func22, Try.ntmps22
      go_wp2_with fail
      rw [← hV]
      clear hV
      refine Calls.mono (HR.out _ HP.out.2.2.2) ?_
      rintro e w1 ⟨rfl, hb1⟩
      have HP1 : Hid (PK w (.slice (some ao) no co) (.int .i64 nw) (.slice (some at') nt ct) (.int .i64 t0) (.int .i64 t1) (.int .i64 t2) w1) := HP.out.later hb1
      clear hb1 x0 x1 x2 y0 y1 y2
      obtain ⟨x0, x1, x2, y0, y1, y2⟩ := HP1.out.ten
      go_wp2_with fail
      refine Calls.mono (HTK.out _ HP1.out.2.2.2) ?_
      rintro e w2 ⟨rfl, hb2⟩
      have HP2 : Hid (PK w (.slice (some ao) no co) (.int .i64 nw) (.slice (some at') nt ct) (.int .i64 t0) (.int .i64 t1) (.int .i64 t2) w2) := HP1.out.later hb2
      clear hb2 x0 x1 x2 y0 y1 y2
      obtain ⟨x0, x1, x2, y0, y1, y2⟩ := HP2.out.ten
      go_wp2_with fail
      refine Calls.mono (HIL.out 1 _) ?_
      rintro e w3 ⟨rfl, hb3⟩
      have HP3 : Hid (PK w (.slice (some ao) no co) (.int .i64 nw) (.slice (some at') nt ct) (.int .i64 t0) (.int .i64 t1) (.int .i64 t2) w3) := HP2.out.later hb3
      obtain ⟨y0, y1, y2, y3, y4, y5, y6⟩ := seven HP3.out.2.1
      obtain ⟨z0, z1, z2, z3, z4, z5, z6⟩ := seven_free HP3.out.2.1
      clear hb3
      go_wp2_with fail
      refine bodyPost_ret (v := .agg #[.slice none 0 0, .int .i64 0, .slice none 0 0, .int .i64 0, .int .i64 0, .int .i64 0, .int .i64 1]) ?_ rfl ?_
      · simp [results, Try.results22, go_sem, y0, y1, y2, y3, y4, y5, y6]
      · exact ill_end 1 HP3.out.2.2.2 [.slice none 0 0, .int .i64 0, .slice none 0 0, .int .i64 0, .int .i64 0, .int .i64 0, .int .i64 1]
    | true =>
      generalize hat : atI x.tasks t0 t1 = p at *
      by_cases hp : 0 ≤ p
      · have HE : Hid (D = illD 7) := by rw [Hid, HA.out, Bool.true_and, if_pos rfl, if_pos hp]
        rw [HE.out]
        clear HA HOF2 HCP2 HFT HLL2 HE
        go_enter Try.func22, Try.ntmps22
        go_wp2_with fail
        rw [← hV]
        clear hV
        refine Calls.mono (HR.out _ HP.out.2.2.2) ?_
        rintro e w1 ⟨rfl, hb1⟩
        have HP1 : Hid (PK w (.slice (some ao) no co) (.int .i64 nw) (.slice (some at') nt ct) (.int .i64 t0) (.int .i64 t1) (.int .i64 t2) w1) := HP.out.later hb1
        clear hb1 x0 x1 x2 y0 y1 y2
        obtain ⟨x0, x1, x2, y0, y1, y2⟩ := HP1.out.ten
        go_wp2_with fail
        refine Calls.mono (HTK.out _ HP1.out.2.2.2) ?_
        rintro e w2 ⟨rfl, hb2⟩
        have HP2 : Hid (PK w (.slice (some ao) no co) (.int .i64 nw) (.slice (some at') nt ct) (.int .i64 t0) (.int .i64 t1) (.int .i64 t2) w2) := HP1.out.later hb2
        clear hb2 x0 x1 x2 y0 y1 y2
        obtain ⟨x0, x1, x2, y0, y1, y2⟩ := HP2.out.ten
        go_wp2_with fail
        refine Calls.mono (HAT.out _ HP2.out.2.2.2) ?_
        rintro e w3 ⟨rfl, hb3⟩
        have HP3 : Hid (PK w (.slice (some ao) no co) (.int .i64 nw) (.slice (some at') nt ct) (.int .i64 t0) (.int .i64 t1) (.int .i64 t2) w3) := HP2.out.later hb3
        clear hb3 x0 x1 x2 y0 y1 y2
        obtain ⟨x0, x1, x2, y0, y1, y2⟩ := HP3.out.ten
        go_wp2_with fail
        refine Calls.mono (HIL.out 7 _) ?_
        rintro e w4 ⟨rfl, hb4⟩
        have HP4 : Hid (PK w (.slice (some ao) no co) (.int .i64 nw) (.slice (some at') nt ct) (.int .i64 t0) (.int .i64 t1) (.int .i64 t2) w4) := HP3.out.later hb4
        obtain ⟨y0, y1, y2, y3, y4, y5, y6⟩ := seven HP4.out.2.1
        obtain ⟨z0, z1, z2, z3, z4, z5, z6⟩ := seven_free HP4.out.2.1
        clear hb4
        go_wp2_with fail
        refine bodyPost_ret (v := .agg #[.slice none 0 0, .int .i64 0, .slice none 0 0, .int .i64 0, .int .i64 0, .int .i64 0, .int .i64 7]) ?_ rfl ?_
        · simp [results, Try.results22, go_sem, y0, y1, y2, y3, y4, y5, y6]
        · exact ill_end 7 HP4.out.2.2.2 [.slice none 0 0, .int .i64 0, .slice none 0 0, .int .i64 0, .int .i64 0, .int .i64 0, .int .i64 7]
      · have hp2 : p < 0 := by omega
        obtain ⟨o, ho⟩ : ∃ o, o = oft x.order t0 := ⟨_, rfl⟩
        obtain ⟨N, hN⟩ : ∃ N, N = (ofL x.tasks t0).length := ⟨_, rfl⟩
        obtain ⟨q, hq⟩ : ∃ q : Int, q = 40 / (no : Int) := ⟨_, rfl⟩
        have hol := HOL.out
        have hNL := HLL2.out
        rw [← ho] at HFT HFU hol
        rw [← hq, ← hN] at HFU
        rw [← hN] at hNL
        have HLN : Hid ((ofL x.tasks t0).length = N) := hN.symm
        have hq0 : 0 ≤ q := by rw [hq]; exact Int.ediv_nonneg (by decide) (by omega)
        have hq1 : q ≤ 40 := by rw [hq]; exact Int.ediv_le_self _ (by decide)
        have hdiv : (40 : Int).tdiv (no : Int) = q := by rw [hq, Int.tdiv_eq_ediv_of_nonneg (by decide)]
        have hm0 : 0 ≤ q * (o : Int) := Int.mul_nonneg hq0 (by omega)
        have hm1 : q * (o : Int) ≤ 40 * 16 := Int.mul_le_mul hq1 (by omega) (by omega) (by decide)
        have hno1 : (no : Int) ≠ 0 := by omega
        have hno2 : ¬ no = 0 := by omega
        clear ho hN hq
        go_enter Try.func22, Try.ntmps22
        go_wp2_with fail
        rw [← hV]
        clear hV
        refine Calls.mono (HR.out _ HP.out.2.2.2) ?_
        rintro e w1 ⟨rfl, hb1⟩
        have HP1 : Hid (PK w (.slice (some ao) no co) (.int .i64 nw) (.slice (some at') nt ct) (.int .i64 t0) (.int .i64 t1) (.int .i64 t2) w1) := HP.out.later hb1
        clear hb1 x0 x1 x2 y0 y1 y2
        obtain ⟨x0, x1, x2, y0, y1, y2⟩ := HP1.out.ten
        go_wp2_with fail
        refine Calls.mono (HTK.out _ HP1.out.2.2.2) ?_
        rintro e w2 ⟨rfl, hb2⟩
        have HP2 : Hid (PK w (.slice (some ao) no co) (.int .i64 nw) (.slice (some at') nt ct) (.int .i64 t0) (.int .i64 t1) (.int .i64 t2) w2) := HP1.out.later hb2
        clear hb2 x0 x1 x2 y0 y1 y2
        obtain ⟨x0, x1, x2, y0, y1, y2⟩ := HP2.out.ten
        go_wp2_with fail
        refine Calls.mono (HAT.out _ HP2.out.2.2.2) ?_
        rintro e w3 ⟨rfl, hb3⟩
        have HP3 : Hid (PK w (.slice (some ao) no co) (.int .i64 nw) (.slice (some at') nt ct) (.int .i64 t0) (.int .i64 t1) (.int .i64 t2) w3) := HP2.out.later hb3
        clear hb3 x0 x1 x2 y0 y1 y2
        obtain ⟨x0, x1, x2, y0, y1, y2⟩ := HP3.out.ten
        go_wp2_with fail
        go_region_held3 (fun W => W.cell? ⟨w.heap.size, 0, none⟩ = some (.slice (some ao) no co) ∧ W.cell? ⟨w.heap.size, 1, none⟩ = some (.int .i64 nw) ∧ W.cell? ⟨w.heap.size, 2, none⟩ = some (.slice (some at') nt ct))
          (first | (with_reducible assumption) | exact HP4.out.three (Below.refl _ _) | exact HP3.out.three (Below.refl _ _) | exact HP3.out.three (bd0 _))
          (first
            | (go_at_call 47; refine Calls.mono (HOF2.out _ (bdd HP3.out.2.2.2)) ?_; (refine fun e w4 hh => ?_); (obtain ⟨v4, rfl, hk4, hb4⟩ := hh); (have HP4 : Hid (PK w (.slice (some ao) no co) (.int .i64 nw) (.slice (some at') nt ct) (.int .i64 t0) (.int .i64 t1) (.int .i64 t2) w4) := HP3.out.later ((bd0 w3).trans hb4)); (obtain ⟨a4, c4, hv4, -⟩ := OwnC.form hk4); (rw [List.length_map, HLN.out] at hv4); (clear hk4 hb4); (subst hv4))
            | (go_at_call 48; refine Calls.mono (HFT.out _ HP4.out.2.2.2) ?_; (refine fun e w5 hh => ?_); (obtain ⟨rfl, rfl⟩ := hh)))
        have hw1 : IntKind.i64.wrap q = q := IntWalk.i64_in _ (by omega)
        have hw2 : IntKind.i64.wrap (q * (o : Int)) = q * (o : Int) := IntWalk.i64_in _ (by omega)
        rw [hw1, hw2]
        clear hw1 hw2 hm0 hm1 hdiv hq0 hq1 x0 x1 x2 y0 y1 y2
        obtain ⟨x0, x1, x2, y0, y1, y2⟩ := HP4.out.ten
        generalize q * (o : Int) = P at *
        by_cases hf : P ≤ (N : Int)
        · have HE : Hid (D = illD 9) := by rw [Hid, HA.out, Bool.true_and, if_pos rfl, if_neg (by omega), if_pos (by rw [HFU.out]; exact decide_eq_true hf)]
          clear HA
          go_wp2_with fail
          refine Calls.mono (HIL.out 9 _) ?_
          rintro e w6 ⟨rfl, hb6⟩
          have HP6 : Hid (PK w (.slice (some ao) no co) (.int .i64 nw) (.slice (some at') nt ct) (.int .i64 t0) (.int .i64 t1) (.int .i64 t2) w6) := HP4.out.later hb6
          obtain ⟨y0, y1, y2, y3, y4, y5, y6⟩ := seven HP6.out.2.1
          obtain ⟨z0, z1, z2, z3, z4, z5, z6⟩ := seven_free HP6.out.2.1
          clear hb6
          go_wp2_with fail
          refine bodyPost_ret (v := .agg #[.slice none 0 0, .int .i64 0, .slice none 0 0, .int .i64 0, .int .i64 0, .int .i64 0, .int .i64 9]) ?_ rfl ?_
          · simp [results, Try.results22, go_sem, y0, y1, y2, y3, y4, y5, y6]
          · rw [HE.out]; exact ill_end 9 HP6.out.2.2.2 [.slice none 0 0, .int .i64 0, .slice none 0 0, .int .i64 0, .int .i64 0, .int .i64 0, .int .i64 9]
        · have HE : Hid (D = ⟨⟨x.order, x.now, x.tasks ++ [(t0, t1, t2)]⟩, (0, 0, 0), 0⟩) := by rw [Hid, HA.out, Bool.true_and, if_pos rfl, if_neg (by omega), if_neg (by rw [HFU.out, decide_eq_false hf]; exact Bool.false_ne_true)]
          have hf2 : (N : Int) < P := by omega
          clear HA
          go_wp2_with fail
          refine Calls.mono (HCP2.out _ HP4.out.2.2.2) ?_
          rintro e w6 ⟨a6, n6, c6, b6, m6, d6, rfl, hi6, ht6, hb6⟩
          have HP6 : Hid (PK w (.slice (some ao) no co) (.int .i64 nw) (.slice (some at') nt ct) (.int .i64 t0) (.int .i64 t1) (.int .i64 t2) w6) := HP4.out.later hb6
          have HI6 : Hid (Ints w5.heap.size w6 (.slice (some a6) n6 c6) x.order) := hi6
          have HT6 : Hid (Tks w5.heap.size w6 (.slice (some b6) m6 d6) x.tasks) := ht6
          have HS6 : Hid (w.heap.size + 1 + 1 < w5.heap.size) := HP4.out.2.2.1.lt
          have h56 : w5.heap.size ≤ w6.heap.size := hb6.size
          clear hb6 hi6 ht6 x0 x1 x2 y0 y1 y2
          obtain ⟨x0, x1, x2, y0, y1, y2⟩ := HP6.out.ten
          go_upto_region 9 with fail
          obtain ⟨U, hU⟩ : ∃ U, U = w6.alloc (.cells #[.slice (some a6) n6 c6, .int .i64 nw, .slice (some b6) m6 d6] 30) := ⟨_, rfl⟩
          have hbU : Below w6.heap.size w6 U := by rw [hU]; exact below_one _ _
          have HPU : Hid (PK w (.slice (some ao) no co) (.int .i64 nw) (.slice (some at') nt ct) (.int .i64 t0) (.int .i64 t1) (.int .i64 t2) U) := HP6.out.later hbU
          have HQU : Hid (Blk U w6.heap.size 30 [.slice (some a6) n6 c6, .int .i64 nw, .slice (some b6) m6 d6]) := by rw [Hid, hU]; exact blk_new _ _ _
          have HTU : Hid (Tks w5.heap.size U (.slice (some b6) m6 d6) x.tasks) := OwnC.later HT6.out hbU
          have HIU : Hid (Ints w5.heap.size U (.slice (some a6) n6 c6) x.order) := OwnC.later HI6.out hbU
          have HG6 : Hid (∀ g, (Value.slice (some b6) m6 d6).ownBlock = some g → w5.heap.size ≤ g ∧ g < w6.heap.size) := fun g hg => World.ownsRow.lt HT6.out.row g hg
          have hUs : w5.heap.size ≤ U.heap.size := Nat.le_trans h56 hbU.size
          have HTL : Hid ((x.tasks.map ctk).length ≤ 40) := by show _ ≤ _; rw [List.length_map]; exact ht40
          rw [← hU]
          clear hU hbU x0 x1 x2 y0 y1 y2
          obtain ⟨x0, x1, x2, y0, y1, y2⟩ := HPU.out.ten
          obtain ⟨k0, k1, k2⟩ := cells3s HQU.out
          have HSTEP : Hid (∀ (v' : Value) (w7 : World) (o2 : Obj), w7.ownsRow w5.heap.size 35 3 v' ((x.tasks.map ctk).length + 1) ((x.tasks.map ctk).flatten ++ ctk (t0, t1, t2)) → (U.alloc o2).grownBy w7 (Value.slice (some b6) m6 d6).ownBlock → Tks w5.heap.size w7 v' (x.tasks ++ [(t0, t1, t2)]) ∧ Ints w5.heap.size w7 (.slice (some a6) n6 c6) x.order ∧ Below w.heap.size w w7 ∧ Blk w7 w6.heap.size 30 [.slice (some a6) n6 c6, .int .i64 nw, .slice (some b6) m6 d6] ∧ Blk w7 (w.heap.size + 1) 37 [.slice none 0 0, .int .i64 0, .slice none 0 0, .int .i64 0, .int .i64 0, .int .i64 0, .int .i64 0]) := fun v' w7 o2 own gr => by
            have ha := below_one U o2
            refine ⟨?_, ?_, ?_, ?_, ?_⟩
            · unfold Tks
              rw [List.map_append]
              exact OwnC.push (w := U) HTU.out rfl own
            · have hI := OwnC.later HIU.out ha
              refine own_kept hI (fun g hg => gr.block g (World.ownsRow.lt (OwnC.row hI) g hg).2 (fun e => ?_))
              exact own_apart (OwnC.later HIU.out ha) (OwnC.later HTU.out ha) (by decide) g hg e.symm
            · exact (below_tr HPU.out.2.2.2 ha).grown gr (below_tr HPU.out.2.2.2 ha).size (fun k e => by have h1 := (HG6.out k e).1; have h2 := HS6.out; omega)
            · exact (gr.block _ (HQU.out.later ha).lt (fun e => by have := (HG6.out _ e.symm).2; omega)).trans (HQU.out.later ha)
            · exact (gr.block _ (HPU.out.2.1.later ha).lt (fun e => by have h1 := (HG6.out _ e.symm).1; have h2 := HS6.out; omega)).trans (HPU.out.2.1.later ha)
          go_upto_region 10 with (at_builtin; go_loud (refine wpList_append_own _ rfl _ _ 28 rfl w5.heap.size 35 i0 (.agg #[.int .i64 0, .int .i64 0, .int .i64 0]) 3 24 Try.underlying28 hi hz0 hz1 hz2 rfl (by decide) _ _ _ rfl (HTU.out.row.alloc _) ⟨U.heap.size, 0, none⟩ 1 1 (ctk (t0, t1, t2)) rfl rfl (new_cells U _ _) (ctk_one _) (by have := HTL.out; unfold maxLen; omega) (by have := HTL.out; omega) (by simp; omega) ?_); intro v' w7 own7 gr7 nn7; obtain ⟨HT7, HI7, HB7, HQ7, HR7⟩ := HSTEP.out _ _ _ own7 gr7; obtain ⟨b7, m7, d7, rfl⟩ := own_some HT7 (fun e => sl_ne (nn7.1 e).1); have HT7 : Hid _ := HT7; have HI7 : Hid _ := HI7; have HB7 : Hid _ := HB7; have HQ7 : Hid (Blk w7 w6.heap.size 30 [.slice (some a6) n6 c6, .int .i64 nw, .slice (some b6) m6 d6]) := HQ7; have HR7 : Hid (Blk w7 (w.heap.size + 1) 37 [.slice none 0 0, .int .i64 0, .slice none 0 0, .int .i64 0, .int .i64 0, .int .i64 0, .int .i64 0]) := HR7; clear own7 gr7 nn7; obtain ⟨j0, j1, j2⟩ := cells3s HQ7.out; obtain ⟨l0, l1, l2⟩ := free3 HQ7.out)
          obtain ⟨G, hG⟩ : ∃ G, G = w7.setCell ⟨w6.heap.size, 2, none⟩ (.slice (some b7) m7 d7) := ⟨_, rfl⟩
          have hG2 : G = putW w7 w6.heap.size 2 [.slice (some b7) m7 d7] := hG
          have hwlt : w.heap.size + 1 < w6.heap.size := by have := HS6.out; omega
          have HQG : Blk G w6.heap.size 30 [.slice (some a6) n6 c6, .int .i64 nw, .slice (some b7) m7 d7] := by rw [hG2]; exact HQ7.out.put [.slice (some b7) m7 d7] 2
          have HRG : Hid (Blk G (w.heap.size + 1) 37 [.slice none 0 0, .int .i64 0, .slice none 0 0, .int .i64 0, .int .i64 0, .int .i64 0, .int .i64 0]) := by rw [Hid, hG2]; exact HR7.out.other _ _ _ (by omega)
          have HTG : Tks w5.heap.size G (.slice (some b7) m7 d7) (x.tasks ++ [(t0, t1, t2)]) := by
            rw [hG2]
            refine own_kept HT7.out (fun g hg => putW_other _ _ _ _ _ (fun e => ?_))
            exact own_ne HT7.out HQ7.out (by decide) g hg e
          have HIG : Ints w5.heap.size G (.slice (some a6) n6 c6) x.order := by
            rw [hG2]
            refine own_kept HI7.out (fun g hg => putW_other _ _ _ _ _ (fun e => ?_))
            exact own_ne HI7.out HQ7.out (by decide) g hg e
          have HBG : Below w.heap.size w G := by rw [hG2]; exact putW_below _ HB7.out (by omega)
          have HEND : Hid (SpecAns D w (.returned (.agg #[.slice (some a6) n6 c6, .int .i64 nw, .slice (some b7) m7 d7, .int .i64 0, .int .i64 0, .int .i64 0, .int .i64 0])) (putW G (w.heap.size + 1) 0 [.slice (some a6) n6 c6, .int .i64 nw, .slice (some b7) m7 d7, .int .i64 0, .int .i64 0, .int .i64 0, .int .i64 0])) := by
            rw [Hid, HE.out, HNW.out]
            exact ans_end (d := ⟨⟨x.order, x.now, x.tasks ++ [(t0, t1, t2)]⟩, (0, 0, 0), 0⟩) HBG (Nat.lt_of_succ_lt HS6.out) ⟨OwnC.plain HIG, OwnC.plain HTG⟩ _
          rw [← hG]
          clear hG hG2 x0 x1 x2 y0 y1 y2 k0 k1 k2
          obtain ⟨x0, x1, x2⟩ := cells3s HQG
          obtain ⟨y0, y1, y2, y3, y4, y5, y6⟩ := seven HRG.out
          obtain ⟨z0, z1, z2, z3, z4, z5, z6⟩ := seven_free HRG.out
          go_wp2_with fail
          refine bodyPost_ret (v := .agg #[.slice (some a6) n6 c6, .int .i64 nw, .slice (some b7) m7 d7, .int .i64 0, .int .i64 0, .int .i64 0, .int .i64 0]) ?_ rfl ?_
          · simp [results, Try.results22, go_sem, y0, y1, y2, y3, y4, y5, y6]
          · exact HEND.out
end Go.Proofs.Ytnkkkdhpopfahaa.sch
