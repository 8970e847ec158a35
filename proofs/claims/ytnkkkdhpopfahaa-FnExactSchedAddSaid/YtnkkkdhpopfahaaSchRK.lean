/-
  The program's tasksRight and SchedRight. No condition but that a row is no longer than its room.
-/
import Derived.Test.YtnkkkdhpopfahaaSchRJ
namespace Go.Proofs.Ytnkkkdhpopfahaa.sch
open Go.RowKit Go.Deep Go.Sort
open Go.Proofs.Ytnkkkdhpopfahaa
open Go.Proofs.Ytnkkkdhpopfahaa.deep
set_option linter.unusedVariables false
set_option maxRecDepth 100000

def tasksB (l : List Int) (ts : List Tt) : Bool := decide (ts.length ≤ 40) && decide (∀ j (h : j < ts.length), (taskB l ts[j] && !has (ts.take j) ts[j].1 ts[j].2.1) = true)
theorem tasksB_no {l : List Int} {ts : List Tt} {j : Nat} (hj : j < ts.length) (h : (taskB l ts[j] && !has (ts.take j) ts[j].1 ts[j].2.1) = false) : tasksB l ts = false := by
  unfold tasksB
  have : ¬ ∀ j (h : j < ts.length), (taskB l ts[j] && !has (ts.take j) ts[j].1 ts[j].2.1) = true := fun ha => by rw [ha j hj] at h; cases h
  simp only [this, decide_false, Bool.and_false]
theorem tasksB_yes {l : List Int} {ts : List Tt} (h40 : ts.length ≤ 40) (h : ∀ j (h : j < ts.length), (taskB l ts[j] && !has (ts.take j) ts[j].1 ts[j].2.1) = true) : tasksB l ts = true := by
  unfold tasksB
  rw [decide_eq_true h40, decide_eq_true h]; rfl
theorem tasksB_long {l : List Int} {ts : List Tt} (h40 : 40 < ts.length) : tasksB l ts = false := by
  unfold tasksB
  rw [decide_eq_false (by omega)]; rfl
theorem sched_parts (x : SchedD) : schedB x = (orderB x.order && (decide (0 ≤ x.now) && (decide (x.now ≤ 999999) && tasksB x.order x.tasks))) := by
  have e : decide (∀ j (h : j < x.tasks.length), okAt x j h = true) = decide (∀ j (h : j < x.tasks.length), (taskB x.order x.tasks[j] && !has (x.tasks.take j) x.tasks[j].1 x.tasks[j].2.1) = true) := by
    congr 1
    apply propext
    constructor
    · intro H j hj
      have := H j hj
      rw [okAt, at_self hj] at this
      exact this
    · intro H j hj
      rw [okAt, at_self hj]
      exact H j hj
  unfold schedB tasksB
  rw [e]
  have e2 : isB x.now 0 999999 = (decide (0 ≤ x.now) && decide (x.now ≤ 999999)) := by rw [isB]; simp
  rw [e2, Bool.and_assoc]

set_option maxHeartbeats 8000000 in
theorem impl_tasks {lo lo2 : Nat} {w : World} {vo : Value} {l : List Int} {ts : List Tt} (a : Option Addr) (n c : Nat) (hnc : n ≤ c) (h : RowE (Plain ctk) 3 lo w (.slice a n c) ts) (h2 : RowE (Plain cint) 1 lo2 w vo l) : Calls Try.prog 42 #[.slice a n c, vo] w fun e w' => e = .returned (.bool (tasksB l ts)) ∧ Below w.heap.size w w' := by
  obtain ⟨a', c', hv, hm, h3⟩ := tk_at h
  cases hv
  obtain ⟨n, hn⟩ : ∃ n, n = ts.length := ⟨_, rfl⟩
  have HN : Hid (n = ts.length) := hn
  have HRT : Hid (∀ t0 t1 t2 W, Below w.heap.size w W → Calls Try.prog 50 #[.agg #[.int .i64 t0, .int .i64 t1, .int .i64 t2], vo] W fun e w' => e = .returned (.bool (taskB l (t0, t1, t2))) ∧ Below W.heap.size W w') := fun t0 t1 t2 W hW => impl_task l t0 t1 t2 (h2.below (plain_stays _) hW)
  have HTH : Hid (∀ j, j ≤ ts.length → ∀ q0 q1 q2 W, Below w.heap.size w W → Calls Try.prog 51 #[.slice a j c, .agg #[.int .i64 q0, .int .i64 q1, .int .i64 q2]] W fun e w' => e = .returned (.bool (has (ts.take j) q0 q1)) ∧ Below W.heap.size W w') := fun j hj q0 q1 q2 W hW => impl_there q0 q1 q2 (row_take (h.below (plain_stays _) hW) hj)
  have H3 : Hid (0 < ts.length → ∃ g o, a = some ⟨g, o, none⟩ ∧ g < w.heap.size ∧ ∀ i (hi : i < ts.length), w.cell? ⟨g, o + i * 3, none⟩ = some (.int .i64 ts[i].1) ∧ w.cell? ⟨g, o + i * 3 + 1, none⟩ = some (.int .i64 ts[i].2.1) ∧ w.cell? ⟨g, o + i * 3 + 2, none⟩ = some (.int .i64 ts[i].2.2)) := h3
  have HNO : Hid (∀ j (hj : j < ts.length), (taskB l ts[j] && !has (ts.take j) ts[j].1 ts[j].2.1) = false → tasksB l ts = false) := fun j hj h => tasksB_no hj h
  have HYES : Hid (ts.length ≤ 40 → (∀ j (h : j < ts.length), (taskB l ts[j] && !has (ts.take j) ts[j].1 ts[j].2.1) = true) → tasksB l ts = true) := tasksB_yes
  have HLONG : Hid (40 < ts.length → tasksB l ts = false) := tasksB_long
  generalize tasksB l ts = R at *
  obtain ⟨ao, co, hvo, -⟩ := int_at h2
  generalize l.length = no at hvo
  subst hvo
  rw [← hn] at hm hnc ⊢
  unfold maxLen at hm
  clear hn h3 h h2
  by_cases h40 : 40 < n
  · have HE : Hid (R = false) := HLONG.out (by rw [← HN.out]; exact h40)
    clear HLONG HYES HNO
    go_enter Try.func42, Try.ntmps42
    go_wp2_with fail
    go_ret
    exact ⟨by rw [HE.out]; first | rfl | simp, Below.refl _ _⟩
  · have HYE : Hid ((∀ j (h : j < ts.length), (taskB l ts[j] && !has (ts.take j) ts[j].1 ts[j].2.1) = true) → R = true) := HYES.out (by rw [← HN.out]; omega)
    clear HLONG HYES
    go_enter Try.func42, Try.ntmps42
    go_wp2_with fail
    go_loopw [12] (fun ti wr => ∃ j : Nat, j ≤ n ∧ ti = .int .i64 j ∧ Hid (∀ k (hk : k < ts.length), k < j → (taskB l ts[k] && !has (ts.take k) ts[k].1 ts[k].2.1) = true) ∧ Hid (Below w.heap.size w wr)) (fun ti _ => n - (intOf ti).toNat)
    case atStart => exact ⟨0, by omega, rfl, fun i _ h => absurd h (by omega), Below.refl _ _⟩
    case round =>
      obtain ⟨j, hj, rfl, H, HB⟩ := hrel
      by_cases hlt : j < n
      · have hlx : j < ts.length := by rw [← HN.out]; exact hlt
        obtain ⟨g, o, rfl, hg, hc⟩ := H3.out (by omega)
        obtain ⟨f0, f1, f2⟩ := hc j hlx
        have e0 := (HB.out.cell (p := ⟨g, o + j * 3, none⟩) hg).trans f0
        have e1 := (HB.out.cell (p := ⟨g, o + j * 3 + 1, none⟩) hg).trans f1
        have e2 := (HB.out.cell (p := ⟨g, o + j * 3 + 2, none⟩) hg).trans f2
        have HOJ : Hid ((taskB l ts[j] && !has (ts.take j) ts[j].1 ts[j].2.1) = true → ∀ k (hk : k < ts.length), k < j + 1 → (taskB l ts[k] && !has (ts.take k) ts[k].1 ts[k].2.1) = true) := fun h k hk hlt2 => by
          by_cases e : k = j
          · subst e; exact h
          · exact H.out k hk (by omega)
        have HNJ : Hid ((taskB l ts[j] && !has (ts.take j) ts[j].1 ts[j].2.1) = false → R = false) := HNO.out j hlx
        have HRJ : Hid (∀ W, Below w.heap.size w W → Calls Try.prog 50 #[.agg #[.int .i64 ts[j].1, .int .i64 ts[j].2.1, .int .i64 ts[j].2.2], .slice ao no co] W fun e w' => e = .returned (.bool (taskB l ts[j])) ∧ Below W.heap.size W w') := fun W hW => HRT.out _ _ _ W hW
        have HTJ : Hid (∀ W, Below w.heap.size w W → Calls Try.prog 51 #[.slice (some ⟨g, o, none⟩) j c, .agg #[.int .i64 ts[j].1, .int .i64 ts[j].2.1, .int .i64 ts[j].2.2]] W fun e w' => e = .returned (.bool (has (ts.take j) ts[j].1 ts[j].2.1)) ∧ Below W.heap.size W w') := fun W hW => HTH.out j (Nat.le_of_lt hlx) _ _ _ W hW
        generalize taskB l ts[j] = tb at *
        generalize has (ts.take j) ts[j].1 ts[j].2.1 = hb at *
        clear hc f0 f1 f2
        generalize ts[j] = x at *
        obtain ⟨p0, p1, p2⟩ := x
        simp only at e0 e1 e2 HRJ HTJ
        obtain ⟨V, hV⟩ : ∃ V, V = wr.alloc (.cells #[.int .i64 p0, .int .i64 p1, .int .i64 p2] 35) := ⟨_, rfl⟩
        have hbV : Below wr.heap.size wr V := by rw [hV]; exact below_one _ _
        have hX : Blk V wr.heap.size 35 [.int .i64 p0, .int .i64 p1, .int .i64 p2] := by rw [hV]; exact blk_new _ _ _
        obtain ⟨x0, x1, x2⟩ := cells3s hX
        have HBR : Hid (Below w.heap.size w V) := below_tr HB.out hbV
        have cT : ∀ d os, _ := fun d os => Calls.regrown_of (w := V) (d := d) (os := os) (HRJ.out _ (HBR.out.trans ((below_regrown V d os).mono HBR.out.size)))
        have cA : ∀ d os, _ := fun d os => Calls.regrown_of (w := V) (d := d) (os := os) (HTJ.out _ (HBR.out.trans ((below_regrown V d os).mono HBR.out.size)))
        have kx0 := cell_regrown x0
        have kx1 := cell_regrown x1
        have kx2 := cell_regrown x2
        clear hX hbV
        cases tb with
        | false =>
          have HE : Hid (R = false) := HNJ.out rfl
          clear HOJ HNJ
          go_upto_region 6 with fail
          rw [← hV]
          clear hV e0 e1 e2
          refine wp_region_quiet_below (by kernel_rfl) (by kernel_rfl) ?_
          repeat (go_big_quiet_step (first | (go_at_call 50; exact cT _ _) | (go_at_call 51; exact cA _ _)))
          refine wpQuiet_nil ?_
          intro _ hw'
          obtain ⟨⟨dq, osq⟩, hw''⟩ := hw'
          subst hw''
          have HB2 : Hid (Below w.heap.size w (grow (redrawn V dq) osq)) := HBR.out.trans ((below_regrown V dq osq).mono HBR.out.size)
          go_wp2_with fail
          go_ret
          exact ⟨by rw [HE.out]; first | rfl | simp, HB2.out⟩
        | true =>
          cases hb with
          | true =>
            have HE : Hid (R = false) := HNJ.out rfl
            clear HOJ HNJ
            go_upto_region 6 with fail
            rw [← hV]
            clear hV e0 e1 e2
            refine wp_region_quiet_below (by kernel_rfl) (by kernel_rfl) ?_
            repeat (go_big_quiet_step (first | (go_at_call 50; exact cT _ _) | (go_at_call 51; exact cA _ _)))
            refine wpQuiet_nil ?_
            intro _ hw'
            obtain ⟨⟨dq, osq⟩, hw''⟩ := hw'
            subst hw''
            have HB2 : Hid (Below w.heap.size w (grow (redrawn V dq) osq)) := HBR.out.trans ((below_regrown V dq osq).mono HBR.out.size)
            go_wp2_with fail
            go_ret
            exact ⟨by rw [HE.out]; first | rfl | simp, HB2.out⟩
          | false =>
            have HS : Hid _ := HOJ.out rfl
            clear HOJ HNJ
            go_upto_region 6 with fail
            rw [← hV]
            clear hV e0 e1 e2
            refine wp_region_quiet_below (by kernel_rfl) (by kernel_rfl) ?_
            repeat (go_big_quiet_step (first | (go_at_call 50; exact cT _ _) | (go_at_call 51; exact cA _ _)))
            refine wpQuiet_nil ?_
            intro _ hw'
            obtain ⟨⟨dq, osq⟩, hw''⟩ := hw'
            subst hw''
            have HB2 : Hid (Below w.heap.size w (grow (redrawn V dq) osq)) := HBR.out.trans ((below_regrown V dq osq).mono HBR.out.size)
            go_wp2_with fail
            go_roundw
            case rel => exact ⟨j + 1, by omega, by go_num, HS.out, HB2.out⟩
            case measure => simp [intOf]; omega
      · obtain rfl : j = n := by omega
        have HE : Hid (R = true) := HYE.out fun k hk => H.out k hk (by rw [HN.out]; exact hk)
        go_wp2_with fail
        go_ret
        exact ⟨by rw [HE.out]; first | rfl | simp, HB.out⟩

theorem impl_right (x : SchedD) {lo : Nat} {w : World} {vo : Value} (a : Option Addr) (n c : Nat) (hnc : n ≤ c) (h : SF lo w vo (.slice a n c) x) : Calls Try.prog 12 #[.agg #[vo, .int .i64 x.now, .slice a n c]] w fun e w' => e = .returned (.bool (schedB x)) ∧ Below w.heap.size w w' := by
  have HP := sched_parts x
  have HOR : Hid (∀ W, Below w.heap.size w W → Calls Try.prog 41 #[vo] W fun e w' => e = .returned (.bool (orderB x.order)) ∧ w' = W) := fun W hW => impl_turns (h.1.below (plain_stays _) hW)
  have HTK : Hid (∀ W, Below w.heap.size w W → Calls Try.prog 42 #[.slice a n c, vo] W fun e w' => e = .returned (.bool (tasksB x.order x.tasks)) ∧ Below W.heap.size W w') := fun W hW => impl_tasks a n c hnc (h.2.below (plain_stays _) hW) (h.1.below (plain_stays _) hW)
  obtain ⟨ao, co, hvo, -⟩ := int_at h.1
  generalize x.order.length = no at hvo
  subst hvo
  obtain ⟨nw, hnw⟩ : ∃ q, q = x.now := ⟨_, rfl⟩
  rw [← hnw] at HP ⊢
  obtain ⟨V, hV⟩ : ∃ V, V = w.alloc (.cells #[.slice ao no co, .int .i64 nw, .slice a n c] 30) := ⟨_, rfl⟩
  have hbV : Below w.heap.size w V := by rw [hV]; exact below_one _ _
  have hX : Blk V w.heap.size 30 [.slice ao no co, .int .i64 nw, .slice a n c] := by rw [hV]; exact blk_new _ _ _
  obtain ⟨x0, x1, x2⟩ := cells3s hX
  have HB : Hid (Below w.heap.size w V) := hbV
  generalize schedB x = R at *
  generalize orderB x.order = ob at *
  generalize tasksB x.order x.tasks = tb at *
  clear h hX hbV hnw
  have HPH : Hid (R = (ob && (decide (0 ≤ nw) && (decide (nw ≤ 999999) && tb)))) := HP
  clear HP
  cases ob with
  | false =>
    have HE : Hid (R = false) := by rw [Hid, HPH.out]; rfl
    clear HPH
    go_enter Try.func12, Try.ntmps12
    go_wp2_with fail
    rw [← hV]
    clear hV
    refine Calls.mono (HOR.out _ HB.out) ?_
    rintro e w1 ⟨rfl, rfl⟩
    go_wp2_with fail
    go_ret
    exact ⟨by rw [HE.out]; first | rfl | simp, HB.out⟩
  | true =>
    by_cases h1 : 0 ≤ nw
    · by_cases h2 : nw ≤ 999999
      · have HE : Hid (R = tb) := by rw [Hid, HPH.out]; simp [h1, h2]
        clear HPH
        go_enter Try.func12, Try.ntmps12
        go_wp2_with fail
        rw [← hV]
        clear hV
        refine Calls.mono (HOR.out _ HB.out) ?_
        rintro e w1 ⟨rfl, rfl⟩
        go_wp2_with fail
        refine Calls.mono (HTK.out _ HB.out) ?_
        rintro e w2 ⟨rfl, hb2⟩
        have HB2 : Hid (Below w.heap.size w w2) := below_tr HB.out hb2
        clear hb2
        go_wp2_with fail
        go_ret
        exact ⟨by rw [HE.out]; first | rfl | (simp; omega) | (cases tb <;> simp <;> omega), HB2.out⟩
      · have HE : Hid (R = false) := by rw [Hid, HPH.out]; simp [h2]
        clear HPH
        go_enter Try.func12, Try.ntmps12
        go_wp2_with fail
        rw [← hV]
        clear hV
        refine Calls.mono (HOR.out _ HB.out) ?_
        rintro e w1 ⟨rfl, rfl⟩
        go_wp2_with fail
        go_ret
        exact ⟨by rw [HE.out]; first | rfl | (simp; done) | (simp; omega), HB.out⟩
    · have HE : Hid (R = false) := by rw [Hid, HPH.out]; simp [h1]
      clear HPH
      go_enter Try.func12, Try.ntmps12
      go_wp2_with fail
      rw [← hV]
      clear hV
      refine Calls.mono (HOR.out _ HB.out) ?_
      rintro e w1 ⟨rfl, rfl⟩
      go_wp2_with fail
      go_ret
      exact ⟨by rw [HE.out]; first | rfl | (simp; done) | (simp; omega), HB.out⟩
end Go.Proofs.Ytnkkkdhpopfahaa.sch
