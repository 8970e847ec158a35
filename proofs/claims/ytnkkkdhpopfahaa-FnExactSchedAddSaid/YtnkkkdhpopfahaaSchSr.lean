/-
  The specification's SchedRun. Condition: the Sched's lists are no nil lists.
-/
import Derived.Test.YtnkkkdhpopfahaaSchSk
namespace Go.Proofs.Ytnkkkdhpopfahaa.sch
open Go.RowKit Go.Deep Go.Sort
open Go.Proofs.Ytnkkkdhpopfahaa
open Go.Proofs.Ytnkkkdhpopfahaa.deep
set_option linter.unusedVariables false
set_option maxRecDepth 100000

/-- the Sched behind some turns, and what ran -/
def stN : Nat → SchedD → SchedD | 0, x => x | j + 1, x => tickX (stN j x)
def ranN : Nat → SchedD → List Tt | 0, _ => [] | j + 1, x => ranN j x ++ [(tickD (stN j x)).r]
/-- how many turns a run takes -/
def turnsN (x : SchedD) (many : Int) : Nat := min many.toNat (999999 - x.now).toNat
def runL (x : SchedD) (many : Int) : List Tt := if schedB x && isB many 1 200 then ranN (turnsN x many) x else []
theorem ran_len : ∀ (j : Nat) (x : SchedD), (ranN j x).length = j
  | 0, _ => rfl
  | j + 1, x => by rw [ranN, List.length_append, ran_len j x]; rfl
theorem st_order : ∀ (j : Nat) (x : SchedD), (stN j x).order = x.order
  | 0, _ => rfl
  | j + 1, x => st_order j x
theorem st_now : ∀ (j : Nat) (x : SchedD), (stN j x).now = x.now + j
  | 0, x => by simp [stN]
  | j + 1, x => by show (stN j x).now + 1 = _; rw [st_now j x]; push_cast; omega
theorem left_need {ts : List Tt} {l : Int} (h : ∀ t ∈ ts, 1 ≤ t.2.2 ∧ t.2.2 ≤ 99) : ∀ t ∈ leftT ts l, 1 ≤ t.2.2 ∧ t.2.2 ≤ 99 := by
  intro t ht
  unfold leftT at ht
  cases hf : ts.find? (mine l) with
  | none => rw [hf] at ht; exact h t ht
  | some y =>
    rw [hf] at ht
    simp only at ht
    rcases List.mem_append.1 ht with h1 | h1
    · exact h t (List.eraseP_sublist.subset h1)
    · have hy := h y (List.mem_of_find?_eq_some hf)
      unfold backT at h1
      split at h1
      · rw [List.mem_singleton.1 h1]; simp only; omega
      · simp at h1
theorem left_len {ts : List Tt} {l : Int} : (leftT ts l).length ≤ ts.length := by
  unfold leftT
  cases hf : ts.find? (mine l) with
  | none => exact Nat.le_refl _
  | some y =>
    have h1 : (ts.eraseP (mine l)).length = ts.length - 1 := List.length_eraseP_of_mem (List.mem_of_find?_eq_some hf) (List.find?_some hf)
    have h2 : 0 < ts.length := List.length_pos_of_mem (List.mem_of_find?_eq_some hf)
    have h3 : (backT l y).length ≤ 1 := by unfold backT; split <;> simp
    simp only [List.length_append]
    omega
theorem st_need : ∀ (j : Nat) (x : SchedD), (∀ t ∈ x.tasks, 1 ≤ t.2.2 ∧ t.2.2 ≤ 99) → ∀ t ∈ (stN j x).tasks, 1 ≤ t.2.2 ∧ t.2.2 ≤ 99
  | 0, _, h => h
  | j + 1, x, h => left_need (st_need j x h)
theorem st_len : ∀ (j : Nat) (x : SchedD), (stN j x).tasks.length ≤ x.tasks.length
  | 0, _ => Nat.le_refl _
  | j + 1, x => Nat.le_trans left_len (st_len j x)
theorem tick_at (y : SchedD) (q r0 r1 r2 : Int) (hq : q = y.now) (hr : (tickD y).r = (r0, r1, r2)) (h1 : 1 ≤ y.order.length) (h2 : y.order.length ≤ 16) (hn0 : 0 ≤ q) (hn1 : q < 999999) (ht : y.tasks.length ≤ 1000) (hnd : ∀ t ∈ y.tasks, 1 ≤ t.2.2 ∧ t.2.2 ≤ 99) (W : World) (a b : Addr) (n c m d : Nat) (hmd : m ≤ d) (h : SF 0 W (.slice (some a) n c) (.slice (some b) m d) y) :
    Calls Try.prog 56 #[.agg #[.slice (some a) n c, .int .i64 q, .slice (some b) m d]] W fun e w' => ∃ a n c b m d, e = .returned (.agg #[.slice (some a) n c, .int .i64 (q + 1), .slice (some b) m d, .int .i64 r0, .int .i64 r1, .int .i64 r2, .int .i64 0]) ∧ SF W.heap.size w' (.slice (some a) n c) (.slice (some b) m d) (tickX y) ∧ m ≤ d ∧ Below W.heap.size W w' := by
  subst hq
  refine Calls.mono (spec_tick y a b n c m d hmd h h1 h2 hn0 hn1 ht hnd) ?_
  rintro e w' ⟨a', n', c', b', m', d', rfl, hs, hm, hb⟩
  refine ⟨a', n', c', b', m', d', ?_, hs, hm, hb⟩
  have hy : (tickD y).y.now = y.now + 1 := rfl
  have hcd : (tickD y).code = 0 := rfl
  unfold soV soC soL
  rw [hr, hy, hcd]
/-- where a run stands -/
def RunAt (x : SchedD) (X : Nat) (q : Int) (j : Nat) (wr : World) : Prop := ∃ a n c b m d, m ≤ d ∧ Blk wr X 30 [.slice (some a) n c, .int .i64 q, .slice (some b) m d] ∧ SF 0 wr (.slice (some a) n c) (.slice (some b) m d) (stN j x)
theorem run_step {x : SchedD} {j : Nat} {q r0 r1 r2 : Int} {w wr w2 w3 : World} {tv v' : Value} {a b : Addr} {n c m d : Nat} {o1 o2 : Obj} (hO : Tks (w.heap.size + 1) wr tv (ranN j x)) (hB : Below w.heap.size w wr) (hX : w.heap.size < wr.heap.size) (hmd : m ≤ d) (hs : SF wr.heap.size w2 (.slice (some a) n c) (.slice (some b) m d) (stN (j + 1) x)) (hb2 : Below wr.heap.size wr w2) {u0 u1 u2 : Value}
    (hXb : Blk wr w.heap.size 30 [u0, u1, u2]) (hr : (tickD (stN j x)).r = (r0, r1, r2))
    (own : w3.ownsRow (w.heap.size + 1) 35 3 v' (((ranN j x).map ctk).length + 1) (((ranN j x).map ctk).flatten ++ ctk (r0, r1, r2))) (gr : ((putW (w2.alloc o1) w.heap.size 0 [.slice (some a) n c, .int .i64 q, .slice (some b) m d]).alloc o2).grownBy w3 tv.ownBlock) :
    Tks (w.heap.size + 1) w3 v' (ranN (j + 1) x) ∧ Below w.heap.size w w3 ∧ RunAt x w.heap.size q (j + 1) w3 := by
  obtain ⟨G, hG⟩ : ∃ G, G = putW (w2.alloc o1) w.heap.size 0 [.slice (some a) n c, .int .i64 q, .slice (some b) m d] := ⟨_, rfl⟩
  rw [← hG] at gr
  have hb3 : Below wr.heap.size wr (w2.alloc o1) := hb2.alloc hb2.size _
  have hBG : Below w.heap.size w G := by rw [hG]; exact putW_below _ (below_tr hB hb3) (Nat.le_refl _)
  have hXG : Blk G w.heap.size 30 [.slice (some a) n c, .int .i64 q, .slice (some b) m d] := by rw [hG]; exact (hXb.later hb3).put _ 0
  have hGs : G.heap.size = w2.heap.size + 1 := by rw [hG, putW_size]; simp
  have hsG : SF wr.heap.size G (.slice (some a) n c) (.slice (some b) m d) (stN (j + 1) x) := by
    rw [hG]
    exact (hs.later (below_one w2 o1)).keep (putW_keep _ _ _ _ wr.heap.size hX) (Nat.le_refl _) (Nat.le_refl _)
  have hw2 := hb2.size
  have hge : ∀ k, tv.ownBlock = some k → w.heap.size + 1 ≤ k ∧ k < wr.heap.size := fun k hk => World.ownsRow.lt hO.row k hk
  have hsG2 := hsG.later (below_one G o2)
  have hs3 : SF wr.heap.size w3 (.slice (some a) n c) (.slice (some b) m d) (stN (j + 1) x) :=
    hsG2.keep (lo := wr.heap.size) ⟨gr.size, fun k hk hl => gr.block k hl (fun e => by have := (hge k e.symm).2; omega)⟩ (Nat.le_refl _) (Nat.le_refl _)
  refine ⟨?_, (hBG.alloc hBG.size _).grown gr (by simp; have := hBG.size; omega) (fun k e => by have := (hge k e).1; omega), a, n, c, b, m, d, hmd, (gr.block w.heap.size (by simp; omega) (fun e => by have := (hge _ e.symm).1; omega)).trans (hXG.later (below_one G o2)), rowE_lowers (plain_lowers _) hs3.1 (Nat.zero_le _), rowE_lowers (plain_lowers _) hs3.2 (Nat.zero_le _)⟩
  unfold Tks
  rw [ranN, hr, List.map_append]
  exact OwnC.push (w := wr) hO rfl own
set_option maxHeartbeats 8000000 in
theorem spec_run (x : SchedD) (many : Int) (ao at' : Addr) (no co nt ct : Nat) (hnc : nt ≤ ct) {lo : Nat} {w : World} (h : SF lo w (.slice (some ao) no co) (.slice (some at') nt ct) x) : Calls Try.prog 27 #[.agg #[.slice (some ao) no co, .int .i64 x.now, .slice (some at') nt ct], .int .i64 many] w (OfPost (runL x many) w) := by
  have HR : Hid (∀ W, Below w.heap.size w W → Calls Try.prog 10 #[.agg #[.slice (some ao) no co, .int .i64 x.now, .slice (some at') nt ct]] W fun e w' => e = .returned (.bool (schedB x)) ∧ Below W.heap.size W w') := fun W hW => spec_right x (h.later hW)
  have HIS : Hid (∀ W, Calls Try.prog 37 #[.int .i64 many, .int .i64 1, .int .i64 200] W fun e w' => e = .returned (.bool (isB many 1 200)) ∧ w' = W) := fun W => spec_isS _ _ _ W
  obtain ⟨V, hV⟩ : ∃ V, V = (w.alloc (.cells #[.slice (some ao) no co, .int .i64 x.now, .slice (some at') nt ct] 30)).alloc (.cells #[] 35) := ⟨_, rfl⟩
  have HB : Hid (Below w.heap.size w V) := by rw [hV]; exact below2 _ _ _
  have HX : Hid (Blk V w.heap.size 30 [.slice (some ao) no co, .int .i64 x.now, .slice (some at') nt ct]) := by rw [hV]; exact (blk_new _ _ _).later (below_one _ _)
  have HO : Hid (Tks (w.heap.size + 1) V (.slice (some ⟨w.heap.size + 1, 0, none⟩) 0 0) []) := by
    rw [hV]
    have := made_none (w.alloc (.cells #[.slice (some ao) no co, .int .i64 x.now, .slice (some at') nt ct] 30))
    rw [show (w.alloc (.cells #[.slice (some ao) no co, .int .i64 x.now, .slice (some at') nt ct] 30)).heap.size = w.heap.size + 1 by simp] at this
    exact this
  have HSF : Hid (∀ W, Below w.heap.size w W → SF 0 W (.slice (some ao) no co) (.slice (some at') nt ct) x) := fun W hW => ⟨rowE_lowers (plain_lowers _) (h.later hW).1 (Nat.zero_le _), rowE_lowers (plain_lowers _) (h.later hW).2 (Nat.zero_le _)⟩
  have HLT : Hid (∀ W, Below w.heap.size w W → (x.order.length = 0 ∨ ao.block < w.heap.size)) := fun W hW => by
    obtain ⟨a, c, e, hm, h3⟩ := int_at h.1
    cases e
    rcases Nat.eq_zero_or_pos x.order.length with h0 | h0
    · exact .inl h0
    · obtain ⟨g, o, e, hg, _⟩ := h3 h0
      cases e; exact .inr hg
  cases hs : schedB x with
  | false =>
    have HE : Hid (runL x many = []) := by rw [Hid, runL, hs]; rfl
    rw [hs] at HR
    go_enter Try.func27, Try.ntmps27
    go_wp2_with fail
    rw [← hV]
    refine Calls.mono (HR.out _ HB.out) ?_
    rintro e w1 ⟨rfl, hb1⟩
    have HQ : Hid (OfPost (runL x many) w (.returned (.slice (some ⟨w.heap.size + 1, 0, none⟩) 0 0)) w1) := by rw [Hid, HE.out]; exact ⟨_, rfl, Tks.lower (OwnC.later HO.out hb1) (Nat.le_succ _), below_tr HB.out hb1⟩
    clear hb1
    go_wp2_with fail
    go_ret
    exact HQ.out
  | true =>
    rw [hs] at HR
    obtain ⟨f1, f2, f3, f4⟩ := sched_facts hs
    have f5 := order_len f1
    have HND : Hid (∀ t ∈ x.tasks, 1 ≤ t.2.2 ∧ t.2.2 ≤ 99) := fun t ht => by
      obtain ⟨k, hk, rfl⟩ := List.getElem_of_mem ht
      have := f4 k hk
      simp only [taskB, Bool.and_eq_true] at this
      exact isB_of.1 this.2.2
    cases hm : isB many 1 200 with
    | false =>
      have HE : Hid (runL x many = []) := by rw [Hid, runL, hm, Bool.and_false]; rfl
      rw [hm] at HIS
      go_enter Try.func27, Try.ntmps27
      go_wp2_with fail
      rw [← hV]
      refine Calls.mono (HR.out _ HB.out) ?_
      rintro e w1 ⟨rfl, hb1⟩
      have HQ : Hid (OfPost (runL x many) w (.returned (.slice (some ⟨w.heap.size + 1, 0, none⟩) 0 0)) w1) := by rw [Hid, HE.out]; exact ⟨_, rfl, Tks.lower (OwnC.later HO.out hb1) (Nat.le_succ _), below_tr HB.out hb1⟩
      clear hb1
      go_wp2_with fail
      refine Calls.mono (HIS.out _) ?_
      rintro e w2 ⟨rfl, rfl⟩
      go_wp2_with fail
      go_ret
      exact HQ.out
    | true =>
      have HE : Hid (runL x many = ranN (turnsN x many) x) := by rw [Hid, runL, hs, hm]; rfl
      obtain ⟨hm1, hm2⟩ := isB_of.1 hm
      rw [hm] at HIS
      have h60 : x.tasks.length ≤ 1000 := by omega
      clear f1 f4 f3 hm hs
      go_enter Try.func27, Try.ntmps27
      go_wp2_with fail
      rw [← hV]
      clear hV
      refine Calls.mono (HR.out _ HB.out) ?_
      rintro e w1 ⟨rfl, hb1⟩
      have HB1 : Hid (Below w.heap.size w w1) := below_tr HB.out hb1
      have HX1 : Hid (Blk w1 w.heap.size 30 [.slice (some ao) no co, .int .i64 x.now, .slice (some at') nt ct]) := HX.out.later hb1
      have HO1 : Hid (Tks (w.heap.size + 1) w1 (.slice (some ⟨w.heap.size + 1, 0, none⟩) 0 0) []) := OwnC.later HO.out hb1
      clear hb1
      go_wp2_with fail
      refine Calls.mono (HIS.out _) ?_
      rintro e w2 ⟨rfl, rfl⟩
      go_wp2_with fail
      obtain ⟨T, hT⟩ : ∃ T, T = turnsN x many := ⟨_, rfl⟩
      have HTN : Hid (∀ j : Nat, ((j : Int) < many ∧ x.now + j < 999999 → j < T) ∧ (¬ ((j : Int) < many ∧ x.now + j < 999999) → j ≤ T → j = T) ∧ (j ≤ T → (j : Int) ≤ 200)) := fun j => by
        rw [hT]; unfold turnsN
        refine ⟨fun h => by omega, fun h1 h2 => by omega, fun h => by omega⟩
      rw [← hT] at HE
      have HST : Hid (∀ (j : Nat) (q r0 r1 r2 : Int), q = x.now + j → q < 999999 → (tickD (stN j x)).r = (r0, r1, r2) → ∀ (W : World) (a b : Addr) (n c m d : Nat), m ≤ d → SF 0 W (.slice (some a) n c) (.slice (some b) m d) (stN j x) → Calls Try.prog 56 #[.agg #[.slice (some a) n c, .int .i64 q, .slice (some b) m d]] W fun e w' => ∃ a n c b m d, e = .returned (.agg #[.slice (some a) n c, .int .i64 (q + 1), .slice (some b) m d, .int .i64 r0, .int .i64 r1, .int .i64 r2, .int .i64 0]) ∧ SF W.heap.size w' (.slice (some a) n c) (.slice (some b) m d) (stN (j + 1) x) ∧ m ≤ d ∧ Below W.heap.size W w') := fun j q r0 r1 r2 hq hq2 hr W a b n c m d hmd h =>
        tick_at (stN j x) q r0 r1 r2 (by rw [st_now]; exact hq) hr (by rw [st_order]; exact f5.1) (by rw [st_order]; exact f5.2) (by omega) hq2 (Nat.le_trans (st_len j x) h60) (st_need j x HND.out) W a b n c m d hmd h
      have HR0 : Hid (RunAt x w.heap.size x.now 0 w2) := ⟨ao, no, co, at', nt, ct, hnc, HX1.out, HSF.out _ HB1.out⟩
      have HO0 : Hid (Tks (w.heap.size + 1) w2 (.slice (some ⟨w.heap.size + 1, 0, none⟩) 0 0) (ranN 0 x)) := HO1.out
      have hi64 : many ≤ 200 := hm2
      obtain ⟨i0, hi, hz0, hz1, hz2⟩ := info_parts info_tk
      have hws : w.heap.size < w2.heap.size := HX1.out.lt
      have HXN : Hid (∃ q0, q0 = x.now) := ⟨_, rfl⟩
      clear hT HSF HLT h HX HX1 HO HO1 HR HIS HB f5 h60
      go_loopw [5, 6] (fun tv ti wr => ∃ (j : Nat) (q : Int), j ≤ T ∧ ti = .int .i64 j ∧ Hid (q = x.now + j) ∧ Hid (Tks (w.heap.size + 1) wr tv (ranN j x)) ∧ Hid (Below w.heap.size w wr) ∧ Hid (RunAt x w.heap.size q j wr)) (fun _ ti _ => T - (intOf ti).toNat)
      case atStart => exact ⟨0, x.now, Nat.zero_le _, rfl, by simp [Hid], HO0.out, HB1.out, HR0.out⟩
      case round =>
        obtain ⟨j, q, hj, rfl, HQ, HO, HW, HRA⟩ := hrel
        obtain ⟨a, n, c, b, m, d, hmd, hX, hS⟩ := HRA.out
        have HX : Hid (Blk wr w.heap.size 30 [.slice (some a) n c, .int .i64 q, .slice (some b) m d]) := hX
        have HSS : Hid _ := hS
        have hwr : w.heap.size < wr.heap.size := hX.lt
        obtain ⟨x0, x1, x2⟩ := cells3s hX
        obtain ⟨t1, t2, t3⟩ := HTN.out j
        have hj2 := t3 hj
        clear hX hS HO0 HR0 HB1
        by_cases h1 : (j : Int) < many
        · by_cases h2 : q < 999999
          · have hjT : j < T := t1 ⟨h1, by rw [← HQ.out]; exact h2⟩
            obtain ⟨r0, r1, r2, hr⟩ : ∃ r0 r1 r2, (tickD (stN j x)).r = (r0, r1, r2) := ⟨_, _, _, rfl⟩
            have HTK : Hid _ := HST.out j q r0 r1 r2 HQ.out h2 hr wr a b n c m d hmd HSS.out
            have HRR : Hid ((tickD (stN j x)).r = (r0, r1, r2)) := hr
            have hq0 : 0 ≤ q := by have := HQ.out; omega
            clear t1 t2 t3 hr
            go_wp2_with fail
            refine Calls.mono HTK.out ?_
            rintro e w3 ⟨a1, n1, c1, b1, m1, d1, rfl, hs3, hmd1, hb3⟩
            clear HTK x0 x1 x2
            go_upto_region 8 with fail
            obtain ⟨U, hU⟩ : ∃ U, U = w3.alloc (.cells #[.slice (some a1) n1 c1, .int .i64 (q + 1), .slice (some b1) m1 d1, .int .i64 r0, .int .i64 r1, .int .i64 r2, .int .i64 0] 37) := ⟨_, rfl⟩
            have hY : Blk U w3.heap.size 37 [.slice (some a1) n1 c1, .int .i64 (q + 1), .slice (some b1) m1 d1, .int .i64 r0, .int .i64 r1, .int .i64 r2, .int .i64 0] := by rw [hU]; exact blk_new _ _ _
            have hXU : Blk U w.heap.size 30 [.slice (some a) n c, .int .i64 q, .slice (some b) m d] := by rw [hU]; exact (HX.out.later hb3).later (below_one _ _)
            have hw3 : wr.heap.size ≤ w3.heap.size := hb3.size
            have HY : Hid (Blk U w3.heap.size 37 [.slice (some a1) n1 c1, .int .i64 (q + 1), .slice (some b1) m1 d1, .int .i64 r0, .int .i64 r1, .int .i64 r2, .int .i64 0]) := hY
            have HXU : Hid (Blk U w.heap.size 30 [.slice (some a) n c, .int .i64 q, .slice (some b) m d]) := hXU
            obtain ⟨y0, y1, y2, y3, y4, y5, y6⟩ := seven hY
            obtain ⟨z0, z1, z2⟩ := free3 hXU
            obtain ⟨k0, k1, k2⟩ := cells3s hXU
            rw [← hU]
            have HU : Hid (U = w3.alloc (.cells #[.slice (some a1) n1 c1, .int .i64 (q + 1), .slice (some b1) m1 d1, .int .i64 r0, .int .i64 r1, .int .i64 r2, .int .i64 0] 37)) := hU
            clear hU hY hXU
            go_upto_region 9 with fail
            obtain ⟨G, hG⟩ : ∃ G, G = ((U.setCell ⟨w.heap.size, 0, none⟩ (.slice (some a1) n1 c1)).setCell ⟨w.heap.size, 1, none⟩ (.int .i64 (q + 1))).setCell ⟨w.heap.size, 2, none⟩ (.slice (some b1) m1 d1) := ⟨_, rfl⟩
            have hG2 : G = putW U w.heap.size 0 [.slice (some a1) n1 c1, .int .i64 (q + 1), .slice (some b1) m1 d1] := hG
            have hYG : Blk G w3.heap.size 37 [.slice (some a1) n1 c1, .int .i64 (q + 1), .slice (some b1) m1 d1, .int .i64 r0, .int .i64 r1, .int .i64 r2, .int .i64 0] := by rw [hG2]; exact HY.out.other _ _ _ (by omega)
            have hGW : G = putW (w3.alloc (.cells #[.slice (some a1) n1 c1, .int .i64 (q + 1), .slice (some b1) m1 d1, .int .i64 r0, .int .i64 r1, .int .i64 r2, .int .i64 0] 37)) w.heap.size 0 [.slice (some a1) n1 c1, .int .i64 (q + 1), .slice (some b1) m1 d1] := by rw [hG2, HU.out]
            have HSTEP : Hid (∀ (v' : Value) (w4 : World) (o2 : Obj), w4.ownsRow (w.heap.size + 1) 35 3 v' (((ranN j x).map ctk).length + 1) (((ranN j x).map ctk).flatten ++ ctk (r0, r1, r2)) → (G.alloc o2).grownBy w4 u5.ownBlock → Tks (w.heap.size + 1) w4 v' (ranN (j + 1) x) ∧ Below w.heap.size w w4 ∧ RunAt x w.heap.size (q + 1) (j + 1) w4) := fun v' w4 o2 own gr => run_step HO.out HW.out hwr hmd1 hs3 hb3 HX.out HRR.out own (by rw [hGW] at gr; exact gr)
            have HOG : Hid (Tks (w.heap.size + 1) G u5 (ranN j x)) := by
              rw [hGW]
              exact own_put ((OwnC.later HO.out hb3).later (below_one _ _)) _ _ _ (Nat.lt_succ_self _) (Nat.le_refl _)
            have hGs : w.heap.size + 1 ≤ G.heap.size := by have := hYG.lt; omega
            have HLE : Hid (((ranN j x).map ctk).length ≤ 200) := by show _ ≤ _; rw [List.length_map, ran_len]; omega
            rw [← hG]
            clear hG hG2 hGW hs3 hb3 y0 y1 y2 y3 y4 y5 y6 z0 z1 z2 k0 k1 k2 HU HX HXU HY
            obtain ⟨y0, y1, y2, y3, y4, y5, y6⟩ := seven hYG
            go_wp2_with (at_builtin; go_loud (refine wpList_append_own _ rfl _ _ 28 rfl (w.heap.size + 1) 35 i0 (.agg #[.int .i64 0, .int .i64 0, .int .i64 0]) 3 24 Try.underlying28 hi hz0 hz1 hz2 rfl (by decide) _ _ _ rfl (HOG.out.row.alloc _) ⟨G.heap.size, 0, none⟩ 1 1 (ctk (r0, r1, r2)) rfl rfl (new_cells G _ _) (ctk_one _) (by have := HLE.out; unfold maxLen; omega) (by have := HLE.out; omega) (by simp; omega) ?_); intro v' w4 own4 gr4 _; have HN4 : Hid _ := HSTEP.out _ _ _ own4 gr4; clear own4 gr4)
            go_roundw
            case rel => exact ⟨j + 1, q + 1, hjT, by go_num, by rw [Hid, HQ.out]; push_cast; omega, HN4.out.1, HN4.out.2.1, HN4.out.2.2⟩
            case measure => simp [intOf]; omega
          · have hjT : j = T := t2 (fun h => h2 (by rw [HQ.out]; exact h.2)) hj
            have HQE : Hid (OfPost (runL x many) w (.returned u5) wr) := by rw [Hid, HE.out, ← hjT]; exact ⟨_, rfl, HO.out.lower (Nat.le_succ _), HW.out⟩
            clear t1 t2 t3
            go_wp2_with fail
            go_ret
            exact HQE.out
        · have hjT : j = T := t2 (fun h => h1 h.1) hj
          have HQE : Hid (OfPost (runL x many) w (.returned u5) wr) := by rw [Hid, HE.out, ← hjT]; exact ⟨_, rfl, HO.out.lower (Nat.le_succ _), HW.out⟩
          clear t1 t2 t3
          go_wp2_with fail
          go_ret
          exact HQE.out
end Go.Proofs.Ytnkkkdhpopfahaa.sch
