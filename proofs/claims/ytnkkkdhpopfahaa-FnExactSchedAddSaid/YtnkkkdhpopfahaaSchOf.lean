/-
  The tasks of a label: the specification's l13Of and TasksOf. No condition.
-/
import Derived.Test.YtnkkkdhpopfahaaSchRight3
import Derived.Test.YtnkkkdhpopfahaaGrow
namespace Go.Proofs.Ytnkkkdhpopfahaa.sch
open Go.RowKit Go.Deep Go.Sort
open Go.Proofs.Ytnkkkdhpopfahaa
open Go.Proofs.Ytnkkkdhpopfahaa.deep
set_option linter.unusedVariables false
set_option maxRecDepth 100000

def mine (b : Int) (t : Tt) : Bool := t.1 == b
/-- the tasks of a label -/
def ofL (ts : List Tt) (b : Int) : List Tt := ts.filter (mine b)
theorem ofJ_all (ts : List Tt) (b : Int) : keptJ (mine b) ts ts.length = ofL ts b := by rw [keptJ, List.take_length]; rfl
/-- a row of tasks of the call's own -/
def Tks (base : Nat) (w : World) (v : Value) (ts : List Tt) : Prop := OwnC 35 3 base w v (ts.map ctk)
theorem ctk_one (x : Tt) : ∀ u ∈ ctk x, u.oneCell' = true := by
  intro u hu
  simp [ctk] at hu
  rcases hu with h | h | h <;> (subst h; rfl)
theorem push_tks {base : Nat} {w wr w1 : World} {u v' : Value} {o : Obj} {xs : List Tt} {x : Tt} (h : Tks base wr u xs) (hb : Below base w wr) (hs : base ≤ wr.heap.size)
    (h1 : w1.ownsRow base 35 3 v' ((xs.map ctk).length + 1) ((xs.map ctk).flatten ++ ctk x)) (hg : (wr.alloc o).grownBy w1 u.ownBlock) : Tks base w1 v' (xs ++ [x]) ∧ Below base w w1 ∧ ∀ B t cs, B < base → Blk wr B t cs → Blk w1 B t cs := by
  refine ⟨?_, (hb.alloc hs o).grown hg (by simp; omega) (fun k hk => h.own_ge k hk), fun B t cs hB hx => (hg.block B (by simp; omega) (fun e => by have := h.own_ge B e.symm; omega)).trans (hx.later (below_one wr o))⟩
  unfold Tks
  rw [List.map_append]
  exact h.push rfl h1
theorem Tks.lower {base base' : Nat} {w : World} {v : Value} {ts : List Tt} (h : Tks base w v ts) (hb : base' ≤ base) : Tks base' w v ts := by
  refine ⟨h.len, h.row.1, ?_⟩
  rcases h.row.2 with h0 | ⟨g, cap, cur, hv, hbg, hrest⟩
  · exact .inl h0
  · exact .inr ⟨g, cap, cur, hv, Nat.le_trans hb hbg, hrest⟩
def OfPost (ts : List Tt) (w : World) (e : Ending) (w' : World) : Prop := ∃ v, e = .returned v ∧ Tks w.heap.size w' v ts ∧ Below w.heap.size w w'

set_option maxHeartbeats 4000000 in
theorem spec_of (ao : Option Addr) (no co : Nat) (nw b : Int) {lo : Nat} {w : World} {vt : Value} {ts : List Tt} (h : RowE (Plain ctk) 3 lo w vt ts) (h40 : ts.length ≤ 40) : Calls Try.prog 47 #[.agg #[.slice ao no co, .int .i64 nw, vt], .int .i64 b] w (OfPost (ofL ts b) w) := by
  obtain ⟨a, c, rfl, hm, h3⟩ := tk_at h
  obtain ⟨i0, hi, hz0, hz1, hz2⟩ := info_parts info_tk
  obtain ⟨n, hn⟩ : ∃ n, n = ts.length := ⟨_, rfl⟩
  have HN : Hid (n = ts.length) := hn
  obtain ⟨V, hV⟩ : ∃ V, V = w.alloc (.cells #[.slice ao no co, .int .i64 nw, .slice a n c] 30) := ⟨_, rfl⟩
  have hbV : Below w.heap.size w V := by rw [hV]; exact below_one _ _
  have hVs : V.heap.size = w.heap.size + 1 := by rw [hV]; simp
  have HX : Hid (Blk (V.alloc (.cells #[] 35)) w.heap.size 30 [.slice ao no co, .int .i64 nw, .slice a n c]) := by rw [hV]; exact (blk_new _ _ _).later (below_one _ _)
  have H3 : Hid (0 < ts.length → ∃ g o, a = some ⟨g, o, none⟩ ∧ g < w.heap.size ∧ ∀ i (hi : i < ts.length), w.cell? ⟨g, o + i * 3, none⟩ = some (.int .i64 ts[i].1) ∧ w.cell? ⟨g, o + i * 3 + 1, none⟩ = some (.int .i64 ts[i].2.1) ∧ w.cell? ⟨g, o + i * 3 + 2, none⟩ = some (.int .i64 ts[i].2.2)) := h3
  have HO : Hid (Tks (w.heap.size + 1) (V.alloc (.cells #[] 35)) (.slice (some ⟨w.heap.size + 1, 0, none⟩) 0 0) (keptJ (mine b) ts 0)) := ⟨by simp [keptJ_zero], by rw [keptJ_zero, ← hVs]; exact World.ownsRow_made V #[] 0 (by omega) (by unfold maxLen; omega) rfl⟩
  have HB : Hid (Below w.heap.size w (V.alloc (.cells #[] 35))) := hbV.alloc (by omega) _
  have HALL : Hid (keptJ (mine b) ts ts.length = ofL ts b) := ofJ_all ts b
  have HXT : Hid (Blk (V.alloc (.cells #[] 35)) w.heap.size 30 [.slice ao no co, .int .i64 nw, .slice a n c]) := HX.out
  rw [← hn] at hm h40 ⊢
  unfold maxLen at hm
  clear hn h3 h hbV
  go_enter Try.func47, Try.ntmps47
  go_wp2_with fail
  rw [← hV]
  clear hV hVs HX
  go_loopw [5, 6] (fun tv ti wr => ∃ j : Nat, j ≤ n ∧ ti = .int .i64 j ∧ Hid (Tks (w.heap.size + 1) wr tv (keptJ (mine b) ts j)) ∧ Hid (Blk wr w.heap.size 30 [.slice ao no co, .int .i64 nw, .slice a n c]) ∧ Hid (Below w.heap.size w wr)) (fun _ ti _ => n - (intOf ti).toNat)
  case atStart => exact ⟨0, by omega, rfl, HO.out, HXT.out, HB.out⟩
  case round =>
    obtain ⟨j, hj, rfl, HR, HX, HW⟩ := hrel
    clear HO HB HXT
    obtain ⟨x0, x1, x2⟩ := cells3s HX.out
    by_cases hlt : j < n
    · have hlx : j < ts.length := by rw [← HN.out]; exact hlt
      obtain ⟨g, o, rfl, hg, hc⟩ := H3.out (by omega)
      obtain ⟨f0, f1, f2⟩ := hc j hlx
      have e0 := (HW.out.cell (p := ⟨g, o + j * 3, none⟩) hg).trans f0
      have e1 := (HW.out.cell (p := ⟨g, o + j * 3 + 1, none⟩) hg).trans f1
      have e2 := (HW.out.cell (p := ⟨g, o + j * 3 + 2, none⟩) hg).trans f2
      have hws := HW.out.size
      have hws1 : w.heap.size + 1 ≤ wr.heap.size := HX.out.lt
      have HLE : Hid (((keptJ (mine b) ts j).map ctk).length ≤ 40) := by show _ ≤ _; rw [List.length_map]; exact Nat.le_trans (keptJ_le _ _ _) (by omega)
      have HY : Hid (mine b ts[j] = true → keptJ (mine b) ts (j + 1) = keptJ (mine b) ts j ++ [ts[j]]) := fun h => keptJ_yes hlx h
      have HNO : Hid (mine b ts[j] = false → keptJ (mine b) ts (j + 1) = keptJ (mine b) ts j) := fun h => keptJ_no hlx h
      have HP : Hid (∀ (v' : Value) (w1 : World) (u : Value) (o : Obj) (x : Tt), Tks (w.heap.size + 1) wr u (keptJ (mine b) ts j) → w1.ownsRow (w.heap.size + 1) 35 3 v' (((keptJ (mine b) ts j).map ctk).length + 1) (((keptJ (mine b) ts j).map ctk).flatten ++ ctk x) → (wr.alloc o).grownBy w1 u.ownBlock → Tks (w.heap.size + 1) w1 v' (keptJ (mine b) ts j ++ [x]) ∧ Below w.heap.size w w1 ∧ ∀ B t cs, B < w.heap.size + 1 → Blk wr B t cs → Blk w1 B t cs) := fun v' w1 u o x h h1 h2 => by
        obtain ⟨q1, q2, q3⟩ := push_tks (w := wr) h (Below.refl _ _) hws1 h1 h2
        refine ⟨q1, ?_, q3⟩
        exact (HW.out.alloc hws o).grown h2 (by simp; omega) (fun k hk => by have := h.own_ge k hk; omega)
      clear hc f0 f1 f2
      generalize ts[j] = x at *
      obtain ⟨p0, p1, p2⟩ := x
      simp only at e0 e1 e2
      cases hq : p0 == b with
      | false =>
        have HS : Hid _ := HNO.out (by simpa [mine] using hq)
        clear HY HNO HP
        go_wp2
        go_roundw
        case rel => exact ⟨j + 1, by omega, by go_num, by rw [HS.out]; exact HR.out, HX.out, HW.out⟩
        case measure => simp [intOf]; omega
      | true =>
        have HS : Hid _ := HY.out (by simpa [mine] using hq)
        clear HY HNO
        go_wp2_with (at_builtin; refine wpList_append_own _ rfl _ _ 28 rfl (w.heap.size + 1) 35 i0 (.agg #[.int .i64 0, .int .i64 0, .int .i64 0]) 3 24 Try.underlying28 hi hz0 hz1 hz2 rfl (by decide) _ _ _ rfl (HR.out.row.alloc _) ⟨wr.heap.size, 0, none⟩ 1 1 (ctk (p0, p1, p2)) rfl rfl (new_cells wr _ _) (ctk_one _) (by have := HLE.out; unfold maxLen; omega) (by have := HLE.out; omega) (by simp; omega) ?_; intro v' w3 hown hgrow _; have HQ : Hid _ := HP.out v' w3 _ _ (p0, p1, p2) HR.out hown hgrow; clear hown hgrow)
        go_roundw
        case rel => exact ⟨j + 1, by omega, by go_num, by rw [HS.out]; exact HQ.out.1, HQ.out.2.2 _ _ _ (by omega) HX.out, HQ.out.2.1⟩
        case measure => simp [intOf]; omega
    · obtain rfl : j = n := by omega
      have HE : Hid (keptJ (mine b) ts j = ofL ts b) := by rw [Hid, HN.out]; exact HALL.out
      go_wp2_with fail
      go_ret
      exact ⟨_, rfl, by rw [← HE.out]; exact HR.out.lower (by omega), HW.out⟩
theorem made_none (w : World) : Tks w.heap.size (w.alloc (.cells #[] 35)) (.slice (some ⟨w.heap.size, 0, none⟩) 0 0) [] := ⟨by simp, World.ownsRow_made w #[] 0 (Nat.le_refl _) (by unfold maxLen; omega) rfl⟩
def tasksL (x : SchedD) (b : Int) : List Tt := if schedB x && label.rightB b then ofL x.tasks b else []
theorem right_short {x : SchedD} (h : schedB x = true) : x.tasks.length ≤ 40 := by
  simp only [schedB, Bool.and_eq_true, decide_eq_true_eq] at h
  exact h.2.2.1
set_option maxHeartbeats 4000000 in
theorem spec_tasks (x : SchedD) (b : Int) {lo : Nat} {w : World} {vo vt : Value} (h : SF lo w vo vt x) : Calls Try.prog 32 #[.agg #[vo, .int .i64 x.now, vt], .int .i64 b] w (OfPost (tasksL x b) w) := by
  have HR : Hid (∀ W, Below w.heap.size w W → Calls Try.prog 10 #[.agg #[vo, .int .i64 x.now, vt]] W fun e w' => e = .returned (.bool (schedB x)) ∧ Below W.heap.size W w') := fun W hW => spec_right x (h.later hW)
  have HLB : Hid (∀ W, Calls Try.prog 58 #[.int .i64 b] W fun e w' => e = .returned (.bool (label.rightB b)) ∧ w' = W) := fun W => label.spec_right b W
  obtain ⟨a, c, hvt, -⟩ := tk_at h.2
  obtain ⟨ao, co, hvo, -⟩ := int_at h.1
  have HOF : Hid (schedB x = true → ∀ W, Below w.heap.size w W → Calls Try.prog 47 #[.agg #[vo, .int .i64 x.now, vt], .int .i64 b] W (OfPost (ofL x.tasks b) W)) := fun hr W hW => by rw [hvo]; exact spec_of ao _ co x.now b (h.2.below (plain_stays _) hW) (right_short hr)
  generalize x.order.length = no at *
  generalize x.tasks.length = n at *
  subst hvo hvt
  obtain ⟨V, hV⟩ : ∃ V, V = w.alloc (.cells #[.slice ao no co, .int .i64 x.now, .slice a n c] 30) := ⟨_, rfl⟩
  have hbV : Below w.heap.size w V := by rw [hV]; exact below_one _ _
  have HX : Hid (Blk V w.heap.size 30 [.slice ao no co, .int .i64 x.now, .slice a n c]) := by rw [hV]; exact blk_new _ _ _
  have HB : Hid (Below w.heap.size w V) := hbV
  clear hbV h
  obtain ⟨x0, x1, x2⟩ := cells3s HX.out
  have HT : Hid (tasksL x b = if schedB x && label.rightB b then ofL x.tasks b else []) := rfl
  have HN0 : Hid (∀ W, Below w.heap.size w W → OfPost [] w (.returned (.slice (some ⟨W.heap.size, 0, none⟩) 0 0)) (W.alloc (.cells #[] 35))) := fun W hW => ⟨_, rfl, (made_none W).lower hW.size, below_tr hW (below_one _ _)⟩
  generalize tasksL x b = R at *
  generalize ofL x.tasks b = L at *
  cases hs : schedB x with
  | false =>
    rw [hs] at HR
    have HE : Hid (R = []) := by rw [Hid, HT.out, hs]; rfl
    have e := HE.out
    clear HT hs HOF HE
    subst e
    go_enter Try.func32, Try.ntmps32
    go_wp2_with fail
    rw [← hV]
    clear hV
    refine Calls.mono (HR.out _ HB.out) ?_
    rintro e w1 ⟨rfl, hb1⟩
    have HB1 : Hid (Below w.heap.size w w1) := below_tr HB.out hb1
    clear hb1
    go_wp2_with fail
    go_ret
    exact HN0.out _ HB1.out
  | true =>
    rw [hs] at HR
    have HOF2 : Hid _ := HOF.out hs
    clear HOF
    cases hl : label.rightB b with
    | false =>
      rw [hl] at HLB
      have HE : Hid (R = []) := by rw [Hid, HT.out, hs, hl]; rfl
      have e := HE.out
      clear HT hs hl HE HOF2
      subst e
      go_enter Try.func32, Try.ntmps32
      go_wp2_with fail
      rw [← hV]
      clear hV
      refine Calls.mono (HR.out _ HB.out) ?_
      rintro e w1 ⟨rfl, hb1⟩
      have HB1 : Hid (Below w.heap.size w w1) := below_tr HB.out hb1
      clear hb1
      go_wp2_with fail
      refine Calls.mono (HLB.out _) ?_
      rintro e w2 ⟨rfl, rfl⟩
      go_wp2_with fail
      go_ret
      exact HN0.out _ HB1.out
    | true =>
      rw [hl] at HLB
      have HE : Hid (R = L) := by rw [Hid, HT.out, hs, hl]; rfl
      have e := HE.out
      clear HT hs hl HE
      subst e
      go_enter Try.func32, Try.ntmps32
      go_wp2_with fail
      rw [← hV]
      clear hV
      refine Calls.mono (HR.out _ HB.out) ?_
      rintro e w1 ⟨rfl, hb1⟩
      have HB1 : Hid (Below w.heap.size w w1) := below_tr HB.out hb1
      have HX1 : Hid (Blk w1 w.heap.size 30 [.slice ao no co, .int .i64 x.now, .slice a n c]) := HX.out.later hb1
      clear hb1 x0 x1 x2
      obtain ⟨x0, x1, x2⟩ := cells3s HX1.out
      go_wp2_with fail
      refine Calls.mono (HLB.out _) ?_
      rintro e w2 ⟨rfl, rfl⟩
      go_wp2_with fail
      refine Calls.mono (HOF2.out _ HB1.out) ?_
      rintro e w3 ⟨v3, rfl, hk3, hb3⟩
      have HQ : Hid (OfPost R w (.returned v3) w3) := ⟨v3, rfl, hk3.lower HB1.out.size, below_tr HB1.out hb3⟩
      clear hk3 hb3
      go_wp2_with fail
      go_ret
      exact HQ.out
end Go.Proofs.Ytnkkkdhpopfahaa.sch
