/-
  The program's TasksOf. Condition: the list of tasks is no longer than its room.
-/
import Derived.Test.YtnkkkdhpopfahaaSchWo
namespace Go.Proofs.Ytnkkkdhpopfahaa.sch
open Go.RowKit Go.Deep Go.Sort
open Go.Proofs.Ytnkkkdhpopfahaa
open Go.Proofs.Ytnkkkdhpopfahaa.deep
set_option linter.unusedVariables false
set_option maxRecDepth 100000

theorem tks_free {b : Nat} {w : World} {v : Value} {ts : List Tt} (h : Tks b w v ts) : RowE (Plain ctk) 3 b w v ts ∧ Free w v := ⟨OwnC.plain h, OwnC.free h⟩
theorem wts_row {b : Nat} {w : World} {v : Value} {ws : List Wt} (h : Wts b w v ws) : RowE (Plain cwt) 4 b w v ws := OwnC.plain h
set_option maxHeartbeats 4000000 in
theorem impl_tasks_of (x : SchedD) (b : Int) {lo : Nat} {w : World} {vo : Value} (a : Option Addr) (n c : Nat) (hnc : n ≤ c) (h : SF lo w vo (.slice a n c) x) : Calls Try.prog 33 #[.agg #[vo, .int .i64 x.now, .slice a n c], .int .i64 b] w (ImplTks (tasksL x b) w) := by
  have HR : Hid (∀ W, Below w.heap.size w W → Calls Try.prog 12 #[.agg #[vo, .int .i64 x.now, .slice a n c]] W fun e w' => e = .returned (.bool (schedB x)) ∧ Below W.heap.size W w') := fun W hW => impl_right x a n c hnc (h.later hW)
  have HLB : Hid (∀ W, Calls Try.prog 59 #[.int .i64 b] W fun e w' => e = .returned (.bool (label.rightB b)) ∧ w' = W) := fun W => label.impl_right b W
  have HWO : Hid (schedB x = true → ∀ W, Below w.heap.size w W → Calls Try.prog 52 #[.agg #[vo, .int .i64 x.now, .slice a n c]] W (WheelOf x W)) := fun hr W hW => wheel_of x hr (h.later hW)
  have H40 : Hid (schedB x = true → x.tasks.length ≤ 40) := right_short
  have HT : Hid (tasksL x b = if schedB x && label.rightB b then ofL x.tasks b else []) := rfl
  obtain ⟨ao, co, hvo, -⟩ := int_at h.1
  generalize x.order.length = no at hvo
  subst hvo
  obtain ⟨V, hV⟩ : ∃ V, V = w.alloc (.cells #[.slice ao no co, .int .i64 x.now, .slice a n c] 30) := ⟨_, rfl⟩
  have HB : Hid (Below w.heap.size w V) := by rw [hV]; exact below_one _ _
  have HX : Hid (Blk V w.heap.size 30 [.slice ao no co, .int .i64 x.now, .slice a n c]) := by rw [hV]; exact blk_new _ _ _
  obtain ⟨x0, x1, x2⟩ := cells3s HX.out
  have HN0 : Hid (∀ W, Below w.heap.size w W → ImplTks [] w (.returned (.slice none 0 0)) W) := fun W hW => ⟨_, rfl, (ill_sf _ _ 0).2, hW, free_nil _⟩
  clear h
  cases hs : schedB x with
  | false =>
    rw [hs] at HR
    have HE : Hid (tasksL x b = []) := by rw [Hid, HT.out, hs]; rfl
    rw [HE.out]
    clear HT hs HWO H40 HE
    go_enter Try.func33, Try.ntmps33
    go_wp2_with fail
    rw [← hV]
    clear hV
    refine Calls.mono (HR.out _ HB.out) ?_
    rintro e w1 ⟨rfl, hb1⟩
    have HB1 : Hid (Below w.heap.size w w1) := below_tr HB.out hb1
    clear hb1
    go_wp2_with fail
    go_ret
    exact HN0.out _ HB1.out
  | true =>
    rw [hs] at HR
    have HW2 : Hid _ := HWO.out hs
    have h40 := H40.out hs
    clear HWO H40
    cases hl : label.rightB b with
    | false =>
      rw [hl] at HLB
      have HE : Hid (tasksL x b = []) := by rw [Hid, HT.out, hs, hl]; rfl
      rw [HE.out]
      clear HT hs hl HE HW2
      go_enter Try.func33, Try.ntmps33
      go_wp2_with fail
      rw [← hV]
      clear hV
      refine Calls.mono (HR.out _ HB.out) ?_
      rintro e w1 ⟨rfl, hb1⟩
      have HB1 : Hid (Below w.heap.size w w1) := below_tr HB.out hb1
      clear hb1
      go_wp2_with fail
      refine Calls.mono (HLB.out _) ?_
      rintro e w2 ⟨rfl, rfl⟩
      go_wp2_with fail
      go_ret
      exact HN0.out _ HB1.out
    | true =>
      rw [hl] at HLB
      have HE : Hid (tasksL x b = ofL x.tasks b) := by rw [Hid, HT.out, hs, hl]; rfl
      rw [HE.out]
      have hlb := label.right_yes b hl
      obtain ⟨l, hl16, rfl⟩ := label.nat_of b hlb.1 hlb.2
      have hli : (0 : Int) ≤ (l : Int) := by omega
      have hli2 : (l : Int) < 16 := by omega
      have HPO : Hid (((placed x.tasks 0).filter (isL l)).map (·.1) = ofL x.tasks l) := placed_of _ _ _
      have HPL : Hid (((placed x.tasks 0).filter (isL l)).length ≤ 1000) := Nat.le_trans (placed_filter_le _ _ _) (by omega)
      clear HT hs hl HE hlb h40
      go_enter Try.func33, Try.ntmps33
      go_wp2_with fail
      rw [← hV]
      clear hV
      refine Calls.mono (HR.out _ HB.out) ?_
      rintro e w1 ⟨rfl, hb1⟩
      have HB1 : Hid (Below w.heap.size w w1) := below_tr HB.out hb1
      have HX1 : Hid (Blk w1 w.heap.size 30 [.slice ao no co, .int .i64 x.now, .slice a n c]) := HX.out.later hb1
      clear hb1 x0 x1 x2
      obtain ⟨x0, x1, x2⟩ := cells3s HX1.out
      go_wp2_with fail
      refine Calls.mono (HLB.out _) ?_
      rintro e w2 ⟨rfl, rfl⟩
      go_wp2_with fail
      refine Calls.mono (HW2.out _ HB1.out) ?_
      rintro e w3 ⟨B, v3, rfl, -, hw3, -, hb3⟩
      have HB3 : Hid (Below w.heap.size w w3) := below_tr HB1.out hb3
      have HLN : Hid (Calls Try.prog 61 #[.pointer (some ⟨B, 2 + l * 162, none⟩)] w3 (WtsPost ((placed x.tasks 0).filter (isL l)) w3)) := by
        obtain ⟨cur, h1, h2⟩ := hw3
        exact ring_line B _ _ _ _ cur h1 (h2.ring l hl16)
      clear hb3 hw3 x0 x1 x2
      go_wp2_with fail
      refine Calls.mono HLN.out ?_
      rintro e w4 ⟨v4, rfl, hr4, hb4⟩
      have HB4 : Hid (Below w.heap.size w w4) := below_tr HB3.out hb4
      have HTI : Hid (Calls Try.prog 60 #[v4] w4 (OfPost (ofL x.tasks l) w4)) := by rw [← HPO.out]; exact tasks_in (wts_row hr4) HPL.out
      obtain ⟨a4, c4, hv4, -⟩ := hr4.form
      generalize (List.map cwt ((placed x.tasks 0).filter (isL l))).length = n4 at hv4
      clear hb4 hr4 HLN
      subst hv4
      go_wp2_with fail
      refine Calls.mono HTI.out ?_
      rintro e w5 ⟨v5, rfl, hk5, hb5⟩
      have HQ : Hid (ImplTks (ofL x.tasks l) w (.returned v5) w5) := by
        obtain ⟨r5, f5⟩ := tks_free (hk5.lower HB4.out.size)
        exact ⟨v5, rfl, r5, below_tr HB4.out hb5, f5⟩
      clear hk5 hb5 HTI
      go_wp2_with fail
      go_ret
      exact HQ.out
end Go.Proofs.Ytnkkkdhpopfahaa.sch
