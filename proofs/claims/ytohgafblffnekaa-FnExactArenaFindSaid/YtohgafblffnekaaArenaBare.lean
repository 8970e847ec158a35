/-
  The specification's look at the zero thing.
-/
import Derived.Test.YtohgafblffnekaaArenaPlain
import Derived.Laws.StructEq
namespace Go.Proofs.Ytohgafblffnekaa.deep
open Go.RowKit
open Go.Proofs.Ytohgafblffnekaa
set_option linter.unusedVariables false

theorem sp_noroom (kd lb od pl u1 u2 u3 rm : Int) (af : Option Addr) (nf cf : Nat) (ak : Option Addr) (nk ck : Nat) (am : Option Addr) (nm cm : Nat) (aq : Option Addr) (nq cq : Nat) (lf : nf ≤ maxLen) (lk : nk ≤ maxLen) (lm : nm ≤ maxLen) (ls : nq ≤ maxLen) (w : World) : Calls Try.prog 81 #[.agg #[.int .i64 kd, .int .i64 lb, .int .i64 od, .int .i64 pl, .int .i64 u1, .int .i64 u2, .int .i64 u3, .int .i64 rm, .slice af nf cf, .slice ak nk ck, .slice am nm cm, .slice aq nq cq]] w fun e w' => e = .returned (.bool (decide (rm = 0) && decide (nf = 0))) ∧ Below w.heap.size w w' := by
  unfold maxLen at lf lk lm ls
  by_cases h : rm = 0
  · by_cases h2 : nf = 0
    · subst h h2
      go_enter Try.func81, Try.ntmps81
      go_wp2
      go_ret
      exact ⟨by simp, below_one w _⟩
    · have h3 : ¬ (nf : Int) = 0 := by omega
      subst h
      go_enter Try.func81, Try.ntmps81
      go_wp2
      go_ret
      exact ⟨by simp [h2], below_one w _⟩
  · have hb : (rm == 0) = false := by simp [h]
    go_enter Try.func81, Try.ntmps81
    go_wp2
    go_ret
    exact ⟨by simp [h], below_one w _⟩

/-- the zero thing, by its cells -/
def bareC (kd lb od pl u1 u2 u3 rm : Int) (nf nk nm nq : Nat) : Bool := decide (kd = 0) && decide (lb = 0) && decide (od = 0) && decide (pl = 0) && decide ((u1, u2, u3) = ((0, 0, 0) : Int × Int × Int)) && (decide (rm = 0) && decide (nf = 0)) && decide (nk = 0) && decide (nm = 0) && decide (nq = 0)

set_option maxHeartbeats 1000000 in
theorem sp_bare (kd lb od pl u1 u2 u3 rm : Int) (af : Option Addr) (nf cf : Nat) (ak : Option Addr) (nk ck : Nat) (am : Option Addr) (nm cm : Nat) (aq : Option Addr) (nq cq : Nat) (lf : nf ≤ maxLen) (lk : nk ≤ maxLen) (lm : nm ≤ maxLen) (ls : nq ≤ maxLen) (w : World) : Calls Try.prog 60 #[.agg #[.int .i64 kd, .int .i64 lb, .int .i64 od, .int .i64 pl, .int .i64 u1, .int .i64 u2, .int .i64 u3, .int .i64 rm, .slice af nf cf, .slice ak nk ck, .slice am nm cm, .slice aq nq cq]] w fun e w' => e = .returned (.bool (bareC kd lb od pl u1 u2 u3 rm nf nk nm nq)) ∧ Below w.heap.size w w' := by
  have HN : Hid (∀ W, _) := fun W => sp_noroom kd lb od pl u1 u2 u3 rm af nf cf ak nk ck am nm cm aq nq cq lf lk lm ls W
  unfold maxLen at lf lk lm ls
  by_cases hkd : kd = 0
  · subst hkd
    by_cases hlb : lb = 0
    · subst hlb
      by_cases hod : od = 0
      · subst hod
        by_cases hpl : pl = 0
        · subst hpl
          by_cases hu : u1 = 0 ∧ u2 = 0 ∧ u3 = 0
          · obtain ⟨hu1, hu2, hu3⟩ := hu
            subst hu1 hu2 hu3
            cases hr : (decide (rm = 0) && decide (nf = 0)) with
            | false =>
              rw [hr] at HN
              have hF : bareC 0 0 0 0 0 0 0 rm nf nk nm nq = false := by simp only [bareC, hr]; simp
              rw [hF]
              clear hF
              go_enter Try.func60, Try.ntmps60
              go_wp2_with (go_at_call 81; refine Calls.mono (HN.out _) ?_; rintro e w1 ⟨rfl, hb1⟩; have HB1 : Hid (Below w.heap.size w w1) := below_tr (below_one w _) hb1; have F : Hid (Blk w1 w.heap.size 55 [.int .i64 0, .int .i64 0, .int .i64 0, .int .i64 0, .int .i64 0, .int .i64 0, .int .i64 0, .int .i64 rm, .slice af nf cf, .slice ak nk ck, .slice am nm cm, .slice aq nq cq]) := (blk_new w [.int .i64 0, .int .i64 0, .int .i64 0, .int .i64 0, .int .i64 0, .int .i64 0, .int .i64 0, .int .i64 rm, .slice af nf cf, .slice ak nk ck, .slice am nm cm, .slice aq nq cq] 55).later hb1; have x9 : w1.cell? ⟨w.heap.size, 9, none⟩ = some (.slice ak nk ck) := F.out.cell 9; have x10 : w1.cell? ⟨w.heap.size, 10, none⟩ = some (.slice am nm cm) := F.out.cell 10; have x11 : w1.cell? ⟨w.heap.size, 11, none⟩ = some (.slice aq nq cq) := F.out.cell 11; clear hb1)
              go_ret
              exact ⟨by first | (simp; done) | (simp; omega), HB1.out⟩
            | true =>
              rw [hr] at HN
              by_cases hnk : nk = 0
              · subst hnk
                by_cases hnm : nm = 0
                · subst hnm
                  by_cases hnq : nq = 0
                  · subst hnq
                    have hT : bareC 0 0 0 0 0 0 0 rm nf 0 0 0 = true := by simp only [bareC, hr]; simp
                    rw [hT]
                    clear hT
                    go_enter Try.func60, Try.ntmps60
                    go_wp2_with (go_at_call 81; refine Calls.mono (HN.out _) ?_; rintro e w1 ⟨rfl, hb1⟩; have HB1 : Hid (Below w.heap.size w w1) := below_tr (below_one w _) hb1; have F : Hid (Blk w1 w.heap.size 55 [.int .i64 0, .int .i64 0, .int .i64 0, .int .i64 0, .int .i64 0, .int .i64 0, .int .i64 0, .int .i64 rm, .slice af nf cf, .slice ak 0 ck, .slice am 0 cm, .slice aq 0 cq]) := (blk_new w [.int .i64 0, .int .i64 0, .int .i64 0, .int .i64 0, .int .i64 0, .int .i64 0, .int .i64 0, .int .i64 rm, .slice af nf cf, .slice ak 0 ck, .slice am 0 cm, .slice aq 0 cq] 55).later hb1; have x9 : w1.cell? ⟨w.heap.size, 9, none⟩ = some (.slice ak 0 ck) := F.out.cell 9; have x10 : w1.cell? ⟨w.heap.size, 10, none⟩ = some (.slice am 0 cm) := F.out.cell 10; have x11 : w1.cell? ⟨w.heap.size, 11, none⟩ = some (.slice aq 0 cq) := F.out.cell 11; clear hb1)
                    go_ret
                    exact ⟨by first | (simp; done) | (simp; omega), HB1.out⟩
                  · have znq : ¬ (nq : Int) = 0 := by omega
                    have hF : bareC 0 0 0 0 0 0 0 rm nf 0 0 nq = false := by simp only [bareC, hnq]; simp
                    rw [hF]
                    clear hF
                    go_enter Try.func60, Try.ntmps60
                    go_wp2_with (go_at_call 81; refine Calls.mono (HN.out _) ?_; rintro e w1 ⟨rfl, hb1⟩; have HB1 : Hid (Below w.heap.size w w1) := below_tr (below_one w _) hb1; have F : Hid (Blk w1 w.heap.size 55 [.int .i64 0, .int .i64 0, .int .i64 0, .int .i64 0, .int .i64 0, .int .i64 0, .int .i64 0, .int .i64 rm, .slice af nf cf, .slice ak 0 ck, .slice am 0 cm, .slice aq nq cq]) := (blk_new w [.int .i64 0, .int .i64 0, .int .i64 0, .int .i64 0, .int .i64 0, .int .i64 0, .int .i64 0, .int .i64 rm, .slice af nf cf, .slice ak 0 ck, .slice am 0 cm, .slice aq nq cq] 55).later hb1; have x9 : w1.cell? ⟨w.heap.size, 9, none⟩ = some (.slice ak 0 ck) := F.out.cell 9; have x10 : w1.cell? ⟨w.heap.size, 10, none⟩ = some (.slice am 0 cm) := F.out.cell 10; have x11 : w1.cell? ⟨w.heap.size, 11, none⟩ = some (.slice aq nq cq) := F.out.cell 11; clear hb1)
                    go_ret
                    exact ⟨by first | (simp; done) | (simp; omega), HB1.out⟩
                · have znm : ¬ (nm : Int) = 0 := by omega
                  have hF : bareC 0 0 0 0 0 0 0 rm nf 0 nm nq = false := by simp only [bareC, hnm]; simp
                  rw [hF]
                  clear hF
                  go_enter Try.func60, Try.ntmps60
                  go_wp2_with (go_at_call 81; refine Calls.mono (HN.out _) ?_; rintro e w1 ⟨rfl, hb1⟩; have HB1 : Hid (Below w.heap.size w w1) := below_tr (below_one w _) hb1; have F : Hid (Blk w1 w.heap.size 55 [.int .i64 0, .int .i64 0, .int .i64 0, .int .i64 0, .int .i64 0, .int .i64 0, .int .i64 0, .int .i64 rm, .slice af nf cf, .slice ak 0 ck, .slice am nm cm, .slice aq nq cq]) := (blk_new w [.int .i64 0, .int .i64 0, .int .i64 0, .int .i64 0, .int .i64 0, .int .i64 0, .int .i64 0, .int .i64 rm, .slice af nf cf, .slice ak 0 ck, .slice am nm cm, .slice aq nq cq] 55).later hb1; have x9 : w1.cell? ⟨w.heap.size, 9, none⟩ = some (.slice ak 0 ck) := F.out.cell 9; have x10 : w1.cell? ⟨w.heap.size, 10, none⟩ = some (.slice am nm cm) := F.out.cell 10; have x11 : w1.cell? ⟨w.heap.size, 11, none⟩ = some (.slice aq nq cq) := F.out.cell 11; clear hb1)
                  go_ret
                  exact ⟨by first | (simp; done) | (simp; omega), HB1.out⟩
              · have znk : ¬ (nk : Int) = 0 := by omega
                have hF : bareC 0 0 0 0 0 0 0 rm nf nk nm nq = false := by simp only [bareC, hnk]; simp
                rw [hF]
                clear hF
                go_enter Try.func60, Try.ntmps60
                go_wp2_with (go_at_call 81; refine Calls.mono (HN.out _) ?_; rintro e w1 ⟨rfl, hb1⟩; have HB1 : Hid (Below w.heap.size w w1) := below_tr (below_one w _) hb1; have F : Hid (Blk w1 w.heap.size 55 [.int .i64 0, .int .i64 0, .int .i64 0, .int .i64 0, .int .i64 0, .int .i64 0, .int .i64 0, .int .i64 rm, .slice af nf cf, .slice ak nk ck, .slice am nm cm, .slice aq nq cq]) := (blk_new w [.int .i64 0, .int .i64 0, .int .i64 0, .int .i64 0, .int .i64 0, .int .i64 0, .int .i64 0, .int .i64 rm, .slice af nf cf, .slice ak nk ck, .slice am nm cm, .slice aq nq cq] 55).later hb1; have x9 : w1.cell? ⟨w.heap.size, 9, none⟩ = some (.slice ak nk ck) := F.out.cell 9; have x10 : w1.cell? ⟨w.heap.size, 10, none⟩ = some (.slice am nm cm) := F.out.cell 10; have x11 : w1.cell? ⟨w.heap.size, 11, none⟩ = some (.slice aq nq cq) := F.out.cell 11; clear hb1)
                go_ret
                exact ⟨by first | (simp; done) | (simp; omega), HB1.out⟩
          · have hF : bareC 0 0 0 0 u1 u2 u3 rm nf nk nm nq = false := by
              have : ¬ ((u1, u2, u3) = ((0, 0, 0) : Int × Int × Int)) := fun e => hu (by simpa using e)
              simp only [bareC, decide_eq_false this]; simp
            rw [hF]
            clear hF
            have hub : ((u1 == 0 && (u2 == 0 && u3 == 0))) = false := by
              by_cases a1 : u1 = 0
              · by_cases a2 : u2 = 0
                · by_cases a3 : u3 = 0
                  · exact absurd ⟨a1, a2, a3⟩ hu
                  · simp [a3]
                · simp [a2]
              · simp [a1]
            go_enter Try.func60, Try.ntmps60
            go_wp2_with fail
            all_goals (go_ret; exact ⟨by simp, below_one w _⟩)
        · have hF : bareC 0 0 0 pl u1 u2 u3 rm nf nk nm nq = false := by simp [bareC, hpl]
          rw [hF]
          clear hF
          have hb : (pl == 0) = false := by simp [hpl]
          go_enter Try.func60, Try.ntmps60
          go_wp2
          go_ret
          exact ⟨by simp, below_one w _⟩
      · have hF : bareC 0 0 od pl u1 u2 u3 rm nf nk nm nq = false := by simp [bareC, hod]
        rw [hF]
        clear hF
        have hb : (od == 0) = false := by simp [hod]
        go_enter Try.func60, Try.ntmps60
        go_wp2
        go_ret
        exact ⟨by simp, below_one w _⟩
    · have hF : bareC 0 lb od pl u1 u2 u3 rm nf nk nm nq = false := by simp [bareC, hlb]
      rw [hF]
      clear hF
      have hb : (lb == 0) = false := by simp [hlb]
      go_enter Try.func60, Try.ntmps60
      go_wp2
      go_ret
      exact ⟨by simp, below_one w _⟩
  · have hF : bareC kd lb od pl u1 u2 u3 rm nf nk nm nq = false := by simp [bareC, hkd]
    rw [hF]
    clear hF
    have hb : (kd == 0) = false := by simp [hkd]
    go_enter Try.func60, Try.ntmps60
    go_wp2
    go_ret
    exact ⟨by simp, below_one w _⟩
end Go.Proofs.Ytohgafblffnekaa.deep
