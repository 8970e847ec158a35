/-
  ReplyText of the specification, at every call and every reply. Conditions: the numbers are numbers of 64 bits.
-/
import Derived.Test.YtlojigfhbfemfaaDoorScrTextW
namespace Go.Proofs.YtlojigfhbfemfaaDoor.scr
open Go.RowKit Go.Deep Go.Sort
open Go.Proofs.YtlojigfhbfemfaaDoor
open Go.Proofs.YtlojigfhbfemfaaDoor.deep (Blk putW putL)
open Go.Proofs.YtlojigfhbfemfaaDoor.call (CallD ccall)
set_option linter.unusedVariables false
set_option maxRecDepth 100000

def errT : ByteArray := ⟨#[101, 114, 114, 111, 114, 32]⟩
/-- does the word tell a number -/
def numW (n : Int) : Bool := n == 3 || n == 5 || n == 6 || n == 11
/-- what is told of a reply: its code, its number, how many handles -/
def replyT (c : CallD) (code n many told : Int) : ByteArray :=
  if code ≠ 0 then errT ++ decB code else if c.q1 = 1 then refT c.q0 told else if numW c.q1 then decB n else if c.q1 = 4 then decB many else ⟨#[111, 107]⟩

set_option maxHeartbeats 4000000 in
theorem spec_replyt (c : CallD) (r0 r1 r2 r3 r4 told : Int) (ha : Option Addr) (hn hc : Nat) (hh : (hn : Int) ≤ 9223372036854775807) (h0 : I64 r0) (h1 : I64 r1) (w : World) :
    Calls Tryd.prog 17 #[.agg (ccall c).toArray, .agg #[.int .i64 r0, .int .i64 r1, .int .i64 r2, .int .i64 r3, .int .i64 r4, .slice ha hn hc], .int .i64 told] w fun e w' => e = .returned (.string (replyT c r0 r1 hn told)) ∧ Below w.heap.size w w' := by
  have HR : Hid (∀ l n W, Calls Tryd.prog 7 #[.agg #[.int .i64 l, .int .i64 n]] W fun e w' => e = .returned (.string (refT l n)) ∧ Below W.heap.size W w') := fun l n W => spec_reft l n W
  have HD : Hid (∀ n W, I64 n → Calls Tryd.prog 23 #[.int .i64 n] W fun e w' => e = .returned (.string (decB n)) ∧ Below W.heap.size W w') := fun n W h => spec_dec n h.1 h.2 W
  have I0 : Hid (I64 r0) := h0
  have I1 : Hid (I64 r1) := h1
  have I2 : Hid (I64 (hn : Int)) := by show I64 _; unfold I64; omega
  have hz0 := dec_size r0 h0.1 h0.2
  clear h0 h1
  obtain ⟨q0, q1, q2, q3, q4, q5, q6, q7, q8⟩ := c
  simp only [ccall, replyT] at *
  have HB : Hid (Below w.heap.size w ((w.alloc (.cells #[.int .i64 q0, .int .i64 q1, .int .i64 q2, .int .i64 q3, .int .i64 q4, .int .i64 q5, .int .i64 q6, .int .i64 q7, .int .i64 q8] 32)).alloc (.cells #[.int .i64 r0, .int .i64 r1, .int .i64 r2, .int .i64 r3, .int .i64 r4, .slice ha hn hc] 50))) := deep.below2 w _ _
  by_cases c0 : r0 = 0
  · subst c0
    rw [if_neg (by simp)]
    by_cases e1 : q1 = 1
    · subst e1
      rw [if_pos rfl]
      go_enter Tryd.func17, Tryd.ntmps17
      go_wp2_with fail
      refine Calls.mono (HR.out _ _ _) ?_
      rintro e w1 ⟨rfl, hb1⟩
      have HB1 : Hid (Below w.heap.size w w1) := below_tr HB.out hb1
      clear hb1
      go_wp2_with fail
      go_ret
      exact ⟨rfl, HB1.out⟩
    rw [if_neg e1]
    have g1 : (q1 == 1) = false := by simp; exact e1
    by_cases e3 : q1 = 3
    · subst e3
      rw [if_pos (by decide)]
      clear g1 e1
      go_enter Tryd.func17, Tryd.ntmps17
      go_wp2_with fail
      refine Calls.mono (HD.out _ _ I1.out) ?_
      rintro e w1 ⟨rfl, hb1⟩
      have HB1 : Hid (Below w.heap.size w w1) := below_tr HB.out hb1
      clear hb1
      go_wp2_with fail
      go_ret
      exact ⟨rfl, HB1.out⟩
    have g3 : (q1 == 3) = false := by simp; exact e3
    by_cases e5 : q1 = 5
    · subst e5
      rw [if_pos (by decide)]
      clear g1 e1 g3 e3
      go_enter Tryd.func17, Tryd.ntmps17
      go_wp2_with fail
      refine Calls.mono (HD.out _ _ I1.out) ?_
      rintro e w1 ⟨rfl, hb1⟩
      have HB1 : Hid (Below w.heap.size w w1) := below_tr HB.out hb1
      clear hb1
      go_wp2_with fail
      go_ret
      exact ⟨rfl, HB1.out⟩
    have g5 : (q1 == 5) = false := by simp; exact e5
    by_cases e6 : q1 = 6
    · subst e6
      rw [if_pos (by decide)]
      clear g1 e1 g3 e3 g5 e5
      go_enter Tryd.func17, Tryd.ntmps17
      go_wp2_with fail
      refine Calls.mono (HD.out _ _ I1.out) ?_
      rintro e w1 ⟨rfl, hb1⟩
      have HB1 : Hid (Below w.heap.size w w1) := below_tr HB.out hb1
      clear hb1
      go_wp2_with fail
      go_ret
      exact ⟨rfl, HB1.out⟩
    have g6 : (q1 == 6) = false := by simp; exact e6
    by_cases e11 : q1 = 11
    · subst e11
      rw [if_pos (by decide)]
      clear g1 e1 g3 e3 g5 e5 g6 e6
      go_enter Tryd.func17, Tryd.ntmps17
      go_wp2_with fail
      refine Calls.mono (HD.out _ _ I1.out) ?_
      rintro e w1 ⟨rfl, hb1⟩
      have HB1 : Hid (Below w.heap.size w w1) := below_tr HB.out hb1
      clear hb1
      go_wp2_with fail
      go_ret
      exact ⟨rfl, HB1.out⟩
    have g11 : (q1 == 11) = false := by simp; exact e11
    have gn : numW q1 = false := by simp [numW, g3, g5, g6, g11]
    rw [gn, if_neg (by simp)]
    by_cases e4 : q1 = 4
    · subst e4
      rw [if_pos rfl]
      clear gn g1 e1 g3 e3 g5 e5 g6 e6 g11 e11
      go_enter Tryd.func17, Tryd.ntmps17
      go_wp2_with fail
      refine Calls.mono (HD.out _ _ I2.out) ?_
      rintro e w1 ⟨rfl, hb1⟩
      have HB1 : Hid (Below w.heap.size w w1) := below_tr HB.out hb1
      clear hb1
      go_wp2_with fail
      go_ret
      exact ⟨rfl, HB1.out⟩
    rw [if_neg e4]
    have g4 : (q1 == 4) = false := by simp; exact e4
    clear gn e4 e1 e3 e5 e6 e11
    go_enter Tryd.func17, Tryd.ntmps17
    go_wp2_with fail
    go_ret
    exact ⟨rfl, HB.out⟩
  · rw [if_pos c0]
    have gc : (r0 != 0) = true := by simp; exact c0
    unfold errT
    clear c0
    go_enter Tryd.func17, Tryd.ntmps17
    go_wp2_with fail
    refine Calls.mono (HD.out _ _ I0.out) ?_
    rintro e w1 ⟨rfl, hb1⟩
    have HB1 : Hid (Below w.heap.size w w1) := below_tr HB.out hb1
    clear hb1
    go_wp2_with fail
    go_ret
    exact ⟨rfl, HB1.out⟩
end Go.Proofs.YtlojigfhbfemfaaDoor.scr
