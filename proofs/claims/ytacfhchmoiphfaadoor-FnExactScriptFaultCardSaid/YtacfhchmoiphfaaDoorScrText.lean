/-
  CallText of the specification, at every call. No condition.
-/
import Derived.Test.YtacfhchmoiphfaaDoorScrOnly
import Derived.Laws.StructEq
namespace Go.Proofs.YtacfhchmoiphfaaDoor.scr
open Go.RowKit Go.Deep Go.Sort
open Go.Proofs.YtacfhchmoiphfaaDoor
open Go.Proofs.YtacfhchmoiphfaaDoor.deep (Blk putW putL)
open Go.Proofs.YtacfhchmoiphfaaDoor.call (CallD ccall)
set_option linter.unusedVariables false
set_option maxRecDepth 100000

def callB (c : CallD) : Bool := call.callB c.q0 c.q1 c.q2 c.q3 c.q4 c.q5 c.q6 c.q7 c.q8
def blank : ByteArray := ⟨#[32]⟩
/-- the text of a call's first letters -/
def textTo (c : CallD) (t0 : ByteArray) (g : ByteArray) : Nat → Option ByteArray
  | 0 => some t0
  | j + 1 => if h : j < g.size then (match textTo c t0 g j with
      | none => none
      | some t => if (argT c (g[j].toNat : Int)).size = 0 then none else some (t ++ blank ++ argT c (g[j].toNat : Int))) else textTo c t0 g j
/-- does the call take nothing but what its word takes -/
def sameB (d c : CallD) : Bool := (d.q0 == c.q0) && ((d.q1 == c.q1) && ((d.q2 == c.q2) && ((d.q3 == c.q3) && ((d.q4 == c.q4) && ((d.q5 == c.q5) && ((d.q6 == c.q6) && ((d.q7 == c.q7) && (d.q8 == c.q8))))))))
def plainB (c : CallD) : Bool := sameB (onlyC c) c
def headT (c : CallD) : ByteArray := ltext.textS c.q0 ++ blank ++ nameB c.q1
/-- the text of a call -/
def callT (c : CallD) : ByteArray := if callB c && plainB c then (textTo c (headT c) (takesB c.q1) (takesB c.q1).size).getD ⟨#[]⟩ else ⟨#[]⟩
theorem callB_small {c : CallD} (h : callB c = true) : Small c := by
  simp only [callB, call.callB, Bool.and_eq_true] at h
  obtain ⟨h0, h1, h2, h3, h4, h5, h6⟩ := h
  simp only [call.refB, Bool.and_eq_true] at h2 h3
  have := call.isB_yes h2.2
  have := call.isB_yes h3.2
  have := call.isB_yes h4
  have := call.isB_yes h5
  have := call.isB_yes h6
  constructor <;> (unfold I64; omega)
theorem callB_q {c : CallD} (h : callB c = true) : 0 ≤ c.q0 ∧ c.q0 ≤ 15 ∧ 1 ≤ c.q1 ∧ c.q1 ≤ 12 := by
  simp only [callB, call.callB, Bool.and_eq_true] at h
  have := label.right_yes _ h.1
  have := call.isB_yes h.2.1
  omega
theorem text_step {c : CallD} {t0 g t : ByteArray} {j : Nat} (h : j < g.size) (ht : textTo c t0 g j = some t) : textTo c t0 g (j + 1) = if (argT c (g[j].toNat : Int)).size = 0 then none else some (t ++ blank ++ argT c (g[j].toNat : Int)) := by
  rw [textTo, dif_pos h, ht]
theorem text_none {c : CallD} {t0 g : ByteArray} {j : Nat} (h : textTo c t0 g j = none) : ∀ d, textTo c t0 g (j + d) = none
  | 0 => h
  | d + 1 => by
    rw [show j + (d + 1) = (j + d) + 1 by omega, textTo]
    have := text_none h d
    split
    · rw [this]
    · exact this
/-- the first of nine numbers in which two calls differ -/
theorem differ (d c : CallD) (h : sameB d c = false) : ((d.q0 == c.q0) = false) ∨ ((d.q0 == c.q0) = true ∧ (d.q1 == c.q1) = false) ∨ ((d.q0 == c.q0) = true ∧ (d.q1 == c.q1) = true ∧ (d.q2 == c.q2) = false) ∨ ((d.q0 == c.q0) = true ∧ (d.q1 == c.q1) = true ∧ (d.q2 == c.q2) = true ∧ (d.q3 == c.q3) = false) ∨ ((d.q0 == c.q0) = true ∧ (d.q1 == c.q1) = true ∧ (d.q2 == c.q2) = true ∧ (d.q3 == c.q3) = true ∧ (d.q4 == c.q4) = false) ∨ ((d.q0 == c.q0) = true ∧ (d.q1 == c.q1) = true ∧ (d.q2 == c.q2) = true ∧ (d.q3 == c.q3) = true ∧ (d.q4 == c.q4) = true ∧ (d.q5 == c.q5) = false) ∨ ((d.q0 == c.q0) = true ∧ (d.q1 == c.q1) = true ∧ (d.q2 == c.q2) = true ∧ (d.q3 == c.q3) = true ∧ (d.q4 == c.q4) = true ∧ (d.q5 == c.q5) = true ∧ (d.q6 == c.q6) = false) ∨ ((d.q0 == c.q0) = true ∧ (d.q1 == c.q1) = true ∧ (d.q2 == c.q2) = true ∧ (d.q3 == c.q3) = true ∧ (d.q4 == c.q4) = true ∧ (d.q5 == c.q5) = true ∧ (d.q6 == c.q6) = true ∧ (d.q7 == c.q7) = false) ∨ ((d.q0 == c.q0) = true ∧ (d.q1 == c.q1) = true ∧ (d.q2 == c.q2) = true ∧ (d.q3 == c.q3) = true ∧ (d.q4 == c.q4) = true ∧ (d.q5 == c.q5) = true ∧ (d.q6 == c.q6) = true ∧ (d.q7 == c.q7) = true ∧ (d.q8 == c.q8) = false) := by
  simp only [sameB] at h
  cases h0 : (d.q0 == c.q0)
  · simp
  cases h1 : (d.q1 == c.q1)
  · simp
  cases h2 : (d.q2 == c.q2)
  · simp
  cases h3 : (d.q3 == c.q3)
  · simp
  cases h4 : (d.q4 == c.q4)
  · simp
  cases h5 : (d.q5 == c.q5)
  · simp
  cases h6 : (d.q6 == c.q6)
  · simp
  cases h7 : (d.q7 == c.q7)
  · simp
  cases h8 : (d.q8 == c.q8)
  · simp
  simp [h0, h1, h2, h3, h4, h5, h6, h7, h8] at h
theorem same_eq {d c : CallD} (h : sameB d c = true) : d = c := by
  cases d; cases c
  simp only [sameB, Bool.and_eq_true, beq_iff_eq] at h
  simp [h]

end Go.Proofs.YtacfhchmoiphfaaDoor.scr
