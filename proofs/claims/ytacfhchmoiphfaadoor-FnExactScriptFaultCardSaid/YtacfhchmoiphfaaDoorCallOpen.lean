/-
  Calls that were handed in, opened.
-/
import Derived.Test.YtacfhchmoiphfaaDoorDeepOpen
namespace Go.Proofs.YtacfhchmoiphfaaDoor.call
open Go.RowKit Go.Deep
open Go.Proofs.YtacfhchmoiphfaaDoor.deep
set_option linter.unusedVariables false

/-- a call's nine numbers -/
structure CallD where
  q0 : Int
  q1 : Int
  q2 : Int
  q3 : Int
  q4 : Int
  q5 : Int
  q6 : Int
  q7 : Int
  q8 : Int
def ccall (c : CallD) : List Value := [.int .i64 c.q0, .int .i64 c.q1, .int .i64 c.q2, .int .i64 c.q3, .int .i64 c.q4, .int .i64 c.q5, .int .i64 c.q6, .int .i64 c.q7, .int .i64 c.q8]
theorem lenr2 {l : List Value} (h : l.length = 2) : ∃ v0 v1, l = [v0, v1] := by
  match l, h with
  | [v0, v1], _ => exact ⟨v0, v1, rfl⟩
theorem len9 {l : List Value} (h : l.length = 9) : ∃ v0 v1 v2 v3 v4 v5 v6 v7 v8, l = [v0, v1, v2, v3, v4, v5, v6, v7, v8] := by
  match l, h with
  | [v0, v1, v2, v3, v4, v5, v6, v7, v8], _ => exact ⟨v0, v1, v2, v3, v4, v5, v6, v7, v8, rfl⟩
end Go.Proofs.YtacfhchmoiphfaaDoor.call
