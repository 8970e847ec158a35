/-
  What the rows' lists give the walks: the library's table of powers, the program's two tables, the library's number MaxLen; and a world that meets the lists.
-/
import Derived.Test.YtacfhchmoiphfaaDoorScrPow
import Derived.Test.YtacfhchmoiphfaaDoorCards
import Derived.Test.YtacfhchmoiphfaaDoorTie
import Derived.ProofKit
import Derived.LaidLaws
import Derived.Lib.LaidTab
import Derived.Stop.LaidErr
import Derived.LaidHandle
import Derived.Stop.Joined
namespace Go.Proofs.YtacfhchmoiphfaaDoor.scr
open Go.RowKit Go.Deep Go.Sort
open Go.Proofs.YtacfhchmoiphfaaDoor
set_option linter.unusedVariables false
set_option maxRecDepth 100000

theorem pow_ty : (Tryd.prog.globals[2]?).map (·.type) = some 142 := by kernel_rfl
/-- the table of powers out of a list in which it stands third -/
theorem pow_third {W : World} {a b : String × DataW Unit} {r : List (String × DataW Unit)} (h : laidMet Tryd.prog (a :: b :: ("internal/strconv.uint64pow10", Rows.laid_internal_strconv_uint64pow10) :: r) W) : Lib.TabIs Tryd.prog W "internal/strconv.uint64pow10" .u64 Lib.pow10Tab :=
  Lib.tabIs_of_head (g := 2) gpow pow_ty Tryd.underlying142 Tryd.underlying83 (by kernel_rfl) (by kernel_rfl) (show laidMet Tryd.prog (("internal/strconv.uint64pow10", Lib.tabData .u64 Lib.pow10Tab) :: r) W from h.tail.tail)
def put (h : Array Obj) (g : Nat) (cs : List Value) : Array Obj := h.modify g fun
  | .cells _ t frozen => .cells cs.toArray t frozen
  | o => o
/-- an array of numbers, out of its datum -/
def numsOf : DataW Unit → List Value
  | .agg xs => xs.map fun | .lit (.int k n) => .int k n | _ => .nilIface
  | _ => []
/-- the settled world, the listed variables laid -/
noncomputable def laidWorld (os : Os) : World :=
  let w0 := World.holding Tryd.prog os ⟨#[], #[], []⟩
  { w0 with heap := put (put (put w0.heap 6 (numsOf Rows.laid_math_bits_deBruijn32tab)) 7 (numsOf Rows.laid_math_bits_deBruijn64tab)) 2 (numsOf Rows.laid_internal_strconv_uint64pow10) }
end Go.Proofs.YtacfhchmoiphfaaDoor.scr
