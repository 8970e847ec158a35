/-
  The comparison of two outcomes that are the same.
-/
import Derived.Test.YtjiihkdnpblilaeDoorRows
import Derived.WalkKit
import Derived.ProofKit
namespace Go.Proofs.YtjiihkdnpblilaeDoor.eqt
open Go.RowKit
open Go.Proofs.YtjiihkdnpblilaeDoor
theorem eq_same (t : ByteArray) (a c : Int) (w : World) :
    Calls Tryd.prog 6 #[.agg #[.string t, .int .i64 a, .int .i64 c], .agg #[.string t, .int .i64 a, .int .i64 c]] w fun e w' => e = .returned (.bool true) ∧ Below w.heap.size w w' := by
  go_enter Tryd.func6, Tryd.ntmps6
  go_wp2
  go_ret
  exact ⟨rfl, ((Below.refl _ _).alloc (Nat.le_refl _) _).alloc (by simp) _⟩
end Go.Proofs.YtjiihkdnpblilaeDoor.eqt
