/-
  What GetNum tells, at every argument. No program stands in it.
-/
import Derived.Test.YtjiihkdnpblilaaDoorDec
namespace Go.Proofs.YtjiihkdnpblilaaDoor.get
open Go.Proofs.YtjiihkdnpblilaaDoor

/-- what GetNum tells of a text that is not too long, at a place that is not below 0 -/
def told (R : Nat × Nat × Int) : Value := .agg #[.int .i64 (dec.unN R.1), .int .i64 (R.2.1 : Int), .int .i64 R.2.2]

/-- the outcome at every argument -/
def outR (s : ByteArray) (p : Int) : Nat × Nat × Int := if 8000 < s.size then (0, 0, 2) else if p < 0 then (0, 0, 1) else dec.decN 10 s p.toNat 0 0

end Go.Proofs.YtjiihkdnpblilaaDoor.get
