/-
  No cell of these rows narrows 'for every input' (looked for: loops, veiled, ifaces, maps, wideKeys, modest, calm, conditions, laid).
  DERIVED. THE GIVEN ROWS OF THIS SEAT. 6 by the template 'for every input the law returns true; each argument reads behind the call as it read before'; 0 by the template 'total and deterministic' (their statements: YtnkkkdhpopfahaaTotals.lean).
  GIVEN WITH THE SEED: the statements are not yours to turn. If you find one false, say at which input.
  Laid BY PROGRAM, IN A SANDBOX (cutbox-rows.mjs): the forced cells as the released guide's own fill.sh prints them over the translation 297045413e3c73a9… (all of the seat's roots in one cut). By AI agents, Wed Nov 11 2026. No macro, syntax, notation, axiom, sorry.
-/
import Derived.Test.YtnkkkdhpopfahaaChecked
import GoSem.Claim
import GoSem.ClaimJoined
import GoSem.ClaimMapViews
import Derived.JoinedTies
import Derived.KernelRfl
namespace Go.Proofs.Ytnkkkdhpopfahaa
/- THE CELL 'sum', in the pinned program and in every row, IS THE sha256 OF THE DUMP (.gsa) THAT YtnkkkdhpopfahaaProg.lean LOADS. Nothing in Lean hashes anything: it is a label: what it is worth is what the hold of that sum in a sandbox is worth. -/
noncomputable def Try.pinned : Pinned := { name := "ytnkkkdhpopfahaa", sum := "297045413e3c73a9ecbfe6f5c5d6a1e9171724aa8a77832ebc210a323cd9d2d3", checked := Try.checked }
namespace Rows
def none {H : Type} : Left H := { results := [], args := [] }

/-- 'laws.FnExactSchedRight': WHATEVER THE INPUT: true; the input reads as it did. -/
def fnExactSchedRightSpec : ChangeSpec := { name := "fnExactSchedRight", fn := fun _ => fun
  | [d] => { results := [.lit (.bool true)], args := [d] }
  | _ => none }
def fnExactSchedRightRow : OpenClaim := { program := "ytnkkkdhpopfahaa", sum := "297045413e3c73a9ecbfe6f5c5d6a1e9171724aa8a77832ebc210a323cd9d2d3", func := "loop.example/g00740/laws.FnExactSchedRight", spec := "fnExactSchedRight", unfollowed := true, recurses := true, apart := false }
def FnExactSchedRightSaid : Prop := fnExactSchedRightRow.holds Try.pinned (OpenSpec.ofChange fnExactSchedRightSpec)

/-- ITS FALSE NEIGHBOUR: 'it returns false'. Refute it at one input. -/
def fnExactSchedRightWrong : ChangeSpec := { name := "fnExactSchedRight", fn := fun _ => fun
  | [d] => { results := [.lit (.bool false)], args := [d] }
  | _ => none }
def FnExactSchedRightWrongFalsely : Prop := fnExactSchedRightRow.holds Try.pinned (OpenSpec.ofChange fnExactSchedRightWrong)

/-- 'laws.FnExactSchedNew': WHATEVER THE INPUT: true; the input reads as it did. -/
def fnExactSchedNewSpec : ChangeSpec := { name := "fnExactSchedNew", fn := fun _ => fun
  | [d] => { results := [.lit (.bool true)], args := [d] }
  | _ => none }
def fnExactSchedNewRow : OpenClaim := { program := "ytnkkkdhpopfahaa", sum := "297045413e3c73a9ecbfe6f5c5d6a1e9171724aa8a77832ebc210a323cd9d2d3", func := "loop.example/g00740/laws.FnExactSchedNew", spec := "fnExactSchedNew", apart := false }
def FnExactSchedNewSaid : Prop := fnExactSchedNewRow.holds Try.pinned (OpenSpec.ofChange fnExactSchedNewSpec)

/-- ITS FALSE NEIGHBOUR: 'it returns false'. Refute it at one input. -/
def fnExactSchedNewWrong : ChangeSpec := { name := "fnExactSchedNew", fn := fun _ => fun
  | [d] => { results := [.lit (.bool false)], args := [d] }
  | _ => none }
def FnExactSchedNewWrongFalsely : Prop := fnExactSchedNewRow.holds Try.pinned (OpenSpec.ofChange fnExactSchedNewWrong)

/-- 'laws.FnExactSchedAdd': WHATEVER THE INPUT: true; the input reads as it did. -/
def fnExactSchedAddSpec : ChangeSpec := { name := "fnExactSchedAdd", fn := fun _ => fun
  | [d1, d2, d3, d4] => { results := [.lit (.bool true)], args := [d1, d2, d3, d4] }
  | _ => none }
def fnExactSchedAddRow : OpenClaim := { program := "ytnkkkdhpopfahaa", sum := "297045413e3c73a9ecbfe6f5c5d6a1e9171724aa8a77832ebc210a323cd9d2d3", func := "loop.example/g00740/laws.FnExactSchedAdd", spec := "fnExactSchedAdd", unfollowed := true, recurses := true, apart := false }
def FnExactSchedAddSaid : Prop := fnExactSchedAddRow.holds Try.pinned (OpenSpec.ofChange fnExactSchedAddSpec)

/-- ITS FALSE NEIGHBOUR: 'it returns false'. Refute it at one input. -/
def fnExactSchedAddWrong : ChangeSpec := { name := "fnExactSchedAdd", fn := fun _ => fun
  | [d1, d2, d3, d4] => { results := [.lit (.bool false)], args := [d1, d2, d3, d4] }
  | _ => none }
def FnExactSchedAddWrongFalsely : Prop := fnExactSchedAddRow.holds Try.pinned (OpenSpec.ofChange fnExactSchedAddWrong)

/-- 'laws.FnExactSchedTick': WHATEVER THE INPUT: true; the input reads as it did. -/
def fnExactSchedTickSpec : ChangeSpec := { name := "fnExactSchedTick", fn := fun _ => fun
  | [d] => { results := [.lit (.bool true)], args := [d] }
  | _ => none }
def fnExactSchedTickRow : OpenClaim := { program := "ytnkkkdhpopfahaa", sum := "297045413e3c73a9ecbfe6f5c5d6a1e9171724aa8a77832ebc210a323cd9d2d3", func := "loop.example/g00740/laws.FnExactSchedTick", spec := "fnExactSchedTick", unfollowed := true, recurses := true, apart := false }
def FnExactSchedTickSaid : Prop := fnExactSchedTickRow.holds Try.pinned (OpenSpec.ofChange fnExactSchedTickSpec)

/-- ITS FALSE NEIGHBOUR: 'it returns false'. Refute it at one input. -/
def fnExactSchedTickWrong : ChangeSpec := { name := "fnExactSchedTick", fn := fun _ => fun
  | [d] => { results := [.lit (.bool false)], args := [d] }
  | _ => none }
def FnExactSchedTickWrongFalsely : Prop := fnExactSchedTickRow.holds Try.pinned (OpenSpec.ofChange fnExactSchedTickWrong)

/-- 'laws.FnExactSchedRun': WHATEVER THE INPUT: true; the input reads as it did. -/
def fnExactSchedRunSpec : ChangeSpec := { name := "fnExactSchedRun", fn := fun _ => fun
  | [d1, d2] => { results := [.lit (.bool true)], args := [d1, d2] }
  | _ => none }
def fnExactSchedRunRow : OpenClaim := { program := "ytnkkkdhpopfahaa", sum := "297045413e3c73a9ecbfe6f5c5d6a1e9171724aa8a77832ebc210a323cd9d2d3", func := "loop.example/g00740/laws.FnExactSchedRun", spec := "fnExactSchedRun", unfollowed := true, recurses := true, apart := false }
def FnExactSchedRunSaid : Prop := fnExactSchedRunRow.holds Try.pinned (OpenSpec.ofChange fnExactSchedRunSpec)

/-- ITS FALSE NEIGHBOUR: 'it returns false'. Refute it at one input. -/
def fnExactSchedRunWrong : ChangeSpec := { name := "fnExactSchedRun", fn := fun _ => fun
  | [d1, d2] => { results := [.lit (.bool false)], args := [d1, d2] }
  | _ => none }
def FnExactSchedRunWrongFalsely : Prop := fnExactSchedRunRow.holds Try.pinned (OpenSpec.ofChange fnExactSchedRunWrong)

/-- 'laws.FnExactTasksOf': WHATEVER THE INPUT: true; the input reads as it did. -/
def fnExactTasksOfSpec : ChangeSpec := { name := "fnExactTasksOf", fn := fun _ => fun
  | [d1, d2] => { results := [.lit (.bool true)], args := [d1, d2] }
  | _ => none }
def fnExactTasksOfRow : OpenClaim := { program := "ytnkkkdhpopfahaa", sum := "297045413e3c73a9ecbfe6f5c5d6a1e9171724aa8a77832ebc210a323cd9d2d3", func := "loop.example/g00740/laws.FnExactTasksOf", spec := "fnExactTasksOf", unfollowed := true, recurses := true, apart := false }
def FnExactTasksOfSaid : Prop := fnExactTasksOfRow.holds Try.pinned (OpenSpec.ofChange fnExactTasksOfSpec)

/-- ITS FALSE NEIGHBOUR: 'it returns false'. Refute it at one input. -/
def fnExactTasksOfWrong : ChangeSpec := { name := "fnExactTasksOf", fn := fun _ => fun
  | [d1, d2] => { results := [.lit (.bool false)], args := [d1, d2] }
  | _ => none }
def FnExactTasksOfWrongFalsely : Prop := fnExactTasksOfRow.holds Try.pinned (OpenSpec.ofChange fnExactTasksOfWrong)

/- THE SECOND FORM. 'bulk': how many values and letters a reading holds, each counted each time it is reached (what is shared counts as often as it is met; a slice's spare places count too). A statement '..UptoSaid' is the law's where the arguments, and the package variables that the reading takes, are together of bulk at most 1048576: NARROWER than '..Said'. Prove '..Said' where nothing that the law and all that it calls make is longer than what came in: it says more and counts as full. Else prove '..UptoSaid'. A law counts once. -/
mutual
def uptoBulk {H : Type} : DataW H → Nat
  | .lit (.string bytes) => bytes.length + 1
  | .lit _ => 1
  | .nil => 1
  | .ptr d => uptoBulk d + 1
  | .slice elems spare => uptoBulkAll elems + uptoBulkAll spare + 1
  | .agg parts => uptoBulkAll parts + 1
  | .iface _ d => uptoBulk d + 1
  | .map entries => uptoBulkEntries entries + 1
  | .held _ => 1
def uptoBulkAll {H : Type} : List (DataW H) → Nat
  | [] => 0
  | d :: r => uptoBulk d + uptoBulkAll r
def uptoBulkEntries {H : Type} : List (Lit × DataW H) → Nat
  | [] => 0
  | x :: r => uptoBulkEntry x + uptoBulkEntries r
def uptoBulkEntry {H : Type} : Lit × DataW H → Nat
  | (.string bytes, d) => bytes.length + uptoBulk d + 1
  | (_, d) => uptoBulk d + 1
 end
def uptoSmall : (H : Type) → List (DataW H) → Bool := fun _ ds => decide (uptoBulkAll ds ≤ 1048576)
def OpenSpec.upto (s : _root_.Go.ChangeSpec) : _root_.Go.OpenSpec := { _root_.Go.OpenSpec.ofChange s with cond := some uptoSmall }

/-- 'laws.FnExactSchedRight', WHERE WHAT IT READS IS OF BULK AT MOST 1048576: true; the input reads as it did. -/
def fnExactSchedRightUptoRow : OpenClaim := { program := "ytnkkkdhpopfahaa", sum := "297045413e3c73a9ecbfe6f5c5d6a1e9171724aa8a77832ebc210a323cd9d2d3", func := "loop.example/g00740/laws.FnExactSchedRight", spec := "fnExactSchedRight", unfollowed := true, recurses := true, apart := false, narrowed := true }
def FnExactSchedRightUptoSaid : Prop := fnExactSchedRightUptoRow.holds Try.pinned (OpenSpec.upto fnExactSchedRightSpec)

/-- 'laws.FnExactSchedNew', WHERE WHAT IT READS IS OF BULK AT MOST 1048576: true; the input reads as it did. -/
def fnExactSchedNewUptoRow : OpenClaim := { program := "ytnkkkdhpopfahaa", sum := "297045413e3c73a9ecbfe6f5c5d6a1e9171724aa8a77832ebc210a323cd9d2d3", func := "loop.example/g00740/laws.FnExactSchedNew", spec := "fnExactSchedNew", apart := false, narrowed := true }
def FnExactSchedNewUptoSaid : Prop := fnExactSchedNewUptoRow.holds Try.pinned (OpenSpec.upto fnExactSchedNewSpec)

/-- 'laws.FnExactSchedAdd', WHERE WHAT IT READS IS OF BULK AT MOST 1048576: true; the input reads as it did. -/
def fnExactSchedAddUptoRow : OpenClaim := { program := "ytnkkkdhpopfahaa", sum := "297045413e3c73a9ecbfe6f5c5d6a1e9171724aa8a77832ebc210a323cd9d2d3", func := "loop.example/g00740/laws.FnExactSchedAdd", spec := "fnExactSchedAdd", unfollowed := true, recurses := true, apart := false, narrowed := true }
def FnExactSchedAddUptoSaid : Prop := fnExactSchedAddUptoRow.holds Try.pinned (OpenSpec.upto fnExactSchedAddSpec)

/-- 'laws.FnExactSchedTick', WHERE WHAT IT READS IS OF BULK AT MOST 1048576: true; the input reads as it did. -/
def fnExactSchedTickUptoRow : OpenClaim := { program := "ytnkkkdhpopfahaa", sum := "297045413e3c73a9ecbfe6f5c5d6a1e9171724aa8a77832ebc210a323cd9d2d3", func := "loop.example/g00740/laws.FnExactSchedTick", spec := "fnExactSchedTick", unfollowed := true, recurses := true, apart := false, narrowed := true }
def FnExactSchedTickUptoSaid : Prop := fnExactSchedTickUptoRow.holds Try.pinned (OpenSpec.upto fnExactSchedTickSpec)

/-- 'laws.FnExactSchedRun', WHERE WHAT IT READS IS OF BULK AT MOST 1048576: true; the input reads as it did. -/
def fnExactSchedRunUptoRow : OpenClaim := { program := "ytnkkkdhpopfahaa", sum := "297045413e3c73a9ecbfe6f5c5d6a1e9171724aa8a77832ebc210a323cd9d2d3", func := "loop.example/g00740/laws.FnExactSchedRun", spec := "fnExactSchedRun", unfollowed := true, recurses := true, apart := false, narrowed := true }
def FnExactSchedRunUptoSaid : Prop := fnExactSchedRunUptoRow.holds Try.pinned (OpenSpec.upto fnExactSchedRunSpec)

/-- 'laws.FnExactTasksOf', WHERE WHAT IT READS IS OF BULK AT MOST 1048576: true; the input reads as it did. -/
def fnExactTasksOfUptoRow : OpenClaim := { program := "ytnkkkdhpopfahaa", sum := "297045413e3c73a9ecbfe6f5c5d6a1e9171724aa8a77832ebc210a323cd9d2d3", func := "loop.example/g00740/laws.FnExactTasksOf", spec := "fnExactTasksOf", unfollowed := true, recurses := true, apart := false, narrowed := true }
def FnExactTasksOfUptoSaid : Prop := fnExactTasksOfUptoRow.holds Try.pinned (OpenSpec.upto fnExactTasksOfSpec)

end Rows
end Go.Proofs.Ytnkkkdhpopfahaa
