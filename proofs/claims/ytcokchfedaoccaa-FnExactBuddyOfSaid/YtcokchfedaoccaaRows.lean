/-
  No cell of these rows narrows 'for every input' (looked for: loops, veiled, ifaces, maps, wideKeys, modest, calm, conditions, laid).
  DERIVED. THE GIVEN ROWS OF THIS SEAT. 6 by the template 'for every input the law returns true; each argument reads behind the call as it read before'; 0 by the template 'total and deterministic' (their statements: YtcokchfedaoccaaTotals.lean).
  GIVEN WITH THE SEED: the statements are not yours to turn. If you find one false, say at which input.
  Laid BY PROGRAM, IN A SANDBOX (cutbox-rows.mjs): the forced cells as the released guide's own fill.sh prints them over the translation 639eaf16562359db… (all of the seat's roots in one cut). By AI agents, Wed Nov 11 2026. No macro, syntax, notation, axiom, sorry.
-/
import Derived.Test.YtcokchfedaoccaaChecked
import GoSem.Claim
import GoSem.ClaimJoined
import GoSem.ClaimMapViews
import Derived.JoinedTies
import Derived.KernelRfl
namespace Go.Proofs.Ytcokchfedaoccaa
/- THE CELL 'sum', in the pinned program and in every row, IS THE sha256 OF THE DUMP (.gsa) THAT YtcokchfedaoccaaProg.lean LOADS. Nothing in Lean hashes anything: it is a label: what it is worth is what the hold of that sum in a sandbox is worth. -/
noncomputable def Try.pinned : Pinned := { name := "ytcokchfedaoccaa", sum := "639eaf16562359dbf41ceeacb468808e823a682ba2f9bf9718445300f1db5a0d", checked := Try.checked }
namespace Rows
def none {H : Type} : Left H := { results := [], args := [] }

/-- 'laws.FnExactBuddyRight': WHATEVER THE INPUT: true; the input reads as it did. -/
def fnExactBuddyRightSpec : ChangeSpec := { name := "fnExactBuddyRight", fn := fun _ => fun
  | [d] => { results := [.lit (.bool true)], args := [d] }
  | _ => none }
def fnExactBuddyRightRow : OpenClaim := { program := "ytcokchfedaoccaa", sum := "639eaf16562359dbf41ceeacb468808e823a682ba2f9bf9718445300f1db5a0d", func := "loop.example/g00740/laws.FnExactBuddyRight", spec := "fnExactBuddyRight", plainKeys := false, apart := false }
def FnExactBuddyRightSaid : Prop := fnExactBuddyRightRow.holds Try.pinned (OpenSpec.ofChange fnExactBuddyRightSpec)

/-- ITS FALSE NEIGHBOUR: 'it returns false'. Refute it at one input. -/
def fnExactBuddyRightWrong : ChangeSpec := { name := "fnExactBuddyRight", fn := fun _ => fun
  | [d] => { results := [.lit (.bool false)], args := [d] }
  | _ => none }
def FnExactBuddyRightWrongFalsely : Prop := fnExactBuddyRightRow.holds Try.pinned (OpenSpec.ofChange fnExactBuddyRightWrong)

/-- 'laws.FnExactBuddyNew': WHATEVER THE INPUT: true; the input reads as it did. -/
def fnExactBuddyNewSpec : ChangeSpec := { name := "fnExactBuddyNew", fn := fun _ => fun
  | [d] => { results := [.lit (.bool true)], args := [d] }
  | _ => none }
def fnExactBuddyNewRow : OpenClaim := { program := "ytcokchfedaoccaa", sum := "639eaf16562359dbf41ceeacb468808e823a682ba2f9bf9718445300f1db5a0d", func := "loop.example/g00740/laws.FnExactBuddyNew", spec := "fnExactBuddyNew", plainKeys := false, apart := false }
def FnExactBuddyNewSaid : Prop := fnExactBuddyNewRow.holds Try.pinned (OpenSpec.ofChange fnExactBuddyNewSpec)

/-- ITS FALSE NEIGHBOUR: 'it returns false'. Refute it at one input. -/
def fnExactBuddyNewWrong : ChangeSpec := { name := "fnExactBuddyNew", fn := fun _ => fun
  | [d] => { results := [.lit (.bool false)], args := [d] }
  | _ => none }
def FnExactBuddyNewWrongFalsely : Prop := fnExactBuddyNewRow.holds Try.pinned (OpenSpec.ofChange fnExactBuddyNewWrong)

/-- 'laws.FnExactBuddyTake': WHATEVER THE INPUT: true; the input reads as it did. -/
def fnExactBuddyTakeSpec : ChangeSpec := { name := "fnExactBuddyTake", fn := fun _ => fun
  | [d1, d2] => { results := [.lit (.bool true)], args := [d1, d2] }
  | _ => none }
def fnExactBuddyTakeRow : OpenClaim := { program := "ytcokchfedaoccaa", sum := "639eaf16562359dbf41ceeacb468808e823a682ba2f9bf9718445300f1db5a0d", func := "loop.example/g00740/laws.FnExactBuddyTake", spec := "fnExactBuddyTake", unfollowed := true, recurses := true, plainKeys := false, apart := false }
def FnExactBuddyTakeSaid : Prop := fnExactBuddyTakeRow.holds Try.pinned (OpenSpec.ofChange fnExactBuddyTakeSpec)

/-- ITS FALSE NEIGHBOUR: 'it returns false'. Refute it at one input. -/
def fnExactBuddyTakeWrong : ChangeSpec := { name := "fnExactBuddyTake", fn := fun _ => fun
  | [d1, d2] => { results := [.lit (.bool false)], args := [d1, d2] }
  | _ => none }
def FnExactBuddyTakeWrongFalsely : Prop := fnExactBuddyTakeRow.holds Try.pinned (OpenSpec.ofChange fnExactBuddyTakeWrong)

/-- 'laws.FnExactBuddyGive': WHATEVER THE INPUT: true; the input reads as it did. -/
def fnExactBuddyGiveSpec : ChangeSpec := { name := "fnExactBuddyGive", fn := fun _ => fun
  | [d1, d2, d3] => { results := [.lit (.bool true)], args := [d1, d2, d3] }
  | _ => none }
def fnExactBuddyGiveRow : OpenClaim := { program := "ytcokchfedaoccaa", sum := "639eaf16562359dbf41ceeacb468808e823a682ba2f9bf9718445300f1db5a0d", func := "loop.example/g00740/laws.FnExactBuddyGive", spec := "fnExactBuddyGive", unfollowed := true, recurses := true, plainKeys := false, apart := false }
def FnExactBuddyGiveSaid : Prop := fnExactBuddyGiveRow.holds Try.pinned (OpenSpec.ofChange fnExactBuddyGiveSpec)

/-- ITS FALSE NEIGHBOUR: 'it returns false'. Refute it at one input. -/
def fnExactBuddyGiveWrong : ChangeSpec := { name := "fnExactBuddyGive", fn := fun _ => fun
  | [d1, d2, d3] => { results := [.lit (.bool false)], args := [d1, d2, d3] }
  | _ => none }
def FnExactBuddyGiveWrongFalsely : Prop := fnExactBuddyGiveRow.holds Try.pinned (OpenSpec.ofChange fnExactBuddyGiveWrong)

/-- 'laws.FnExactFreePages': WHATEVER THE INPUT: true; the input reads as it did. -/
def fnExactFreePagesSpec : ChangeSpec := { name := "fnExactFreePages", fn := fun _ => fun
  | [d] => { results := [.lit (.bool true)], args := [d] }
  | _ => none }
def fnExactFreePagesRow : OpenClaim := { program := "ytcokchfedaoccaa", sum := "639eaf16562359dbf41ceeacb468808e823a682ba2f9bf9718445300f1db5a0d", func := "loop.example/g00740/laws.FnExactFreePages", spec := "fnExactFreePages", unfollowed := true, recurses := true, plainKeys := false, apart := false }
def FnExactFreePagesSaid : Prop := fnExactFreePagesRow.holds Try.pinned (OpenSpec.ofChange fnExactFreePagesSpec)

/-- ITS FALSE NEIGHBOUR: 'it returns false'. Refute it at one input. -/
def fnExactFreePagesWrong : ChangeSpec := { name := "fnExactFreePages", fn := fun _ => fun
  | [d] => { results := [.lit (.bool false)], args := [d] }
  | _ => none }
def FnExactFreePagesWrongFalsely : Prop := fnExactFreePagesRow.holds Try.pinned (OpenSpec.ofChange fnExactFreePagesWrong)

/-- 'laws.FnExactBuddyOf': WHATEVER THE INPUT: true; the input reads as it did. -/
def fnExactBuddyOfSpec : ChangeSpec := { name := "fnExactBuddyOf", fn := fun _ => fun
  | [d1, d2] => { results := [.lit (.bool true)], args := [d1, d2] }
  | _ => none }
def fnExactBuddyOfRow : OpenClaim := { program := "ytcokchfedaoccaa", sum := "639eaf16562359dbf41ceeacb468808e823a682ba2f9bf9718445300f1db5a0d", func := "loop.example/g00740/laws.FnExactBuddyOf", spec := "fnExactBuddyOf", unfollowed := true, recurses := true, plainKeys := false, apart := false }
def FnExactBuddyOfSaid : Prop := fnExactBuddyOfRow.holds Try.pinned (OpenSpec.ofChange fnExactBuddyOfSpec)

/-- ITS FALSE NEIGHBOUR: 'it returns false'. Refute it at one input. -/
def fnExactBuddyOfWrong : ChangeSpec := { name := "fnExactBuddyOf", fn := fun _ => fun
  | [d1, d2] => { results := [.lit (.bool false)], args := [d1, d2] }
  | _ => none }
def FnExactBuddyOfWrongFalsely : Prop := fnExactBuddyOfRow.holds Try.pinned (OpenSpec.ofChange fnExactBuddyOfWrong)

/- THE SECOND FORM. 'bulk': how many values and letters a reading holds, each counted each time it is reached (what is shared counts as often as it is met; a slice's spare places count too). A statement '..UptoSaid' is the law's where the arguments, and the package variables that the reading takes, are together of bulk at most 1048576: NARROWER than '..Said'. Prove '..Said' where nothing that the law and all that it calls make is longer than what came in: it says more and counts as full. Else prove '..UptoSaid'. A law counts once. -/
mutual
def uptoBulk {H : Type} : DataW H → Nat
  | .lit (.string bytes) => bytes.length + 1
  | .lit _ => 1
  | .nil => 1
  | .ptr d => uptoBulk d + 1
  | .slice elems spare => uptoBulkAll elems + uptoBulkAll spare + 1
  | .agg parts => uptoBulkAll parts + 1
  | .iface _ d => uptoBulk d + 1
  | .map entries => uptoBulkEntries entries + 1
  | .held _ => 1
def uptoBulkAll {H : Type} : List (DataW H) → Nat
  | [] => 0
  | d :: r => uptoBulk d + uptoBulkAll r
def uptoBulkEntries {H : Type} : List (Lit × DataW H) → Nat
  | [] => 0
  | x :: r => uptoBulkEntry x + uptoBulkEntries r
def uptoBulkEntry {H : Type} : Lit × DataW H → Nat
  | (.string bytes, d) => bytes.length + uptoBulk d + 1
  | (_, d) => uptoBulk d + 1
 end
def uptoSmall : (H : Type) → List (DataW H) → Bool := fun _ ds => decide (uptoBulkAll ds ≤ 1048576)
def OpenSpec.upto (s : _root_.Go.ChangeSpec) : _root_.Go.OpenSpec := { _root_.Go.OpenSpec.ofChange s with cond := some uptoSmall }

/-- 'laws.FnExactBuddyRight', WHERE WHAT IT READS IS OF BULK AT MOST 1048576: true; the input reads as it did. -/
def fnExactBuddyRightUptoRow : OpenClaim := { program := "ytcokchfedaoccaa", sum := "639eaf16562359dbf41ceeacb468808e823a682ba2f9bf9718445300f1db5a0d", func := "loop.example/g00740/laws.FnExactBuddyRight", spec := "fnExactBuddyRight", plainKeys := false, apart := false, narrowed := true }
def FnExactBuddyRightUptoSaid : Prop := fnExactBuddyRightUptoRow.holds Try.pinned (OpenSpec.upto fnExactBuddyRightSpec)

/-- 'laws.FnExactBuddyNew', WHERE WHAT IT READS IS OF BULK AT MOST 1048576: true; the input reads as it did. -/
def fnExactBuddyNewUptoRow : OpenClaim := { program := "ytcokchfedaoccaa", sum := "639eaf16562359dbf41ceeacb468808e823a682ba2f9bf9718445300f1db5a0d", func := "loop.example/g00740/laws.FnExactBuddyNew", spec := "fnExactBuddyNew", plainKeys := false, apart := false, narrowed := true }
def FnExactBuddyNewUptoSaid : Prop := fnExactBuddyNewUptoRow.holds Try.pinned (OpenSpec.upto fnExactBuddyNewSpec)

/-- 'laws.FnExactBuddyTake', WHERE WHAT IT READS IS OF BULK AT MOST 1048576: true; the input reads as it did. -/
def fnExactBuddyTakeUptoRow : OpenClaim := { program := "ytcokchfedaoccaa", sum := "639eaf16562359dbf41ceeacb468808e823a682ba2f9bf9718445300f1db5a0d", func := "loop.example/g00740/laws.FnExactBuddyTake", spec := "fnExactBuddyTake", unfollowed := true, recurses := true, plainKeys := false, apart := false, narrowed := true }
def FnExactBuddyTakeUptoSaid : Prop := fnExactBuddyTakeUptoRow.holds Try.pinned (OpenSpec.upto fnExactBuddyTakeSpec)

/-- 'laws.FnExactBuddyGive', WHERE WHAT IT READS IS OF BULK AT MOST 1048576: true; the input reads as it did. -/
def fnExactBuddyGiveUptoRow : OpenClaim := { program := "ytcokchfedaoccaa", sum := "639eaf16562359dbf41ceeacb468808e823a682ba2f9bf9718445300f1db5a0d", func := "loop.example/g00740/laws.FnExactBuddyGive", spec := "fnExactBuddyGive", unfollowed := true, recurses := true, plainKeys := false, apart := false, narrowed := true }
def FnExactBuddyGiveUptoSaid : Prop := fnExactBuddyGiveUptoRow.holds Try.pinned (OpenSpec.upto fnExactBuddyGiveSpec)

/-- 'laws.FnExactFreePages', WHERE WHAT IT READS IS OF BULK AT MOST 1048576: true; the input reads as it did. -/
def fnExactFreePagesUptoRow : OpenClaim := { program := "ytcokchfedaoccaa", sum := "639eaf16562359dbf41ceeacb468808e823a682ba2f9bf9718445300f1db5a0d", func := "loop.example/g00740/laws.FnExactFreePages", spec := "fnExactFreePages", unfollowed := true, recurses := true, plainKeys := false, apart := false, narrowed := true }
def FnExactFreePagesUptoSaid : Prop := fnExactFreePagesUptoRow.holds Try.pinned (OpenSpec.upto fnExactFreePagesSpec)

/-- 'laws.FnExactBuddyOf', WHERE WHAT IT READS IS OF BULK AT MOST 1048576: true; the input reads as it did. -/
def fnExactBuddyOfUptoRow : OpenClaim := { program := "ytcokchfedaoccaa", sum := "639eaf16562359dbf41ceeacb468808e823a682ba2f9bf9718445300f1db5a0d", func := "loop.example/g00740/laws.FnExactBuddyOf", spec := "fnExactBuddyOf", unfollowed := true, recurses := true, plainKeys := false, apart := false, narrowed := true }
def FnExactBuddyOfUptoSaid : Prop := fnExactBuddyOfUptoRow.holds Try.pinned (OpenSpec.upto fnExactBuddyOfSpec)

end Rows
end Go.Proofs.Ytcokchfedaoccaa
