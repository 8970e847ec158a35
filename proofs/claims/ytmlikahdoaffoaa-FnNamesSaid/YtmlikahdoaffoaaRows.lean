/-
  No cell of these rows narrows 'for every input' (looked for: loops, veiled, ifaces, maps, wideKeys, modest, calm, conditions, laid).
  DERIVED. THE GIVEN ROWS OF THIS SEAT. 6 by the template 'for every input the law returns true; each argument reads behind the call as it read before'; 0 by the template 'total and deterministic' (their statements: YtmlikahdoaffoaaTotals.lean).
  GIVEN WITH THE SEED: the statements are not yours to turn. If you find one false, say at which input.
  Laid BY PROGRAM, IN A SANDBOX (cutbox-rows.mjs): the forced cells as the released guide's own fill.sh prints them over the translation 879cb939801dba8f… (all of the seat's roots in one cut). By AI agents, Wed Nov 11 2026. No macro, syntax, notation, axiom, sorry.
-/
import Derived.Test.YtmlikahdoaffoaaChecked
import GoSem.Claim
import GoSem.ClaimJoined
import GoSem.ClaimMapViews
import Derived.JoinedTies
import Derived.KernelRfl
namespace Go.Proofs.Ytmlikahdoaffoaa
/- THE CELL 'sum', in the pinned program and in every row, IS THE sha256 OF THE DUMP (.gsa) THAT YtmlikahdoaffoaaProg.lean LOADS. Nothing in Lean hashes anything: it is a label: what it is worth is what the hold of that sum in a sandbox is worth. -/
noncomputable def Try.pinned : Pinned := { name := "ytmlikahdoaffoaa", sum := "879cb939801dba8ff00cb80e230abafb690219d3e36a587547b188aa5bb96b87", checked := Try.checked }
namespace Rows
def none {H : Type} : Left H := { results := [], args := [] }

/-- 'laws.FnExactMix': WHATEVER THE INPUT: true; the input reads as it did. -/
def fnExactMixSpec : ChangeSpec := { name := "fnExactMix", fn := fun _ => fun
  | [d1, d2, d3] => { results := [.lit (.bool true)], args := [d1, d2, d3] }
  | _ => none }
def fnExactMixRow : OpenClaim := { program := "ytmlikahdoaffoaa", sum := "879cb939801dba8ff00cb80e230abafb690219d3e36a587547b188aa5bb96b87", func := "loop.example/g00740/laws.FnExactMix", spec := "fnExactMix", apart := false }
def FnExactMixSaid : Prop := fnExactMixRow.holds Try.pinned (OpenSpec.ofChange fnExactMixSpec)

/-- ITS FALSE NEIGHBOUR: 'it returns false'. Refute it at one input. -/
def fnExactMixWrong : ChangeSpec := { name := "fnExactMix", fn := fun _ => fun
  | [d1, d2, d3] => { results := [.lit (.bool false)], args := [d1, d2, d3] }
  | _ => none }
def FnExactMixWrongFalsely : Prop := fnExactMixRow.holds Try.pinned (OpenSpec.ofChange fnExactMixWrong)

/-- 'laws.FnExactPermute': WHATEVER THE INPUT: true; the input reads as it did. -/
def fnExactPermuteSpec : ChangeSpec := { name := "fnExactPermute", fn := fun _ => fun
  | [d1, d2] => { results := [.lit (.bool true)], args := [d1, d2] }
  | _ => none }
def fnExactPermuteRow : OpenClaim := { program := "ytmlikahdoaffoaa", sum := "879cb939801dba8ff00cb80e230abafb690219d3e36a587547b188aa5bb96b87", func := "loop.example/g00740/laws.FnExactPermute", spec := "fnExactPermute", unfollowed := true, recurses := true, apart := false }
def FnExactPermuteSaid : Prop := fnExactPermuteRow.holds Try.pinned (OpenSpec.ofChange fnExactPermuteSpec)

/-- ITS FALSE NEIGHBOUR: 'it returns false'. Refute it at one input. -/
def fnExactPermuteWrong : ChangeSpec := { name := "fnExactPermute", fn := fun _ => fun
  | [d1, d2] => { results := [.lit (.bool false)], args := [d1, d2] }
  | _ => none }
def FnExactPermuteWrongFalsely : Prop := fnExactPermuteRow.holds Try.pinned (OpenSpec.ofChange fnExactPermuteWrong)

/-- 'laws.FnExactUnpermute': WHATEVER THE INPUT: true; the input reads as it did. -/
def fnExactUnpermuteSpec : ChangeSpec := { name := "fnExactUnpermute", fn := fun _ => fun
  | [d1, d2] => { results := [.lit (.bool true)], args := [d1, d2] }
  | _ => none }
def fnExactUnpermuteRow : OpenClaim := { program := "ytmlikahdoaffoaa", sum := "879cb939801dba8ff00cb80e230abafb690219d3e36a587547b188aa5bb96b87", func := "loop.example/g00740/laws.FnExactUnpermute", spec := "fnExactUnpermute", unfollowed := true, recurses := true, apart := false }
def FnExactUnpermuteSaid : Prop := fnExactUnpermuteRow.holds Try.pinned (OpenSpec.ofChange fnExactUnpermuteSpec)

/-- ITS FALSE NEIGHBOUR: 'it returns false'. Refute it at one input. -/
def fnExactUnpermuteWrong : ChangeSpec := { name := "fnExactUnpermute", fn := fun _ => fun
  | [d1, d2] => { results := [.lit (.bool false)], args := [d1, d2] }
  | _ => none }
def FnExactUnpermuteWrongFalsely : Prop := fnExactUnpermuteRow.holds Try.pinned (OpenSpec.ofChange fnExactUnpermuteWrong)

/-- 'laws.FnExactStreamRight': WHATEVER THE INPUT: true; the input reads as it did. -/
def fnExactStreamRightSpec : ChangeSpec := { name := "fnExactStreamRight", fn := fun _ => fun
  | [d] => { results := [.lit (.bool true)], args := [d] }
  | _ => none }
def fnExactStreamRightRow : OpenClaim := { program := "ytmlikahdoaffoaa", sum := "879cb939801dba8ff00cb80e230abafb690219d3e36a587547b188aa5bb96b87", func := "loop.example/g00740/laws.FnExactStreamRight", spec := "fnExactStreamRight", apart := false }
def FnExactStreamRightSaid : Prop := fnExactStreamRightRow.holds Try.pinned (OpenSpec.ofChange fnExactStreamRightSpec)

/-- ITS FALSE NEIGHBOUR: 'it returns false'. Refute it at one input. -/
def fnExactStreamRightWrong : ChangeSpec := { name := "fnExactStreamRight", fn := fun _ => fun
  | [d] => { results := [.lit (.bool false)], args := [d] }
  | _ => none }
def FnExactStreamRightWrongFalsely : Prop := fnExactStreamRightRow.holds Try.pinned (OpenSpec.ofChange fnExactStreamRightWrong)

/-- 'laws.FnExactStreamNext': WHATEVER THE INPUT: true; the input reads as it did. -/
def fnExactStreamNextSpec : ChangeSpec := { name := "fnExactStreamNext", fn := fun _ => fun
  | [d] => { results := [.lit (.bool true)], args := [d] }
  | _ => none }
def fnExactStreamNextRow : OpenClaim := { program := "ytmlikahdoaffoaa", sum := "879cb939801dba8ff00cb80e230abafb690219d3e36a587547b188aa5bb96b87", func := "loop.example/g00740/laws.FnExactStreamNext", spec := "fnExactStreamNext", unfollowed := true, recurses := true, apart := false }
def FnExactStreamNextSaid : Prop := fnExactStreamNextRow.holds Try.pinned (OpenSpec.ofChange fnExactStreamNextSpec)

/-- ITS FALSE NEIGHBOUR: 'it returns false'. Refute it at one input. -/
def fnExactStreamNextWrong : ChangeSpec := { name := "fnExactStreamNext", fn := fun _ => fun
  | [d] => { results := [.lit (.bool false)], args := [d] }
  | _ => none }
def FnExactStreamNextWrongFalsely : Prop := fnExactStreamNextRow.holds Try.pinned (OpenSpec.ofChange fnExactStreamNextWrong)

/-- 'laws.FnNames': WHATEVER THE INPUT: true; the input reads as it did. -/
def fnNamesSpec : ChangeSpec := { name := "fnNames", fn := fun _ => fun
  | [d1, d2] => { results := [.lit (.bool true)], args := [d1, d2] }
  | _ => none }
def fnNamesRow : OpenClaim := { program := "ytmlikahdoaffoaa", sum := "879cb939801dba8ff00cb80e230abafb690219d3e36a587547b188aa5bb96b87", func := "loop.example/g00740/laws.FnNames", spec := "fnNames", unfollowed := true, recurses := true, apart := false }
def FnNamesSaid : Prop := fnNamesRow.holds Try.pinned (OpenSpec.ofChange fnNamesSpec)

/-- ITS FALSE NEIGHBOUR: 'it returns false'. Refute it at one input. -/
def fnNamesWrong : ChangeSpec := { name := "fnNames", fn := fun _ => fun
  | [d1, d2] => { results := [.lit (.bool false)], args := [d1, d2] }
  | _ => none }
def FnNamesWrongFalsely : Prop := fnNamesRow.holds Try.pinned (OpenSpec.ofChange fnNamesWrong)

/- THE SECOND FORM. 'bulk': how many values and letters a reading holds, each counted each time it is reached (what is shared counts as often as it is met; a slice's spare places count too). A statement '..UptoSaid' is the law's where the arguments, and the package variables that the reading takes, are together of bulk at most 1048576: NARROWER than '..Said'. Prove '..Said' where nothing that the law and all that it calls make is longer than what came in: it says more and counts as full. Else prove '..UptoSaid'. A law counts once. -/
mutual
def uptoBulk {H : Type} : DataW H → Nat
  | .lit (.string bytes) => bytes.length + 1
  | .lit _ => 1
  | .nil => 1
  | .ptr d => uptoBulk d + 1
  | .slice elems spare => uptoBulkAll elems + uptoBulkAll spare + 1
  | .agg parts => uptoBulkAll parts + 1
  | .iface _ d => uptoBulk d + 1
  | .map entries => uptoBulkEntries entries + 1
  | .held _ => 1
def uptoBulkAll {H : Type} : List (DataW H) → Nat
  | [] => 0
  | d :: r => uptoBulk d + uptoBulkAll r
def uptoBulkEntries {H : Type} : List (Lit × DataW H) → Nat
  | [] => 0
  | x :: r => uptoBulkEntry x + uptoBulkEntries r
def uptoBulkEntry {H : Type} : Lit × DataW H → Nat
  | (.string bytes, d) => bytes.length + uptoBulk d + 1
  | (_, d) => uptoBulk d + 1
 end
def uptoSmall : (H : Type) → List (DataW H) → Bool := fun _ ds => decide (uptoBulkAll ds ≤ 1048576)
def OpenSpec.upto (s : _root_.Go.ChangeSpec) : _root_.Go.OpenSpec := { _root_.Go.OpenSpec.ofChange s with cond := some uptoSmall }

/-- 'laws.FnExactMix', WHERE WHAT IT READS IS OF BULK AT MOST 1048576: true; the input reads as it did. -/
def fnExactMixUptoRow : OpenClaim := { program := "ytmlikahdoaffoaa", sum := "879cb939801dba8ff00cb80e230abafb690219d3e36a587547b188aa5bb96b87", func := "loop.example/g00740/laws.FnExactMix", spec := "fnExactMix", apart := false, narrowed := true }
def FnExactMixUptoSaid : Prop := fnExactMixUptoRow.holds Try.pinned (OpenSpec.upto fnExactMixSpec)

/-- 'laws.FnExactPermute', WHERE WHAT IT READS IS OF BULK AT MOST 1048576: true; the input reads as it did. -/
def fnExactPermuteUptoRow : OpenClaim := { program := "ytmlikahdoaffoaa", sum := "879cb939801dba8ff00cb80e230abafb690219d3e36a587547b188aa5bb96b87", func := "loop.example/g00740/laws.FnExactPermute", spec := "fnExactPermute", unfollowed := true, recurses := true, apart := false, narrowed := true }
def FnExactPermuteUptoSaid : Prop := fnExactPermuteUptoRow.holds Try.pinned (OpenSpec.upto fnExactPermuteSpec)

/-- 'laws.FnExactUnpermute', WHERE WHAT IT READS IS OF BULK AT MOST 1048576: true; the input reads as it did. -/
def fnExactUnpermuteUptoRow : OpenClaim := { program := "ytmlikahdoaffoaa", sum := "879cb939801dba8ff00cb80e230abafb690219d3e36a587547b188aa5bb96b87", func := "loop.example/g00740/laws.FnExactUnpermute", spec := "fnExactUnpermute", unfollowed := true, recurses := true, apart := false, narrowed := true }
def FnExactUnpermuteUptoSaid : Prop := fnExactUnpermuteUptoRow.holds Try.pinned (OpenSpec.upto fnExactUnpermuteSpec)

/-- 'laws.FnExactStreamRight', WHERE WHAT IT READS IS OF BULK AT MOST 1048576: true; the input reads as it did. -/
def fnExactStreamRightUptoRow : OpenClaim := { program := "ytmlikahdoaffoaa", sum := "879cb939801dba8ff00cb80e230abafb690219d3e36a587547b188aa5bb96b87", func := "loop.example/g00740/laws.FnExactStreamRight", spec := "fnExactStreamRight", apart := false, narrowed := true }
def FnExactStreamRightUptoSaid : Prop := fnExactStreamRightUptoRow.holds Try.pinned (OpenSpec.upto fnExactStreamRightSpec)

/-- 'laws.FnExactStreamNext', WHERE WHAT IT READS IS OF BULK AT MOST 1048576: true; the input reads as it did. -/
def fnExactStreamNextUptoRow : OpenClaim := { program := "ytmlikahdoaffoaa", sum := "879cb939801dba8ff00cb80e230abafb690219d3e36a587547b188aa5bb96b87", func := "loop.example/g00740/laws.FnExactStreamNext", spec := "fnExactStreamNext", unfollowed := true, recurses := true, apart := false, narrowed := true }
def FnExactStreamNextUptoSaid : Prop := fnExactStreamNextUptoRow.holds Try.pinned (OpenSpec.upto fnExactStreamNextSpec)

/-- 'laws.FnNames', WHERE WHAT IT READS IS OF BULK AT MOST 1048576: true; the input reads as it did. -/
def fnNamesUptoRow : OpenClaim := { program := "ytmlikahdoaffoaa", sum := "879cb939801dba8ff00cb80e230abafb690219d3e36a587547b188aa5bb96b87", func := "loop.example/g00740/laws.FnNames", spec := "fnNames", unfollowed := true, recurses := true, apart := false, narrowed := true }
def FnNamesUptoSaid : Prop := fnNamesUptoRow.holds Try.pinned (OpenSpec.upto fnNamesSpec)

end Rows
end Go.Proofs.Ytmlikahdoaffoaa
