/-
  No cell of these rows narrows 'for every input' (looked for: loops, veiled, ifaces, maps, wideKeys, modest, calm, conditions, laid).
  DERIVED. THE GIVEN ROWS OF THIS SEAT. 6 by the template 'for every input the law returns true; each argument reads behind the call as it read before'; 0 by the template 'total and deterministic' (their statements: YtfomjonenpgidaaTotals.lean).
  GIVEN WITH THE SEED: the statements are not yours to turn. If you find one false, say at which input.
  Laid BY PROGRAM, IN A SANDBOX (cutbox-rows.mjs): the forced cells as the released guide's own fill.sh prints them over the translation 40c92ff6fabd0325… (all of the seat's roots in one cut). By AI agents, Wed Nov 11 2026. No macro, syntax, notation, axiom, sorry.
-/
import Derived.Test.YtfomjonenpgidaaChecked
import GoSem.Claim
import GoSem.ClaimJoined
import GoSem.ClaimMapViews
import Derived.JoinedTies
import Derived.KernelRfl
namespace Go.Proofs.Ytfomjonenpgidaa
/- THE CELL 'sum', in the pinned program and in every row, IS THE sha256 OF THE DUMP (.gsa) THAT YtfomjonenpgidaaProg.lean LOADS. Nothing in Lean hashes anything: it is a label: what it is worth is what the hold of that sum in a sandbox is worth. -/
noncomputable def Try.pinned : Pinned := { name := "ytfomjonenpgidaa", sum := "40c92ff6fabd03255c1af7e5dbef51f33626449118c4deb606d06a3a652243e6", checked := Try.checked }
namespace Rows
def none {H : Type} : Left H := { results := [], args := [] }

/-- 'laws.FnExactKeyOf': WHATEVER THE INPUT: true; the input reads as it did. -/
def fnExactKeyOfSpec : ChangeSpec := { name := "fnExactKeyOf", fn := fun _ => fun
  | [d1, d2] => { results := [.lit (.bool true)], args := [d1, d2] }
  | _ => none }
def fnExactKeyOfRow : OpenClaim := { program := "ytfomjonenpgidaa", sum := "40c92ff6fabd03255c1af7e5dbef51f33626449118c4deb606d06a3a652243e6", func := "loop.example/g00740/laws.FnExactKeyOf", spec := "fnExactKeyOf", plainKeys := false, apart := false }
def FnExactKeyOfSaid : Prop := fnExactKeyOfRow.holds Try.pinned (OpenSpec.ofChange fnExactKeyOfSpec)

/-- ITS FALSE NEIGHBOUR: 'it returns false'. Refute it at one input. -/
def fnExactKeyOfWrong : ChangeSpec := { name := "fnExactKeyOf", fn := fun _ => fun
  | [d1, d2] => { results := [.lit (.bool false)], args := [d1, d2] }
  | _ => none }
def FnExactKeyOfWrongFalsely : Prop := fnExactKeyOfRow.holds Try.pinned (OpenSpec.ofChange fnExactKeyOfWrong)

/-- 'laws.FnExactArenaRight': WHATEVER THE INPUT: true; the input reads as it did. -/
def fnExactArenaRightSpec : ChangeSpec := { name := "fnExactArenaRight", fn := fun _ => fun
  | [d] => { results := [.lit (.bool true)], args := [d] }
  | _ => none }
def fnExactArenaRightRow : OpenClaim := { program := "ytfomjonenpgidaa", sum := "40c92ff6fabd03255c1af7e5dbef51f33626449118c4deb606d06a3a652243e6", func := "loop.example/g00740/laws.FnExactArenaRight", spec := "fnExactArenaRight", plainKeys := false, apart := false }
def FnExactArenaRightSaid : Prop := fnExactArenaRightRow.holds Try.pinned (OpenSpec.ofChange fnExactArenaRightSpec)

/-- ITS FALSE NEIGHBOUR: 'it returns false'. Refute it at one input. -/
def fnExactArenaRightWrong : ChangeSpec := { name := "fnExactArenaRight", fn := fun _ => fun
  | [d] => { results := [.lit (.bool false)], args := [d] }
  | _ => none }
def FnExactArenaRightWrongFalsely : Prop := fnExactArenaRightRow.holds Try.pinned (OpenSpec.ofChange fnExactArenaRightWrong)

/-- 'laws.FnExactArenaPut': WHATEVER THE INPUT: true; the input reads as it did. -/
def fnExactArenaPutSpec : ChangeSpec := { name := "fnExactArenaPut", fn := fun _ => fun
  | [d1, d2] => { results := [.lit (.bool true)], args := [d1, d2] }
  | _ => none }
def fnExactArenaPutRow : OpenClaim := { program := "ytfomjonenpgidaa", sum := "40c92ff6fabd03255c1af7e5dbef51f33626449118c4deb606d06a3a652243e6", func := "loop.example/g00740/laws.FnExactArenaPut", spec := "fnExactArenaPut", unfollowed := true, recurses := true, plainKeys := false, apart := false }
def FnExactArenaPutSaid : Prop := fnExactArenaPutRow.holds Try.pinned (OpenSpec.ofChange fnExactArenaPutSpec)

/-- ITS FALSE NEIGHBOUR: 'it returns false'. Refute it at one input. -/
def fnExactArenaPutWrong : ChangeSpec := { name := "fnExactArenaPut", fn := fun _ => fun
  | [d1, d2] => { results := [.lit (.bool false)], args := [d1, d2] }
  | _ => none }
def FnExactArenaPutWrongFalsely : Prop := fnExactArenaPutRow.holds Try.pinned (OpenSpec.ofChange fnExactArenaPutWrong)

/-- 'laws.FnExactArenaFind': WHATEVER THE INPUT: true; the input reads as it did. -/
def fnExactArenaFindSpec : ChangeSpec := { name := "fnExactArenaFind", fn := fun _ => fun
  | [d1, d2] => { results := [.lit (.bool true)], args := [d1, d2] }
  | _ => none }
def fnExactArenaFindRow : OpenClaim := { program := "ytfomjonenpgidaa", sum := "40c92ff6fabd03255c1af7e5dbef51f33626449118c4deb606d06a3a652243e6", func := "loop.example/g00740/laws.FnExactArenaFind", spec := "fnExactArenaFind", plainKeys := false, apart := false }
def FnExactArenaFindSaid : Prop := fnExactArenaFindRow.holds Try.pinned (OpenSpec.ofChange fnExactArenaFindSpec)

/-- ITS FALSE NEIGHBOUR: 'it returns false'. Refute it at one input. -/
def fnExactArenaFindWrong : ChangeSpec := { name := "fnExactArenaFind", fn := fun _ => fun
  | [d1, d2] => { results := [.lit (.bool false)], args := [d1, d2] }
  | _ => none }
def FnExactArenaFindWrongFalsely : Prop := fnExactArenaFindRow.holds Try.pinned (OpenSpec.ofChange fnExactArenaFindWrong)

/-- 'laws.FnExactArenaDrop': WHATEVER THE INPUT: true; the input reads as it did. -/
def fnExactArenaDropSpec : ChangeSpec := { name := "fnExactArenaDrop", fn := fun _ => fun
  | [d1, d2] => { results := [.lit (.bool true)], args := [d1, d2] }
  | _ => none }
def fnExactArenaDropRow : OpenClaim := { program := "ytfomjonenpgidaa", sum := "40c92ff6fabd03255c1af7e5dbef51f33626449118c4deb606d06a3a652243e6", func := "loop.example/g00740/laws.FnExactArenaDrop", spec := "fnExactArenaDrop", unfollowed := true, recurses := true, plainKeys := false, apart := false }
def FnExactArenaDropSaid : Prop := fnExactArenaDropRow.holds Try.pinned (OpenSpec.ofChange fnExactArenaDropSpec)

/-- ITS FALSE NEIGHBOUR: 'it returns false'. Refute it at one input. -/
def fnExactArenaDropWrong : ChangeSpec := { name := "fnExactArenaDrop", fn := fun _ => fun
  | [d1, d2] => { results := [.lit (.bool false)], args := [d1, d2] }
  | _ => none }
def FnExactArenaDropWrongFalsely : Prop := fnExactArenaDropRow.holds Try.pinned (OpenSpec.ofChange fnExactArenaDropWrong)

/-- 'laws.FnArena': WHATEVER THE INPUT: true; the input reads as it did. -/
def fnArenaSpec : ChangeSpec := { name := "fnArena", fn := fun _ => fun
  | [d1, d2] => { results := [.lit (.bool true)], args := [d1, d2] }
  | _ => none }
def fnArenaRow : OpenClaim := { program := "ytfomjonenpgidaa", sum := "40c92ff6fabd03255c1af7e5dbef51f33626449118c4deb606d06a3a652243e6", func := "loop.example/g00740/laws.FnArena", spec := "fnArena", unfollowed := true, recurses := true, plainKeys := false, apart := false }
def FnArenaSaid : Prop := fnArenaRow.holds Try.pinned (OpenSpec.ofChange fnArenaSpec)

/-- ITS FALSE NEIGHBOUR: 'it returns false'. Refute it at one input. -/
def fnArenaWrong : ChangeSpec := { name := "fnArena", fn := fun _ => fun
  | [d1, d2] => { results := [.lit (.bool false)], args := [d1, d2] }
  | _ => none }
def FnArenaWrongFalsely : Prop := fnArenaRow.holds Try.pinned (OpenSpec.ofChange fnArenaWrong)

/- THE SECOND FORM. 'bulk': how many values and letters a reading holds, each counted each time it is reached (what is shared counts as often as it is met; a slice's spare places count too). A statement '..UptoSaid' is the law's where the arguments, and the package variables that the reading takes, are together of bulk at most 1048576: NARROWER than '..Said'. Prove '..Said' where nothing that the law and all that it calls make is longer than what came in: it says more and counts as full. Else prove '..UptoSaid'. A law counts once. -/
mutual
def uptoBulk {H : Type} : DataW H → Nat
  | .lit (.string bytes) => bytes.length + 1
  | .lit _ => 1
  | .nil => 1
  | .ptr d => uptoBulk d + 1
  | .slice elems spare => uptoBulkAll elems + uptoBulkAll spare + 1
  | .agg parts => uptoBulkAll parts + 1
  | .iface _ d => uptoBulk d + 1
  | .map entries => uptoBulkEntries entries + 1
  | .held _ => 1
def uptoBulkAll {H : Type} : List (DataW H) → Nat
  | [] => 0
  | d :: r => uptoBulk d + uptoBulkAll r
def uptoBulkEntries {H : Type} : List (Lit × DataW H) → Nat
  | [] => 0
  | x :: r => uptoBulkEntry x + uptoBulkEntries r
def uptoBulkEntry {H : Type} : Lit × DataW H → Nat
  | (.string bytes, d) => bytes.length + uptoBulk d + 1
  | (_, d) => uptoBulk d + 1
 end
def uptoSmall : (H : Type) → List (DataW H) → Bool := fun _ ds => decide (uptoBulkAll ds ≤ 1048576)
def OpenSpec.upto (s : _root_.Go.ChangeSpec) : _root_.Go.OpenSpec := { _root_.Go.OpenSpec.ofChange s with cond := some uptoSmall }

/-- 'laws.FnExactKeyOf', WHERE WHAT IT READS IS OF BULK AT MOST 1048576: true; the input reads as it did. -/
def fnExactKeyOfUptoRow : OpenClaim := { program := "ytfomjonenpgidaa", sum := "40c92ff6fabd03255c1af7e5dbef51f33626449118c4deb606d06a3a652243e6", func := "loop.example/g00740/laws.FnExactKeyOf", spec := "fnExactKeyOf", plainKeys := false, apart := false, narrowed := true }
def FnExactKeyOfUptoSaid : Prop := fnExactKeyOfUptoRow.holds Try.pinned (OpenSpec.upto fnExactKeyOfSpec)

/-- 'laws.FnExactArenaRight', WHERE WHAT IT READS IS OF BULK AT MOST 1048576: true; the input reads as it did. -/
def fnExactArenaRightUptoRow : OpenClaim := { program := "ytfomjonenpgidaa", sum := "40c92ff6fabd03255c1af7e5dbef51f33626449118c4deb606d06a3a652243e6", func := "loop.example/g00740/laws.FnExactArenaRight", spec := "fnExactArenaRight", plainKeys := false, apart := false, narrowed := true }
def FnExactArenaRightUptoSaid : Prop := fnExactArenaRightUptoRow.holds Try.pinned (OpenSpec.upto fnExactArenaRightSpec)

/-- 'laws.FnExactArenaPut', WHERE WHAT IT READS IS OF BULK AT MOST 1048576: true; the input reads as it did. -/
def fnExactArenaPutUptoRow : OpenClaim := { program := "ytfomjonenpgidaa", sum := "40c92ff6fabd03255c1af7e5dbef51f33626449118c4deb606d06a3a652243e6", func := "loop.example/g00740/laws.FnExactArenaPut", spec := "fnExactArenaPut", unfollowed := true, recurses := true, plainKeys := false, apart := false, narrowed := true }
def FnExactArenaPutUptoSaid : Prop := fnExactArenaPutUptoRow.holds Try.pinned (OpenSpec.upto fnExactArenaPutSpec)

/-- 'laws.FnExactArenaFind', WHERE WHAT IT READS IS OF BULK AT MOST 1048576: true; the input reads as it did. -/
def fnExactArenaFindUptoRow : OpenClaim := { program := "ytfomjonenpgidaa", sum := "40c92ff6fabd03255c1af7e5dbef51f33626449118c4deb606d06a3a652243e6", func := "loop.example/g00740/laws.FnExactArenaFind", spec := "fnExactArenaFind", plainKeys := false, apart := false, narrowed := true }
def FnExactArenaFindUptoSaid : Prop := fnExactArenaFindUptoRow.holds Try.pinned (OpenSpec.upto fnExactArenaFindSpec)

/-- 'laws.FnExactArenaDrop', WHERE WHAT IT READS IS OF BULK AT MOST 1048576: true; the input reads as it did. -/
def fnExactArenaDropUptoRow : OpenClaim := { program := "ytfomjonenpgidaa", sum := "40c92ff6fabd03255c1af7e5dbef51f33626449118c4deb606d06a3a652243e6", func := "loop.example/g00740/laws.FnExactArenaDrop", spec := "fnExactArenaDrop", unfollowed := true, recurses := true, plainKeys := false, apart := false, narrowed := true }
def FnExactArenaDropUptoSaid : Prop := fnExactArenaDropUptoRow.holds Try.pinned (OpenSpec.upto fnExactArenaDropSpec)

/-- 'laws.FnArena', WHERE WHAT IT READS IS OF BULK AT MOST 1048576: true; the input reads as it did. -/
def fnArenaUptoRow : OpenClaim := { program := "ytfomjonenpgidaa", sum := "40c92ff6fabd03255c1af7e5dbef51f33626449118c4deb606d06a3a652243e6", func := "loop.example/g00740/laws.FnArena", spec := "fnArena", unfollowed := true, recurses := true, plainKeys := false, apart := false, narrowed := true }
def FnArenaUptoSaid : Prop := fnArenaUptoRow.holds Try.pinned (OpenSpec.upto fnArenaSpec)

end Rows
end Go.Proofs.Ytfomjonenpgidaa
