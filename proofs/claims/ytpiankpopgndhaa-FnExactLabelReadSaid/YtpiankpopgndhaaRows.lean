/-
  No cell of these rows narrows 'for every input' (looked for: loops, veiled, ifaces, maps, wideKeys, modest, calm, conditions, laid).
  DERIVED. THE GIVEN ROWS OF THIS SEAT. 6 by the template 'for every input the law returns true; each argument reads behind the call as it read before'; 0 by the template 'total and deterministic' (their statements: YtpiankpopgndhaaTotals.lean).
  GIVEN WITH THE SEED: the statements are not yours to turn. If you find one false, say at which input.
  Laid BY PROGRAM, IN A SANDBOX (cutbox-rows.mjs): the forced cells as the released guide's own fill.sh prints them over the translation ece18ac3a7df1763… (all of the seat's roots in one cut). By AI agents, Wed Nov 11 2026. No macro, syntax, notation, axiom, sorry.
-/
import Derived.Test.YtpiankpopgndhaaChecked
import GoSem.Claim
import GoSem.ClaimJoined
import GoSem.ClaimMapViews
import Derived.JoinedTies
import Derived.KernelRfl
namespace Go.Proofs.Ytpiankpopgndhaa
/- THE CELL 'sum', in the pinned program and in every row, IS THE sha256 OF THE DUMP (.gsa) THAT YtpiankpopgndhaaProg.lean LOADS. Nothing in Lean hashes anything: it is a label: what it is worth is what the hold of that sum in a sandbox is worth. -/
noncomputable def Try.pinned : Pinned := { name := "ytpiankpopgndhaa", sum := "ece18ac3a7df176355fff668fe552aa9a49021c5af38a092213230c25893ac60", checked := Try.checked }
namespace Rows
def none {H : Type} : Left H := { results := [], args := [] }

/-- 'laws.FnExactLabelRight': WHATEVER THE INPUT: true; the input reads as it did. -/
def fnExactLabelRightSpec : ChangeSpec := { name := "fnExactLabelRight", fn := fun _ => fun
  | [d] => { results := [.lit (.bool true)], args := [d] }
  | _ => none }
def fnExactLabelRightRow : OpenClaim := { program := "ytpiankpopgndhaa", sum := "ece18ac3a7df176355fff668fe552aa9a49021c5af38a092213230c25893ac60", func := "loop.example/g00740/laws.FnExactLabelRight", spec := "fnExactLabelRight", apart := false }
def FnExactLabelRightSaid : Prop := fnExactLabelRightRow.holds Try.pinned (OpenSpec.ofChange fnExactLabelRightSpec)

/-- ITS FALSE NEIGHBOUR: 'it returns false'. Refute it at one input. -/
def fnExactLabelRightWrong : ChangeSpec := { name := "fnExactLabelRight", fn := fun _ => fun
  | [d] => { results := [.lit (.bool false)], args := [d] }
  | _ => none }
def FnExactLabelRightWrongFalsely : Prop := fnExactLabelRightRow.holds Try.pinned (OpenSpec.ofChange fnExactLabelRightWrong)

/-- 'laws.FnExactFlows': WHATEVER THE INPUT: true; the input reads as it did. -/
def fnExactFlowsSpec : ChangeSpec := { name := "fnExactFlows", fn := fun _ => fun
  | [d1, d2] => { results := [.lit (.bool true)], args := [d1, d2] }
  | _ => none }
def fnExactFlowsRow : OpenClaim := { program := "ytpiankpopgndhaa", sum := "ece18ac3a7df176355fff668fe552aa9a49021c5af38a092213230c25893ac60", func := "loop.example/g00740/laws.FnExactFlows", spec := "fnExactFlows", apart := false }
def FnExactFlowsSaid : Prop := fnExactFlowsRow.holds Try.pinned (OpenSpec.ofChange fnExactFlowsSpec)

/-- ITS FALSE NEIGHBOUR: 'it returns false'. Refute it at one input. -/
def fnExactFlowsWrong : ChangeSpec := { name := "fnExactFlows", fn := fun _ => fun
  | [d1, d2] => { results := [.lit (.bool false)], args := [d1, d2] }
  | _ => none }
def FnExactFlowsWrongFalsely : Prop := fnExactFlowsRow.holds Try.pinned (OpenSpec.ofChange fnExactFlowsWrong)

/-- 'laws.FnExactJoin': WHATEVER THE INPUT: true; the input reads as it did. -/
def fnExactJoinSpec : ChangeSpec := { name := "fnExactJoin", fn := fun _ => fun
  | [d1, d2] => { results := [.lit (.bool true)], args := [d1, d2] }
  | _ => none }
def fnExactJoinRow : OpenClaim := { program := "ytpiankpopgndhaa", sum := "ece18ac3a7df176355fff668fe552aa9a49021c5af38a092213230c25893ac60", func := "loop.example/g00740/laws.FnExactJoin", spec := "fnExactJoin", apart := false }
def FnExactJoinSaid : Prop := fnExactJoinRow.holds Try.pinned (OpenSpec.ofChange fnExactJoinSpec)

/-- ITS FALSE NEIGHBOUR: 'it returns false'. Refute it at one input. -/
def fnExactJoinWrong : ChangeSpec := { name := "fnExactJoin", fn := fun _ => fun
  | [d1, d2] => { results := [.lit (.bool false)], args := [d1, d2] }
  | _ => none }
def FnExactJoinWrongFalsely : Prop := fnExactJoinRow.holds Try.pinned (OpenSpec.ofChange fnExactJoinWrong)

/-- 'laws.FnExactMeet': WHATEVER THE INPUT: true; the input reads as it did. -/
def fnExactMeetSpec : ChangeSpec := { name := "fnExactMeet", fn := fun _ => fun
  | [d1, d2] => { results := [.lit (.bool true)], args := [d1, d2] }
  | _ => none }
def fnExactMeetRow : OpenClaim := { program := "ytpiankpopgndhaa", sum := "ece18ac3a7df176355fff668fe552aa9a49021c5af38a092213230c25893ac60", func := "loop.example/g00740/laws.FnExactMeet", spec := "fnExactMeet", apart := false }
def FnExactMeetSaid : Prop := fnExactMeetRow.holds Try.pinned (OpenSpec.ofChange fnExactMeetSpec)

/-- ITS FALSE NEIGHBOUR: 'it returns false'. Refute it at one input. -/
def fnExactMeetWrong : ChangeSpec := { name := "fnExactMeet", fn := fun _ => fun
  | [d1, d2] => { results := [.lit (.bool false)], args := [d1, d2] }
  | _ => none }
def FnExactMeetWrongFalsely : Prop := fnExactMeetRow.holds Try.pinned (OpenSpec.ofChange fnExactMeetWrong)

/-- 'laws.FnExactLabelText': WHATEVER THE INPUT: true; the input reads as it did. -/
def fnExactLabelTextSpec : ChangeSpec := { name := "fnExactLabelText", fn := fun _ => fun
  | [d] => { results := [.lit (.bool true)], args := [d] }
  | _ => none }
def fnExactLabelTextRow : OpenClaim := { program := "ytpiankpopgndhaa", sum := "ece18ac3a7df176355fff668fe552aa9a49021c5af38a092213230c25893ac60", func := "loop.example/g00740/laws.FnExactLabelText", spec := "fnExactLabelText", apart := false }
def FnExactLabelTextSaid : Prop := fnExactLabelTextRow.holds Try.pinned (OpenSpec.ofChange fnExactLabelTextSpec)

/-- ITS FALSE NEIGHBOUR: 'it returns false'. Refute it at one input. -/
def fnExactLabelTextWrong : ChangeSpec := { name := "fnExactLabelText", fn := fun _ => fun
  | [d] => { results := [.lit (.bool false)], args := [d] }
  | _ => none }
def FnExactLabelTextWrongFalsely : Prop := fnExactLabelTextRow.holds Try.pinned (OpenSpec.ofChange fnExactLabelTextWrong)

/-- 'laws.FnExactLabelRead': WHATEVER THE INPUT: true; the input reads as it did. -/
def fnExactLabelReadSpec : ChangeSpec := { name := "fnExactLabelRead", fn := fun _ => fun
  | [d] => { results := [.lit (.bool true)], args := [d] }
  | _ => none }
def fnExactLabelReadRow : OpenClaim := { program := "ytpiankpopgndhaa", sum := "ece18ac3a7df176355fff668fe552aa9a49021c5af38a092213230c25893ac60", func := "loop.example/g00740/laws.FnExactLabelRead", spec := "fnExactLabelRead", apart := false }
def FnExactLabelReadSaid : Prop := fnExactLabelReadRow.holds Try.pinned (OpenSpec.ofChange fnExactLabelReadSpec)

/-- ITS FALSE NEIGHBOUR: 'it returns false'. Refute it at one input. -/
def fnExactLabelReadWrong : ChangeSpec := { name := "fnExactLabelRead", fn := fun _ => fun
  | [d] => { results := [.lit (.bool false)], args := [d] }
  | _ => none }
def FnExactLabelReadWrongFalsely : Prop := fnExactLabelReadRow.holds Try.pinned (OpenSpec.ofChange fnExactLabelReadWrong)

/- THE SECOND FORM. 'bulk': how many values and letters a reading holds, each counted each time it is reached (what is shared counts as often as it is met; a slice's spare places count too). A statement '..UptoSaid' is the law's where the arguments, and the package variables that the reading takes, are together of bulk at most 1048576: NARROWER than '..Said'. Prove '..Said' where nothing that the law and all that it calls make is longer than what came in: it says more and counts as full. Else prove '..UptoSaid'. A law counts once. -/
mutual
def uptoBulk {H : Type} : DataW H → Nat
  | .lit (.string bytes) => bytes.length + 1
  | .lit _ => 1
  | .nil => 1
  | .ptr d => uptoBulk d + 1
  | .slice elems spare => uptoBulkAll elems + uptoBulkAll spare + 1
  | .agg parts => uptoBulkAll parts + 1
  | .iface _ d => uptoBulk d + 1
  | .map entries => uptoBulkEntries entries + 1
  | .held _ => 1
def uptoBulkAll {H : Type} : List (DataW H) → Nat
  | [] => 0
  | d :: r => uptoBulk d + uptoBulkAll r
def uptoBulkEntries {H : Type} : List (Lit × DataW H) → Nat
  | [] => 0
  | x :: r => uptoBulkEntry x + uptoBulkEntries r
def uptoBulkEntry {H : Type} : Lit × DataW H → Nat
  | (.string bytes, d) => bytes.length + uptoBulk d + 1
  | (_, d) => uptoBulk d + 1
 end
def uptoSmall : (H : Type) → List (DataW H) → Bool := fun _ ds => decide (uptoBulkAll ds ≤ 1048576)
def OpenSpec.upto (s : _root_.Go.ChangeSpec) : _root_.Go.OpenSpec := { _root_.Go.OpenSpec.ofChange s with cond := some uptoSmall }

/-- 'laws.FnExactLabelRight', WHERE WHAT IT READS IS OF BULK AT MOST 1048576: true; the input reads as it did. -/
def fnExactLabelRightUptoRow : OpenClaim := { program := "ytpiankpopgndhaa", sum := "ece18ac3a7df176355fff668fe552aa9a49021c5af38a092213230c25893ac60", func := "loop.example/g00740/laws.FnExactLabelRight", spec := "fnExactLabelRight", apart := false, narrowed := true }
def FnExactLabelRightUptoSaid : Prop := fnExactLabelRightUptoRow.holds Try.pinned (OpenSpec.upto fnExactLabelRightSpec)

/-- 'laws.FnExactFlows', WHERE WHAT IT READS IS OF BULK AT MOST 1048576: true; the input reads as it did. -/
def fnExactFlowsUptoRow : OpenClaim := { program := "ytpiankpopgndhaa", sum := "ece18ac3a7df176355fff668fe552aa9a49021c5af38a092213230c25893ac60", func := "loop.example/g00740/laws.FnExactFlows", spec := "fnExactFlows", apart := false, narrowed := true }
def FnExactFlowsUptoSaid : Prop := fnExactFlowsUptoRow.holds Try.pinned (OpenSpec.upto fnExactFlowsSpec)

/-- 'laws.FnExactJoin', WHERE WHAT IT READS IS OF BULK AT MOST 1048576: true; the input reads as it did. -/
def fnExactJoinUptoRow : OpenClaim := { program := "ytpiankpopgndhaa", sum := "ece18ac3a7df176355fff668fe552aa9a49021c5af38a092213230c25893ac60", func := "loop.example/g00740/laws.FnExactJoin", spec := "fnExactJoin", apart := false, narrowed := true }
def FnExactJoinUptoSaid : Prop := fnExactJoinUptoRow.holds Try.pinned (OpenSpec.upto fnExactJoinSpec)

/-- 'laws.FnExactMeet', WHERE WHAT IT READS IS OF BULK AT MOST 1048576: true; the input reads as it did. -/
def fnExactMeetUptoRow : OpenClaim := { program := "ytpiankpopgndhaa", sum := "ece18ac3a7df176355fff668fe552aa9a49021c5af38a092213230c25893ac60", func := "loop.example/g00740/laws.FnExactMeet", spec := "fnExactMeet", apart := false, narrowed := true }
def FnExactMeetUptoSaid : Prop := fnExactMeetUptoRow.holds Try.pinned (OpenSpec.upto fnExactMeetSpec)

/-- 'laws.FnExactLabelText', WHERE WHAT IT READS IS OF BULK AT MOST 1048576: true; the input reads as it did. -/
def fnExactLabelTextUptoRow : OpenClaim := { program := "ytpiankpopgndhaa", sum := "ece18ac3a7df176355fff668fe552aa9a49021c5af38a092213230c25893ac60", func := "loop.example/g00740/laws.FnExactLabelText", spec := "fnExactLabelText", apart := false, narrowed := true }
def FnExactLabelTextUptoSaid : Prop := fnExactLabelTextUptoRow.holds Try.pinned (OpenSpec.upto fnExactLabelTextSpec)

/-- 'laws.FnExactLabelRead', WHERE WHAT IT READS IS OF BULK AT MOST 1048576: true; the input reads as it did. -/
def fnExactLabelReadUptoRow : OpenClaim := { program := "ytpiankpopgndhaa", sum := "ece18ac3a7df176355fff668fe552aa9a49021c5af38a092213230c25893ac60", func := "loop.example/g00740/laws.FnExactLabelRead", spec := "fnExactLabelRead", apart := false, narrowed := true }
def FnExactLabelReadUptoSaid : Prop := fnExactLabelReadUptoRow.holds Try.pinned (OpenSpec.upto fnExactLabelReadSpec)

end Rows
end Go.Proofs.Ytpiankpopgndhaa
