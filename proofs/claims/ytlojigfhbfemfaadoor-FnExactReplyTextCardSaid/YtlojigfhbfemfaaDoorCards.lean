/-
  DERIVED. GIVEN WITH THE SEED: THE CARDS: each row of YtlojigfhbfemfaaDoorRows.lean that lists a variable, with what it lists TIED to the program's text (the seventh form; the later family's looks); each row that meets fmt, with fmt's text TOLD by the authors' own Lean function (tested against real Go, not proved from fmt's source: count such statements apart). THE CARD IS WHAT COUNTS. Prove the row's statement (the work); the ties are given (YtlojigfhbfemfaaDoorTie.lean); close each card by the builder's one call (the guide's Derived/Test/ToyasCard.lean, 'card_holds'). Laid BY PROGRAM, IN A SANDBOX (cutbox-door.mjs). By AI agents, Wed Nov 11 2026. No macro, syntax, notation, axiom, sorry.
-/
import Derived.Test.YtlojigfhbfemfaaDoorRows
import GoSem.ClaimSeven
namespace Go.Proofs.YtlojigfhbfemfaaDoor
namespace Rows

/-- THE TIED CARD OF 'laws.FnExactRefText'. -/
def fnExactRefTextCard : Claim7 := { stood := { row := fnExactRefTextRow, standIns := [], harness := (true, "396208d7e6fa883191de7c199106cf73e3c6baeb756527ac2d38dd6d1f85679a"), looks := true }, kinds := [], alts := [], laidByText := true, laidKinds := [.data, .data, .data], laidTests := true, laidLooks := .later }
def FnExactRefTextCardSaid : Prop := Claim7.holds Tryd.pinned (.plain (OpenSpec.ofChange fnExactRefTextSpec)) fnExactRefTextCard

/-- THE TIED CARD OF 'laws.FnExactCallText'. -/
def fnExactCallTextCard : Claim7 := { stood := { row := fnExactCallTextRow, standIns := [], harness := (true, "396208d7e6fa883191de7c199106cf73e3c6baeb756527ac2d38dd6d1f85679a"), looks := true }, kinds := [], alts := [], laidByText := true, laidKinds := [.data, .data, .data, .data, .data, .data, .pinned], laidTests := true, laidLooks := .later }
def FnExactCallTextCardSaid : Prop := Claim7.holds Tryd.pinned (.plain (OpenSpec.ofChange fnExactCallTextSpec)) fnExactCallTextCard

/-- THE TIED CARD OF 'laws.FnExactCallRead'. -/
def fnExactCallReadCard : Claim7 := { stood := { row := fnExactCallReadRow, standIns := [], harness := (true, "396208d7e6fa883191de7c199106cf73e3c6baeb756527ac2d38dd6d1f85679a"), looks := true }, kinds := [], alts := [], laidByText := true, laidKinds := [.data, .data, .data, .pinned], laidTests := true, laidLooks := .later }
def FnExactCallReadCardSaid : Prop := Claim7.holds Tryd.pinned (.plain (OpenSpec.ofChange fnExactCallReadSpec)) fnExactCallReadCard

/-- THE TIED CARD OF 'laws.FnExactReplyText'. -/
def fnExactReplyTextCard : Claim7 := { stood := { row := fnExactReplyTextRow, standIns := [], harness := (true, "396208d7e6fa883191de7c199106cf73e3c6baeb756527ac2d38dd6d1f85679a"), looks := true }, kinds := [], alts := [], laidByText := true, laidKinds := [.data, .data, .data], laidTests := true, laidLooks := .later }
def FnExactReplyTextCardSaid : Prop := Claim7.holds Tryd.pinned (.plain (OpenSpec.ofChange fnExactReplyTextSpec)) fnExactReplyTextCard

/-- THE SECOND FORM's CARD OF 'laws.FnExactRefText'. -/
def fnExactRefTextUptoCard : Claim7 := { stood := { row := fnExactRefTextUptoRow, standIns := [], harness := (true, "396208d7e6fa883191de7c199106cf73e3c6baeb756527ac2d38dd6d1f85679a"), looks := true }, kinds := [], alts := [], laidByText := true, laidKinds := [.data, .data, .data], laidTests := true, laidLooks := .later }
def FnExactRefTextUptoCardSaid : Prop := Claim7.holds Tryd.pinned (.plain (OpenSpec.upto fnExactRefTextSpec)) fnExactRefTextUptoCard

/-- THE SECOND FORM's CARD OF 'laws.FnExactCallText'. -/
def fnExactCallTextUptoCard : Claim7 := { stood := { row := fnExactCallTextUptoRow, standIns := [], harness := (true, "396208d7e6fa883191de7c199106cf73e3c6baeb756527ac2d38dd6d1f85679a"), looks := true }, kinds := [], alts := [], laidByText := true, laidKinds := [.data, .data, .data, .data, .data, .data, .pinned], laidTests := true, laidLooks := .later }
def FnExactCallTextUptoCardSaid : Prop := Claim7.holds Tryd.pinned (.plain (OpenSpec.upto fnExactCallTextSpec)) fnExactCallTextUptoCard

/-- THE SECOND FORM's CARD OF 'laws.FnExactCallRead'. -/
def fnExactCallReadUptoCard : Claim7 := { stood := { row := fnExactCallReadUptoRow, standIns := [], harness := (true, "396208d7e6fa883191de7c199106cf73e3c6baeb756527ac2d38dd6d1f85679a"), looks := true }, kinds := [], alts := [], laidByText := true, laidKinds := [.data, .data, .data, .pinned], laidTests := true, laidLooks := .later }
def FnExactCallReadUptoCardSaid : Prop := Claim7.holds Tryd.pinned (.plain (OpenSpec.upto fnExactCallReadSpec)) fnExactCallReadUptoCard

/-- THE SECOND FORM's CARD OF 'laws.FnExactReplyText'. -/
def fnExactReplyTextUptoCard : Claim7 := { stood := { row := fnExactReplyTextUptoRow, standIns := [], harness := (true, "396208d7e6fa883191de7c199106cf73e3c6baeb756527ac2d38dd6d1f85679a"), looks := true }, kinds := [], alts := [], laidByText := true, laidKinds := [.data, .data, .data], laidTests := true, laidLooks := .later }
def FnExactReplyTextUptoCardSaid : Prop := Claim7.holds Tryd.pinned (.plain (OpenSpec.upto fnExactReplyTextSpec)) fnExactReplyTextUptoCard
end Rows
end Go.Proofs.YtlojigfhbfemfaaDoor
