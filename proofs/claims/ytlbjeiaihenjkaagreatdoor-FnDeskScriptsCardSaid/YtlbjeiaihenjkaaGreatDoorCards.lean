/-
  DERIVED. GIVEN WITH THE SEED: THE CARDS: each row of YtlbjeiaihenjkaaGreatDoorRows.lean that lists a variable, with what it lists TIED to the program's text (the seventh form; the later family's looks); each row that meets fmt, with fmt's text TOLD by the authors' own Lean function (tested against real Go, not proved from fmt's source: count such statements apart). THE CARD IS WHAT COUNTS. Prove the row's statement (the work); the ties are given (YtlbjeiaihenjkaaGreatDoorTie.lean); close each card by the builder's one call (the guide's Derived/Test/ToyasCard.lean, 'card_holds'). Laid BY PROGRAM, IN A SANDBOX (cutbox-door.mjs). By AI agents, Wed Nov 11 2026. No macro, syntax, notation, axiom, sorry.
-/
import Derived.Test.YtlbjeiaihenjkaaGreatDoorRows
import GoSem.ClaimSeven
namespace Go.Proofs.YtlbjeiaihenjkaaGreatDoor
namespace Rows

/-- THE TIED CARD OF 'laws.FnExactDeskLine'. -/
def fnExactDeskLineCard : Claim7 := { stood := { row := fnExactDeskLineRow, standIns := [], harness := (true, "e664aa774ffd539fc1d3ea387bc422914758ade5ac1327a5a85247e64b4f7e74"), looks := true }, kinds := [], alts := [], laidByText := true, laidKinds := [.data, .data, .data, .data, .sentinel, .sentinel, .pinned], laidTests := true, laidLooks := .later }
def FnExactDeskLineCardSaid : Prop := Claim7.holds Tryz.pinned (.plain (OpenSpec.ofChange fnExactDeskLineSpec)) fnExactDeskLineCard

/-- THE TIED CARD OF 'laws.FnExactRunScript'. -/
def fnExactRunScriptCard : Claim7 := { stood := { row := fnExactRunScriptRow, standIns := [], harness := (true, "e664aa774ffd539fc1d3ea387bc422914758ade5ac1327a5a85247e64b4f7e74"), looks := true }, kinds := [], alts := [], laidByText := true, laidKinds := [.data, .data, .data, .data, .sentinel, .sentinel, .pinned], laidTests := true, laidLooks := .later }
def FnExactRunScriptCardSaid : Prop := Claim7.holds Tryz.pinned (.plain (OpenSpec.ofChange fnExactRunScriptSpec)) fnExactRunScriptCard

/-- THE TIED CARD OF 'laws.FnExactDeskAfter'. -/
def fnExactDeskAfterCard : Claim7 := { stood := { row := fnExactDeskAfterRow, standIns := [], harness := (true, "e664aa774ffd539fc1d3ea387bc422914758ade5ac1327a5a85247e64b4f7e74"), looks := true }, kinds := [], alts := [], laidByText := true, laidKinds := [.data, .data, .data, .data, .sentinel, .sentinel, .pinned], laidTests := true, laidLooks := .later }
def FnExactDeskAfterCardSaid : Prop := Claim7.holds Tryz.pinned (.plain (OpenSpec.ofChange fnExactDeskAfterSpec)) fnExactDeskAfterCard

/-- THE TIED CARD OF 'laws.FnExactFailedLines'. -/
def fnExactFailedLinesCard : Claim7 := { stood := { row := fnExactFailedLinesRow, standIns := [], harness := (true, "e664aa774ffd539fc1d3ea387bc422914758ade5ac1327a5a85247e64b4f7e74"), looks := true }, kinds := [], alts := [], laidByText := true, laidKinds := [.data, .data, .data, .data, .handle, .sentinel, .sentinel, .pinned], laidTests := true, laidLooks := .later }
def FnExactFailedLinesCardSaid : Prop := Claim7.holds Tryz.pinned (.plain (OpenSpec.ofChange fnExactFailedLinesSpec)) fnExactFailedLinesCard

/-- THE TIED CARD OF 'laws.FnDeskLines'. -/
def fnDeskLinesCard : Claim7 := { stood := { row := fnDeskLinesRow, standIns := [], harness := (true, "e664aa774ffd539fc1d3ea387bc422914758ade5ac1327a5a85247e64b4f7e74"), looks := true }, kinds := [], alts := [], laidByText := true, laidKinds := [.data, .data, .data, .data, .sentinel, .sentinel, .pinned], laidTests := true, laidLooks := .later }
def FnDeskLinesCardSaid : Prop := Claim7.holds Tryz.pinned (.plain (OpenSpec.ofChange fnDeskLinesSpec)) fnDeskLinesCard

/-- THE TIED CARD OF 'laws.FnDeskScripts'. -/
def fnDeskScriptsCard : Claim7 := { stood := { row := fnDeskScriptsRow, standIns := [], harness := (true, "e664aa774ffd539fc1d3ea387bc422914758ade5ac1327a5a85247e64b4f7e74"), looks := true }, kinds := [], alts := [], laidByText := true, laidKinds := [.data, .data, .data, .data, .handle, .sentinel, .sentinel, .pinned], laidTests := true, laidLooks := .later }
def FnDeskScriptsCardSaid : Prop := Claim7.holds Tryz.pinned (.plain (OpenSpec.ofChange fnDeskScriptsSpec)) fnDeskScriptsCard

/-- THE SECOND FORM's CARD OF 'laws.FnExactDeskLine'. -/
def fnExactDeskLineUptoCard : Claim7 := { stood := { row := fnExactDeskLineUptoRow, standIns := [], harness := (true, "e664aa774ffd539fc1d3ea387bc422914758ade5ac1327a5a85247e64b4f7e74"), looks := true }, kinds := [], alts := [], laidByText := true, laidKinds := [.data, .data, .data, .data, .sentinel, .sentinel, .pinned], laidTests := true, laidLooks := .later }
def FnExactDeskLineUptoCardSaid : Prop := Claim7.holds Tryz.pinned (.plain (OpenSpec.upto fnExactDeskLineSpec)) fnExactDeskLineUptoCard

/-- THE SECOND FORM's CARD OF 'laws.FnExactRunScript'. -/
def fnExactRunScriptUptoCard : Claim7 := { stood := { row := fnExactRunScriptUptoRow, standIns := [], harness := (true, "e664aa774ffd539fc1d3ea387bc422914758ade5ac1327a5a85247e64b4f7e74"), looks := true }, kinds := [], alts := [], laidByText := true, laidKinds := [.data, .data, .data, .data, .sentinel, .sentinel, .pinned], laidTests := true, laidLooks := .later }
def FnExactRunScriptUptoCardSaid : Prop := Claim7.holds Tryz.pinned (.plain (OpenSpec.upto fnExactRunScriptSpec)) fnExactRunScriptUptoCard

/-- THE SECOND FORM's CARD OF 'laws.FnExactDeskAfter'. -/
def fnExactDeskAfterUptoCard : Claim7 := { stood := { row := fnExactDeskAfterUptoRow, standIns := [], harness := (true, "e664aa774ffd539fc1d3ea387bc422914758ade5ac1327a5a85247e64b4f7e74"), looks := true }, kinds := [], alts := [], laidByText := true, laidKinds := [.data, .data, .data, .data, .sentinel, .sentinel, .pinned], laidTests := true, laidLooks := .later }
def FnExactDeskAfterUptoCardSaid : Prop := Claim7.holds Tryz.pinned (.plain (OpenSpec.upto fnExactDeskAfterSpec)) fnExactDeskAfterUptoCard

/-- THE SECOND FORM's CARD OF 'laws.FnExactFailedLines'. -/
def fnExactFailedLinesUptoCard : Claim7 := { stood := { row := fnExactFailedLinesUptoRow, standIns := [], harness := (true, "e664aa774ffd539fc1d3ea387bc422914758ade5ac1327a5a85247e64b4f7e74"), looks := true }, kinds := [], alts := [], laidByText := true, laidKinds := [.data, .data, .data, .data, .handle, .sentinel, .sentinel, .pinned], laidTests := true, laidLooks := .later }
def FnExactFailedLinesUptoCardSaid : Prop := Claim7.holds Tryz.pinned (.plain (OpenSpec.upto fnExactFailedLinesSpec)) fnExactFailedLinesUptoCard

/-- THE SECOND FORM's CARD OF 'laws.FnDeskLines'. -/
def fnDeskLinesUptoCard : Claim7 := { stood := { row := fnDeskLinesUptoRow, standIns := [], harness := (true, "e664aa774ffd539fc1d3ea387bc422914758ade5ac1327a5a85247e64b4f7e74"), looks := true }, kinds := [], alts := [], laidByText := true, laidKinds := [.data, .data, .data, .data, .sentinel, .sentinel, .pinned], laidTests := true, laidLooks := .later }
def FnDeskLinesUptoCardSaid : Prop := Claim7.holds Tryz.pinned (.plain (OpenSpec.upto fnDeskLinesSpec)) fnDeskLinesUptoCard

/-- THE SECOND FORM's CARD OF 'laws.FnDeskScripts'. -/
def fnDeskScriptsUptoCard : Claim7 := { stood := { row := fnDeskScriptsUptoRow, standIns := [], harness := (true, "e664aa774ffd539fc1d3ea387bc422914758ade5ac1327a5a85247e64b4f7e74"), looks := true }, kinds := [], alts := [], laidByText := true, laidKinds := [.data, .data, .data, .data, .handle, .sentinel, .sentinel, .pinned], laidTests := true, laidLooks := .later }
def FnDeskScriptsUptoCardSaid : Prop := Claim7.holds Tryz.pinned (.plain (OpenSpec.upto fnDeskScriptsSpec)) fnDeskScriptsUptoCard
end Rows
end Go.Proofs.YtlbjeiaihenjkaaGreatDoor
