/-
  DERIVED. GIVEN WITH THE SEED: THE CARDS: each row of YtbgnieajeipllaaDoorRows.lean that lists a variable, with what it lists TIED to the program's text (the seventh form; the later family's looks); each row that meets fmt, with fmt's text TOLD by the authors' own Lean function (tested against real Go, not proved from fmt's source: count such statements apart). THE CARD IS WHAT COUNTS. Prove the row's statement (the work); the ties are given (YtbgnieajeipllaaDoorTie.lean); close each card by the builder's one call (the guide's Derived/Test/ToyasCard.lean, 'card_holds'). Laid BY PROGRAM, IN A SANDBOX (cutbox-door.mjs). By AI agents, Wed Nov 11 2026. No macro, syntax, notation, axiom, sorry.
-/
import Derived.Test.YtbgnieajeipllaaDoorRows
import GoSem.ClaimSeven
namespace Go.Proofs.YtbgnieajeipllaaDoor
namespace Rows

/-- THE TIED CARD OF 'laws.FnExactNumberOfWord'. -/
def fnExactNumberOfWordCard : Claim7 := { stood := { row := fnExactNumberOfWordRow, standIns := [], harness := (true, "5c014717b39a5c69c751816bc154f90a850f5044c3c1e1234b778ddec8039188"), looks := false }, kinds := [], alts := [], laidByText := true, laidKinds := [.data, .pinned], laidTests := true, laidLooks := .later }
def FnExactNumberOfWordCardSaid : Prop := Claim7.holds Tryd.pinned (.plain (OpenSpec.ofChange fnExactNumberOfWordSpec)) fnExactNumberOfWordCard

/-- THE TIED CARD OF 'laws.FnExactCycleOfWord'. -/
def fnExactCycleOfWordCard : Claim7 := { stood := { row := fnExactCycleOfWordRow, standIns := [], harness := (true, "5c014717b39a5c69c751816bc154f90a850f5044c3c1e1234b778ddec8039188"), looks := false }, kinds := [], alts := [], laidByText := true, laidKinds := [.data, .pinned], laidTests := true, laidLooks := .later }
def FnExactCycleOfWordCardSaid : Prop := Claim7.holds Tryd.pinned (.plain (OpenSpec.ofChange fnExactCycleOfWordSpec)) fnExactCycleOfWordCard

/-- THE SECOND FORM's CARD OF 'laws.FnExactNumberOfWord'. -/
def fnExactNumberOfWordUptoCard : Claim7 := { stood := { row := fnExactNumberOfWordUptoRow, standIns := [], harness := (true, "5c014717b39a5c69c751816bc154f90a850f5044c3c1e1234b778ddec8039188"), looks := false }, kinds := [], alts := [], laidByText := true, laidKinds := [.data, .pinned], laidTests := true, laidLooks := .later }
def FnExactNumberOfWordUptoCardSaid : Prop := Claim7.holds Tryd.pinned (.plain (OpenSpec.upto fnExactNumberOfWordSpec)) fnExactNumberOfWordUptoCard

/-- THE SECOND FORM's CARD OF 'laws.FnExactCycleOfWord'. -/
def fnExactCycleOfWordUptoCard : Claim7 := { stood := { row := fnExactCycleOfWordUptoRow, standIns := [], harness := (true, "5c014717b39a5c69c751816bc154f90a850f5044c3c1e1234b778ddec8039188"), looks := false }, kinds := [], alts := [], laidByText := true, laidKinds := [.data, .pinned], laidTests := true, laidLooks := .later }
def FnExactCycleOfWordUptoCardSaid : Prop := Claim7.holds Tryd.pinned (.plain (OpenSpec.upto fnExactCycleOfWordSpec)) fnExactCycleOfWordUptoCard
end Rows
end Go.Proofs.YtbgnieajeipllaaDoor
