/-
  No cell of these rows narrows 'for every input' (looked for: loops, veiled, ifaces, maps, wideKeys, modest, calm, conditions, laid).
  DERIVED. THE GIVEN ROWS OF THIS SEAT. 3 by the template 'for every input the law returns true; each argument reads behind the call as it read before'; 0 by the template 'total and deterministic' (their statements: YtnniiobiedfmoaaTotals.lean).
  GIVEN WITH THE SEED: the statements are not yours to turn. If you find one false, say at which input.
  Laid BY PROGRAM, IN A SANDBOX (cutbox-rows.mjs): the forced cells as the released guide's own fill.sh prints them over the translation cebade366d537537… (all of the seat's roots in one cut). By AI agents, Wed Nov 11 2026. No macro, syntax, notation, axiom, sorry.
-/
import Derived.Test.YtnniiobiedfmoaaChecked
import GoSem.Claim
import GoSem.ClaimJoined
import GoSem.ClaimMapViews
import Derived.JoinedTies
import Derived.KernelRfl
namespace Go.Proofs.Ytnniiobiedfmoaa
/- THE CELL 'sum', in the pinned program and in every row, IS THE sha256 OF THE DUMP (.gsa) THAT YtnniiobiedfmoaaProg.lean LOADS. Nothing in Lean hashes anything: it is a label: what it is worth is what the hold of that sum in a sandbox is worth. -/
noncomputable def Try.pinned : Pinned := { name := "ytnniiobiedfmoaa", sum := "cebade366d5375370ebe94c80da60e7303ac9e2e05545981c31902a718d5fb1c", checked := Try.checked }
namespace Rows
def none {H : Type} : Left H := { results := [], args := [] }

/-- 'laws.FnPowerRunsEnd': WHATEVER THE INPUT: true; the input reads as it did. -/
def fnPowerRunsEndSpec : ChangeSpec := { name := "fnPowerRunsEnd", fn := fun _ => fun
  | [d1, d2] => { results := [.lit (.bool true)], args := [d1, d2] }
  | _ => none }
def fnPowerRunsEndRow : OpenClaim := { program := "ytnniiobiedfmoaa", sum := "cebade366d5375370ebe94c80da60e7303ac9e2e05545981c31902a718d5fb1c", func := "loop.example/g01151/laws.FnPowerRunsEnd", spec := "fnPowerRunsEnd", unfollowed := true, recurses := true, apart := false }
def FnPowerRunsEndSaid : Prop := fnPowerRunsEndRow.holds Try.pinned (OpenSpec.ofChange fnPowerRunsEndSpec)

/-- ITS FALSE NEIGHBOUR: 'it returns false'. Refute it at one input. -/
def fnPowerRunsEndWrong : ChangeSpec := { name := "fnPowerRunsEnd", fn := fun _ => fun
  | [d1, d2] => { results := [.lit (.bool false)], args := [d1, d2] }
  | _ => none }
def FnPowerRunsEndWrongFalsely : Prop := fnPowerRunsEndRow.holds Try.pinned (OpenSpec.ofChange fnPowerRunsEndWrong)

/-- 'laws.FnCyclesOfPowers': WHATEVER THE INPUT: true; the input reads as it did. -/
def fnCyclesOfPowersSpec : ChangeSpec := { name := "fnCyclesOfPowers", fn := fun _ => fun
  | [d1, d2] => { results := [.lit (.bool true)], args := [d1, d2] }
  | _ => none }
def fnCyclesOfPowersRow : OpenClaim := { program := "ytnniiobiedfmoaa", sum := "cebade366d5375370ebe94c80da60e7303ac9e2e05545981c31902a718d5fb1c", func := "loop.example/g01151/laws.FnCyclesOfPowers", spec := "fnCyclesOfPowers", unfollowed := true, recurses := true, apart := false }
def FnCyclesOfPowersSaid : Prop := fnCyclesOfPowersRow.holds Try.pinned (OpenSpec.ofChange fnCyclesOfPowersSpec)

/-- ITS FALSE NEIGHBOUR: 'it returns false'. Refute it at one input. -/
def fnCyclesOfPowersWrong : ChangeSpec := { name := "fnCyclesOfPowers", fn := fun _ => fun
  | [d1, d2] => { results := [.lit (.bool false)], args := [d1, d2] }
  | _ => none }
def FnCyclesOfPowersWrongFalsely : Prop := fnCyclesOfPowersRow.holds Try.pinned (OpenSpec.ofChange fnCyclesOfPowersWrong)

/-- 'laws.FnOwnPowers': WHATEVER THE INPUT: true; the input reads as it did. -/
def fnOwnPowersSpec : ChangeSpec := { name := "fnOwnPowers", fn := fun _ => fun
  | [d1, d2] => { results := [.lit (.bool true)], args := [d1, d2] }
  | _ => none }
def fnOwnPowersRow : OpenClaim := { program := "ytnniiobiedfmoaa", sum := "cebade366d5375370ebe94c80da60e7303ac9e2e05545981c31902a718d5fb1c", func := "loop.example/g01151/laws.FnOwnPowers", spec := "fnOwnPowers", unfollowed := true, recurses := true, apart := false }
def FnOwnPowersSaid : Prop := fnOwnPowersRow.holds Try.pinned (OpenSpec.ofChange fnOwnPowersSpec)

/-- ITS FALSE NEIGHBOUR: 'it returns false'. Refute it at one input. -/
def fnOwnPowersWrong : ChangeSpec := { name := "fnOwnPowers", fn := fun _ => fun
  | [d1, d2] => { results := [.lit (.bool false)], args := [d1, d2] }
  | _ => none }
def FnOwnPowersWrongFalsely : Prop := fnOwnPowersRow.holds Try.pinned (OpenSpec.ofChange fnOwnPowersWrong)

/- THE SECOND FORM. 'bulk': how many values and letters a reading holds, each counted each time it is reached (what is shared counts as often as it is met; a slice's spare places count too). A statement '..UptoSaid' is the law's where the arguments, and the package variables that the reading takes, are together of bulk at most 1048576: NARROWER than '..Said'. Prove '..Said' where nothing that the law and all that it calls make is longer than what came in: it says more and counts as full. Else prove '..UptoSaid'. A law counts once. -/
mutual
def uptoBulk {H : Type} : DataW H → Nat
  | .lit (.string bytes) => bytes.length + 1
  | .lit _ => 1
  | .nil => 1
  | .ptr d => uptoBulk d + 1
  | .slice elems spare => uptoBulkAll elems + uptoBulkAll spare + 1
  | .agg parts => uptoBulkAll parts + 1
  | .iface _ d => uptoBulk d + 1
  | .map entries => uptoBulkEntries entries + 1
  | .held _ => 1
def uptoBulkAll {H : Type} : List (DataW H) → Nat
  | [] => 0
  | d :: r => uptoBulk d + uptoBulkAll r
def uptoBulkEntries {H : Type} : List (Lit × DataW H) → Nat
  | [] => 0
  | x :: r => uptoBulkEntry x + uptoBulkEntries r
def uptoBulkEntry {H : Type} : Lit × DataW H → Nat
  | (.string bytes, d) => bytes.length + uptoBulk d + 1
  | (_, d) => uptoBulk d + 1
 end
def uptoSmall : (H : Type) → List (DataW H) → Bool := fun _ ds => decide (uptoBulkAll ds ≤ 1048576)
def OpenSpec.upto (s : _root_.Go.ChangeSpec) : _root_.Go.OpenSpec := { _root_.Go.OpenSpec.ofChange s with cond := some uptoSmall }

/-- 'laws.FnPowerRunsEnd', WHERE WHAT IT READS IS OF BULK AT MOST 1048576: true; the input reads as it did. -/
def fnPowerRunsEndUptoRow : OpenClaim := { program := "ytnniiobiedfmoaa", sum := "cebade366d5375370ebe94c80da60e7303ac9e2e05545981c31902a718d5fb1c", func := "loop.example/g01151/laws.FnPowerRunsEnd", spec := "fnPowerRunsEnd", unfollowed := true, recurses := true, apart := false, narrowed := true }
def FnPowerRunsEndUptoSaid : Prop := fnPowerRunsEndUptoRow.holds Try.pinned (OpenSpec.upto fnPowerRunsEndSpec)

/-- 'laws.FnCyclesOfPowers', WHERE WHAT IT READS IS OF BULK AT MOST 1048576: true; the input reads as it did. -/
def fnCyclesOfPowersUptoRow : OpenClaim := { program := "ytnniiobiedfmoaa", sum := "cebade366d5375370ebe94c80da60e7303ac9e2e05545981c31902a718d5fb1c", func := "loop.example/g01151/laws.FnCyclesOfPowers", spec := "fnCyclesOfPowers", unfollowed := true, recurses := true, apart := false, narrowed := true }
def FnCyclesOfPowersUptoSaid : Prop := fnCyclesOfPowersUptoRow.holds Try.pinned (OpenSpec.upto fnCyclesOfPowersSpec)

/-- 'laws.FnOwnPowers', WHERE WHAT IT READS IS OF BULK AT MOST 1048576: true; the input reads as it did. -/
def fnOwnPowersUptoRow : OpenClaim := { program := "ytnniiobiedfmoaa", sum := "cebade366d5375370ebe94c80da60e7303ac9e2e05545981c31902a718d5fb1c", func := "loop.example/g01151/laws.FnOwnPowers", spec := "fnOwnPowers", unfollowed := true, recurses := true, apart := false, narrowed := true }
def FnOwnPowersUptoSaid : Prop := fnOwnPowersUptoRow.holds Try.pinned (OpenSpec.upto fnOwnPowersSpec)

end Rows
end Go.Proofs.Ytnniiobiedfmoaa
