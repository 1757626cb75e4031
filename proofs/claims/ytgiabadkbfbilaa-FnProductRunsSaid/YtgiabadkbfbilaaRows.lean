/-
  No cell of these rows narrows 'for every input' (looked for: loops, veiled, ifaces, maps, wideKeys, modest, calm, conditions, laid).
  DERIVED. THE GIVEN ROWS OF THIS SEAT. 3 by the template 'for every input the law returns true; each argument reads behind the call as it read before'; 0 by the template 'total and deterministic' (their statements: YtgiabadkbfbilaaTotals.lean).
  GIVEN WITH THE SEED: the statements are not yours to turn. If you find one false, say at which input.
  Laid BY PROGRAM, IN A SANDBOX (cutbox-rows.mjs): the forced cells as the released guide's own fill.sh prints them over the translation e3bf25a6a33f07eb… (all of the seat's roots in one cut). By AI agents, Wed Nov 11 2026. No macro, syntax, notation, axiom, sorry.
-/
import Derived.Test.YtgiabadkbfbilaaChecked
import GoSem.Claim
import GoSem.ClaimJoined
import GoSem.ClaimMapViews
import Derived.JoinedTies
import Derived.KernelRfl
namespace Go.Proofs.Ytgiabadkbfbilaa
/- THE CELL 'sum', in the pinned program and in every row, IS THE sha256 OF THE DUMP (.gsa) THAT YtgiabadkbfbilaaProg.lean LOADS. Nothing in Lean hashes anything: it is a label: what it is worth is what the hold of that sum in a sandbox is worth. -/
noncomputable def Try.pinned : Pinned := { name := "ytgiabadkbfbilaa", sum := "e3bf25a6a33f07eb5b6a07556b101aaa910b7032bcf7824694c07a8c86310686", checked := Try.checked }
namespace Rows
def none {H : Type} : Left H := { results := [], args := [] }

/-- 'laws.FnStepsByGaps': WHATEVER THE INPUT: true; the input reads as it did. -/
def fnStepsByGapsSpec : ChangeSpec := { name := "fnStepsByGaps", fn := fun _ => fun
  | [d1, d2] => { results := [.lit (.bool true)], args := [d1, d2] }
  | _ => none }
def fnStepsByGapsRow : OpenClaim := { program := "ytgiabadkbfbilaa", sum := "e3bf25a6a33f07eb5b6a07556b101aaa910b7032bcf7824694c07a8c86310686", func := "loop.example/g01151/laws.FnStepsByGaps", spec := "fnStepsByGaps", unfollowed := true, recurses := true, apart := false }
def FnStepsByGapsSaid : Prop := fnStepsByGapsRow.holds Try.pinned (OpenSpec.ofChange fnStepsByGapsSpec)

/-- ITS FALSE NEIGHBOUR: 'it returns false'. Refute it at one input. -/
def fnStepsByGapsWrong : ChangeSpec := { name := "fnStepsByGaps", fn := fun _ => fun
  | [d1, d2] => { results := [.lit (.bool false)], args := [d1, d2] }
  | _ => none }
def FnStepsByGapsWrongFalsely : Prop := fnStepsByGapsRow.holds Try.pinned (OpenSpec.ofChange fnStepsByGapsWrong)

/-- 'laws.FnProductRuns': WHATEVER THE INPUT: true; the input reads as it did. -/
def fnProductRunsSpec : ChangeSpec := { name := "fnProductRuns", fn := fun _ => fun
  | [d1, d2] => { results := [.lit (.bool true)], args := [d1, d2] }
  | _ => none }
def fnProductRunsRow : OpenClaim := { program := "ytgiabadkbfbilaa", sum := "e3bf25a6a33f07eb5b6a07556b101aaa910b7032bcf7824694c07a8c86310686", func := "loop.example/g01151/laws.FnProductRuns", spec := "fnProductRuns", unfollowed := true, recurses := true, apart := false }
def FnProductRunsSaid : Prop := fnProductRunsRow.holds Try.pinned (OpenSpec.ofChange fnProductRunsSpec)

/-- ITS FALSE NEIGHBOUR: 'it returns false'. Refute it at one input. -/
def fnProductRunsWrong : ChangeSpec := { name := "fnProductRuns", fn := fun _ => fun
  | [d1, d2] => { results := [.lit (.bool false)], args := [d1, d2] }
  | _ => none }
def FnProductRunsWrongFalsely : Prop := fnProductRunsRow.holds Try.pinned (OpenSpec.ofChange fnProductRunsWrong)

/-- 'laws.FnPeriodsOfFractions': WHATEVER THE INPUT: true; the input reads as it did. -/
def fnPeriodsOfFractionsSpec : ChangeSpec := { name := "fnPeriodsOfFractions", fn := fun _ => fun
  | [d1, d2] => { results := [.lit (.bool true)], args := [d1, d2] }
  | _ => none }
def fnPeriodsOfFractionsRow : OpenClaim := { program := "ytgiabadkbfbilaa", sum := "e3bf25a6a33f07eb5b6a07556b101aaa910b7032bcf7824694c07a8c86310686", func := "loop.example/g01151/laws.FnPeriodsOfFractions", spec := "fnPeriodsOfFractions", apart := false }
def FnPeriodsOfFractionsSaid : Prop := fnPeriodsOfFractionsRow.holds Try.pinned (OpenSpec.ofChange fnPeriodsOfFractionsSpec)

/-- ITS FALSE NEIGHBOUR: 'it returns false'. Refute it at one input. -/
def fnPeriodsOfFractionsWrong : ChangeSpec := { name := "fnPeriodsOfFractions", fn := fun _ => fun
  | [d1, d2] => { results := [.lit (.bool false)], args := [d1, d2] }
  | _ => none }
def FnPeriodsOfFractionsWrongFalsely : Prop := fnPeriodsOfFractionsRow.holds Try.pinned (OpenSpec.ofChange fnPeriodsOfFractionsWrong)

/- THE SECOND FORM. 'bulk': how many values and letters a reading holds, each counted each time it is reached (what is shared counts as often as it is met; a slice's spare places count too). A statement '..UptoSaid' is the law's where the arguments, and the package variables that the reading takes, are together of bulk at most 1048576: NARROWER than '..Said'. Prove '..Said' where nothing that the law and all that it calls make is longer than what came in: it says more and counts as full. Else prove '..UptoSaid'. A law counts once. -/
mutual
def uptoBulk {H : Type} : DataW H → Nat
  | .lit (.string bytes) => bytes.length + 1
  | .lit _ => 1
  | .nil => 1
  | .ptr d => uptoBulk d + 1
  | .slice elems spare => uptoBulkAll elems + uptoBulkAll spare + 1
  | .agg parts => uptoBulkAll parts + 1
  | .iface _ d => uptoBulk d + 1
  | .map entries => uptoBulkEntries entries + 1
  | .held _ => 1
def uptoBulkAll {H : Type} : List (DataW H) → Nat
  | [] => 0
  | d :: r => uptoBulk d + uptoBulkAll r
def uptoBulkEntries {H : Type} : List (Lit × DataW H) → Nat
  | [] => 0
  | x :: r => uptoBulkEntry x + uptoBulkEntries r
def uptoBulkEntry {H : Type} : Lit × DataW H → Nat
  | (.string bytes, d) => bytes.length + uptoBulk d + 1
  | (_, d) => uptoBulk d + 1
 end
def uptoSmall : (H : Type) → List (DataW H) → Bool := fun _ ds => decide (uptoBulkAll ds ≤ 1048576)
def OpenSpec.upto (s : _root_.Go.ChangeSpec) : _root_.Go.OpenSpec := { _root_.Go.OpenSpec.ofChange s with cond := some uptoSmall }

/-- 'laws.FnStepsByGaps', WHERE WHAT IT READS IS OF BULK AT MOST 1048576: true; the input reads as it did. -/
def fnStepsByGapsUptoRow : OpenClaim := { program := "ytgiabadkbfbilaa", sum := "e3bf25a6a33f07eb5b6a07556b101aaa910b7032bcf7824694c07a8c86310686", func := "loop.example/g01151/laws.FnStepsByGaps", spec := "fnStepsByGaps", unfollowed := true, recurses := true, apart := false, narrowed := true }
def FnStepsByGapsUptoSaid : Prop := fnStepsByGapsUptoRow.holds Try.pinned (OpenSpec.upto fnStepsByGapsSpec)

/-- 'laws.FnProductRuns', WHERE WHAT IT READS IS OF BULK AT MOST 1048576: true; the input reads as it did. -/
def fnProductRunsUptoRow : OpenClaim := { program := "ytgiabadkbfbilaa", sum := "e3bf25a6a33f07eb5b6a07556b101aaa910b7032bcf7824694c07a8c86310686", func := "loop.example/g01151/laws.FnProductRuns", spec := "fnProductRuns", unfollowed := true, recurses := true, apart := false, narrowed := true }
def FnProductRunsUptoSaid : Prop := fnProductRunsUptoRow.holds Try.pinned (OpenSpec.upto fnProductRunsSpec)

/-- 'laws.FnPeriodsOfFractions', WHERE WHAT IT READS IS OF BULK AT MOST 1048576: true; the input reads as it did. -/
def fnPeriodsOfFractionsUptoRow : OpenClaim := { program := "ytgiabadkbfbilaa", sum := "e3bf25a6a33f07eb5b6a07556b101aaa910b7032bcf7824694c07a8c86310686", func := "loop.example/g01151/laws.FnPeriodsOfFractions", spec := "fnPeriodsOfFractions", apart := false, narrowed := true }
def FnPeriodsOfFractionsUptoSaid : Prop := fnPeriodsOfFractionsUptoRow.holds Try.pinned (OpenSpec.upto fnPeriodsOfFractionsSpec)

end Rows
end Go.Proofs.Ytgiabadkbfbilaa
