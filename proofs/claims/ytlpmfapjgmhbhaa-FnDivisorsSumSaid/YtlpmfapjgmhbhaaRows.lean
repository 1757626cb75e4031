/-
  No cell of these rows narrows 'for every input' (looked for: loops, veiled, ifaces, maps, wideKeys, modest, calm, conditions, laid).
  DERIVED. THE GIVEN ROWS OF THIS SEAT. 3 by the template 'for every input the law returns true; each argument reads behind the call as it read before'; 0 by the template 'total and deterministic' (their statements: YtlpmfapjgmhbhaaTotals.lean).
  GIVEN WITH THE SEED: the statements are not yours to turn. If you find one false, say at which input.
  Laid BY PROGRAM, IN A SANDBOX (cutbox-rows.mjs): the forced cells as the released guide's own fill.sh prints them over the translation c1f36ad08df4be74… (all of the seat's roots in one cut). By AI agents, Wed Nov 11 2026. No macro, syntax, notation, axiom, sorry.
-/
import Derived.Test.YtlpmfapjgmhbhaaChecked
import GoSem.Claim
import GoSem.ClaimJoined
import GoSem.ClaimMapViews
import Derived.JoinedTies
import Derived.KernelRfl
namespace Go.Proofs.Ytlpmfapjgmhbhaa
/- THE CELL 'sum', in the pinned program and in every row, IS THE sha256 OF THE DUMP (.gsa) THAT YtlpmfapjgmhbhaaProg.lean LOADS. Nothing in Lean hashes anything: it is a label: what it is worth is what the hold of that sum in a sandbox is worth. -/
noncomputable def Try.pinned : Pinned := { name := "ytlpmfapjgmhbhaa", sum := "c1f36ad08df4be74ea33c71ae4bc97670f73b5b765f99f741767d26260dc76dc", checked := Try.checked }
namespace Rows
def none {H : Type} : Left H := { results := [], args := [] }

/-- 'laws.FnProperRuns': WHATEVER THE INPUT: true; the input reads as it did. -/
def fnProperRunsSpec : ChangeSpec := { name := "fnProperRuns", fn := fun _ => fun
  | [d1, d2] => { results := [.lit (.bool true)], args := [d1, d2] }
  | _ => none }
def fnProperRunsRow : OpenClaim := { program := "ytlpmfapjgmhbhaa", sum := "c1f36ad08df4be74ea33c71ae4bc97670f73b5b765f99f741767d26260dc76dc", func := "loop.example/g01151/laws.FnProperRuns", spec := "fnProperRuns", unfollowed := true, recurses := true, apart := false }
def FnProperRunsSaid : Prop := fnProperRunsRow.holds Try.pinned (OpenSpec.ofChange fnProperRunsSpec)

/-- ITS FALSE NEIGHBOUR: 'it returns false'. Refute it at one input. -/
def fnProperRunsWrong : ChangeSpec := { name := "fnProperRuns", fn := fun _ => fun
  | [d1, d2] => { results := [.lit (.bool false)], args := [d1, d2] }
  | _ => none }
def FnProperRunsWrongFalsely : Prop := fnProperRunsRow.holds Try.pinned (OpenSpec.ofChange fnProperRunsWrong)

/-- 'laws.FnPairsAndPerfect': WHATEVER THE INPUT: true; the input reads as it did. -/
def fnPairsAndPerfectSpec : ChangeSpec := { name := "fnPairsAndPerfect", fn := fun _ => fun
  | [d1, d2] => { results := [.lit (.bool true)], args := [d1, d2] }
  | _ => none }
def fnPairsAndPerfectRow : OpenClaim := { program := "ytlpmfapjgmhbhaa", sum := "c1f36ad08df4be74ea33c71ae4bc97670f73b5b765f99f741767d26260dc76dc", func := "loop.example/g01151/laws.FnPairsAndPerfect", spec := "fnPairsAndPerfect", unfollowed := true, recurses := true, apart := false }
def FnPairsAndPerfectSaid : Prop := fnPairsAndPerfectRow.holds Try.pinned (OpenSpec.ofChange fnPairsAndPerfectSpec)

/-- ITS FALSE NEIGHBOUR: 'it returns false'. Refute it at one input. -/
def fnPairsAndPerfectWrong : ChangeSpec := { name := "fnPairsAndPerfect", fn := fun _ => fun
  | [d1, d2] => { results := [.lit (.bool false)], args := [d1, d2] }
  | _ => none }
def FnPairsAndPerfectWrongFalsely : Prop := fnPairsAndPerfectRow.holds Try.pinned (OpenSpec.ofChange fnPairsAndPerfectWrong)

/-- 'laws.FnDivisorsSum': WHATEVER THE INPUT: true; the input reads as it did. -/
def fnDivisorsSumSpec : ChangeSpec := { name := "fnDivisorsSum", fn := fun _ => fun
  | [d1, d2] => { results := [.lit (.bool true)], args := [d1, d2] }
  | _ => none }
def fnDivisorsSumRow : OpenClaim := { program := "ytlpmfapjgmhbhaa", sum := "c1f36ad08df4be74ea33c71ae4bc97670f73b5b765f99f741767d26260dc76dc", func := "loop.example/g01151/laws.FnDivisorsSum", spec := "fnDivisorsSum", unfollowed := true, recurses := true, apart := false }
def FnDivisorsSumSaid : Prop := fnDivisorsSumRow.holds Try.pinned (OpenSpec.ofChange fnDivisorsSumSpec)

/-- ITS FALSE NEIGHBOUR: 'it returns false'. Refute it at one input. -/
def fnDivisorsSumWrong : ChangeSpec := { name := "fnDivisorsSum", fn := fun _ => fun
  | [d1, d2] => { results := [.lit (.bool false)], args := [d1, d2] }
  | _ => none }
def FnDivisorsSumWrongFalsely : Prop := fnDivisorsSumRow.holds Try.pinned (OpenSpec.ofChange fnDivisorsSumWrong)

/- THE SECOND FORM. 'bulk': how many values and letters a reading holds, each counted each time it is reached (what is shared counts as often as it is met; a slice's spare places count too). A statement '..UptoSaid' is the law's where the arguments, and the package variables that the reading takes, are together of bulk at most 1048576: NARROWER than '..Said'. Prove '..Said' where nothing that the law and all that it calls make is longer than what came in: it says more and counts as full. Else prove '..UptoSaid'. A law counts once. -/
mutual
def uptoBulk {H : Type} : DataW H → Nat
  | .lit (.string bytes) => bytes.length + 1
  | .lit _ => 1
  | .nil => 1
  | .ptr d => uptoBulk d + 1
  | .slice elems spare => uptoBulkAll elems + uptoBulkAll spare + 1
  | .agg parts => uptoBulkAll parts + 1
  | .iface _ d => uptoBulk d + 1
  | .map entries => uptoBulkEntries entries + 1
  | .held _ => 1
def uptoBulkAll {H : Type} : List (DataW H) → Nat
  | [] => 0
  | d :: r => uptoBulk d + uptoBulkAll r
def uptoBulkEntries {H : Type} : List (Lit × DataW H) → Nat
  | [] => 0
  | x :: r => uptoBulkEntry x + uptoBulkEntries r
def uptoBulkEntry {H : Type} : Lit × DataW H → Nat
  | (.string bytes, d) => bytes.length + uptoBulk d + 1
  | (_, d) => uptoBulk d + 1
 end
def uptoSmall : (H : Type) → List (DataW H) → Bool := fun _ ds => decide (uptoBulkAll ds ≤ 1048576)
def OpenSpec.upto (s : _root_.Go.ChangeSpec) : _root_.Go.OpenSpec := { _root_.Go.OpenSpec.ofChange s with cond := some uptoSmall }

/-- 'laws.FnProperRuns', WHERE WHAT IT READS IS OF BULK AT MOST 1048576: true; the input reads as it did. -/
def fnProperRunsUptoRow : OpenClaim := { program := "ytlpmfapjgmhbhaa", sum := "c1f36ad08df4be74ea33c71ae4bc97670f73b5b765f99f741767d26260dc76dc", func := "loop.example/g01151/laws.FnProperRuns", spec := "fnProperRuns", unfollowed := true, recurses := true, apart := false, narrowed := true }
def FnProperRunsUptoSaid : Prop := fnProperRunsUptoRow.holds Try.pinned (OpenSpec.upto fnProperRunsSpec)

/-- 'laws.FnPairsAndPerfect', WHERE WHAT IT READS IS OF BULK AT MOST 1048576: true; the input reads as it did. -/
def fnPairsAndPerfectUptoRow : OpenClaim := { program := "ytlpmfapjgmhbhaa", sum := "c1f36ad08df4be74ea33c71ae4bc97670f73b5b765f99f741767d26260dc76dc", func := "loop.example/g01151/laws.FnPairsAndPerfect", spec := "fnPairsAndPerfect", unfollowed := true, recurses := true, apart := false, narrowed := true }
def FnPairsAndPerfectUptoSaid : Prop := fnPairsAndPerfectUptoRow.holds Try.pinned (OpenSpec.upto fnPairsAndPerfectSpec)

/-- 'laws.FnDivisorsSum', WHERE WHAT IT READS IS OF BULK AT MOST 1048576: true; the input reads as it did. -/
def fnDivisorsSumUptoRow : OpenClaim := { program := "ytlpmfapjgmhbhaa", sum := "c1f36ad08df4be74ea33c71ae4bc97670f73b5b765f99f741767d26260dc76dc", func := "loop.example/g01151/laws.FnDivisorsSum", spec := "fnDivisorsSum", unfollowed := true, recurses := true, apart := false, narrowed := true }
def FnDivisorsSumUptoSaid : Prop := fnDivisorsSumUptoRow.holds Try.pinned (OpenSpec.upto fnDivisorsSumSpec)

end Rows
end Go.Proofs.Ytlpmfapjgmhbhaa
