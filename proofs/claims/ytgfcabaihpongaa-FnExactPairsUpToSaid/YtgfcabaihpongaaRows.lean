/-
  No cell of these rows narrows 'for every input' (looked for: loops, veiled, ifaces, maps, wideKeys, modest, calm, conditions, laid).
  DERIVED. THE GIVEN ROWS OF THIS SEAT. 14 by the template 'for every input the law returns true; each argument reads behind the call as it read before'; 0 by the template 'total and deterministic' (their statements: YtgfcabaihpongaaTotals.lean).
  GIVEN WITH THE SEED: the statements are not yours to turn. If you find one false, say at which input.
  Laid BY PROGRAM, IN A SANDBOX (cutbox-rows.mjs): the forced cells as the released guide's own fill.sh prints them over the translation af73a342f2ac7da8… (all of the seat's roots in one cut). By AI agents, Wed Nov 11 2026. No macro, syntax, notation, axiom, sorry.
-/
import Derived.Test.YtgfcabaihpongaaChecked
import GoSem.Claim
import GoSem.ClaimJoined
import GoSem.ClaimMapViews
import Derived.JoinedTies
import Derived.KernelRfl
namespace Go.Proofs.Ytgfcabaihpongaa
/- THE CELL 'sum', in the pinned program and in every row, IS THE sha256 OF THE DUMP (.gsa) THAT YtgfcabaihpongaaProg.lean LOADS. Nothing in Lean hashes anything: it is a label: what it is worth is what the hold of that sum in a sandbox is worth. -/
noncomputable def Try.pinned : Pinned := { name := "ytgfcabaihpongaa", sum := "af73a342f2ac7da8c5a0fd484cf2a4e13b35f5b056bc183c2cab6e993e19b6ac", checked := Try.checked }
namespace Rows
def none {H : Type} : Left H := { results := [], args := [] }

/-- 'laws.FnExactPrimeFactors': WHATEVER THE INPUT: true; the input reads as it did. -/
def fnExactPrimeFactorsSpec : ChangeSpec := { name := "fnExactPrimeFactors", fn := fun _ => fun
  | [d] => { results := [.lit (.bool true)], args := [d] }
  | _ => none }
def fnExactPrimeFactorsRow : OpenClaim := { program := "ytgfcabaihpongaa", sum := "af73a342f2ac7da8c5a0fd484cf2a4e13b35f5b056bc183c2cab6e993e19b6ac", func := "loop.example/g01151/laws.FnExactPrimeFactors", spec := "fnExactPrimeFactors", unfollowed := true, recurses := true, apart := false }
def FnExactPrimeFactorsSaid : Prop := fnExactPrimeFactorsRow.holds Try.pinned (OpenSpec.ofChange fnExactPrimeFactorsSpec)

/-- ITS FALSE NEIGHBOUR: 'it returns false'. Refute it at one input. -/
def fnExactPrimeFactorsWrong : ChangeSpec := { name := "fnExactPrimeFactors", fn := fun _ => fun
  | [d] => { results := [.lit (.bool false)], args := [d] }
  | _ => none }
def FnExactPrimeFactorsWrongFalsely : Prop := fnExactPrimeFactorsRow.holds Try.pinned (OpenSpec.ofChange fnExactPrimeFactorsWrong)

/-- 'laws.FnExactSumOfDivisors': WHATEVER THE INPUT: true; the input reads as it did. -/
def fnExactSumOfDivisorsSpec : ChangeSpec := { name := "fnExactSumOfDivisors", fn := fun _ => fun
  | [d] => { results := [.lit (.bool true)], args := [d] }
  | _ => none }
def fnExactSumOfDivisorsRow : OpenClaim := { program := "ytgfcabaihpongaa", sum := "af73a342f2ac7da8c5a0fd484cf2a4e13b35f5b056bc183c2cab6e993e19b6ac", func := "loop.example/g01151/laws.FnExactSumOfDivisors", spec := "fnExactSumOfDivisors", unfollowed := true, recurses := true, apart := false }
def FnExactSumOfDivisorsSaid : Prop := fnExactSumOfDivisorsRow.holds Try.pinned (OpenSpec.ofChange fnExactSumOfDivisorsSpec)

/-- ITS FALSE NEIGHBOUR: 'it returns false'. Refute it at one input. -/
def fnExactSumOfDivisorsWrong : ChangeSpec := { name := "fnExactSumOfDivisors", fn := fun _ => fun
  | [d] => { results := [.lit (.bool false)], args := [d] }
  | _ => none }
def FnExactSumOfDivisorsWrongFalsely : Prop := fnExactSumOfDivisorsRow.holds Try.pinned (OpenSpec.ofChange fnExactSumOfDivisorsWrong)

/-- 'laws.FnExactCountDivisors': WHATEVER THE INPUT: true; the input reads as it did. -/
def fnExactCountDivisorsSpec : ChangeSpec := { name := "fnExactCountDivisors", fn := fun _ => fun
  | [d] => { results := [.lit (.bool true)], args := [d] }
  | _ => none }
def fnExactCountDivisorsRow : OpenClaim := { program := "ytgfcabaihpongaa", sum := "af73a342f2ac7da8c5a0fd484cf2a4e13b35f5b056bc183c2cab6e993e19b6ac", func := "loop.example/g01151/laws.FnExactCountDivisors", spec := "fnExactCountDivisors", unfollowed := true, recurses := true, apart := false }
def FnExactCountDivisorsSaid : Prop := fnExactCountDivisorsRow.holds Try.pinned (OpenSpec.ofChange fnExactCountDivisorsSpec)

/-- ITS FALSE NEIGHBOUR: 'it returns false'. Refute it at one input. -/
def fnExactCountDivisorsWrong : ChangeSpec := { name := "fnExactCountDivisors", fn := fun _ => fun
  | [d] => { results := [.lit (.bool false)], args := [d] }
  | _ => none }
def FnExactCountDivisorsWrongFalsely : Prop := fnExactCountDivisorsRow.holds Try.pinned (OpenSpec.ofChange fnExactCountDivisorsWrong)

/-- 'laws.FnExactProperSum': WHATEVER THE INPUT: true; the input reads as it did. -/
def fnExactProperSumSpec : ChangeSpec := { name := "fnExactProperSum", fn := fun _ => fun
  | [d] => { results := [.lit (.bool true)], args := [d] }
  | _ => none }
def fnExactProperSumRow : OpenClaim := { program := "ytgfcabaihpongaa", sum := "af73a342f2ac7da8c5a0fd484cf2a4e13b35f5b056bc183c2cab6e993e19b6ac", func := "loop.example/g01151/laws.FnExactProperSum", spec := "fnExactProperSum", unfollowed := true, recurses := true, apart := false }
def FnExactProperSumSaid : Prop := fnExactProperSumRow.holds Try.pinned (OpenSpec.ofChange fnExactProperSumSpec)

/-- ITS FALSE NEIGHBOUR: 'it returns false'. Refute it at one input. -/
def fnExactProperSumWrong : ChangeSpec := { name := "fnExactProperSum", fn := fun _ => fun
  | [d] => { results := [.lit (.bool false)], args := [d] }
  | _ => none }
def FnExactProperSumWrongFalsely : Prop := fnExactProperSumRow.holds Try.pinned (OpenSpec.ofChange fnExactProperSumWrong)

/-- 'laws.FnExactKindOfNumber': WHATEVER THE INPUT: true; the input reads as it did. -/
def fnExactKindOfNumberSpec : ChangeSpec := { name := "fnExactKindOfNumber", fn := fun _ => fun
  | [d] => { results := [.lit (.bool true)], args := [d] }
  | _ => none }
def fnExactKindOfNumberRow : OpenClaim := { program := "ytgfcabaihpongaa", sum := "af73a342f2ac7da8c5a0fd484cf2a4e13b35f5b056bc183c2cab6e993e19b6ac", func := "loop.example/g01151/laws.FnExactKindOfNumber", spec := "fnExactKindOfNumber", unfollowed := true, recurses := true, apart := false }
def FnExactKindOfNumberSaid : Prop := fnExactKindOfNumberRow.holds Try.pinned (OpenSpec.ofChange fnExactKindOfNumberSpec)

/-- ITS FALSE NEIGHBOUR: 'it returns false'. Refute it at one input. -/
def fnExactKindOfNumberWrong : ChangeSpec := { name := "fnExactKindOfNumber", fn := fun _ => fun
  | [d] => { results := [.lit (.bool false)], args := [d] }
  | _ => none }
def FnExactKindOfNumberWrongFalsely : Prop := fnExactKindOfNumberRow.holds Try.pinned (OpenSpec.ofChange fnExactKindOfNumberWrong)

/-- 'laws.FnExactProperRun': WHATEVER THE INPUT: true; the input reads as it did. -/
def fnExactProperRunSpec : ChangeSpec := { name := "fnExactProperRun", fn := fun _ => fun
  | [d1, d2] => { results := [.lit (.bool true)], args := [d1, d2] }
  | _ => none }
def fnExactProperRunRow : OpenClaim := { program := "ytgfcabaihpongaa", sum := "af73a342f2ac7da8c5a0fd484cf2a4e13b35f5b056bc183c2cab6e993e19b6ac", func := "loop.example/g01151/laws.FnExactProperRun", spec := "fnExactProperRun", apart := false }
def FnExactProperRunSaid : Prop := fnExactProperRunRow.holds Try.pinned (OpenSpec.ofChange fnExactProperRunSpec)

/-- ITS FALSE NEIGHBOUR: 'it returns false'. Refute it at one input. -/
def fnExactProperRunWrong : ChangeSpec := { name := "fnExactProperRun", fn := fun _ => fun
  | [d1, d2] => { results := [.lit (.bool false)], args := [d1, d2] }
  | _ => none }
def FnExactProperRunWrongFalsely : Prop := fnExactProperRunRow.holds Try.pinned (OpenSpec.ofChange fnExactProperRunWrong)

/-- 'laws.FnExactEndOfRun': WHATEVER THE INPUT: true; the input reads as it did. -/
def fnExactEndOfRunSpec : ChangeSpec := { name := "fnExactEndOfRun", fn := fun _ => fun
  | [d1, d2] => { results := [.lit (.bool true)], args := [d1, d2] }
  | _ => none }
def fnExactEndOfRunRow : OpenClaim := { program := "ytgfcabaihpongaa", sum := "af73a342f2ac7da8c5a0fd484cf2a4e13b35f5b056bc183c2cab6e993e19b6ac", func := "loop.example/g01151/laws.FnExactEndOfRun", spec := "fnExactEndOfRun", unfollowed := true, recurses := true, apart := false }
def FnExactEndOfRunSaid : Prop := fnExactEndOfRunRow.holds Try.pinned (OpenSpec.ofChange fnExactEndOfRunSpec)

/-- ITS FALSE NEIGHBOUR: 'it returns false'. Refute it at one input. -/
def fnExactEndOfRunWrong : ChangeSpec := { name := "fnExactEndOfRun", fn := fun _ => fun
  | [d1, d2] => { results := [.lit (.bool false)], args := [d1, d2] }
  | _ => none }
def FnExactEndOfRunWrongFalsely : Prop := fnExactEndOfRunRow.holds Try.pinned (OpenSpec.ofChange fnExactEndOfRunWrong)

/-- 'laws.FnExactCircleOf': WHATEVER THE INPUT: true; the input reads as it did. -/
def fnExactCircleOfSpec : ChangeSpec := { name := "fnExactCircleOf", fn := fun _ => fun
  | [d1, d2] => { results := [.lit (.bool true)], args := [d1, d2] }
  | _ => none }
def fnExactCircleOfRow : OpenClaim := { program := "ytgfcabaihpongaa", sum := "af73a342f2ac7da8c5a0fd484cf2a4e13b35f5b056bc183c2cab6e993e19b6ac", func := "loop.example/g01151/laws.FnExactCircleOf", spec := "fnExactCircleOf", unfollowed := true, recurses := true, apart := false }
def FnExactCircleOfSaid : Prop := fnExactCircleOfRow.holds Try.pinned (OpenSpec.ofChange fnExactCircleOfSpec)

/-- ITS FALSE NEIGHBOUR: 'it returns false'. Refute it at one input. -/
def fnExactCircleOfWrong : ChangeSpec := { name := "fnExactCircleOf", fn := fun _ => fun
  | [d1, d2] => { results := [.lit (.bool false)], args := [d1, d2] }
  | _ => none }
def FnExactCircleOfWrongFalsely : Prop := fnExactCircleOfRow.holds Try.pinned (OpenSpec.ofChange fnExactCircleOfWrong)

/-- 'laws.FnExactPartnerOf': WHATEVER THE INPUT: true; the input reads as it did. -/
def fnExactPartnerOfSpec : ChangeSpec := { name := "fnExactPartnerOf", fn := fun _ => fun
  | [d] => { results := [.lit (.bool true)], args := [d] }
  | _ => none }
def fnExactPartnerOfRow : OpenClaim := { program := "ytgfcabaihpongaa", sum := "af73a342f2ac7da8c5a0fd484cf2a4e13b35f5b056bc183c2cab6e993e19b6ac", func := "loop.example/g01151/laws.FnExactPartnerOf", spec := "fnExactPartnerOf", unfollowed := true, recurses := true, apart := false }
def FnExactPartnerOfSaid : Prop := fnExactPartnerOfRow.holds Try.pinned (OpenSpec.ofChange fnExactPartnerOfSpec)

/-- ITS FALSE NEIGHBOUR: 'it returns false'. Refute it at one input. -/
def fnExactPartnerOfWrong : ChangeSpec := { name := "fnExactPartnerOf", fn := fun _ => fun
  | [d] => { results := [.lit (.bool false)], args := [d] }
  | _ => none }
def FnExactPartnerOfWrongFalsely : Prop := fnExactPartnerOfRow.holds Try.pinned (OpenSpec.ofChange fnExactPartnerOfWrong)

/-- 'laws.FnExactPairsUpTo': WHATEVER THE INPUT: true; the input reads as it did. -/
def fnExactPairsUpToSpec : ChangeSpec := { name := "fnExactPairsUpTo", fn := fun _ => fun
  | [d] => { results := [.lit (.bool true)], args := [d] }
  | _ => none }
def fnExactPairsUpToRow : OpenClaim := { program := "ytgfcabaihpongaa", sum := "af73a342f2ac7da8c5a0fd484cf2a4e13b35f5b056bc183c2cab6e993e19b6ac", func := "loop.example/g01151/laws.FnExactPairsUpTo", spec := "fnExactPairsUpTo", unfollowed := true, recurses := true, apart := false }
def FnExactPairsUpToSaid : Prop := fnExactPairsUpToRow.holds Try.pinned (OpenSpec.ofChange fnExactPairsUpToSpec)

/-- ITS FALSE NEIGHBOUR: 'it returns false'. Refute it at one input. -/
def fnExactPairsUpToWrong : ChangeSpec := { name := "fnExactPairsUpTo", fn := fun _ => fun
  | [d] => { results := [.lit (.bool false)], args := [d] }
  | _ => none }
def FnExactPairsUpToWrongFalsely : Prop := fnExactPairsUpToRow.holds Try.pinned (OpenSpec.ofChange fnExactPairsUpToWrong)

/-- 'laws.FnExactEvenPerfect': WHATEVER THE INPUT: true; the input reads as it did. -/
def fnExactEvenPerfectSpec : ChangeSpec := { name := "fnExactEvenPerfect", fn := fun _ => fun
  | [d] => { results := [.lit (.bool true)], args := [d] }
  | _ => none }
def fnExactEvenPerfectRow : OpenClaim := { program := "ytgfcabaihpongaa", sum := "af73a342f2ac7da8c5a0fd484cf2a4e13b35f5b056bc183c2cab6e993e19b6ac", func := "loop.example/g01151/laws.FnExactEvenPerfect", spec := "fnExactEvenPerfect", apart := false }
def FnExactEvenPerfectSaid : Prop := fnExactEvenPerfectRow.holds Try.pinned (OpenSpec.ofChange fnExactEvenPerfectSpec)

/-- ITS FALSE NEIGHBOUR: 'it returns false'. Refute it at one input. -/
def fnExactEvenPerfectWrong : ChangeSpec := { name := "fnExactEvenPerfect", fn := fun _ => fun
  | [d] => { results := [.lit (.bool false)], args := [d] }
  | _ => none }
def FnExactEvenPerfectWrongFalsely : Prop := fnExactEvenPerfectRow.holds Try.pinned (OpenSpec.ofChange fnExactEvenPerfectWrong)

/-- 'laws.FnExactThabitPair': WHATEVER THE INPUT: true; the input reads as it did. -/
def fnExactThabitPairSpec : ChangeSpec := { name := "fnExactThabitPair", fn := fun _ => fun
  | [d] => { results := [.lit (.bool true)], args := [d] }
  | _ => none }
def fnExactThabitPairRow : OpenClaim := { program := "ytgfcabaihpongaa", sum := "af73a342f2ac7da8c5a0fd484cf2a4e13b35f5b056bc183c2cab6e993e19b6ac", func := "loop.example/g01151/laws.FnExactThabitPair", spec := "fnExactThabitPair", apart := false }
def FnExactThabitPairSaid : Prop := fnExactThabitPairRow.holds Try.pinned (OpenSpec.ofChange fnExactThabitPairSpec)

/-- ITS FALSE NEIGHBOUR: 'it returns false'. Refute it at one input. -/
def fnExactThabitPairWrong : ChangeSpec := { name := "fnExactThabitPair", fn := fun _ => fun
  | [d] => { results := [.lit (.bool false)], args := [d] }
  | _ => none }
def FnExactThabitPairWrongFalsely : Prop := fnExactThabitPairRow.holds Try.pinned (OpenSpec.ofChange fnExactThabitPairWrong)

/-- 'laws.FnExactSourcesOf': WHATEVER THE INPUT: true; the input reads as it did. -/
def fnExactSourcesOfSpec : ChangeSpec := { name := "fnExactSourcesOf", fn := fun _ => fun
  | [d] => { results := [.lit (.bool true)], args := [d] }
  | _ => none }
def fnExactSourcesOfRow : OpenClaim := { program := "ytgfcabaihpongaa", sum := "af73a342f2ac7da8c5a0fd484cf2a4e13b35f5b056bc183c2cab6e993e19b6ac", func := "loop.example/g01151/laws.FnExactSourcesOf", spec := "fnExactSourcesOf", apart := false }
def FnExactSourcesOfSaid : Prop := fnExactSourcesOfRow.holds Try.pinned (OpenSpec.ofChange fnExactSourcesOfSpec)

/-- ITS FALSE NEIGHBOUR: 'it returns false'. Refute it at one input. -/
def fnExactSourcesOfWrong : ChangeSpec := { name := "fnExactSourcesOf", fn := fun _ => fun
  | [d] => { results := [.lit (.bool false)], args := [d] }
  | _ => none }
def FnExactSourcesOfWrongFalsely : Prop := fnExactSourcesOfRow.holds Try.pinned (OpenSpec.ofChange fnExactSourcesOfWrong)

/-- 'laws.FnExactNoSources': WHATEVER THE INPUT: true; the input reads as it did. -/
def fnExactNoSourcesSpec : ChangeSpec := { name := "fnExactNoSources", fn := fun _ => fun
  | [d] => { results := [.lit (.bool true)], args := [d] }
  | _ => none }
def fnExactNoSourcesRow : OpenClaim := { program := "ytgfcabaihpongaa", sum := "af73a342f2ac7da8c5a0fd484cf2a4e13b35f5b056bc183c2cab6e993e19b6ac", func := "loop.example/g01151/laws.FnExactNoSources", spec := "fnExactNoSources", apart := false }
def FnExactNoSourcesSaid : Prop := fnExactNoSourcesRow.holds Try.pinned (OpenSpec.ofChange fnExactNoSourcesSpec)

/-- ITS FALSE NEIGHBOUR: 'it returns false'. Refute it at one input. -/
def fnExactNoSourcesWrong : ChangeSpec := { name := "fnExactNoSources", fn := fun _ => fun
  | [d] => { results := [.lit (.bool false)], args := [d] }
  | _ => none }
def FnExactNoSourcesWrongFalsely : Prop := fnExactNoSourcesRow.holds Try.pinned (OpenSpec.ofChange fnExactNoSourcesWrong)

/- THE SECOND FORM. 'bulk': how many values and letters a reading holds, each counted each time it is reached (what is shared counts as often as it is met; a slice's spare places count too). A statement '..UptoSaid' is the law's where the arguments, and the package variables that the reading takes, are together of bulk at most 1048576: NARROWER than '..Said'. Prove '..Said' where nothing that the law and all that it calls make is longer than what came in: it says more and counts as full. Else prove '..UptoSaid'. A law counts once. -/
mutual
def uptoBulk {H : Type} : DataW H → Nat
  | .lit (.string bytes) => bytes.length + 1
  | .lit _ => 1
  | .nil => 1
  | .ptr d => uptoBulk d + 1
  | .slice elems spare => uptoBulkAll elems + uptoBulkAll spare + 1
  | .agg parts => uptoBulkAll parts + 1
  | .iface _ d => uptoBulk d + 1
  | .map entries => uptoBulkEntries entries + 1
  | .held _ => 1
def uptoBulkAll {H : Type} : List (DataW H) → Nat
  | [] => 0
  | d :: r => uptoBulk d + uptoBulkAll r
def uptoBulkEntries {H : Type} : List (Lit × DataW H) → Nat
  | [] => 0
  | x :: r => uptoBulkEntry x + uptoBulkEntries r
def uptoBulkEntry {H : Type} : Lit × DataW H → Nat
  | (.string bytes, d) => bytes.length + uptoBulk d + 1
  | (_, d) => uptoBulk d + 1
 end
def uptoSmall : (H : Type) → List (DataW H) → Bool := fun _ ds => decide (uptoBulkAll ds ≤ 1048576)
def OpenSpec.upto (s : _root_.Go.ChangeSpec) : _root_.Go.OpenSpec := { _root_.Go.OpenSpec.ofChange s with cond := some uptoSmall }

/-- 'laws.FnExactPrimeFactors', WHERE WHAT IT READS IS OF BULK AT MOST 1048576: true; the input reads as it did. -/
def fnExactPrimeFactorsUptoRow : OpenClaim := { program := "ytgfcabaihpongaa", sum := "af73a342f2ac7da8c5a0fd484cf2a4e13b35f5b056bc183c2cab6e993e19b6ac", func := "loop.example/g01151/laws.FnExactPrimeFactors", spec := "fnExactPrimeFactors", unfollowed := true, recurses := true, apart := false, narrowed := true }
def FnExactPrimeFactorsUptoSaid : Prop := fnExactPrimeFactorsUptoRow.holds Try.pinned (OpenSpec.upto fnExactPrimeFactorsSpec)

/-- 'laws.FnExactSumOfDivisors', WHERE WHAT IT READS IS OF BULK AT MOST 1048576: true; the input reads as it did. -/
def fnExactSumOfDivisorsUptoRow : OpenClaim := { program := "ytgfcabaihpongaa", sum := "af73a342f2ac7da8c5a0fd484cf2a4e13b35f5b056bc183c2cab6e993e19b6ac", func := "loop.example/g01151/laws.FnExactSumOfDivisors", spec := "fnExactSumOfDivisors", unfollowed := true, recurses := true, apart := false, narrowed := true }
def FnExactSumOfDivisorsUptoSaid : Prop := fnExactSumOfDivisorsUptoRow.holds Try.pinned (OpenSpec.upto fnExactSumOfDivisorsSpec)

/-- 'laws.FnExactCountDivisors', WHERE WHAT IT READS IS OF BULK AT MOST 1048576: true; the input reads as it did. -/
def fnExactCountDivisorsUptoRow : OpenClaim := { program := "ytgfcabaihpongaa", sum := "af73a342f2ac7da8c5a0fd484cf2a4e13b35f5b056bc183c2cab6e993e19b6ac", func := "loop.example/g01151/laws.FnExactCountDivisors", spec := "fnExactCountDivisors", unfollowed := true, recurses := true, apart := false, narrowed := true }
def FnExactCountDivisorsUptoSaid : Prop := fnExactCountDivisorsUptoRow.holds Try.pinned (OpenSpec.upto fnExactCountDivisorsSpec)

/-- 'laws.FnExactProperSum', WHERE WHAT IT READS IS OF BULK AT MOST 1048576: true; the input reads as it did. -/
def fnExactProperSumUptoRow : OpenClaim := { program := "ytgfcabaihpongaa", sum := "af73a342f2ac7da8c5a0fd484cf2a4e13b35f5b056bc183c2cab6e993e19b6ac", func := "loop.example/g01151/laws.FnExactProperSum", spec := "fnExactProperSum", unfollowed := true, recurses := true, apart := false, narrowed := true }
def FnExactProperSumUptoSaid : Prop := fnExactProperSumUptoRow.holds Try.pinned (OpenSpec.upto fnExactProperSumSpec)

/-- 'laws.FnExactKindOfNumber', WHERE WHAT IT READS IS OF BULK AT MOST 1048576: true; the input reads as it did. -/
def fnExactKindOfNumberUptoRow : OpenClaim := { program := "ytgfcabaihpongaa", sum := "af73a342f2ac7da8c5a0fd484cf2a4e13b35f5b056bc183c2cab6e993e19b6ac", func := "loop.example/g01151/laws.FnExactKindOfNumber", spec := "fnExactKindOfNumber", unfollowed := true, recurses := true, apart := false, narrowed := true }
def FnExactKindOfNumberUptoSaid : Prop := fnExactKindOfNumberUptoRow.holds Try.pinned (OpenSpec.upto fnExactKindOfNumberSpec)

/-- 'laws.FnExactProperRun', WHERE WHAT IT READS IS OF BULK AT MOST 1048576: true; the input reads as it did. -/
def fnExactProperRunUptoRow : OpenClaim := { program := "ytgfcabaihpongaa", sum := "af73a342f2ac7da8c5a0fd484cf2a4e13b35f5b056bc183c2cab6e993e19b6ac", func := "loop.example/g01151/laws.FnExactProperRun", spec := "fnExactProperRun", apart := false, narrowed := true }
def FnExactProperRunUptoSaid : Prop := fnExactProperRunUptoRow.holds Try.pinned (OpenSpec.upto fnExactProperRunSpec)

/-- 'laws.FnExactEndOfRun', WHERE WHAT IT READS IS OF BULK AT MOST 1048576: true; the input reads as it did. -/
def fnExactEndOfRunUptoRow : OpenClaim := { program := "ytgfcabaihpongaa", sum := "af73a342f2ac7da8c5a0fd484cf2a4e13b35f5b056bc183c2cab6e993e19b6ac", func := "loop.example/g01151/laws.FnExactEndOfRun", spec := "fnExactEndOfRun", unfollowed := true, recurses := true, apart := false, narrowed := true }
def FnExactEndOfRunUptoSaid : Prop := fnExactEndOfRunUptoRow.holds Try.pinned (OpenSpec.upto fnExactEndOfRunSpec)

/-- 'laws.FnExactCircleOf', WHERE WHAT IT READS IS OF BULK AT MOST 1048576: true; the input reads as it did. -/
def fnExactCircleOfUptoRow : OpenClaim := { program := "ytgfcabaihpongaa", sum := "af73a342f2ac7da8c5a0fd484cf2a4e13b35f5b056bc183c2cab6e993e19b6ac", func := "loop.example/g01151/laws.FnExactCircleOf", spec := "fnExactCircleOf", unfollowed := true, recurses := true, apart := false, narrowed := true }
def FnExactCircleOfUptoSaid : Prop := fnExactCircleOfUptoRow.holds Try.pinned (OpenSpec.upto fnExactCircleOfSpec)

/-- 'laws.FnExactPartnerOf', WHERE WHAT IT READS IS OF BULK AT MOST 1048576: true; the input reads as it did. -/
def fnExactPartnerOfUptoRow : OpenClaim := { program := "ytgfcabaihpongaa", sum := "af73a342f2ac7da8c5a0fd484cf2a4e13b35f5b056bc183c2cab6e993e19b6ac", func := "loop.example/g01151/laws.FnExactPartnerOf", spec := "fnExactPartnerOf", unfollowed := true, recurses := true, apart := false, narrowed := true }
def FnExactPartnerOfUptoSaid : Prop := fnExactPartnerOfUptoRow.holds Try.pinned (OpenSpec.upto fnExactPartnerOfSpec)

/-- 'laws.FnExactPairsUpTo', WHERE WHAT IT READS IS OF BULK AT MOST 1048576: true; the input reads as it did. -/
def fnExactPairsUpToUptoRow : OpenClaim := { program := "ytgfcabaihpongaa", sum := "af73a342f2ac7da8c5a0fd484cf2a4e13b35f5b056bc183c2cab6e993e19b6ac", func := "loop.example/g01151/laws.FnExactPairsUpTo", spec := "fnExactPairsUpTo", unfollowed := true, recurses := true, apart := false, narrowed := true }
def FnExactPairsUpToUptoSaid : Prop := fnExactPairsUpToUptoRow.holds Try.pinned (OpenSpec.upto fnExactPairsUpToSpec)

/-- 'laws.FnExactEvenPerfect', WHERE WHAT IT READS IS OF BULK AT MOST 1048576: true; the input reads as it did. -/
def fnExactEvenPerfectUptoRow : OpenClaim := { program := "ytgfcabaihpongaa", sum := "af73a342f2ac7da8c5a0fd484cf2a4e13b35f5b056bc183c2cab6e993e19b6ac", func := "loop.example/g01151/laws.FnExactEvenPerfect", spec := "fnExactEvenPerfect", apart := false, narrowed := true }
def FnExactEvenPerfectUptoSaid : Prop := fnExactEvenPerfectUptoRow.holds Try.pinned (OpenSpec.upto fnExactEvenPerfectSpec)

/-- 'laws.FnExactThabitPair', WHERE WHAT IT READS IS OF BULK AT MOST 1048576: true; the input reads as it did. -/
def fnExactThabitPairUptoRow : OpenClaim := { program := "ytgfcabaihpongaa", sum := "af73a342f2ac7da8c5a0fd484cf2a4e13b35f5b056bc183c2cab6e993e19b6ac", func := "loop.example/g01151/laws.FnExactThabitPair", spec := "fnExactThabitPair", apart := false, narrowed := true }
def FnExactThabitPairUptoSaid : Prop := fnExactThabitPairUptoRow.holds Try.pinned (OpenSpec.upto fnExactThabitPairSpec)

/-- 'laws.FnExactSourcesOf', WHERE WHAT IT READS IS OF BULK AT MOST 1048576: true; the input reads as it did. -/
def fnExactSourcesOfUptoRow : OpenClaim := { program := "ytgfcabaihpongaa", sum := "af73a342f2ac7da8c5a0fd484cf2a4e13b35f5b056bc183c2cab6e993e19b6ac", func := "loop.example/g01151/laws.FnExactSourcesOf", spec := "fnExactSourcesOf", apart := false, narrowed := true }
def FnExactSourcesOfUptoSaid : Prop := fnExactSourcesOfUptoRow.holds Try.pinned (OpenSpec.upto fnExactSourcesOfSpec)

/-- 'laws.FnExactNoSources', WHERE WHAT IT READS IS OF BULK AT MOST 1048576: true; the input reads as it did. -/
def fnExactNoSourcesUptoRow : OpenClaim := { program := "ytgfcabaihpongaa", sum := "af73a342f2ac7da8c5a0fd484cf2a4e13b35f5b056bc183c2cab6e993e19b6ac", func := "loop.example/g01151/laws.FnExactNoSources", spec := "fnExactNoSources", apart := false, narrowed := true }
def FnExactNoSourcesUptoSaid : Prop := fnExactNoSourcesUptoRow.holds Try.pinned (OpenSpec.upto fnExactNoSourcesSpec)

end Rows
end Go.Proofs.Ytgfcabaihpongaa
