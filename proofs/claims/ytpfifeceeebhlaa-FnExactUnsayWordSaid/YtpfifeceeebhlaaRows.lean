/-
  No cell of these rows narrows 'for every input' (looked for: loops, veiled, ifaces, maps, wideKeys, modest, calm, conditions, laid).
  DERIVED. THE GIVEN ROWS OF THIS SEAT. 15 by the template 'for every input the law returns true; each argument reads behind the call as it read before'; 0 by the template 'total and deterministic' (their statements: YtpfifeceeebhlaaTotals.lean).
  GIVEN WITH THE SEED: the statements are not yours to turn. If you find one false, say at which input.
  Laid BY PROGRAM, IN A SANDBOX (cutbox-rows.mjs): the forced cells as the released guide's own fill.sh prints them over the translation 985a27d54972cead… (all of the seat's roots in one cut). By AI agents, Wed Nov 11 2026. No macro, syntax, notation, axiom, sorry.
-/
import Derived.Test.YtpfifeceeebhlaaChecked
import GoSem.Claim
import GoSem.ClaimJoined
import GoSem.ClaimMapViews
import Derived.JoinedTies
import Derived.KernelRfl
namespace Go.Proofs.Ytpfifeceeebhlaa
/- THE CELL 'sum', in the pinned program and in every row, IS THE sha256 OF THE DUMP (.gsa) THAT YtpfifeceeebhlaaProg.lean LOADS. Nothing in Lean hashes anything: it is a label: what it is worth is what the hold of that sum in a sandbox is worth. -/
noncomputable def Try.pinned : Pinned := { name := "ytpfifeceeebhlaa", sum := "985a27d54972cead0696dea94155db26c2c91a7cdd33ee97ef661c2037dbd9eb", checked := Try.checked }
namespace Rows
def none {H : Type} : Left H := { results := [], args := [] }

/-- 'laws.FnExactSayWord': WHATEVER THE INPUT: true; the input reads as it did. -/
def fnExactSayWordSpec : ChangeSpec := { name := "fnExactSayWord", fn := fun _ => fun
  | [d] => { results := [.lit (.bool true)], args := [d] }
  | _ => none }
def fnExactSayWordRow : OpenClaim := { program := "ytpfifeceeebhlaa", sum := "985a27d54972cead0696dea94155db26c2c91a7cdd33ee97ef661c2037dbd9eb", func := "loop.example/g01151/laws.FnExactSayWord", spec := "fnExactSayWord", apart := false }
def FnExactSayWordSaid : Prop := fnExactSayWordRow.holds Try.pinned (OpenSpec.ofChange fnExactSayWordSpec)

/-- ITS FALSE NEIGHBOUR: 'it returns false'. Refute it at one input. -/
def fnExactSayWordWrong : ChangeSpec := { name := "fnExactSayWord", fn := fun _ => fun
  | [d] => { results := [.lit (.bool false)], args := [d] }
  | _ => none }
def FnExactSayWordWrongFalsely : Prop := fnExactSayWordRow.holds Try.pinned (OpenSpec.ofChange fnExactSayWordWrong)

/-- 'laws.FnExactUnsayWord': WHATEVER THE INPUT: true; the input reads as it did. -/
def fnExactUnsayWordSpec : ChangeSpec := { name := "fnExactUnsayWord", fn := fun _ => fun
  | [d] => { results := [.lit (.bool true)], args := [d] }
  | _ => none }
def fnExactUnsayWordRow : OpenClaim := { program := "ytpfifeceeebhlaa", sum := "985a27d54972cead0696dea94155db26c2c91a7cdd33ee97ef661c2037dbd9eb", func := "loop.example/g01151/laws.FnExactUnsayWord", spec := "fnExactUnsayWord", unfollowed := true, recurses := true, apart := false }
def FnExactUnsayWordSaid : Prop := fnExactUnsayWordRow.holds Try.pinned (OpenSpec.ofChange fnExactUnsayWordSpec)

/-- ITS FALSE NEIGHBOUR: 'it returns false'. Refute it at one input. -/
def fnExactUnsayWordWrong : ChangeSpec := { name := "fnExactUnsayWord", fn := fun _ => fun
  | [d] => { results := [.lit (.bool false)], args := [d] }
  | _ => none }
def FnExactUnsayWordWrongFalsely : Prop := fnExactUnsayWordRow.holds Try.pinned (OpenSpec.ofChange fnExactUnsayWordWrong)

/-- 'laws.FnExactSayRun': WHATEVER THE INPUT: true; the input reads as it did. -/
def fnExactSayRunSpec : ChangeSpec := { name := "fnExactSayRun", fn := fun _ => fun
  | [d1, d2] => { results := [.lit (.bool true)], args := [d1, d2] }
  | _ => none }
def fnExactSayRunRow : OpenClaim := { program := "ytpfifeceeebhlaa", sum := "985a27d54972cead0696dea94155db26c2c91a7cdd33ee97ef661c2037dbd9eb", func := "loop.example/g01151/laws.FnExactSayRun", spec := "fnExactSayRun", apart := false }
def FnExactSayRunSaid : Prop := fnExactSayRunRow.holds Try.pinned (OpenSpec.ofChange fnExactSayRunSpec)

/-- ITS FALSE NEIGHBOUR: 'it returns false'. Refute it at one input. -/
def fnExactSayRunWrong : ChangeSpec := { name := "fnExactSayRun", fn := fun _ => fun
  | [d1, d2] => { results := [.lit (.bool false)], args := [d1, d2] }
  | _ => none }
def FnExactSayRunWrongFalsely : Prop := fnExactSayRunRow.holds Try.pinned (OpenSpec.ofChange fnExactSayRunWrong)

/-- 'laws.FnExactLengthsOfSay': WHATEVER THE INPUT: true; the input reads as it did. -/
def fnExactLengthsOfSaySpec : ChangeSpec := { name := "fnExactLengthsOfSay", fn := fun _ => fun
  | [d1, d2] => { results := [.lit (.bool true)], args := [d1, d2] }
  | _ => none }
def fnExactLengthsOfSayRow : OpenClaim := { program := "ytpfifeceeebhlaa", sum := "985a27d54972cead0696dea94155db26c2c91a7cdd33ee97ef661c2037dbd9eb", func := "loop.example/g01151/laws.FnExactLengthsOfSay", spec := "fnExactLengthsOfSay", apart := false }
def FnExactLengthsOfSaySaid : Prop := fnExactLengthsOfSayRow.holds Try.pinned (OpenSpec.ofChange fnExactLengthsOfSaySpec)

/-- ITS FALSE NEIGHBOUR: 'it returns false'. Refute it at one input. -/
def fnExactLengthsOfSayWrong : ChangeSpec := { name := "fnExactLengthsOfSay", fn := fun _ => fun
  | [d1, d2] => { results := [.lit (.bool false)], args := [d1, d2] }
  | _ => none }
def FnExactLengthsOfSayWrongFalsely : Prop := fnExactLengthsOfSayRow.holds Try.pinned (OpenSpec.ofChange fnExactLengthsOfSayWrong)

/-- 'laws.FnExactIsSelfTelling': WHATEVER THE INPUT: true; the input reads as it did. -/
def fnExactIsSelfTellingSpec : ChangeSpec := { name := "fnExactIsSelfTelling", fn := fun _ => fun
  | [d] => { results := [.lit (.bool true)], args := [d] }
  | _ => none }
def fnExactIsSelfTellingRow : OpenClaim := { program := "ytpfifeceeebhlaa", sum := "985a27d54972cead0696dea94155db26c2c91a7cdd33ee97ef661c2037dbd9eb", func := "loop.example/g01151/laws.FnExactIsSelfTelling", spec := "fnExactIsSelfTelling", apart := false }
def FnExactIsSelfTellingSaid : Prop := fnExactIsSelfTellingRow.holds Try.pinned (OpenSpec.ofChange fnExactIsSelfTellingSpec)

/-- ITS FALSE NEIGHBOUR: 'it returns false'. Refute it at one input. -/
def fnExactIsSelfTellingWrong : ChangeSpec := { name := "fnExactIsSelfTelling", fn := fun _ => fun
  | [d] => { results := [.lit (.bool false)], args := [d] }
  | _ => none }
def FnExactIsSelfTellingWrongFalsely : Prop := fnExactIsSelfTellingRow.holds Try.pinned (OpenSpec.ofChange fnExactIsSelfTellingWrong)

/-- 'laws.FnExactSelfTelling': WHATEVER THE INPUT: true; the input reads as it did. -/
def fnExactSelfTellingSpec : ChangeSpec := { name := "fnExactSelfTelling", fn := fun _ => fun
  | [d] => { results := [.lit (.bool true)], args := [d] }
  | _ => none }
def fnExactSelfTellingRow : OpenClaim := { program := "ytpfifeceeebhlaa", sum := "985a27d54972cead0696dea94155db26c2c91a7cdd33ee97ef661c2037dbd9eb", func := "loop.example/g01151/laws.FnExactSelfTelling", spec := "fnExactSelfTelling", recurses := true, apart := false }
def FnExactSelfTellingSaid : Prop := fnExactSelfTellingRow.holds Try.pinned (OpenSpec.ofChange fnExactSelfTellingSpec)

/-- ITS FALSE NEIGHBOUR: 'it returns false'. Refute it at one input. -/
def fnExactSelfTellingWrong : ChangeSpec := { name := "fnExactSelfTelling", fn := fun _ => fun
  | [d] => { results := [.lit (.bool false)], args := [d] }
  | _ => none }
def FnExactSelfTellingWrongFalsely : Prop := fnExactSelfTellingRow.holds Try.pinned (OpenSpec.ofChange fnExactSelfTellingWrong)

/-- 'laws.FnExactTellCounts': WHATEVER THE INPUT: true; the input reads as it did. -/
def fnExactTellCountsSpec : ChangeSpec := { name := "fnExactTellCounts", fn := fun _ => fun
  | [d] => { results := [.lit (.bool true)], args := [d] }
  | _ => none }
def fnExactTellCountsRow : OpenClaim := { program := "ytpfifeceeebhlaa", sum := "985a27d54972cead0696dea94155db26c2c91a7cdd33ee97ef661c2037dbd9eb", func := "loop.example/g01151/laws.FnExactTellCounts", spec := "fnExactTellCounts", apart := false }
def FnExactTellCountsSaid : Prop := fnExactTellCountsRow.holds Try.pinned (OpenSpec.ofChange fnExactTellCountsSpec)

/-- ITS FALSE NEIGHBOUR: 'it returns false'. Refute it at one input. -/
def fnExactTellCountsWrong : ChangeSpec := { name := "fnExactTellCounts", fn := fun _ => fun
  | [d] => { results := [.lit (.bool false)], args := [d] }
  | _ => none }
def FnExactTellCountsWrongFalsely : Prop := fnExactTellCountsRow.holds Try.pinned (OpenSpec.ofChange fnExactTellCountsWrong)

/-- 'laws.FnExactOrderOf': WHATEVER THE INPUT: true; the input reads as it did. -/
def fnExactOrderOfSpec : ChangeSpec := { name := "fnExactOrderOf", fn := fun _ => fun
  | [d1, d2] => { results := [.lit (.bool true)], args := [d1, d2] }
  | _ => none }
def fnExactOrderOfRow : OpenClaim := { program := "ytpfifeceeebhlaa", sum := "985a27d54972cead0696dea94155db26c2c91a7cdd33ee97ef661c2037dbd9eb", func := "loop.example/g01151/laws.FnExactOrderOf", spec := "fnExactOrderOf", apart := false }
def FnExactOrderOfSaid : Prop := fnExactOrderOfRow.holds Try.pinned (OpenSpec.ofChange fnExactOrderOfSpec)

/-- ITS FALSE NEIGHBOUR: 'it returns false'. Refute it at one input. -/
def fnExactOrderOfWrong : ChangeSpec := { name := "fnExactOrderOf", fn := fun _ => fun
  | [d1, d2] => { results := [.lit (.bool false)], args := [d1, d2] }
  | _ => none }
def FnExactOrderOfWrongFalsely : Prop := fnExactOrderOfRow.holds Try.pinned (OpenSpec.ofChange fnExactOrderOfWrong)

/-- 'laws.FnExactPeriodOf': WHATEVER THE INPUT: true; the input reads as it did. -/
def fnExactPeriodOfSpec : ChangeSpec := { name := "fnExactPeriodOf", fn := fun _ => fun
  | [d1, d2, d3] => { results := [.lit (.bool true)], args := [d1, d2, d3] }
  | _ => none }
def fnExactPeriodOfRow : OpenClaim := { program := "ytpfifeceeebhlaa", sum := "985a27d54972cead0696dea94155db26c2c91a7cdd33ee97ef661c2037dbd9eb", func := "loop.example/g01151/laws.FnExactPeriodOf", spec := "fnExactPeriodOf", apart := false }
def FnExactPeriodOfSaid : Prop := fnExactPeriodOfRow.holds Try.pinned (OpenSpec.ofChange fnExactPeriodOfSpec)

/-- ITS FALSE NEIGHBOUR: 'it returns false'. Refute it at one input. -/
def fnExactPeriodOfWrong : ChangeSpec := { name := "fnExactPeriodOf", fn := fun _ => fun
  | [d1, d2, d3] => { results := [.lit (.bool false)], args := [d1, d2, d3] }
  | _ => none }
def FnExactPeriodOfWrongFalsely : Prop := fnExactPeriodOfRow.holds Try.pinned (OpenSpec.ofChange fnExactPeriodOfWrong)

/-- 'laws.FnExactFractionDigits': WHATEVER THE INPUT: true; the input reads as it did. -/
def fnExactFractionDigitsSpec : ChangeSpec := { name := "fnExactFractionDigits", fn := fun _ => fun
  | [d1, d2, d3, d4] => { results := [.lit (.bool true)], args := [d1, d2, d3, d4] }
  | _ => none }
def fnExactFractionDigitsRow : OpenClaim := { program := "ytpfifeceeebhlaa", sum := "985a27d54972cead0696dea94155db26c2c91a7cdd33ee97ef661c2037dbd9eb", func := "loop.example/g01151/laws.FnExactFractionDigits", spec := "fnExactFractionDigits", apart := false }
def FnExactFractionDigitsSaid : Prop := fnExactFractionDigitsRow.holds Try.pinned (OpenSpec.ofChange fnExactFractionDigitsSpec)

/-- ITS FALSE NEIGHBOUR: 'it returns false'. Refute it at one input. -/
def fnExactFractionDigitsWrong : ChangeSpec := { name := "fnExactFractionDigits", fn := fun _ => fun
  | [d1, d2, d3, d4] => { results := [.lit (.bool false)], args := [d1, d2, d3, d4] }
  | _ => none }
def FnExactFractionDigitsWrongFalsely : Prop := fnExactFractionDigitsRow.holds Try.pinned (OpenSpec.ofChange fnExactFractionDigitsWrong)

/-- 'laws.FnExactRepetendOf': WHATEVER THE INPUT: true; the input reads as it did. -/
def fnExactRepetendOfSpec : ChangeSpec := { name := "fnExactRepetendOf", fn := fun _ => fun
  | [d1, d2, d3] => { results := [.lit (.bool true)], args := [d1, d2, d3] }
  | _ => none }
def fnExactRepetendOfRow : OpenClaim := { program := "ytpfifeceeebhlaa", sum := "985a27d54972cead0696dea94155db26c2c91a7cdd33ee97ef661c2037dbd9eb", func := "loop.example/g01151/laws.FnExactRepetendOf", spec := "fnExactRepetendOf", apart := false }
def FnExactRepetendOfSaid : Prop := fnExactRepetendOfRow.holds Try.pinned (OpenSpec.ofChange fnExactRepetendOfSpec)

/-- ITS FALSE NEIGHBOUR: 'it returns false'. Refute it at one input. -/
def fnExactRepetendOfWrong : ChangeSpec := { name := "fnExactRepetendOf", fn := fun _ => fun
  | [d1, d2, d3] => { results := [.lit (.bool false)], args := [d1, d2, d3] }
  | _ => none }
def FnExactRepetendOfWrongFalsely : Prop := fnExactRepetendOfRow.holds Try.pinned (OpenSpec.ofChange fnExactRepetendOfWrong)

/-- 'laws.FnExactHalvesOf': WHATEVER THE INPUT: true; the input reads as it did. -/
def fnExactHalvesOfSpec : ChangeSpec := { name := "fnExactHalvesOf", fn := fun _ => fun
  | [d1, d2, d3] => { results := [.lit (.bool true)], args := [d1, d2, d3] }
  | _ => none }
def fnExactHalvesOfRow : OpenClaim := { program := "ytpfifeceeebhlaa", sum := "985a27d54972cead0696dea94155db26c2c91a7cdd33ee97ef661c2037dbd9eb", func := "loop.example/g01151/laws.FnExactHalvesOf", spec := "fnExactHalvesOf", apart := false }
def FnExactHalvesOfSaid : Prop := fnExactHalvesOfRow.holds Try.pinned (OpenSpec.ofChange fnExactHalvesOfSpec)

/-- ITS FALSE NEIGHBOUR: 'it returns false'. Refute it at one input. -/
def fnExactHalvesOfWrong : ChangeSpec := { name := "fnExactHalvesOf", fn := fun _ => fun
  | [d1, d2, d3] => { results := [.lit (.bool false)], args := [d1, d2, d3] }
  | _ => none }
def FnExactHalvesOfWrongFalsely : Prop := fnExactHalvesOfRow.holds Try.pinned (OpenSpec.ofChange fnExactHalvesOfWrong)

/-- 'laws.FnExactFullPrimes': WHATEVER THE INPUT: true; the input reads as it did. -/
def fnExactFullPrimesSpec : ChangeSpec := { name := "fnExactFullPrimes", fn := fun _ => fun
  | [d1, d2] => { results := [.lit (.bool true)], args := [d1, d2] }
  | _ => none }
def fnExactFullPrimesRow : OpenClaim := { program := "ytpfifeceeebhlaa", sum := "985a27d54972cead0696dea94155db26c2c91a7cdd33ee97ef661c2037dbd9eb", func := "loop.example/g01151/laws.FnExactFullPrimes", spec := "fnExactFullPrimes", apart := false }
def FnExactFullPrimesSaid : Prop := fnExactFullPrimesRow.holds Try.pinned (OpenSpec.ofChange fnExactFullPrimesSpec)

/-- ITS FALSE NEIGHBOUR: 'it returns false'. Refute it at one input. -/
def fnExactFullPrimesWrong : ChangeSpec := { name := "fnExactFullPrimes", fn := fun _ => fun
  | [d1, d2] => { results := [.lit (.bool false)], args := [d1, d2] }
  | _ => none }
def FnExactFullPrimesWrongFalsely : Prop := fnExactFullPrimesRow.holds Try.pinned (OpenSpec.ofChange fnExactFullPrimesWrong)

/-- 'laws.FnExactCyclicOf': WHATEVER THE INPUT: true; the input reads as it did. -/
def fnExactCyclicOfSpec : ChangeSpec := { name := "fnExactCyclicOf", fn := fun _ => fun
  | [d1, d2] => { results := [.lit (.bool true)], args := [d1, d2] }
  | _ => none }
def fnExactCyclicOfRow : OpenClaim := { program := "ytpfifeceeebhlaa", sum := "985a27d54972cead0696dea94155db26c2c91a7cdd33ee97ef661c2037dbd9eb", func := "loop.example/g01151/laws.FnExactCyclicOf", spec := "fnExactCyclicOf", apart := false }
def FnExactCyclicOfSaid : Prop := fnExactCyclicOfRow.holds Try.pinned (OpenSpec.ofChange fnExactCyclicOfSpec)

/-- ITS FALSE NEIGHBOUR: 'it returns false'. Refute it at one input. -/
def fnExactCyclicOfWrong : ChangeSpec := { name := "fnExactCyclicOf", fn := fun _ => fun
  | [d1, d2] => { results := [.lit (.bool false)], args := [d1, d2] }
  | _ => none }
def FnExactCyclicOfWrongFalsely : Prop := fnExactCyclicOfRow.holds Try.pinned (OpenSpec.ofChange fnExactCyclicOfWrong)

/-- 'laws.FnExactTurnsOf': WHATEVER THE INPUT: true; the input reads as it did. -/
def fnExactTurnsOfSpec : ChangeSpec := { name := "fnExactTurnsOf", fn := fun _ => fun
  | [d1, d2] => { results := [.lit (.bool true)], args := [d1, d2] }
  | _ => none }
def fnExactTurnsOfRow : OpenClaim := { program := "ytpfifeceeebhlaa", sum := "985a27d54972cead0696dea94155db26c2c91a7cdd33ee97ef661c2037dbd9eb", func := "loop.example/g01151/laws.FnExactTurnsOf", spec := "fnExactTurnsOf", apart := false }
def FnExactTurnsOfSaid : Prop := fnExactTurnsOfRow.holds Try.pinned (OpenSpec.ofChange fnExactTurnsOfSpec)

/-- ITS FALSE NEIGHBOUR: 'it returns false'. Refute it at one input. -/
def fnExactTurnsOfWrong : ChangeSpec := { name := "fnExactTurnsOf", fn := fun _ => fun
  | [d1, d2] => { results := [.lit (.bool false)], args := [d1, d2] }
  | _ => none }
def FnExactTurnsOfWrongFalsely : Prop := fnExactTurnsOfRow.holds Try.pinned (OpenSpec.ofChange fnExactTurnsOfWrong)

/- THE SECOND FORM. 'bulk': how many values and letters a reading holds, each counted each time it is reached (what is shared counts as often as it is met; a slice's spare places count too). A statement '..UptoSaid' is the law's where the arguments, and the package variables that the reading takes, are together of bulk at most 1048576: NARROWER than '..Said'. Prove '..Said' where nothing that the law and all that it calls make is longer than what came in: it says more and counts as full. Else prove '..UptoSaid'. A law counts once. -/
mutual
def uptoBulk {H : Type} : DataW H → Nat
  | .lit (.string bytes) => bytes.length + 1
  | .lit _ => 1
  | .nil => 1
  | .ptr d => uptoBulk d + 1
  | .slice elems spare => uptoBulkAll elems + uptoBulkAll spare + 1
  | .agg parts => uptoBulkAll parts + 1
  | .iface _ d => uptoBulk d + 1
  | .map entries => uptoBulkEntries entries + 1
  | .held _ => 1
def uptoBulkAll {H : Type} : List (DataW H) → Nat
  | [] => 0
  | d :: r => uptoBulk d + uptoBulkAll r
def uptoBulkEntries {H : Type} : List (Lit × DataW H) → Nat
  | [] => 0
  | x :: r => uptoBulkEntry x + uptoBulkEntries r
def uptoBulkEntry {H : Type} : Lit × DataW H → Nat
  | (.string bytes, d) => bytes.length + uptoBulk d + 1
  | (_, d) => uptoBulk d + 1
 end
def uptoSmall : (H : Type) → List (DataW H) → Bool := fun _ ds => decide (uptoBulkAll ds ≤ 1048576)
def OpenSpec.upto (s : _root_.Go.ChangeSpec) : _root_.Go.OpenSpec := { _root_.Go.OpenSpec.ofChange s with cond := some uptoSmall }

/-- 'laws.FnExactSayWord', WHERE WHAT IT READS IS OF BULK AT MOST 1048576: true; the input reads as it did. -/
def fnExactSayWordUptoRow : OpenClaim := { program := "ytpfifeceeebhlaa", sum := "985a27d54972cead0696dea94155db26c2c91a7cdd33ee97ef661c2037dbd9eb", func := "loop.example/g01151/laws.FnExactSayWord", spec := "fnExactSayWord", apart := false, narrowed := true }
def FnExactSayWordUptoSaid : Prop := fnExactSayWordUptoRow.holds Try.pinned (OpenSpec.upto fnExactSayWordSpec)

/-- 'laws.FnExactUnsayWord', WHERE WHAT IT READS IS OF BULK AT MOST 1048576: true; the input reads as it did. -/
def fnExactUnsayWordUptoRow : OpenClaim := { program := "ytpfifeceeebhlaa", sum := "985a27d54972cead0696dea94155db26c2c91a7cdd33ee97ef661c2037dbd9eb", func := "loop.example/g01151/laws.FnExactUnsayWord", spec := "fnExactUnsayWord", unfollowed := true, recurses := true, apart := false, narrowed := true }
def FnExactUnsayWordUptoSaid : Prop := fnExactUnsayWordUptoRow.holds Try.pinned (OpenSpec.upto fnExactUnsayWordSpec)

/-- 'laws.FnExactSayRun', WHERE WHAT IT READS IS OF BULK AT MOST 1048576: true; the input reads as it did. -/
def fnExactSayRunUptoRow : OpenClaim := { program := "ytpfifeceeebhlaa", sum := "985a27d54972cead0696dea94155db26c2c91a7cdd33ee97ef661c2037dbd9eb", func := "loop.example/g01151/laws.FnExactSayRun", spec := "fnExactSayRun", apart := false, narrowed := true }
def FnExactSayRunUptoSaid : Prop := fnExactSayRunUptoRow.holds Try.pinned (OpenSpec.upto fnExactSayRunSpec)

/-- 'laws.FnExactLengthsOfSay', WHERE WHAT IT READS IS OF BULK AT MOST 1048576: true; the input reads as it did. -/
def fnExactLengthsOfSayUptoRow : OpenClaim := { program := "ytpfifeceeebhlaa", sum := "985a27d54972cead0696dea94155db26c2c91a7cdd33ee97ef661c2037dbd9eb", func := "loop.example/g01151/laws.FnExactLengthsOfSay", spec := "fnExactLengthsOfSay", apart := false, narrowed := true }
def FnExactLengthsOfSayUptoSaid : Prop := fnExactLengthsOfSayUptoRow.holds Try.pinned (OpenSpec.upto fnExactLengthsOfSaySpec)

/-- 'laws.FnExactIsSelfTelling', WHERE WHAT IT READS IS OF BULK AT MOST 1048576: true; the input reads as it did. -/
def fnExactIsSelfTellingUptoRow : OpenClaim := { program := "ytpfifeceeebhlaa", sum := "985a27d54972cead0696dea94155db26c2c91a7cdd33ee97ef661c2037dbd9eb", func := "loop.example/g01151/laws.FnExactIsSelfTelling", spec := "fnExactIsSelfTelling", apart := false, narrowed := true }
def FnExactIsSelfTellingUptoSaid : Prop := fnExactIsSelfTellingUptoRow.holds Try.pinned (OpenSpec.upto fnExactIsSelfTellingSpec)

/-- 'laws.FnExactSelfTelling', WHERE WHAT IT READS IS OF BULK AT MOST 1048576: true; the input reads as it did. -/
def fnExactSelfTellingUptoRow : OpenClaim := { program := "ytpfifeceeebhlaa", sum := "985a27d54972cead0696dea94155db26c2c91a7cdd33ee97ef661c2037dbd9eb", func := "loop.example/g01151/laws.FnExactSelfTelling", spec := "fnExactSelfTelling", recurses := true, apart := false, narrowed := true }
def FnExactSelfTellingUptoSaid : Prop := fnExactSelfTellingUptoRow.holds Try.pinned (OpenSpec.upto fnExactSelfTellingSpec)

/-- 'laws.FnExactTellCounts', WHERE WHAT IT READS IS OF BULK AT MOST 1048576: true; the input reads as it did. -/
def fnExactTellCountsUptoRow : OpenClaim := { program := "ytpfifeceeebhlaa", sum := "985a27d54972cead0696dea94155db26c2c91a7cdd33ee97ef661c2037dbd9eb", func := "loop.example/g01151/laws.FnExactTellCounts", spec := "fnExactTellCounts", apart := false, narrowed := true }
def FnExactTellCountsUptoSaid : Prop := fnExactTellCountsUptoRow.holds Try.pinned (OpenSpec.upto fnExactTellCountsSpec)

/-- 'laws.FnExactOrderOf', WHERE WHAT IT READS IS OF BULK AT MOST 1048576: true; the input reads as it did. -/
def fnExactOrderOfUptoRow : OpenClaim := { program := "ytpfifeceeebhlaa", sum := "985a27d54972cead0696dea94155db26c2c91a7cdd33ee97ef661c2037dbd9eb", func := "loop.example/g01151/laws.FnExactOrderOf", spec := "fnExactOrderOf", apart := false, narrowed := true }
def FnExactOrderOfUptoSaid : Prop := fnExactOrderOfUptoRow.holds Try.pinned (OpenSpec.upto fnExactOrderOfSpec)

/-- 'laws.FnExactPeriodOf', WHERE WHAT IT READS IS OF BULK AT MOST 1048576: true; the input reads as it did. -/
def fnExactPeriodOfUptoRow : OpenClaim := { program := "ytpfifeceeebhlaa", sum := "985a27d54972cead0696dea94155db26c2c91a7cdd33ee97ef661c2037dbd9eb", func := "loop.example/g01151/laws.FnExactPeriodOf", spec := "fnExactPeriodOf", apart := false, narrowed := true }
def FnExactPeriodOfUptoSaid : Prop := fnExactPeriodOfUptoRow.holds Try.pinned (OpenSpec.upto fnExactPeriodOfSpec)

/-- 'laws.FnExactFractionDigits', WHERE WHAT IT READS IS OF BULK AT MOST 1048576: true; the input reads as it did. -/
def fnExactFractionDigitsUptoRow : OpenClaim := { program := "ytpfifeceeebhlaa", sum := "985a27d54972cead0696dea94155db26c2c91a7cdd33ee97ef661c2037dbd9eb", func := "loop.example/g01151/laws.FnExactFractionDigits", spec := "fnExactFractionDigits", apart := false, narrowed := true }
def FnExactFractionDigitsUptoSaid : Prop := fnExactFractionDigitsUptoRow.holds Try.pinned (OpenSpec.upto fnExactFractionDigitsSpec)

/-- 'laws.FnExactRepetendOf', WHERE WHAT IT READS IS OF BULK AT MOST 1048576: true; the input reads as it did. -/
def fnExactRepetendOfUptoRow : OpenClaim := { program := "ytpfifeceeebhlaa", sum := "985a27d54972cead0696dea94155db26c2c91a7cdd33ee97ef661c2037dbd9eb", func := "loop.example/g01151/laws.FnExactRepetendOf", spec := "fnExactRepetendOf", apart := false, narrowed := true }
def FnExactRepetendOfUptoSaid : Prop := fnExactRepetendOfUptoRow.holds Try.pinned (OpenSpec.upto fnExactRepetendOfSpec)

/-- 'laws.FnExactHalvesOf', WHERE WHAT IT READS IS OF BULK AT MOST 1048576: true; the input reads as it did. -/
def fnExactHalvesOfUptoRow : OpenClaim := { program := "ytpfifeceeebhlaa", sum := "985a27d54972cead0696dea94155db26c2c91a7cdd33ee97ef661c2037dbd9eb", func := "loop.example/g01151/laws.FnExactHalvesOf", spec := "fnExactHalvesOf", apart := false, narrowed := true }
def FnExactHalvesOfUptoSaid : Prop := fnExactHalvesOfUptoRow.holds Try.pinned (OpenSpec.upto fnExactHalvesOfSpec)

/-- 'laws.FnExactFullPrimes', WHERE WHAT IT READS IS OF BULK AT MOST 1048576: true; the input reads as it did. -/
def fnExactFullPrimesUptoRow : OpenClaim := { program := "ytpfifeceeebhlaa", sum := "985a27d54972cead0696dea94155db26c2c91a7cdd33ee97ef661c2037dbd9eb", func := "loop.example/g01151/laws.FnExactFullPrimes", spec := "fnExactFullPrimes", apart := false, narrowed := true }
def FnExactFullPrimesUptoSaid : Prop := fnExactFullPrimesUptoRow.holds Try.pinned (OpenSpec.upto fnExactFullPrimesSpec)

/-- 'laws.FnExactCyclicOf', WHERE WHAT IT READS IS OF BULK AT MOST 1048576: true; the input reads as it did. -/
def fnExactCyclicOfUptoRow : OpenClaim := { program := "ytpfifeceeebhlaa", sum := "985a27d54972cead0696dea94155db26c2c91a7cdd33ee97ef661c2037dbd9eb", func := "loop.example/g01151/laws.FnExactCyclicOf", spec := "fnExactCyclicOf", apart := false, narrowed := true }
def FnExactCyclicOfUptoSaid : Prop := fnExactCyclicOfUptoRow.holds Try.pinned (OpenSpec.upto fnExactCyclicOfSpec)

/-- 'laws.FnExactTurnsOf', WHERE WHAT IT READS IS OF BULK AT MOST 1048576: true; the input reads as it did. -/
def fnExactTurnsOfUptoRow : OpenClaim := { program := "ytpfifeceeebhlaa", sum := "985a27d54972cead0696dea94155db26c2c91a7cdd33ee97ef661c2037dbd9eb", func := "loop.example/g01151/laws.FnExactTurnsOf", spec := "fnExactTurnsOf", apart := false, narrowed := true }
def FnExactTurnsOfUptoSaid : Prop := fnExactTurnsOfUptoRow.holds Try.pinned (OpenSpec.upto fnExactTurnsOfSpec)

end Rows
end Go.Proofs.Ytpfifeceeebhlaa
