/-
  No cell of these rows narrows 'for every input' (looked for: loops, veiled, ifaces, maps, wideKeys, modest, calm, conditions, laid).
  DERIVED. THE GIVEN ROWS OF THIS SEAT. 14 by the template 'for every input the law returns true; each argument reads behind the call as it read before'; 0 by the template 'total and deterministic' (their statements: YtbgnieajeipllaaTotals.lean).
  GIVEN WITH THE SEED: the statements are not yours to turn. If you find one false, say at which input.
  Laid BY PROGRAM, IN A SANDBOX (cutbox-rows.mjs): the forced cells as the released guide's own fill.sh prints them over the translation 9f5ab4af0ca0e417… (all of the seat's roots in one cut). By AI agents, Wed Nov 11 2026. No macro, syntax, notation, axiom, sorry.
-/
import Derived.Test.YtbgnieajeipllaaChecked
import GoSem.Claim
import GoSem.ClaimJoined
import GoSem.ClaimMapViews
import Derived.JoinedTies
import Derived.KernelRfl
namespace Go.Proofs.Ytbgnieajeipllaa
/- THE CELL 'sum', in the pinned program and in every row, IS THE sha256 OF THE DUMP (.gsa) THAT YtbgnieajeipllaaProg.lean LOADS. Nothing in Lean hashes anything: it is a label: what it is worth is what the hold of that sum in a sandbox is worth. -/
noncomputable def Try.pinned : Pinned := { name := "ytbgnieajeipllaa", sum := "9f5ab4af0ca0e417fbd5f636cf0fe789b324cf85c1ed90d26cf73d5298af9c56", checked := Try.checked }
namespace Rows
def none {H : Type} : Left H := { results := [], args := [] }

/-- 'laws.FnExactStepOf': WHATEVER THE INPUT: true; the input reads as it did. -/
def fnExactStepOfSpec : ChangeSpec := { name := "fnExactStepOf", fn := fun _ => fun
  | [d] => { results := [.lit (.bool true)], args := [d] }
  | _ => none }
def fnExactStepOfRow : OpenClaim := { program := "ytbgnieajeipllaa", sum := "9f5ab4af0ca0e417fbd5f636cf0fe789b324cf85c1ed90d26cf73d5298af9c56", func := "loop.example/g01151/laws.FnExactStepOf", spec := "fnExactStepOf", unfollowed := true, recurses := true, apart := false }
def FnExactStepOfSaid : Prop := fnExactStepOfRow.holds Try.pinned (OpenSpec.ofChange fnExactStepOfSpec)

/-- ITS FALSE NEIGHBOUR: 'it returns false'. Refute it at one input. -/
def fnExactStepOfWrong : ChangeSpec := { name := "fnExactStepOf", fn := fun _ => fun
  | [d] => { results := [.lit (.bool false)], args := [d] }
  | _ => none }
def FnExactStepOfWrongFalsely : Prop := fnExactStepOfRow.holds Try.pinned (OpenSpec.ofChange fnExactStepOfWrong)

/-- 'laws.FnExactStepsTo': WHATEVER THE INPUT: true; the input reads as it did. -/
def fnExactStepsToSpec : ChangeSpec := { name := "fnExactStepsTo", fn := fun _ => fun
  | [d] => { results := [.lit (.bool true)], args := [d] }
  | _ => none }
def fnExactStepsToRow : OpenClaim := { program := "ytbgnieajeipllaa", sum := "9f5ab4af0ca0e417fbd5f636cf0fe789b324cf85c1ed90d26cf73d5298af9c56", func := "loop.example/g01151/laws.FnExactStepsTo", spec := "fnExactStepsTo", unfollowed := true, recurses := true, apart := false }
def FnExactStepsToSaid : Prop := fnExactStepsToRow.holds Try.pinned (OpenSpec.ofChange fnExactStepsToSpec)

/-- ITS FALSE NEIGHBOUR: 'it returns false'. Refute it at one input. -/
def fnExactStepsToWrong : ChangeSpec := { name := "fnExactStepsTo", fn := fun _ => fun
  | [d] => { results := [.lit (.bool false)], args := [d] }
  | _ => none }
def FnExactStepsToWrongFalsely : Prop := fnExactStepsToRow.holds Try.pinned (OpenSpec.ofChange fnExactStepsToWrong)

/-- 'laws.FnExactWayToOne': WHATEVER THE INPUT: true; the input reads as it did. -/
def fnExactWayToOneSpec : ChangeSpec := { name := "fnExactWayToOne", fn := fun _ => fun
  | [d] => { results := [.lit (.bool true)], args := [d] }
  | _ => none }
def fnExactWayToOneRow : OpenClaim := { program := "ytbgnieajeipllaa", sum := "9f5ab4af0ca0e417fbd5f636cf0fe789b324cf85c1ed90d26cf73d5298af9c56", func := "loop.example/g01151/laws.FnExactWayToOne", spec := "fnExactWayToOne", unfollowed := true, recurses := true, apart := false }
def FnExactWayToOneSaid : Prop := fnExactWayToOneRow.holds Try.pinned (OpenSpec.ofChange fnExactWayToOneSpec)

/-- ITS FALSE NEIGHBOUR: 'it returns false'. Refute it at one input. -/
def fnExactWayToOneWrong : ChangeSpec := { name := "fnExactWayToOne", fn := fun _ => fun
  | [d] => { results := [.lit (.bool false)], args := [d] }
  | _ => none }
def FnExactWayToOneWrongFalsely : Prop := fnExactWayToOneRow.holds Try.pinned (OpenSpec.ofChange fnExactWayToOneWrong)

/-- 'laws.FnExactGreatestOn': WHATEVER THE INPUT: true; the input reads as it did. -/
def fnExactGreatestOnSpec : ChangeSpec := { name := "fnExactGreatestOn", fn := fun _ => fun
  | [d] => { results := [.lit (.bool true)], args := [d] }
  | _ => none }
def fnExactGreatestOnRow : OpenClaim := { program := "ytbgnieajeipllaa", sum := "9f5ab4af0ca0e417fbd5f636cf0fe789b324cf85c1ed90d26cf73d5298af9c56", func := "loop.example/g01151/laws.FnExactGreatestOn", spec := "fnExactGreatestOn", unfollowed := true, recurses := true, apart := false }
def FnExactGreatestOnSaid : Prop := fnExactGreatestOnRow.holds Try.pinned (OpenSpec.ofChange fnExactGreatestOnSpec)

/-- ITS FALSE NEIGHBOUR: 'it returns false'. Refute it at one input. -/
def fnExactGreatestOnWrong : ChangeSpec := { name := "fnExactGreatestOn", fn := fun _ => fun
  | [d] => { results := [.lit (.bool false)], args := [d] }
  | _ => none }
def FnExactGreatestOnWrongFalsely : Prop := fnExactGreatestOnRow.holds Try.pinned (OpenSpec.ofChange fnExactGreatestOnWrong)

/-- 'laws.FnExactShortStep': WHATEVER THE INPUT: true; the input reads as it did. -/
def fnExactShortStepSpec : ChangeSpec := { name := "fnExactShortStep", fn := fun _ => fun
  | [d] => { results := [.lit (.bool true)], args := [d] }
  | _ => none }
def fnExactShortStepRow : OpenClaim := { program := "ytbgnieajeipllaa", sum := "9f5ab4af0ca0e417fbd5f636cf0fe789b324cf85c1ed90d26cf73d5298af9c56", func := "loop.example/g01151/laws.FnExactShortStep", spec := "fnExactShortStep", unfollowed := true, recurses := true, apart := false }
def FnExactShortStepSaid : Prop := fnExactShortStepRow.holds Try.pinned (OpenSpec.ofChange fnExactShortStepSpec)

/-- ITS FALSE NEIGHBOUR: 'it returns false'. Refute it at one input. -/
def fnExactShortStepWrong : ChangeSpec := { name := "fnExactShortStep", fn := fun _ => fun
  | [d] => { results := [.lit (.bool false)], args := [d] }
  | _ => none }
def FnExactShortStepWrongFalsely : Prop := fnExactShortStepRow.holds Try.pinned (OpenSpec.ofChange fnExactShortStepWrong)

/-- 'laws.FnExactParityWord': WHATEVER THE INPUT: true; the input reads as it did. -/
def fnExactParityWordSpec : ChangeSpec := { name := "fnExactParityWord", fn := fun _ => fun
  | [d1, d2] => { results := [.lit (.bool true)], args := [d1, d2] }
  | _ => none }
def fnExactParityWordRow : OpenClaim := { program := "ytbgnieajeipllaa", sum := "9f5ab4af0ca0e417fbd5f636cf0fe789b324cf85c1ed90d26cf73d5298af9c56", func := "loop.example/g01151/laws.FnExactParityWord", spec := "fnExactParityWord", unfollowed := true, recurses := true, apart := false }
def FnExactParityWordSaid : Prop := fnExactParityWordRow.holds Try.pinned (OpenSpec.ofChange fnExactParityWordSpec)

/-- ITS FALSE NEIGHBOUR: 'it returns false'. Refute it at one input. -/
def fnExactParityWordWrong : ChangeSpec := { name := "fnExactParityWord", fn := fun _ => fun
  | [d1, d2] => { results := [.lit (.bool false)], args := [d1, d2] }
  | _ => none }
def FnExactParityWordWrongFalsely : Prop := fnExactParityWordRow.holds Try.pinned (OpenSpec.ofChange fnExactParityWordWrong)

/-- 'laws.FnExactOddCount': WHATEVER THE INPUT: true; the input reads as it did. -/
def fnExactOddCountSpec : ChangeSpec := { name := "fnExactOddCount", fn := fun _ => fun
  | [d1, d2] => { results := [.lit (.bool true)], args := [d1, d2] }
  | _ => none }
def fnExactOddCountRow : OpenClaim := { program := "ytbgnieajeipllaa", sum := "9f5ab4af0ca0e417fbd5f636cf0fe789b324cf85c1ed90d26cf73d5298af9c56", func := "loop.example/g01151/laws.FnExactOddCount", spec := "fnExactOddCount", inPlace := ["internal/bytealg.CountString", "internal/bytealg.IndexByteString", "internal/bytealg.IndexString"], unfollowed := true, recurses := true, named := ["internal/bytealg.MaxLen"], apart := false }
def FnExactOddCountSaid : Prop := fnExactOddCountRow.holds Try.pinned (OpenSpec.ofChange fnExactOddCountSpec)

/-- ITS FALSE NEIGHBOUR: 'it returns false'. Refute it at one input. -/
def fnExactOddCountWrong : ChangeSpec := { name := "fnExactOddCount", fn := fun _ => fun
  | [d1, d2] => { results := [.lit (.bool false)], args := [d1, d2] }
  | _ => none }
def FnExactOddCountWrongFalsely : Prop := fnExactOddCountRow.holds Try.pinned (OpenSpec.ofChange fnExactOddCountWrong)

/-- 'laws.FnExactAfterShort': WHATEVER THE INPUT: true; the input reads as it did. -/
def fnExactAfterShortSpec : ChangeSpec := { name := "fnExactAfterShort", fn := fun _ => fun
  | [d1, d2] => { results := [.lit (.bool true)], args := [d1, d2] }
  | _ => none }
def fnExactAfterShortRow : OpenClaim := { program := "ytbgnieajeipllaa", sum := "9f5ab4af0ca0e417fbd5f636cf0fe789b324cf85c1ed90d26cf73d5298af9c56", func := "loop.example/g01151/laws.FnExactAfterShort", spec := "fnExactAfterShort", unfollowed := true, recurses := true, apart := false }
def FnExactAfterShortSaid : Prop := fnExactAfterShortRow.holds Try.pinned (OpenSpec.ofChange fnExactAfterShortSpec)

/-- ITS FALSE NEIGHBOUR: 'it returns false'. Refute it at one input. -/
def fnExactAfterShortWrong : ChangeSpec := { name := "fnExactAfterShort", fn := fun _ => fun
  | [d1, d2] => { results := [.lit (.bool false)], args := [d1, d2] }
  | _ => none }
def FnExactAfterShortWrongFalsely : Prop := fnExactAfterShortRow.holds Try.pinned (OpenSpec.ofChange fnExactAfterShortWrong)

/-- 'laws.FnExactBeforeStep': WHATEVER THE INPUT: true; the input reads as it did. -/
def fnExactBeforeStepSpec : ChangeSpec := { name := "fnExactBeforeStep", fn := fun _ => fun
  | [d] => { results := [.lit (.bool true)], args := [d] }
  | _ => none }
def fnExactBeforeStepRow : OpenClaim := { program := "ytbgnieajeipllaa", sum := "9f5ab4af0ca0e417fbd5f636cf0fe789b324cf85c1ed90d26cf73d5298af9c56", func := "loop.example/g01151/laws.FnExactBeforeStep", spec := "fnExactBeforeStep", apart := false }
def FnExactBeforeStepSaid : Prop := fnExactBeforeStepRow.holds Try.pinned (OpenSpec.ofChange fnExactBeforeStepSpec)

/-- ITS FALSE NEIGHBOUR: 'it returns false'. Refute it at one input. -/
def fnExactBeforeStepWrong : ChangeSpec := { name := "fnExactBeforeStep", fn := fun _ => fun
  | [d] => { results := [.lit (.bool false)], args := [d] }
  | _ => none }
def FnExactBeforeStepWrongFalsely : Prop := fnExactBeforeStepRow.holds Try.pinned (OpenSpec.ofChange fnExactBeforeStepWrong)

/-- 'laws.FnExactLevelOf': WHATEVER THE INPUT: true; the input reads as it did. -/
def fnExactLevelOfSpec : ChangeSpec := { name := "fnExactLevelOf", fn := fun _ => fun
  | [d] => { results := [.lit (.bool true)], args := [d] }
  | _ => none }
def fnExactLevelOfRow : OpenClaim := { program := "ytbgnieajeipllaa", sum := "9f5ab4af0ca0e417fbd5f636cf0fe789b324cf85c1ed90d26cf73d5298af9c56", func := "loop.example/g01151/laws.FnExactLevelOf", spec := "fnExactLevelOf", recurses := true, apart := false }
def FnExactLevelOfSaid : Prop := fnExactLevelOfRow.holds Try.pinned (OpenSpec.ofChange fnExactLevelOfSpec)

/-- ITS FALSE NEIGHBOUR: 'it returns false'. Refute it at one input. -/
def fnExactLevelOfWrong : ChangeSpec := { name := "fnExactLevelOf", fn := fun _ => fun
  | [d] => { results := [.lit (.bool false)], args := [d] }
  | _ => none }
def FnExactLevelOfWrongFalsely : Prop := fnExactLevelOfRow.holds Try.pinned (OpenSpec.ofChange fnExactLevelOfWrong)

/-- 'laws.FnExactFallsBelow': WHATEVER THE INPUT: true; the input reads as it did. -/
def fnExactFallsBelowSpec : ChangeSpec := { name := "fnExactFallsBelow", fn := fun _ => fun
  | [d] => { results := [.lit (.bool true)], args := [d] }
  | _ => none }
def fnExactFallsBelowRow : OpenClaim := { program := "ytbgnieajeipllaa", sum := "9f5ab4af0ca0e417fbd5f636cf0fe789b324cf85c1ed90d26cf73d5298af9c56", func := "loop.example/g01151/laws.FnExactFallsBelow", spec := "fnExactFallsBelow", unfollowed := true, recurses := true, apart := false }
def FnExactFallsBelowSaid : Prop := fnExactFallsBelowRow.holds Try.pinned (OpenSpec.ofChange fnExactFallsBelowSpec)

/-- ITS FALSE NEIGHBOUR: 'it returns false'. Refute it at one input. -/
def fnExactFallsBelowWrong : ChangeSpec := { name := "fnExactFallsBelow", fn := fun _ => fun
  | [d] => { results := [.lit (.bool false)], args := [d] }
  | _ => none }
def FnExactFallsBelowWrongFalsely : Prop := fnExactFallsBelowRow.holds Try.pinned (OpenSpec.ofChange fnExactFallsBelowWrong)

/-- 'laws.FnExactRecordsUpTo': WHATEVER THE INPUT: true; the input reads as it did. -/
def fnExactRecordsUpToSpec : ChangeSpec := { name := "fnExactRecordsUpTo", fn := fun _ => fun
  | [d] => { results := [.lit (.bool true)], args := [d] }
  | _ => none }
def fnExactRecordsUpToRow : OpenClaim := { program := "ytbgnieajeipllaa", sum := "9f5ab4af0ca0e417fbd5f636cf0fe789b324cf85c1ed90d26cf73d5298af9c56", func := "loop.example/g01151/laws.FnExactRecordsUpTo", spec := "fnExactRecordsUpTo", unfollowed := true, recurses := true, apart := false }
def FnExactRecordsUpToSaid : Prop := fnExactRecordsUpToRow.holds Try.pinned (OpenSpec.ofChange fnExactRecordsUpToSpec)

/-- ITS FALSE NEIGHBOUR: 'it returns false'. Refute it at one input. -/
def fnExactRecordsUpToWrong : ChangeSpec := { name := "fnExactRecordsUpTo", fn := fun _ => fun
  | [d] => { results := [.lit (.bool false)], args := [d] }
  | _ => none }
def FnExactRecordsUpToWrongFalsely : Prop := fnExactRecordsUpToRow.holds Try.pinned (OpenSpec.ofChange fnExactRecordsUpToWrong)

/-- 'laws.FnExactStepWith': WHATEVER THE INPUT: true; the input reads as it did. -/
def fnExactStepWithSpec : ChangeSpec := { name := "fnExactStepWith", fn := fun _ => fun
  | [d1, d2] => { results := [.lit (.bool true)], args := [d1, d2] }
  | _ => none }
def fnExactStepWithRow : OpenClaim := { program := "ytbgnieajeipllaa", sum := "9f5ab4af0ca0e417fbd5f636cf0fe789b324cf85c1ed90d26cf73d5298af9c56", func := "loop.example/g01151/laws.FnExactStepWith", spec := "fnExactStepWith", unfollowed := true, recurses := true, apart := false }
def FnExactStepWithSaid : Prop := fnExactStepWithRow.holds Try.pinned (OpenSpec.ofChange fnExactStepWithSpec)

/-- ITS FALSE NEIGHBOUR: 'it returns false'. Refute it at one input. -/
def fnExactStepWithWrong : ChangeSpec := { name := "fnExactStepWith", fn := fun _ => fun
  | [d1, d2] => { results := [.lit (.bool false)], args := [d1, d2] }
  | _ => none }
def FnExactStepWithWrongFalsely : Prop := fnExactStepWithRow.holds Try.pinned (OpenSpec.ofChange fnExactStepWithWrong)

/-- 'laws.FnExactCyclesWith': WHATEVER THE INPUT: true; the input reads as it did. -/
def fnExactCyclesWithSpec : ChangeSpec := { name := "fnExactCyclesWith", fn := fun _ => fun
  | [d1, d2] => { results := [.lit (.bool true)], args := [d1, d2] }
  | _ => none }
def fnExactCyclesWithRow : OpenClaim := { program := "ytbgnieajeipllaa", sum := "9f5ab4af0ca0e417fbd5f636cf0fe789b324cf85c1ed90d26cf73d5298af9c56", func := "loop.example/g01151/laws.FnExactCyclesWith", spec := "fnExactCyclesWith", unfollowed := true, recurses := true, apart := false }
def FnExactCyclesWithSaid : Prop := fnExactCyclesWithRow.holds Try.pinned (OpenSpec.ofChange fnExactCyclesWithSpec)

/-- ITS FALSE NEIGHBOUR: 'it returns false'. Refute it at one input. -/
def fnExactCyclesWithWrong : ChangeSpec := { name := "fnExactCyclesWith", fn := fun _ => fun
  | [d1, d2] => { results := [.lit (.bool false)], args := [d1, d2] }
  | _ => none }
def FnExactCyclesWithWrongFalsely : Prop := fnExactCyclesWithRow.holds Try.pinned (OpenSpec.ofChange fnExactCyclesWithWrong)

/- THE SECOND FORM. 'bulk': how many values and letters a reading holds, each counted each time it is reached (what is shared counts as often as it is met; a slice's spare places count too). A statement '..UptoSaid' is the law's where the arguments, and the package variables that the reading takes, are together of bulk at most 1048576: NARROWER than '..Said'. Prove '..Said' where nothing that the law and all that it calls make is longer than what came in: it says more and counts as full. Else prove '..UptoSaid'. A law counts once. -/
mutual
def uptoBulk {H : Type} : DataW H → Nat
  | .lit (.string bytes) => bytes.length + 1
  | .lit _ => 1
  | .nil => 1
  | .ptr d => uptoBulk d + 1
  | .slice elems spare => uptoBulkAll elems + uptoBulkAll spare + 1
  | .agg parts => uptoBulkAll parts + 1
  | .iface _ d => uptoBulk d + 1
  | .map entries => uptoBulkEntries entries + 1
  | .held _ => 1
def uptoBulkAll {H : Type} : List (DataW H) → Nat
  | [] => 0
  | d :: r => uptoBulk d + uptoBulkAll r
def uptoBulkEntries {H : Type} : List (Lit × DataW H) → Nat
  | [] => 0
  | x :: r => uptoBulkEntry x + uptoBulkEntries r
def uptoBulkEntry {H : Type} : Lit × DataW H → Nat
  | (.string bytes, d) => bytes.length + uptoBulk d + 1
  | (_, d) => uptoBulk d + 1
 end
def uptoSmall : (H : Type) → List (DataW H) → Bool := fun _ ds => decide (uptoBulkAll ds ≤ 1048576)
def OpenSpec.upto (s : _root_.Go.ChangeSpec) : _root_.Go.OpenSpec := { _root_.Go.OpenSpec.ofChange s with cond := some uptoSmall }

/-- 'laws.FnExactStepOf', WHERE WHAT IT READS IS OF BULK AT MOST 1048576: true; the input reads as it did. -/
def fnExactStepOfUptoRow : OpenClaim := { program := "ytbgnieajeipllaa", sum := "9f5ab4af0ca0e417fbd5f636cf0fe789b324cf85c1ed90d26cf73d5298af9c56", func := "loop.example/g01151/laws.FnExactStepOf", spec := "fnExactStepOf", unfollowed := true, recurses := true, apart := false, narrowed := true }
def FnExactStepOfUptoSaid : Prop := fnExactStepOfUptoRow.holds Try.pinned (OpenSpec.upto fnExactStepOfSpec)

/-- 'laws.FnExactStepsTo', WHERE WHAT IT READS IS OF BULK AT MOST 1048576: true; the input reads as it did. -/
def fnExactStepsToUptoRow : OpenClaim := { program := "ytbgnieajeipllaa", sum := "9f5ab4af0ca0e417fbd5f636cf0fe789b324cf85c1ed90d26cf73d5298af9c56", func := "loop.example/g01151/laws.FnExactStepsTo", spec := "fnExactStepsTo", unfollowed := true, recurses := true, apart := false, narrowed := true }
def FnExactStepsToUptoSaid : Prop := fnExactStepsToUptoRow.holds Try.pinned (OpenSpec.upto fnExactStepsToSpec)

/-- 'laws.FnExactWayToOne', WHERE WHAT IT READS IS OF BULK AT MOST 1048576: true; the input reads as it did. -/
def fnExactWayToOneUptoRow : OpenClaim := { program := "ytbgnieajeipllaa", sum := "9f5ab4af0ca0e417fbd5f636cf0fe789b324cf85c1ed90d26cf73d5298af9c56", func := "loop.example/g01151/laws.FnExactWayToOne", spec := "fnExactWayToOne", unfollowed := true, recurses := true, apart := false, narrowed := true }
def FnExactWayToOneUptoSaid : Prop := fnExactWayToOneUptoRow.holds Try.pinned (OpenSpec.upto fnExactWayToOneSpec)

/-- 'laws.FnExactGreatestOn', WHERE WHAT IT READS IS OF BULK AT MOST 1048576: true; the input reads as it did. -/
def fnExactGreatestOnUptoRow : OpenClaim := { program := "ytbgnieajeipllaa", sum := "9f5ab4af0ca0e417fbd5f636cf0fe789b324cf85c1ed90d26cf73d5298af9c56", func := "loop.example/g01151/laws.FnExactGreatestOn", spec := "fnExactGreatestOn", unfollowed := true, recurses := true, apart := false, narrowed := true }
def FnExactGreatestOnUptoSaid : Prop := fnExactGreatestOnUptoRow.holds Try.pinned (OpenSpec.upto fnExactGreatestOnSpec)

/-- 'laws.FnExactShortStep', WHERE WHAT IT READS IS OF BULK AT MOST 1048576: true; the input reads as it did. -/
def fnExactShortStepUptoRow : OpenClaim := { program := "ytbgnieajeipllaa", sum := "9f5ab4af0ca0e417fbd5f636cf0fe789b324cf85c1ed90d26cf73d5298af9c56", func := "loop.example/g01151/laws.FnExactShortStep", spec := "fnExactShortStep", unfollowed := true, recurses := true, apart := false, narrowed := true }
def FnExactShortStepUptoSaid : Prop := fnExactShortStepUptoRow.holds Try.pinned (OpenSpec.upto fnExactShortStepSpec)

/-- 'laws.FnExactParityWord', WHERE WHAT IT READS IS OF BULK AT MOST 1048576: true; the input reads as it did. -/
def fnExactParityWordUptoRow : OpenClaim := { program := "ytbgnieajeipllaa", sum := "9f5ab4af0ca0e417fbd5f636cf0fe789b324cf85c1ed90d26cf73d5298af9c56", func := "loop.example/g01151/laws.FnExactParityWord", spec := "fnExactParityWord", unfollowed := true, recurses := true, apart := false, narrowed := true }
def FnExactParityWordUptoSaid : Prop := fnExactParityWordUptoRow.holds Try.pinned (OpenSpec.upto fnExactParityWordSpec)

/-- 'laws.FnExactOddCount', WHERE WHAT IT READS IS OF BULK AT MOST 1048576: true; the input reads as it did. -/
def fnExactOddCountUptoRow : OpenClaim := { program := "ytbgnieajeipllaa", sum := "9f5ab4af0ca0e417fbd5f636cf0fe789b324cf85c1ed90d26cf73d5298af9c56", func := "loop.example/g01151/laws.FnExactOddCount", spec := "fnExactOddCount", inPlace := ["internal/bytealg.CountString", "internal/bytealg.IndexByteString", "internal/bytealg.IndexString"], unfollowed := true, recurses := true, named := ["internal/bytealg.MaxLen"], apart := false, narrowed := true }
def FnExactOddCountUptoSaid : Prop := fnExactOddCountUptoRow.holds Try.pinned (OpenSpec.upto fnExactOddCountSpec)

/-- 'laws.FnExactAfterShort', WHERE WHAT IT READS IS OF BULK AT MOST 1048576: true; the input reads as it did. -/
def fnExactAfterShortUptoRow : OpenClaim := { program := "ytbgnieajeipllaa", sum := "9f5ab4af0ca0e417fbd5f636cf0fe789b324cf85c1ed90d26cf73d5298af9c56", func := "loop.example/g01151/laws.FnExactAfterShort", spec := "fnExactAfterShort", unfollowed := true, recurses := true, apart := false, narrowed := true }
def FnExactAfterShortUptoSaid : Prop := fnExactAfterShortUptoRow.holds Try.pinned (OpenSpec.upto fnExactAfterShortSpec)

/-- 'laws.FnExactBeforeStep', WHERE WHAT IT READS IS OF BULK AT MOST 1048576: true; the input reads as it did. -/
def fnExactBeforeStepUptoRow : OpenClaim := { program := "ytbgnieajeipllaa", sum := "9f5ab4af0ca0e417fbd5f636cf0fe789b324cf85c1ed90d26cf73d5298af9c56", func := "loop.example/g01151/laws.FnExactBeforeStep", spec := "fnExactBeforeStep", apart := false, narrowed := true }
def FnExactBeforeStepUptoSaid : Prop := fnExactBeforeStepUptoRow.holds Try.pinned (OpenSpec.upto fnExactBeforeStepSpec)

/-- 'laws.FnExactLevelOf', WHERE WHAT IT READS IS OF BULK AT MOST 1048576: true; the input reads as it did. -/
def fnExactLevelOfUptoRow : OpenClaim := { program := "ytbgnieajeipllaa", sum := "9f5ab4af0ca0e417fbd5f636cf0fe789b324cf85c1ed90d26cf73d5298af9c56", func := "loop.example/g01151/laws.FnExactLevelOf", spec := "fnExactLevelOf", recurses := true, apart := false, narrowed := true }
def FnExactLevelOfUptoSaid : Prop := fnExactLevelOfUptoRow.holds Try.pinned (OpenSpec.upto fnExactLevelOfSpec)

/-- 'laws.FnExactFallsBelow', WHERE WHAT IT READS IS OF BULK AT MOST 1048576: true; the input reads as it did. -/
def fnExactFallsBelowUptoRow : OpenClaim := { program := "ytbgnieajeipllaa", sum := "9f5ab4af0ca0e417fbd5f636cf0fe789b324cf85c1ed90d26cf73d5298af9c56", func := "loop.example/g01151/laws.FnExactFallsBelow", spec := "fnExactFallsBelow", unfollowed := true, recurses := true, apart := false, narrowed := true }
def FnExactFallsBelowUptoSaid : Prop := fnExactFallsBelowUptoRow.holds Try.pinned (OpenSpec.upto fnExactFallsBelowSpec)

/-- 'laws.FnExactRecordsUpTo', WHERE WHAT IT READS IS OF BULK AT MOST 1048576: true; the input reads as it did. -/
def fnExactRecordsUpToUptoRow : OpenClaim := { program := "ytbgnieajeipllaa", sum := "9f5ab4af0ca0e417fbd5f636cf0fe789b324cf85c1ed90d26cf73d5298af9c56", func := "loop.example/g01151/laws.FnExactRecordsUpTo", spec := "fnExactRecordsUpTo", unfollowed := true, recurses := true, apart := false, narrowed := true }
def FnExactRecordsUpToUptoSaid : Prop := fnExactRecordsUpToUptoRow.holds Try.pinned (OpenSpec.upto fnExactRecordsUpToSpec)

/-- 'laws.FnExactStepWith', WHERE WHAT IT READS IS OF BULK AT MOST 1048576: true; the input reads as it did. -/
def fnExactStepWithUptoRow : OpenClaim := { program := "ytbgnieajeipllaa", sum := "9f5ab4af0ca0e417fbd5f636cf0fe789b324cf85c1ed90d26cf73d5298af9c56", func := "loop.example/g01151/laws.FnExactStepWith", spec := "fnExactStepWith", unfollowed := true, recurses := true, apart := false, narrowed := true }
def FnExactStepWithUptoSaid : Prop := fnExactStepWithUptoRow.holds Try.pinned (OpenSpec.upto fnExactStepWithSpec)

/-- 'laws.FnExactCyclesWith', WHERE WHAT IT READS IS OF BULK AT MOST 1048576: true; the input reads as it did. -/
def fnExactCyclesWithUptoRow : OpenClaim := { program := "ytbgnieajeipllaa", sum := "9f5ab4af0ca0e417fbd5f636cf0fe789b324cf85c1ed90d26cf73d5298af9c56", func := "loop.example/g01151/laws.FnExactCyclesWith", spec := "fnExactCyclesWith", unfollowed := true, recurses := true, apart := false, narrowed := true }
def FnExactCyclesWithUptoSaid : Prop := fnExactCyclesWithUptoRow.holds Try.pinned (OpenSpec.upto fnExactCyclesWithSpec)

end Rows
end Go.Proofs.Ytbgnieajeipllaa
