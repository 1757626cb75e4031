/-
  No cell of these rows narrows 'for every input' (looked for: loops, veiled, ifaces, maps, wideKeys, modest, calm, conditions, laid).
  DERIVED. THE GIVEN ROWS OF THIS SEAT. 3 by the template 'for every input the law returns true; each argument reads behind the call as it read before'; 0 by the template 'total and deterministic' (their statements: YtgiabadkbfbilabTotals.lean).
  GIVEN WITH THE SEED: the statements are not yours to turn. If you find one false, say at which input.
  Laid BY PROGRAM, IN A SANDBOX (cutbox-rows.mjs): the forced cells as the released guide's own fill.sh prints them over the translation 1851aabc37dc8997… (all of the seat's roots in one cut). By AI agents, Wed Nov 11 2026. No macro, syntax, notation, axiom, sorry.
-/
import Derived.Test.YtgiabadkbfbilabChecked
import GoSem.Claim
import GoSem.ClaimJoined
import GoSem.ClaimMapViews
import Derived.JoinedTies
import Derived.KernelRfl
namespace Go.Proofs.Ytgiabadkbfbilab
/- THE CELL 'sum', in the pinned program and in every row, IS THE sha256 OF THE DUMP (.gsa) THAT YtgiabadkbfbilabProg.lean LOADS. Nothing in Lean hashes anything: it is a label: what it is worth is what the hold of that sum in a sandbox is worth. -/
noncomputable def Try.pinned : Pinned := { name := "ytgiabadkbfbilab", sum := "1851aabc37dc8997c5a2773329b8cd8d99ad1ccaea9ca37b5dea786c7cd0bc77", checked := Try.checked }
namespace Rows
def none {H : Type} : Left H := { results := [], args := [] }

/-- 'laws.FnCyclicNumbers': WHATEVER THE INPUT: true; the input reads as it did. -/
def fnCyclicNumbersSpec : ChangeSpec := { name := "fnCyclicNumbers", fn := fun _ => fun
  | [d1, d2] => { results := [.lit (.bool true)], args := [d1, d2] }
  | _ => none }
def fnCyclicNumbersRow : OpenClaim := { program := "ytgiabadkbfbilab", sum := "1851aabc37dc8997c5a2773329b8cd8d99ad1ccaea9ca37b5dea786c7cd0bc77", func := "loop.example/g01151/laws.FnCyclicNumbers", spec := "fnCyclicNumbers", apart := false }
def FnCyclicNumbersSaid : Prop := fnCyclicNumbersRow.holds Try.pinned (OpenSpec.ofChange fnCyclicNumbersSpec)

/-- ITS FALSE NEIGHBOUR: 'it returns false'. Refute it at one input. -/
def fnCyclicNumbersWrong : ChangeSpec := { name := "fnCyclicNumbers", fn := fun _ => fun
  | [d1, d2] => { results := [.lit (.bool false)], args := [d1, d2] }
  | _ => none }
def FnCyclicNumbersWrongFalsely : Prop := fnCyclicNumbersRow.holds Try.pinned (OpenSpec.ofChange fnCyclicNumbersWrong)

/-- 'laws.FnDigitsRearranged': WHATEVER THE INPUT: true; the input reads as it did. -/
def fnDigitsRearrangedSpec : ChangeSpec := { name := "fnDigitsRearranged", fn := fun _ => fun
  | [d1, d2] => { results := [.lit (.bool true)], args := [d1, d2] }
  | _ => none }
def fnDigitsRearrangedRow : OpenClaim := { program := "ytgiabadkbfbilab", sum := "1851aabc37dc8997c5a2773329b8cd8d99ad1ccaea9ca37b5dea786c7cd0bc77", func := "loop.example/g01151/laws.FnDigitsRearranged", spec := "fnDigitsRearranged", unfollowed := true, recurses := true, apart := false }
def FnDigitsRearrangedSaid : Prop := fnDigitsRearrangedRow.holds Try.pinned (OpenSpec.ofChange fnDigitsRearrangedSpec)

/-- ITS FALSE NEIGHBOUR: 'it returns false'. Refute it at one input. -/
def fnDigitsRearrangedWrong : ChangeSpec := { name := "fnDigitsRearranged", fn := fun _ => fun
  | [d1, d2] => { results := [.lit (.bool false)], args := [d1, d2] }
  | _ => none }
def FnDigitsRearrangedWrongFalsely : Prop := fnDigitsRearrangedRow.holds Try.pinned (OpenSpec.ofChange fnDigitsRearrangedWrong)

/-- 'laws.FnStepsToOne': WHATEVER THE INPUT: true; the input reads as it did. -/
def fnStepsToOneSpec : ChangeSpec := { name := "fnStepsToOne", fn := fun _ => fun
  | [d1, d2] => { results := [.lit (.bool true)], args := [d1, d2] }
  | _ => none }
def fnStepsToOneRow : OpenClaim := { program := "ytgiabadkbfbilab", sum := "1851aabc37dc8997c5a2773329b8cd8d99ad1ccaea9ca37b5dea786c7cd0bc77", func := "loop.example/g01151/laws.FnStepsToOne", spec := "fnStepsToOne", unfollowed := true, recurses := true, apart := false }
def FnStepsToOneSaid : Prop := fnStepsToOneRow.holds Try.pinned (OpenSpec.ofChange fnStepsToOneSpec)

/-- ITS FALSE NEIGHBOUR: 'it returns false'. Refute it at one input. -/
def fnStepsToOneWrong : ChangeSpec := { name := "fnStepsToOne", fn := fun _ => fun
  | [d1, d2] => { results := [.lit (.bool false)], args := [d1, d2] }
  | _ => none }
def FnStepsToOneWrongFalsely : Prop := fnStepsToOneRow.holds Try.pinned (OpenSpec.ofChange fnStepsToOneWrong)

/- THE SECOND FORM. 'bulk': how many values and letters a reading holds, each counted each time it is reached (what is shared counts as often as it is met; a slice's spare places count too). A statement '..UptoSaid' is the law's where the arguments, and the package variables that the reading takes, are together of bulk at most 1048576: NARROWER than '..Said'. Prove '..Said' where nothing that the law and all that it calls make is longer than what came in: it says more and counts as full. Else prove '..UptoSaid'. A law counts once. -/
mutual
def uptoBulk {H : Type} : DataW H → Nat
  | .lit (.string bytes) => bytes.length + 1
  | .lit _ => 1
  | .nil => 1
  | .ptr d => uptoBulk d + 1
  | .slice elems spare => uptoBulkAll elems + uptoBulkAll spare + 1
  | .agg parts => uptoBulkAll parts + 1
  | .iface _ d => uptoBulk d + 1
  | .map entries => uptoBulkEntries entries + 1
  | .held _ => 1
def uptoBulkAll {H : Type} : List (DataW H) → Nat
  | [] => 0
  | d :: r => uptoBulk d + uptoBulkAll r
def uptoBulkEntries {H : Type} : List (Lit × DataW H) → Nat
  | [] => 0
  | x :: r => uptoBulkEntry x + uptoBulkEntries r
def uptoBulkEntry {H : Type} : Lit × DataW H → Nat
  | (.string bytes, d) => bytes.length + uptoBulk d + 1
  | (_, d) => uptoBulk d + 1
 end
def uptoSmall : (H : Type) → List (DataW H) → Bool := fun _ ds => decide (uptoBulkAll ds ≤ 1048576)
def OpenSpec.upto (s : _root_.Go.ChangeSpec) : _root_.Go.OpenSpec := { _root_.Go.OpenSpec.ofChange s with cond := some uptoSmall }

/-- 'laws.FnCyclicNumbers', WHERE WHAT IT READS IS OF BULK AT MOST 1048576: true; the input reads as it did. -/
def fnCyclicNumbersUptoRow : OpenClaim := { program := "ytgiabadkbfbilab", sum := "1851aabc37dc8997c5a2773329b8cd8d99ad1ccaea9ca37b5dea786c7cd0bc77", func := "loop.example/g01151/laws.FnCyclicNumbers", spec := "fnCyclicNumbers", apart := false, narrowed := true }
def FnCyclicNumbersUptoSaid : Prop := fnCyclicNumbersUptoRow.holds Try.pinned (OpenSpec.upto fnCyclicNumbersSpec)

/-- 'laws.FnDigitsRearranged', WHERE WHAT IT READS IS OF BULK AT MOST 1048576: true; the input reads as it did. -/
def fnDigitsRearrangedUptoRow : OpenClaim := { program := "ytgiabadkbfbilab", sum := "1851aabc37dc8997c5a2773329b8cd8d99ad1ccaea9ca37b5dea786c7cd0bc77", func := "loop.example/g01151/laws.FnDigitsRearranged", spec := "fnDigitsRearranged", unfollowed := true, recurses := true, apart := false, narrowed := true }
def FnDigitsRearrangedUptoSaid : Prop := fnDigitsRearrangedUptoRow.holds Try.pinned (OpenSpec.upto fnDigitsRearrangedSpec)

/-- 'laws.FnStepsToOne', WHERE WHAT IT READS IS OF BULK AT MOST 1048576: true; the input reads as it did. -/
def fnStepsToOneUptoRow : OpenClaim := { program := "ytgiabadkbfbilab", sum := "1851aabc37dc8997c5a2773329b8cd8d99ad1ccaea9ca37b5dea786c7cd0bc77", func := "loop.example/g01151/laws.FnStepsToOne", spec := "fnStepsToOne", unfollowed := true, recurses := true, apart := false, narrowed := true }
def FnStepsToOneUptoSaid : Prop := fnStepsToOneUptoRow.holds Try.pinned (OpenSpec.upto fnStepsToOneSpec)

end Rows
end Go.Proofs.Ytgiabadkbfbilab
