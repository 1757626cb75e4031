/-
  No cell of these rows narrows 'for every input' (looked for: loops, veiled, ifaces, maps, wideKeys, modest, calm, conditions, laid).
  DERIVED. THE GIVEN ROWS OF THIS SEAT. 15 by the template 'for every input the law returns true; each argument reads behind the call as it read before'; 0 by the template 'total and deterministic' (their statements: YtedpplonclonkaaTotals.lean).
  GIVEN WITH THE SEED: the statements are not yours to turn. If you find one false, say at which input.
  Laid BY PROGRAM, IN A SANDBOX (cutbox-rows.mjs): the forced cells as the released guide's own fill.sh prints them over the translation 79865b9e656fcf09… (all of the seat's roots in one cut). By AI agents, Wed Nov 11 2026. No macro, syntax, notation, axiom, sorry.
-/
import Derived.Test.YtedpplonclonkaaChecked
import GoSem.Claim
import GoSem.ClaimJoined
import GoSem.ClaimMapViews
import Derived.JoinedTies
import Derived.KernelRfl
namespace Go.Proofs.Ytedpplonclonkaa
/- THE CELL 'sum', in the pinned program and in every row, IS THE sha256 OF THE DUMP (.gsa) THAT YtedpplonclonkaaProg.lean LOADS. Nothing in Lean hashes anything: it is a label: what it is worth is what the hold of that sum in a sandbox is worth. -/
noncomputable def Try.pinned : Pinned := { name := "ytedpplonclonkaa", sum := "79865b9e656fcf09b5ab7a3ef63ede9079741d66258c16623bd3c3856abb5b22", checked := Try.checked }
namespace Rows
def none {H : Type} : Left H := { results := [], args := [] }

/-- 'laws.FnExactProductRun': WHATEVER THE INPUT: true; the input reads as it did. -/
def fnExactProductRunSpec : ChangeSpec := { name := "fnExactProductRun", fn := fun _ => fun
  | [d1, d2] => { results := [.lit (.bool true)], args := [d1, d2] }
  | _ => none }
def fnExactProductRunRow : OpenClaim := { program := "ytedpplonclonkaa", sum := "79865b9e656fcf09b5ab7a3ef63ede9079741d66258c16623bd3c3856abb5b22", func := "loop.example/g01151/laws.FnExactProductRun", spec := "fnExactProductRun", unfollowed := true, recurses := true, apart := false }
def FnExactProductRunSaid : Prop := fnExactProductRunRow.holds Try.pinned (OpenSpec.ofChange fnExactProductRunSpec)

/-- ITS FALSE NEIGHBOUR: 'it returns false'. Refute it at one input. -/
def fnExactProductRunWrong : ChangeSpec := { name := "fnExactProductRun", fn := fun _ => fun
  | [d1, d2] => { results := [.lit (.bool false)], args := [d1, d2] }
  | _ => none }
def FnExactProductRunWrongFalsely : Prop := fnExactProductRunRow.holds Try.pinned (OpenSpec.ofChange fnExactProductRunWrong)

/-- 'laws.FnExactPersistenceOf': WHATEVER THE INPUT: true; the input reads as it did. -/
def fnExactPersistenceOfSpec : ChangeSpec := { name := "fnExactPersistenceOf", fn := fun _ => fun
  | [d1, d2] => { results := [.lit (.bool true)], args := [d1, d2] }
  | _ => none }
def fnExactPersistenceOfRow : OpenClaim := { program := "ytedpplonclonkaa", sum := "79865b9e656fcf09b5ab7a3ef63ede9079741d66258c16623bd3c3856abb5b22", func := "loop.example/g01151/laws.FnExactPersistenceOf", spec := "fnExactPersistenceOf", unfollowed := true, recurses := true, apart := false }
def FnExactPersistenceOfSaid : Prop := fnExactPersistenceOfRow.holds Try.pinned (OpenSpec.ofChange fnExactPersistenceOfSpec)

/-- ITS FALSE NEIGHBOUR: 'it returns false'. Refute it at one input. -/
def fnExactPersistenceOfWrong : ChangeSpec := { name := "fnExactPersistenceOf", fn := fun _ => fun
  | [d1, d2] => { results := [.lit (.bool false)], args := [d1, d2] }
  | _ => none }
def FnExactPersistenceOfWrongFalsely : Prop := fnExactPersistenceOfRow.holds Try.pinned (OpenSpec.ofChange fnExactPersistenceOfWrong)

/-- 'laws.FnExactProductRoot': WHATEVER THE INPUT: true; the input reads as it did. -/
def fnExactProductRootSpec : ChangeSpec := { name := "fnExactProductRoot", fn := fun _ => fun
  | [d1, d2] => { results := [.lit (.bool true)], args := [d1, d2] }
  | _ => none }
def fnExactProductRootRow : OpenClaim := { program := "ytedpplonclonkaa", sum := "79865b9e656fcf09b5ab7a3ef63ede9079741d66258c16623bd3c3856abb5b22", func := "loop.example/g01151/laws.FnExactProductRoot", spec := "fnExactProductRoot", unfollowed := true, recurses := true, apart := false }
def FnExactProductRootSaid : Prop := fnExactProductRootRow.holds Try.pinned (OpenSpec.ofChange fnExactProductRootSpec)

/-- ITS FALSE NEIGHBOUR: 'it returns false'. Refute it at one input. -/
def fnExactProductRootWrong : ChangeSpec := { name := "fnExactProductRoot", fn := fun _ => fun
  | [d1, d2] => { results := [.lit (.bool false)], args := [d1, d2] }
  | _ => none }
def FnExactProductRootWrongFalsely : Prop := fnExactProductRootRow.holds Try.pinned (OpenSpec.ofChange fnExactProductRootWrong)

/-- 'laws.FnExactLeastWithProduct': WHATEVER THE INPUT: true; the input reads as it did. -/
def fnExactLeastWithProductSpec : ChangeSpec := { name := "fnExactLeastWithProduct", fn := fun _ => fun
  | [d1, d2] => { results := [.lit (.bool true)], args := [d1, d2] }
  | _ => none }
def fnExactLeastWithProductRow : OpenClaim := { program := "ytedpplonclonkaa", sum := "79865b9e656fcf09b5ab7a3ef63ede9079741d66258c16623bd3c3856abb5b22", func := "loop.example/g01151/laws.FnExactLeastWithProduct", spec := "fnExactLeastWithProduct", unfollowed := true, recurses := true, apart := false }
def FnExactLeastWithProductSaid : Prop := fnExactLeastWithProductRow.holds Try.pinned (OpenSpec.ofChange fnExactLeastWithProductSpec)

/-- ITS FALSE NEIGHBOUR: 'it returns false'. Refute it at one input. -/
def fnExactLeastWithProductWrong : ChangeSpec := { name := "fnExactLeastWithProduct", fn := fun _ => fun
  | [d1, d2] => { results := [.lit (.bool false)], args := [d1, d2] }
  | _ => none }
def FnExactLeastWithProductWrongFalsely : Prop := fnExactLeastWithProductRow.holds Try.pinned (OpenSpec.ofChange fnExactLeastWithProductWrong)

/-- 'laws.FnExactCountWithProduct': WHATEVER THE INPUT: true; the input reads as it did. -/
def fnExactCountWithProductSpec : ChangeSpec := { name := "fnExactCountWithProduct", fn := fun _ => fun
  | [d1, d2] => { results := [.lit (.bool true)], args := [d1, d2] }
  | _ => none }
def fnExactCountWithProductRow : OpenClaim := { program := "ytedpplonclonkaa", sum := "79865b9e656fcf09b5ab7a3ef63ede9079741d66258c16623bd3c3856abb5b22", func := "loop.example/g01151/laws.FnExactCountWithProduct", spec := "fnExactCountWithProduct", unfollowed := true, recurses := true, apart := false }
def FnExactCountWithProductSaid : Prop := fnExactCountWithProductRow.holds Try.pinned (OpenSpec.ofChange fnExactCountWithProductSpec)

/-- ITS FALSE NEIGHBOUR: 'it returns false'. Refute it at one input. -/
def fnExactCountWithProductWrong : ChangeSpec := { name := "fnExactCountWithProduct", fn := fun _ => fun
  | [d1, d2] => { results := [.lit (.bool false)], args := [d1, d2] }
  | _ => none }
def FnExactCountWithProductWrongFalsely : Prop := fnExactCountWithProductRow.holds Try.pinned (OpenSpec.ofChange fnExactCountWithProductWrong)

/-- 'laws.FnExactIsSmooth': WHATEVER THE INPUT: true; the input reads as it did. -/
def fnExactIsSmoothSpec : ChangeSpec := { name := "fnExactIsSmooth", fn := fun _ => fun
  | [d1, d2] => { results := [.lit (.bool true)], args := [d1, d2] }
  | _ => none }
def fnExactIsSmoothRow : OpenClaim := { program := "ytedpplonclonkaa", sum := "79865b9e656fcf09b5ab7a3ef63ede9079741d66258c16623bd3c3856abb5b22", func := "loop.example/g01151/laws.FnExactIsSmooth", spec := "fnExactIsSmooth", unfollowed := true, recurses := true, apart := false }
def FnExactIsSmoothSaid : Prop := fnExactIsSmoothRow.holds Try.pinned (OpenSpec.ofChange fnExactIsSmoothSpec)

/-- ITS FALSE NEIGHBOUR: 'it returns false'. Refute it at one input. -/
def fnExactIsSmoothWrong : ChangeSpec := { name := "fnExactIsSmooth", fn := fun _ => fun
  | [d1, d2] => { results := [.lit (.bool false)], args := [d1, d2] }
  | _ => none }
def FnExactIsSmoothWrongFalsely : Prop := fnExactIsSmoothRow.holds Try.pinned (OpenSpec.ofChange fnExactIsSmoothWrong)

/-- 'laws.FnExactLeastPersistent': WHATEVER THE INPUT: true; the input reads as it did. -/
def fnExactLeastPersistentSpec : ChangeSpec := { name := "fnExactLeastPersistent", fn := fun _ => fun
  | [d1, d2] => { results := [.lit (.bool true)], args := [d1, d2] }
  | _ => none }
def fnExactLeastPersistentRow : OpenClaim := { program := "ytedpplonclonkaa", sum := "79865b9e656fcf09b5ab7a3ef63ede9079741d66258c16623bd3c3856abb5b22", func := "loop.example/g01151/laws.FnExactLeastPersistent", spec := "fnExactLeastPersistent", unfollowed := true, recurses := true, apart := false }
def FnExactLeastPersistentSaid : Prop := fnExactLeastPersistentRow.holds Try.pinned (OpenSpec.ofChange fnExactLeastPersistentSpec)

/-- ITS FALSE NEIGHBOUR: 'it returns false'. Refute it at one input. -/
def fnExactLeastPersistentWrong : ChangeSpec := { name := "fnExactLeastPersistent", fn := fun _ => fun
  | [d1, d2] => { results := [.lit (.bool false)], args := [d1, d2] }
  | _ => none }
def FnExactLeastPersistentWrongFalsely : Prop := fnExactLeastPersistentRow.holds Try.pinned (OpenSpec.ofChange fnExactLeastPersistentWrong)

/-- 'laws.FnExactSumRun': WHATEVER THE INPUT: true; the input reads as it did. -/
def fnExactSumRunSpec : ChangeSpec := { name := "fnExactSumRun", fn := fun _ => fun
  | [d1, d2] => { results := [.lit (.bool true)], args := [d1, d2] }
  | _ => none }
def fnExactSumRunRow : OpenClaim := { program := "ytedpplonclonkaa", sum := "79865b9e656fcf09b5ab7a3ef63ede9079741d66258c16623bd3c3856abb5b22", func := "loop.example/g01151/laws.FnExactSumRun", spec := "fnExactSumRun", unfollowed := true, recurses := true, apart := false }
def FnExactSumRunSaid : Prop := fnExactSumRunRow.holds Try.pinned (OpenSpec.ofChange fnExactSumRunSpec)

/-- ITS FALSE NEIGHBOUR: 'it returns false'. Refute it at one input. -/
def fnExactSumRunWrong : ChangeSpec := { name := "fnExactSumRun", fn := fun _ => fun
  | [d1, d2] => { results := [.lit (.bool false)], args := [d1, d2] }
  | _ => none }
def FnExactSumRunWrongFalsely : Prop := fnExactSumRunRow.holds Try.pinned (OpenSpec.ofChange fnExactSumRunWrong)

/-- 'laws.FnExactSumPersistence': WHATEVER THE INPUT: true; the input reads as it did. -/
def fnExactSumPersistenceSpec : ChangeSpec := { name := "fnExactSumPersistence", fn := fun _ => fun
  | [d1, d2] => { results := [.lit (.bool true)], args := [d1, d2] }
  | _ => none }
def fnExactSumPersistenceRow : OpenClaim := { program := "ytedpplonclonkaa", sum := "79865b9e656fcf09b5ab7a3ef63ede9079741d66258c16623bd3c3856abb5b22", func := "loop.example/g01151/laws.FnExactSumPersistence", spec := "fnExactSumPersistence", unfollowed := true, recurses := true, apart := false }
def FnExactSumPersistenceSaid : Prop := fnExactSumPersistenceRow.holds Try.pinned (OpenSpec.ofChange fnExactSumPersistenceSpec)

/-- ITS FALSE NEIGHBOUR: 'it returns false'. Refute it at one input. -/
def fnExactSumPersistenceWrong : ChangeSpec := { name := "fnExactSumPersistence", fn := fun _ => fun
  | [d1, d2] => { results := [.lit (.bool false)], args := [d1, d2] }
  | _ => none }
def FnExactSumPersistenceWrongFalsely : Prop := fnExactSumPersistenceRow.holds Try.pinned (OpenSpec.ofChange fnExactSumPersistenceWrong)

/-- 'laws.FnExactLeastSumPersistent': WHATEVER THE INPUT: true; the input reads as it did. -/
def fnExactLeastSumPersistentSpec : ChangeSpec := { name := "fnExactLeastSumPersistent", fn := fun _ => fun
  | [d1, d2] => { results := [.lit (.bool true)], args := [d1, d2] }
  | _ => none }
def fnExactLeastSumPersistentRow : OpenClaim := { program := "ytedpplonclonkaa", sum := "79865b9e656fcf09b5ab7a3ef63ede9079741d66258c16623bd3c3856abb5b22", func := "loop.example/g01151/laws.FnExactLeastSumPersistent", spec := "fnExactLeastSumPersistent", recurses := true, apart := false }
def FnExactLeastSumPersistentSaid : Prop := fnExactLeastSumPersistentRow.holds Try.pinned (OpenSpec.ofChange fnExactLeastSumPersistentSpec)

/-- ITS FALSE NEIGHBOUR: 'it returns false'. Refute it at one input. -/
def fnExactLeastSumPersistentWrong : ChangeSpec := { name := "fnExactLeastSumPersistent", fn := fun _ => fun
  | [d1, d2] => { results := [.lit (.bool false)], args := [d1, d2] }
  | _ => none }
def FnExactLeastSumPersistentWrongFalsely : Prop := fnExactLeastSumPersistentRow.holds Try.pinned (OpenSpec.ofChange fnExactLeastSumPersistentWrong)

/-- 'laws.FnExactRootByRemainder': WHATEVER THE INPUT: true; the input reads as it did. -/
def fnExactRootByRemainderSpec : ChangeSpec := { name := "fnExactRootByRemainder", fn := fun _ => fun
  | [d1, d2] => { results := [.lit (.bool true)], args := [d1, d2] }
  | _ => none }
def fnExactRootByRemainderRow : OpenClaim := { program := "ytedpplonclonkaa", sum := "79865b9e656fcf09b5ab7a3ef63ede9079741d66258c16623bd3c3856abb5b22", func := "loop.example/g01151/laws.FnExactRootByRemainder", spec := "fnExactRootByRemainder", unfollowed := true, recurses := true, apart := false }
def FnExactRootByRemainderSaid : Prop := fnExactRootByRemainderRow.holds Try.pinned (OpenSpec.ofChange fnExactRootByRemainderSpec)

/-- ITS FALSE NEIGHBOUR: 'it returns false'. Refute it at one input. -/
def fnExactRootByRemainderWrong : ChangeSpec := { name := "fnExactRootByRemainder", fn := fun _ => fun
  | [d1, d2] => { results := [.lit (.bool false)], args := [d1, d2] }
  | _ => none }
def FnExactRootByRemainderWrongFalsely : Prop := fnExactRootByRemainderRow.holds Try.pinned (OpenSpec.ofChange fnExactRootByRemainderWrong)

/-- 'laws.FnExactIsHarshad': WHATEVER THE INPUT: true; the input reads as it did. -/
def fnExactIsHarshadSpec : ChangeSpec := { name := "fnExactIsHarshad", fn := fun _ => fun
  | [d1, d2] => { results := [.lit (.bool true)], args := [d1, d2] }
  | _ => none }
def fnExactIsHarshadRow : OpenClaim := { program := "ytedpplonclonkaa", sum := "79865b9e656fcf09b5ab7a3ef63ede9079741d66258c16623bd3c3856abb5b22", func := "loop.example/g01151/laws.FnExactIsHarshad", spec := "fnExactIsHarshad", unfollowed := true, recurses := true, apart := false }
def FnExactIsHarshadSaid : Prop := fnExactIsHarshadRow.holds Try.pinned (OpenSpec.ofChange fnExactIsHarshadSpec)

/-- ITS FALSE NEIGHBOUR: 'it returns false'. Refute it at one input. -/
def fnExactIsHarshadWrong : ChangeSpec := { name := "fnExactIsHarshad", fn := fun _ => fun
  | [d1, d2] => { results := [.lit (.bool false)], args := [d1, d2] }
  | _ => none }
def FnExactIsHarshadWrongFalsely : Prop := fnExactIsHarshadRow.holds Try.pinned (OpenSpec.ofChange fnExactIsHarshadWrong)

/-- 'laws.FnExactNextHarshad': WHATEVER THE INPUT: true; the input reads as it did. -/
def fnExactNextHarshadSpec : ChangeSpec := { name := "fnExactNextHarshad", fn := fun _ => fun
  | [d1, d2] => { results := [.lit (.bool true)], args := [d1, d2] }
  | _ => none }
def fnExactNextHarshadRow : OpenClaim := { program := "ytedpplonclonkaa", sum := "79865b9e656fcf09b5ab7a3ef63ede9079741d66258c16623bd3c3856abb5b22", func := "loop.example/g01151/laws.FnExactNextHarshad", spec := "fnExactNextHarshad", unfollowed := true, recurses := true, apart := false }
def FnExactNextHarshadSaid : Prop := fnExactNextHarshadRow.holds Try.pinned (OpenSpec.ofChange fnExactNextHarshadSpec)

/-- ITS FALSE NEIGHBOUR: 'it returns false'. Refute it at one input. -/
def fnExactNextHarshadWrong : ChangeSpec := { name := "fnExactNextHarshad", fn := fun _ => fun
  | [d1, d2] => { results := [.lit (.bool false)], args := [d1, d2] }
  | _ => none }
def FnExactNextHarshadWrongFalsely : Prop := fnExactNextHarshadRow.holds Try.pinned (OpenSpec.ofChange fnExactNextHarshadWrong)

/-- 'laws.FnExactIsZuckerman': WHATEVER THE INPUT: true; the input reads as it did. -/
def fnExactIsZuckermanSpec : ChangeSpec := { name := "fnExactIsZuckerman", fn := fun _ => fun
  | [d1, d2] => { results := [.lit (.bool true)], args := [d1, d2] }
  | _ => none }
def fnExactIsZuckermanRow : OpenClaim := { program := "ytedpplonclonkaa", sum := "79865b9e656fcf09b5ab7a3ef63ede9079741d66258c16623bd3c3856abb5b22", func := "loop.example/g01151/laws.FnExactIsZuckerman", spec := "fnExactIsZuckerman", unfollowed := true, recurses := true, apart := false }
def FnExactIsZuckermanSaid : Prop := fnExactIsZuckermanRow.holds Try.pinned (OpenSpec.ofChange fnExactIsZuckermanSpec)

/-- ITS FALSE NEIGHBOUR: 'it returns false'. Refute it at one input. -/
def fnExactIsZuckermanWrong : ChangeSpec := { name := "fnExactIsZuckerman", fn := fun _ => fun
  | [d1, d2] => { results := [.lit (.bool false)], args := [d1, d2] }
  | _ => none }
def FnExactIsZuckermanWrongFalsely : Prop := fnExactIsZuckermanRow.holds Try.pinned (OpenSpec.ofChange fnExactIsZuckermanWrong)

/-- 'laws.FnExactSumProductNumbers': WHATEVER THE INPUT: true; the input reads as it did. -/
def fnExactSumProductNumbersSpec : ChangeSpec := { name := "fnExactSumProductNumbers", fn := fun _ => fun
  | [d1, d2] => { results := [.lit (.bool true)], args := [d1, d2] }
  | _ => none }
def fnExactSumProductNumbersRow : OpenClaim := { program := "ytedpplonclonkaa", sum := "79865b9e656fcf09b5ab7a3ef63ede9079741d66258c16623bd3c3856abb5b22", func := "loop.example/g01151/laws.FnExactSumProductNumbers", spec := "fnExactSumProductNumbers", apart := false }
def FnExactSumProductNumbersSaid : Prop := fnExactSumProductNumbersRow.holds Try.pinned (OpenSpec.ofChange fnExactSumProductNumbersSpec)

/-- ITS FALSE NEIGHBOUR: 'it returns false'. Refute it at one input. -/
def fnExactSumProductNumbersWrong : ChangeSpec := { name := "fnExactSumProductNumbers", fn := fun _ => fun
  | [d1, d2] => { results := [.lit (.bool false)], args := [d1, d2] }
  | _ => none }
def FnExactSumProductNumbersWrongFalsely : Prop := fnExactSumProductNumbersRow.holds Try.pinned (OpenSpec.ofChange fnExactSumProductNumbersWrong)

/- THE SECOND FORM. 'bulk': how many values and letters a reading holds, each counted each time it is reached (what is shared counts as often as it is met; a slice's spare places count too). A statement '..UptoSaid' is the law's where the arguments, and the package variables that the reading takes, are together of bulk at most 1048576: NARROWER than '..Said'. Prove '..Said' where nothing that the law and all that it calls make is longer than what came in: it says more and counts as full. Else prove '..UptoSaid'. A law counts once. -/
mutual
def uptoBulk {H : Type} : DataW H → Nat
  | .lit (.string bytes) => bytes.length + 1
  | .lit _ => 1
  | .nil => 1
  | .ptr d => uptoBulk d + 1
  | .slice elems spare => uptoBulkAll elems + uptoBulkAll spare + 1
  | .agg parts => uptoBulkAll parts + 1
  | .iface _ d => uptoBulk d + 1
  | .map entries => uptoBulkEntries entries + 1
  | .held _ => 1
def uptoBulkAll {H : Type} : List (DataW H) → Nat
  | [] => 0
  | d :: r => uptoBulk d + uptoBulkAll r
def uptoBulkEntries {H : Type} : List (Lit × DataW H) → Nat
  | [] => 0
  | x :: r => uptoBulkEntry x + uptoBulkEntries r
def uptoBulkEntry {H : Type} : Lit × DataW H → Nat
  | (.string bytes, d) => bytes.length + uptoBulk d + 1
  | (_, d) => uptoBulk d + 1
 end
def uptoSmall : (H : Type) → List (DataW H) → Bool := fun _ ds => decide (uptoBulkAll ds ≤ 1048576)
def OpenSpec.upto (s : _root_.Go.ChangeSpec) : _root_.Go.OpenSpec := { _root_.Go.OpenSpec.ofChange s with cond := some uptoSmall }

/-- 'laws.FnExactProductRun', WHERE WHAT IT READS IS OF BULK AT MOST 1048576: true; the input reads as it did. -/
def fnExactProductRunUptoRow : OpenClaim := { program := "ytedpplonclonkaa", sum := "79865b9e656fcf09b5ab7a3ef63ede9079741d66258c16623bd3c3856abb5b22", func := "loop.example/g01151/laws.FnExactProductRun", spec := "fnExactProductRun", unfollowed := true, recurses := true, apart := false, narrowed := true }
def FnExactProductRunUptoSaid : Prop := fnExactProductRunUptoRow.holds Try.pinned (OpenSpec.upto fnExactProductRunSpec)

/-- 'laws.FnExactPersistenceOf', WHERE WHAT IT READS IS OF BULK AT MOST 1048576: true; the input reads as it did. -/
def fnExactPersistenceOfUptoRow : OpenClaim := { program := "ytedpplonclonkaa", sum := "79865b9e656fcf09b5ab7a3ef63ede9079741d66258c16623bd3c3856abb5b22", func := "loop.example/g01151/laws.FnExactPersistenceOf", spec := "fnExactPersistenceOf", unfollowed := true, recurses := true, apart := false, narrowed := true }
def FnExactPersistenceOfUptoSaid : Prop := fnExactPersistenceOfUptoRow.holds Try.pinned (OpenSpec.upto fnExactPersistenceOfSpec)

/-- 'laws.FnExactProductRoot', WHERE WHAT IT READS IS OF BULK AT MOST 1048576: true; the input reads as it did. -/
def fnExactProductRootUptoRow : OpenClaim := { program := "ytedpplonclonkaa", sum := "79865b9e656fcf09b5ab7a3ef63ede9079741d66258c16623bd3c3856abb5b22", func := "loop.example/g01151/laws.FnExactProductRoot", spec := "fnExactProductRoot", unfollowed := true, recurses := true, apart := false, narrowed := true }
def FnExactProductRootUptoSaid : Prop := fnExactProductRootUptoRow.holds Try.pinned (OpenSpec.upto fnExactProductRootSpec)

/-- 'laws.FnExactLeastWithProduct', WHERE WHAT IT READS IS OF BULK AT MOST 1048576: true; the input reads as it did. -/
def fnExactLeastWithProductUptoRow : OpenClaim := { program := "ytedpplonclonkaa", sum := "79865b9e656fcf09b5ab7a3ef63ede9079741d66258c16623bd3c3856abb5b22", func := "loop.example/g01151/laws.FnExactLeastWithProduct", spec := "fnExactLeastWithProduct", unfollowed := true, recurses := true, apart := false, narrowed := true }
def FnExactLeastWithProductUptoSaid : Prop := fnExactLeastWithProductUptoRow.holds Try.pinned (OpenSpec.upto fnExactLeastWithProductSpec)

/-- 'laws.FnExactCountWithProduct', WHERE WHAT IT READS IS OF BULK AT MOST 1048576: true; the input reads as it did. -/
def fnExactCountWithProductUptoRow : OpenClaim := { program := "ytedpplonclonkaa", sum := "79865b9e656fcf09b5ab7a3ef63ede9079741d66258c16623bd3c3856abb5b22", func := "loop.example/g01151/laws.FnExactCountWithProduct", spec := "fnExactCountWithProduct", unfollowed := true, recurses := true, apart := false, narrowed := true }
def FnExactCountWithProductUptoSaid : Prop := fnExactCountWithProductUptoRow.holds Try.pinned (OpenSpec.upto fnExactCountWithProductSpec)

/-- 'laws.FnExactIsSmooth', WHERE WHAT IT READS IS OF BULK AT MOST 1048576: true; the input reads as it did. -/
def fnExactIsSmoothUptoRow : OpenClaim := { program := "ytedpplonclonkaa", sum := "79865b9e656fcf09b5ab7a3ef63ede9079741d66258c16623bd3c3856abb5b22", func := "loop.example/g01151/laws.FnExactIsSmooth", spec := "fnExactIsSmooth", unfollowed := true, recurses := true, apart := false, narrowed := true }
def FnExactIsSmoothUptoSaid : Prop := fnExactIsSmoothUptoRow.holds Try.pinned (OpenSpec.upto fnExactIsSmoothSpec)

/-- 'laws.FnExactLeastPersistent', WHERE WHAT IT READS IS OF BULK AT MOST 1048576: true; the input reads as it did. -/
def fnExactLeastPersistentUptoRow : OpenClaim := { program := "ytedpplonclonkaa", sum := "79865b9e656fcf09b5ab7a3ef63ede9079741d66258c16623bd3c3856abb5b22", func := "loop.example/g01151/laws.FnExactLeastPersistent", spec := "fnExactLeastPersistent", unfollowed := true, recurses := true, apart := false, narrowed := true }
def FnExactLeastPersistentUptoSaid : Prop := fnExactLeastPersistentUptoRow.holds Try.pinned (OpenSpec.upto fnExactLeastPersistentSpec)

/-- 'laws.FnExactSumRun', WHERE WHAT IT READS IS OF BULK AT MOST 1048576: true; the input reads as it did. -/
def fnExactSumRunUptoRow : OpenClaim := { program := "ytedpplonclonkaa", sum := "79865b9e656fcf09b5ab7a3ef63ede9079741d66258c16623bd3c3856abb5b22", func := "loop.example/g01151/laws.FnExactSumRun", spec := "fnExactSumRun", unfollowed := true, recurses := true, apart := false, narrowed := true }
def FnExactSumRunUptoSaid : Prop := fnExactSumRunUptoRow.holds Try.pinned (OpenSpec.upto fnExactSumRunSpec)

/-- 'laws.FnExactSumPersistence', WHERE WHAT IT READS IS OF BULK AT MOST 1048576: true; the input reads as it did. -/
def fnExactSumPersistenceUptoRow : OpenClaim := { program := "ytedpplonclonkaa", sum := "79865b9e656fcf09b5ab7a3ef63ede9079741d66258c16623bd3c3856abb5b22", func := "loop.example/g01151/laws.FnExactSumPersistence", spec := "fnExactSumPersistence", unfollowed := true, recurses := true, apart := false, narrowed := true }
def FnExactSumPersistenceUptoSaid : Prop := fnExactSumPersistenceUptoRow.holds Try.pinned (OpenSpec.upto fnExactSumPersistenceSpec)

/-- 'laws.FnExactLeastSumPersistent', WHERE WHAT IT READS IS OF BULK AT MOST 1048576: true; the input reads as it did. -/
def fnExactLeastSumPersistentUptoRow : OpenClaim := { program := "ytedpplonclonkaa", sum := "79865b9e656fcf09b5ab7a3ef63ede9079741d66258c16623bd3c3856abb5b22", func := "loop.example/g01151/laws.FnExactLeastSumPersistent", spec := "fnExactLeastSumPersistent", recurses := true, apart := false, narrowed := true }
def FnExactLeastSumPersistentUptoSaid : Prop := fnExactLeastSumPersistentUptoRow.holds Try.pinned (OpenSpec.upto fnExactLeastSumPersistentSpec)

/-- 'laws.FnExactRootByRemainder', WHERE WHAT IT READS IS OF BULK AT MOST 1048576: true; the input reads as it did. -/
def fnExactRootByRemainderUptoRow : OpenClaim := { program := "ytedpplonclonkaa", sum := "79865b9e656fcf09b5ab7a3ef63ede9079741d66258c16623bd3c3856abb5b22", func := "loop.example/g01151/laws.FnExactRootByRemainder", spec := "fnExactRootByRemainder", unfollowed := true, recurses := true, apart := false, narrowed := true }
def FnExactRootByRemainderUptoSaid : Prop := fnExactRootByRemainderUptoRow.holds Try.pinned (OpenSpec.upto fnExactRootByRemainderSpec)

/-- 'laws.FnExactIsHarshad', WHERE WHAT IT READS IS OF BULK AT MOST 1048576: true; the input reads as it did. -/
def fnExactIsHarshadUptoRow : OpenClaim := { program := "ytedpplonclonkaa", sum := "79865b9e656fcf09b5ab7a3ef63ede9079741d66258c16623bd3c3856abb5b22", func := "loop.example/g01151/laws.FnExactIsHarshad", spec := "fnExactIsHarshad", unfollowed := true, recurses := true, apart := false, narrowed := true }
def FnExactIsHarshadUptoSaid : Prop := fnExactIsHarshadUptoRow.holds Try.pinned (OpenSpec.upto fnExactIsHarshadSpec)

/-- 'laws.FnExactNextHarshad', WHERE WHAT IT READS IS OF BULK AT MOST 1048576: true; the input reads as it did. -/
def fnExactNextHarshadUptoRow : OpenClaim := { program := "ytedpplonclonkaa", sum := "79865b9e656fcf09b5ab7a3ef63ede9079741d66258c16623bd3c3856abb5b22", func := "loop.example/g01151/laws.FnExactNextHarshad", spec := "fnExactNextHarshad", unfollowed := true, recurses := true, apart := false, narrowed := true }
def FnExactNextHarshadUptoSaid : Prop := fnExactNextHarshadUptoRow.holds Try.pinned (OpenSpec.upto fnExactNextHarshadSpec)

/-- 'laws.FnExactIsZuckerman', WHERE WHAT IT READS IS OF BULK AT MOST 1048576: true; the input reads as it did. -/
def fnExactIsZuckermanUptoRow : OpenClaim := { program := "ytedpplonclonkaa", sum := "79865b9e656fcf09b5ab7a3ef63ede9079741d66258c16623bd3c3856abb5b22", func := "loop.example/g01151/laws.FnExactIsZuckerman", spec := "fnExactIsZuckerman", unfollowed := true, recurses := true, apart := false, narrowed := true }
def FnExactIsZuckermanUptoSaid : Prop := fnExactIsZuckermanUptoRow.holds Try.pinned (OpenSpec.upto fnExactIsZuckermanSpec)

/-- 'laws.FnExactSumProductNumbers', WHERE WHAT IT READS IS OF BULK AT MOST 1048576: true; the input reads as it did. -/
def fnExactSumProductNumbersUptoRow : OpenClaim := { program := "ytedpplonclonkaa", sum := "79865b9e656fcf09b5ab7a3ef63ede9079741d66258c16623bd3c3856abb5b22", func := "loop.example/g01151/laws.FnExactSumProductNumbers", spec := "fnExactSumProductNumbers", apart := false, narrowed := true }
def FnExactSumProductNumbersUptoSaid : Prop := fnExactSumProductNumbersUptoRow.holds Try.pinned (OpenSpec.upto fnExactSumProductNumbersSpec)

end Rows
end Go.Proofs.Ytedpplonclonkaa
