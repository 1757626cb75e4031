/-
  No cell of these rows narrows 'for every input' (looked for: loops, veiled, ifaces, maps, wideKeys, modest, calm, conditions, laid).
  DERIVED. THE GIVEN ROWS OF THIS SEAT. 4 by the template 'for every input the law returns true; each argument reads behind the call as it read before'; 0 by the template 'total and deterministic' (their statements: YtmdjmbmkgboeaaaTotals.lean).
  GIVEN WITH THE SEED: the statements are not yours to turn. If you find one false, say at which input.
  Laid BY PROGRAM, IN A SANDBOX (cutbox-rows.mjs): the forced cells as the released guide's own fill.sh prints them over the translation 5e9f751e80156dcd… (all of the seat's roots in one cut). By AI agents, Wed Nov 11 2026. No macro, syntax, notation, axiom, sorry.
-/
import Derived.Test.YtmdjmbmkgboeaaaChecked
import GoSem.Claim
import GoSem.ClaimJoined
import GoSem.ClaimMapViews
import Derived.JoinedTies
import Derived.KernelRfl
namespace Go.Proofs.Ytmdjmbmkgboeaaa
/- THE CELL 'sum', in the pinned program and in every row, IS THE sha256 OF THE DUMP (.gsa) THAT YtmdjmbmkgboeaaaProg.lean LOADS. Nothing in Lean hashes anything: it is a label: what it is worth is what the hold of that sum in a sandbox is worth. -/
noncomputable def Try.pinned : Pinned := { name := "ytmdjmbmkgboeaaa", sum := "5e9f751e80156dcd85d7217d3dac88b93c427c2496934fb54cd45e52d1991972", checked := Try.checked }
namespace Rows
def none {H : Type} : Left H := { results := [], args := [] }

/-- 'laws.FnWordsSay': WHATEVER THE INPUT: true; the input reads as it did. -/
def fnWordsSaySpec : ChangeSpec := { name := "fnWordsSay", fn := fun _ => fun
  | [d1, d2] => { results := [.lit (.bool true)], args := [d1, d2] }
  | _ => none }
def fnWordsSayRow : OpenClaim := { program := "ytmdjmbmkgboeaaa", sum := "5e9f751e80156dcd85d7217d3dac88b93c427c2496934fb54cd45e52d1991972", func := "loop.example/g01151/laws.FnWordsSay", spec := "fnWordsSay", unfollowed := true, recurses := true, apart := false }
def FnWordsSaySaid : Prop := fnWordsSayRow.holds Try.pinned (OpenSpec.ofChange fnWordsSaySpec)

/-- ITS FALSE NEIGHBOUR: 'it returns false'. Refute it at one input. -/
def fnWordsSayWrong : ChangeSpec := { name := "fnWordsSay", fn := fun _ => fun
  | [d1, d2] => { results := [.lit (.bool false)], args := [d1, d2] }
  | _ => none }
def FnWordsSayWrongFalsely : Prop := fnWordsSayRow.holds Try.pinned (OpenSpec.ofChange fnWordsSayWrong)

/-- 'laws.FnSelfTellingLists': WHATEVER THE INPUT: true; the input reads as it did. -/
def fnSelfTellingListsSpec : ChangeSpec := { name := "fnSelfTellingLists", fn := fun _ => fun
  | [d1, d2] => { results := [.lit (.bool true)], args := [d1, d2] }
  | _ => none }
def fnSelfTellingListsRow : OpenClaim := { program := "ytmdjmbmkgboeaaa", sum := "5e9f751e80156dcd85d7217d3dac88b93c427c2496934fb54cd45e52d1991972", func := "loop.example/g01151/laws.FnSelfTellingLists", spec := "fnSelfTellingLists", recurses := true, apart := false }
def FnSelfTellingListsSaid : Prop := fnSelfTellingListsRow.holds Try.pinned (OpenSpec.ofChange fnSelfTellingListsSpec)

/-- ITS FALSE NEIGHBOUR: 'it returns false'. Refute it at one input. -/
def fnSelfTellingListsWrong : ChangeSpec := { name := "fnSelfTellingLists", fn := fun _ => fun
  | [d1, d2] => { results := [.lit (.bool false)], args := [d1, d2] }
  | _ => none }
def FnSelfTellingListsWrongFalsely : Prop := fnSelfTellingListsRow.holds Try.pinned (OpenSpec.ofChange fnSelfTellingListsWrong)

/-- 'laws.FnPeriodsOfFractions': WHATEVER THE INPUT: true; the input reads as it did. -/
def fnPeriodsOfFractionsSpec : ChangeSpec := { name := "fnPeriodsOfFractions", fn := fun _ => fun
  | [d1, d2] => { results := [.lit (.bool true)], args := [d1, d2] }
  | _ => none }
def fnPeriodsOfFractionsRow : OpenClaim := { program := "ytmdjmbmkgboeaaa", sum := "5e9f751e80156dcd85d7217d3dac88b93c427c2496934fb54cd45e52d1991972", func := "loop.example/g01151/laws.FnPeriodsOfFractions", spec := "fnPeriodsOfFractions", apart := false }
def FnPeriodsOfFractionsSaid : Prop := fnPeriodsOfFractionsRow.holds Try.pinned (OpenSpec.ofChange fnPeriodsOfFractionsSpec)

/-- ITS FALSE NEIGHBOUR: 'it returns false'. Refute it at one input. -/
def fnPeriodsOfFractionsWrong : ChangeSpec := { name := "fnPeriodsOfFractions", fn := fun _ => fun
  | [d1, d2] => { results := [.lit (.bool false)], args := [d1, d2] }
  | _ => none }
def FnPeriodsOfFractionsWrongFalsely : Prop := fnPeriodsOfFractionsRow.holds Try.pinned (OpenSpec.ofChange fnPeriodsOfFractionsWrong)

/-- 'laws.FnCyclicNumbers': WHATEVER THE INPUT: true; the input reads as it did. -/
def fnCyclicNumbersSpec : ChangeSpec := { name := "fnCyclicNumbers", fn := fun _ => fun
  | [d1, d2] => { results := [.lit (.bool true)], args := [d1, d2] }
  | _ => none }
def fnCyclicNumbersRow : OpenClaim := { program := "ytmdjmbmkgboeaaa", sum := "5e9f751e80156dcd85d7217d3dac88b93c427c2496934fb54cd45e52d1991972", func := "loop.example/g01151/laws.FnCyclicNumbers", spec := "fnCyclicNumbers", apart := false }
def FnCyclicNumbersSaid : Prop := fnCyclicNumbersRow.holds Try.pinned (OpenSpec.ofChange fnCyclicNumbersSpec)

/-- ITS FALSE NEIGHBOUR: 'it returns false'. Refute it at one input. -/
def fnCyclicNumbersWrong : ChangeSpec := { name := "fnCyclicNumbers", fn := fun _ => fun
  | [d1, d2] => { results := [.lit (.bool false)], args := [d1, d2] }
  | _ => none }
def FnCyclicNumbersWrongFalsely : Prop := fnCyclicNumbersRow.holds Try.pinned (OpenSpec.ofChange fnCyclicNumbersWrong)

/- THE SECOND FORM. 'bulk': how many values and letters a reading holds, each counted each time it is reached (what is shared counts as often as it is met; a slice's spare places count too). A statement '..UptoSaid' is the law's where the arguments, and the package variables that the reading takes, are together of bulk at most 1048576: NARROWER than '..Said'. Prove '..Said' where nothing that the law and all that it calls make is longer than what came in: it says more and counts as full. Else prove '..UptoSaid'. A law counts once. -/
mutual
def uptoBulk {H : Type} : DataW H → Nat
  | .lit (.string bytes) => bytes.length + 1
  | .lit _ => 1
  | .nil => 1
  | .ptr d => uptoBulk d + 1
  | .slice elems spare => uptoBulkAll elems + uptoBulkAll spare + 1
  | .agg parts => uptoBulkAll parts + 1
  | .iface _ d => uptoBulk d + 1
  | .map entries => uptoBulkEntries entries + 1
  | .held _ => 1
def uptoBulkAll {H : Type} : List (DataW H) → Nat
  | [] => 0
  | d :: r => uptoBulk d + uptoBulkAll r
def uptoBulkEntries {H : Type} : List (Lit × DataW H) → Nat
  | [] => 0
  | x :: r => uptoBulkEntry x + uptoBulkEntries r
def uptoBulkEntry {H : Type} : Lit × DataW H → Nat
  | (.string bytes, d) => bytes.length + uptoBulk d + 1
  | (_, d) => uptoBulk d + 1
 end
def uptoSmall : (H : Type) → List (DataW H) → Bool := fun _ ds => decide (uptoBulkAll ds ≤ 1048576)
def OpenSpec.upto (s : _root_.Go.ChangeSpec) : _root_.Go.OpenSpec := { _root_.Go.OpenSpec.ofChange s with cond := some uptoSmall }

/-- 'laws.FnWordsSay', WHERE WHAT IT READS IS OF BULK AT MOST 1048576: true; the input reads as it did. -/
def fnWordsSayUptoRow : OpenClaim := { program := "ytmdjmbmkgboeaaa", sum := "5e9f751e80156dcd85d7217d3dac88b93c427c2496934fb54cd45e52d1991972", func := "loop.example/g01151/laws.FnWordsSay", spec := "fnWordsSay", unfollowed := true, recurses := true, apart := false, narrowed := true }
def FnWordsSayUptoSaid : Prop := fnWordsSayUptoRow.holds Try.pinned (OpenSpec.upto fnWordsSaySpec)

/-- 'laws.FnSelfTellingLists', WHERE WHAT IT READS IS OF BULK AT MOST 1048576: true; the input reads as it did. -/
def fnSelfTellingListsUptoRow : OpenClaim := { program := "ytmdjmbmkgboeaaa", sum := "5e9f751e80156dcd85d7217d3dac88b93c427c2496934fb54cd45e52d1991972", func := "loop.example/g01151/laws.FnSelfTellingLists", spec := "fnSelfTellingLists", recurses := true, apart := false, narrowed := true }
def FnSelfTellingListsUptoSaid : Prop := fnSelfTellingListsUptoRow.holds Try.pinned (OpenSpec.upto fnSelfTellingListsSpec)

/-- 'laws.FnPeriodsOfFractions', WHERE WHAT IT READS IS OF BULK AT MOST 1048576: true; the input reads as it did. -/
def fnPeriodsOfFractionsUptoRow : OpenClaim := { program := "ytmdjmbmkgboeaaa", sum := "5e9f751e80156dcd85d7217d3dac88b93c427c2496934fb54cd45e52d1991972", func := "loop.example/g01151/laws.FnPeriodsOfFractions", spec := "fnPeriodsOfFractions", apart := false, narrowed := true }
def FnPeriodsOfFractionsUptoSaid : Prop := fnPeriodsOfFractionsUptoRow.holds Try.pinned (OpenSpec.upto fnPeriodsOfFractionsSpec)

/-- 'laws.FnCyclicNumbers', WHERE WHAT IT READS IS OF BULK AT MOST 1048576: true; the input reads as it did. -/
def fnCyclicNumbersUptoRow : OpenClaim := { program := "ytmdjmbmkgboeaaa", sum := "5e9f751e80156dcd85d7217d3dac88b93c427c2496934fb54cd45e52d1991972", func := "loop.example/g01151/laws.FnCyclicNumbers", spec := "fnCyclicNumbers", apart := false, narrowed := true }
def FnCyclicNumbersUptoSaid : Prop := fnCyclicNumbersUptoRow.holds Try.pinned (OpenSpec.upto fnCyclicNumbersSpec)

end Rows
end Go.Proofs.Ytmdjmbmkgboeaaa
