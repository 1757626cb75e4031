/-
  No cell of these rows narrows 'for every input' (looked for: loops, veiled, ifaces, maps, wideKeys, modest, calm, conditions, laid).
  DERIVED. THE GIVEN ROWS OF THIS SEAT. 3 by the template 'for every input the law returns true; each argument reads behind the call as it read before'; 0 by the template 'total and deterministic' (their statements: YtnggfcopndcppaaTotals.lean).
  GIVEN WITH THE SEED: the statements are not yours to turn. If you find one false, say at which input.
  Laid BY PROGRAM, IN A SANDBOX (cutbox-rows.mjs): the forced cells as the released guide's own fill.sh prints them over the translation b6eb3904430dc914… (all of the seat's roots in one cut). By AI agents, Wed Nov 11 2026. No macro, syntax, notation, axiom, sorry.
-/
import Derived.Test.YtnggfcopndcppaaChecked
import GoSem.Claim
import GoSem.ClaimJoined
import GoSem.ClaimMapViews
import Derived.JoinedTies
import Derived.KernelRfl
namespace Go.Proofs.Ytnggfcopndcppaa
/- THE CELL 'sum', in the pinned program and in every row, IS THE sha256 OF THE DUMP (.gsa) THAT YtnggfcopndcppaaProg.lean LOADS. Nothing in Lean hashes anything: it is a label: what it is worth is what the hold of that sum in a sandbox is worth. -/
noncomputable def Try.pinned : Pinned := { name := "ytnggfcopndcppaa", sum := "b6eb3904430dc91495529ae815208ecd4c1131973392dc329e5f5479b4da2537", checked := Try.checked }
namespace Rows
def none {H : Type} : Left H := { results := [], args := [] }

/-- 'laws.FnAddedBackwards': WHATEVER THE INPUT: true; the input reads as it did. -/
def fnAddedBackwardsSpec : ChangeSpec := { name := "fnAddedBackwards", fn := fun _ => fun
  | [d1, d2] => { results := [.lit (.bool true)], args := [d1, d2] }
  | _ => none }
def fnAddedBackwardsRow : OpenClaim := { program := "ytnggfcopndcppaa", sum := "b6eb3904430dc91495529ae815208ecd4c1131973392dc329e5f5479b4da2537", func := "loop.example/g01151/laws.FnAddedBackwards", spec := "fnAddedBackwards", unfollowed := true, recurses := true, apart := false }
def FnAddedBackwardsSaid : Prop := fnAddedBackwardsRow.holds Try.pinned (OpenSpec.ofChange fnAddedBackwardsSpec)

/-- ITS FALSE NEIGHBOUR: 'it returns false'. Refute it at one input. -/
def fnAddedBackwardsWrong : ChangeSpec := { name := "fnAddedBackwards", fn := fun _ => fun
  | [d1, d2] => { results := [.lit (.bool false)], args := [d1, d2] }
  | _ => none }
def FnAddedBackwardsWrongFalsely : Prop := fnAddedBackwardsRow.holds Try.pinned (OpenSpec.ofChange fnAddedBackwardsWrong)

/-- 'laws.FnRunsToSymmetric': WHATEVER THE INPUT: true; the input reads as it did. -/
def fnRunsToSymmetricSpec : ChangeSpec := { name := "fnRunsToSymmetric", fn := fun _ => fun
  | [d1, d2] => { results := [.lit (.bool true)], args := [d1, d2] }
  | _ => none }
def fnRunsToSymmetricRow : OpenClaim := { program := "ytnggfcopndcppaa", sum := "b6eb3904430dc91495529ae815208ecd4c1131973392dc329e5f5479b4da2537", func := "loop.example/g01151/laws.FnRunsToSymmetric", spec := "fnRunsToSymmetric", unfollowed := true, recurses := true, apart := false }
def FnRunsToSymmetricSaid : Prop := fnRunsToSymmetricRow.holds Try.pinned (OpenSpec.ofChange fnRunsToSymmetricSpec)

/-- ITS FALSE NEIGHBOUR: 'it returns false'. Refute it at one input. -/
def fnRunsToSymmetricWrong : ChangeSpec := { name := "fnRunsToSymmetric", fn := fun _ => fun
  | [d1, d2] => { results := [.lit (.bool false)], args := [d1, d2] }
  | _ => none }
def FnRunsToSymmetricWrongFalsely : Prop := fnRunsToSymmetricRow.holds Try.pinned (OpenSpec.ofChange fnRunsToSymmetricWrong)

/-- 'laws.FnSourcesOfSums': WHATEVER THE INPUT: true; the input reads as it did. -/
def fnSourcesOfSumsSpec : ChangeSpec := { name := "fnSourcesOfSums", fn := fun _ => fun
  | [d1, d2] => { results := [.lit (.bool true)], args := [d1, d2] }
  | _ => none }
def fnSourcesOfSumsRow : OpenClaim := { program := "ytnggfcopndcppaa", sum := "b6eb3904430dc91495529ae815208ecd4c1131973392dc329e5f5479b4da2537", func := "loop.example/g01151/laws.FnSourcesOfSums", spec := "fnSourcesOfSums", recurses := true, apart := false }
def FnSourcesOfSumsSaid : Prop := fnSourcesOfSumsRow.holds Try.pinned (OpenSpec.ofChange fnSourcesOfSumsSpec)

/-- ITS FALSE NEIGHBOUR: 'it returns false'. Refute it at one input. -/
def fnSourcesOfSumsWrong : ChangeSpec := { name := "fnSourcesOfSums", fn := fun _ => fun
  | [d1, d2] => { results := [.lit (.bool false)], args := [d1, d2] }
  | _ => none }
def FnSourcesOfSumsWrongFalsely : Prop := fnSourcesOfSumsRow.holds Try.pinned (OpenSpec.ofChange fnSourcesOfSumsWrong)

/- THE SECOND FORM. 'bulk': how many values and letters a reading holds, each counted each time it is reached (what is shared counts as often as it is met; a slice's spare places count too). A statement '..UptoSaid' is the law's where the arguments, and the package variables that the reading takes, are together of bulk at most 1048576: NARROWER than '..Said'. Prove '..Said' where nothing that the law and all that it calls make is longer than what came in: it says more and counts as full. Else prove '..UptoSaid'. A law counts once. -/
mutual
def uptoBulk {H : Type} : DataW H → Nat
  | .lit (.string bytes) => bytes.length + 1
  | .lit _ => 1
  | .nil => 1
  | .ptr d => uptoBulk d + 1
  | .slice elems spare => uptoBulkAll elems + uptoBulkAll spare + 1
  | .agg parts => uptoBulkAll parts + 1
  | .iface _ d => uptoBulk d + 1
  | .map entries => uptoBulkEntries entries + 1
  | .held _ => 1
def uptoBulkAll {H : Type} : List (DataW H) → Nat
  | [] => 0
  | d :: r => uptoBulk d + uptoBulkAll r
def uptoBulkEntries {H : Type} : List (Lit × DataW H) → Nat
  | [] => 0
  | x :: r => uptoBulkEntry x + uptoBulkEntries r
def uptoBulkEntry {H : Type} : Lit × DataW H → Nat
  | (.string bytes, d) => bytes.length + uptoBulk d + 1
  | (_, d) => uptoBulk d + 1
 end
def uptoSmall : (H : Type) → List (DataW H) → Bool := fun _ ds => decide (uptoBulkAll ds ≤ 1048576)
def OpenSpec.upto (s : _root_.Go.ChangeSpec) : _root_.Go.OpenSpec := { _root_.Go.OpenSpec.ofChange s with cond := some uptoSmall }

/-- 'laws.FnAddedBackwards', WHERE WHAT IT READS IS OF BULK AT MOST 1048576: true; the input reads as it did. -/
def fnAddedBackwardsUptoRow : OpenClaim := { program := "ytnggfcopndcppaa", sum := "b6eb3904430dc91495529ae815208ecd4c1131973392dc329e5f5479b4da2537", func := "loop.example/g01151/laws.FnAddedBackwards", spec := "fnAddedBackwards", unfollowed := true, recurses := true, apart := false, narrowed := true }
def FnAddedBackwardsUptoSaid : Prop := fnAddedBackwardsUptoRow.holds Try.pinned (OpenSpec.upto fnAddedBackwardsSpec)

/-- 'laws.FnRunsToSymmetric', WHERE WHAT IT READS IS OF BULK AT MOST 1048576: true; the input reads as it did. -/
def fnRunsToSymmetricUptoRow : OpenClaim := { program := "ytnggfcopndcppaa", sum := "b6eb3904430dc91495529ae815208ecd4c1131973392dc329e5f5479b4da2537", func := "loop.example/g01151/laws.FnRunsToSymmetric", spec := "fnRunsToSymmetric", unfollowed := true, recurses := true, apart := false, narrowed := true }
def FnRunsToSymmetricUptoSaid : Prop := fnRunsToSymmetricUptoRow.holds Try.pinned (OpenSpec.upto fnRunsToSymmetricSpec)

/-- 'laws.FnSourcesOfSums', WHERE WHAT IT READS IS OF BULK AT MOST 1048576: true; the input reads as it did. -/
def fnSourcesOfSumsUptoRow : OpenClaim := { program := "ytnggfcopndcppaa", sum := "b6eb3904430dc91495529ae815208ecd4c1131973392dc329e5f5479b4da2537", func := "loop.example/g01151/laws.FnSourcesOfSums", spec := "fnSourcesOfSums", recurses := true, apart := false, narrowed := true }
def FnSourcesOfSumsUptoSaid : Prop := fnSourcesOfSumsUptoRow.holds Try.pinned (OpenSpec.upto fnSourcesOfSumsSpec)

end Rows
end Go.Proofs.Ytnggfcopndcppaa
