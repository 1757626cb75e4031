/-
  No cell of these rows narrows 'for every input' (looked for: loops, veiled, ifaces, maps, wideKeys, modest, calm, conditions, laid).
  DERIVED. THE GIVEN ROWS OF THIS SEAT. 4 by the template 'for every input the law returns true; each argument reads behind the call as it read before'; 0 by the template 'total and deterministic' (their statements: YtadjjmlneghklaaTotals.lean).
  GIVEN WITH THE SEED: the statements are not yours to turn. If you find one false, say at which input.
  Laid BY PROGRAM, IN A SANDBOX (cutbox-rows.mjs): the forced cells as the released guide's own fill.sh prints them over the translation 6863523a8c76b1dd… (all of the seat's roots in one cut). By AI agents, Wed Nov 11 2026. No macro, syntax, notation, axiom, sorry.
-/
import Derived.Test.YtadjjmlneghklaaChecked
import GoSem.Claim
import GoSem.ClaimJoined
import GoSem.ClaimMapViews
import Derived.JoinedTies
import Derived.KernelRfl
namespace Go.Proofs.Ytadjjmlneghklaa
/- THE CELL 'sum', in the pinned program and in every row, IS THE sha256 OF THE DUMP (.gsa) THAT YtadjjmlneghklaaProg.lean LOADS. Nothing in Lean hashes anything: it is a label: what it is worth is what the hold of that sum in a sandbox is worth. -/
noncomputable def Try.pinned : Pinned := { name := "ytadjjmlneghklaa", sum := "6863523a8c76b1dd55cc94d25454d88759511b19416d358dd3bcfc7d844d8815", checked := Try.checked }
namespace Rows
def none {H : Type} : Left H := { results := [], args := [] }

/-- 'laws.FnExactAllCycles': WHATEVER THE INPUT: true; the input reads as it did. -/
def fnExactAllCyclesSpec : ChangeSpec := { name := "fnExactAllCycles", fn := fun _ => fun
  | [d1, d2] => { results := [.lit (.bool true)], args := [d1, d2] }
  | _ => none }
def fnExactAllCyclesRow : OpenClaim := { program := "ytadjjmlneghklaa", sum := "6863523a8c76b1dd55cc94d25454d88759511b19416d358dd3bcfc7d844d8815", func := "loop.example/g01151/laws.FnExactAllCycles", spec := "fnExactAllCycles", unfollowed := true, recurses := true, apart := false }
def FnExactAllCyclesSaid : Prop := fnExactAllCyclesRow.holds Try.pinned (OpenSpec.ofChange fnExactAllCyclesSpec)

/-- ITS FALSE NEIGHBOUR: 'it returns false'. Refute it at one input. -/
def fnExactAllCyclesWrong : ChangeSpec := { name := "fnExactAllCycles", fn := fun _ => fun
  | [d1, d2] => { results := [.lit (.bool false)], args := [d1, d2] }
  | _ => none }
def FnExactAllCyclesWrongFalsely : Prop := fnExactAllCyclesRow.holds Try.pinned (OpenSpec.ofChange fnExactAllCyclesWrong)

/-- 'laws.FnExactFixedWords': WHATEVER THE INPUT: true; the input reads as it did. -/
def fnExactFixedWordsSpec : ChangeSpec := { name := "fnExactFixedWords", fn := fun _ => fun
  | [d1, d2] => { results := [.lit (.bool true)], args := [d1, d2] }
  | _ => none }
def fnExactFixedWordsRow : OpenClaim := { program := "ytadjjmlneghklaa", sum := "6863523a8c76b1dd55cc94d25454d88759511b19416d358dd3bcfc7d844d8815", func := "loop.example/g01151/laws.FnExactFixedWords", spec := "fnExactFixedWords", unfollowed := true, recurses := true, apart := false }
def FnExactFixedWordsSaid : Prop := fnExactFixedWordsRow.holds Try.pinned (OpenSpec.ofChange fnExactFixedWordsSpec)

/-- ITS FALSE NEIGHBOUR: 'it returns false'. Refute it at one input. -/
def fnExactFixedWordsWrong : ChangeSpec := { name := "fnExactFixedWords", fn := fun _ => fun
  | [d1, d2] => { results := [.lit (.bool false)], args := [d1, d2] }
  | _ => none }
def FnExactFixedWordsWrongFalsely : Prop := fnExactFixedWordsRow.holds Try.pinned (OpenSpec.ofChange fnExactFixedWordsWrong)

/-- 'laws.FnExactCountReaching': WHATEVER THE INPUT: true; the input reads as it did. -/
def fnExactCountReachingSpec : ChangeSpec := { name := "fnExactCountReaching", fn := fun _ => fun
  | [d1, d2] => { results := [.lit (.bool true)], args := [d1, d2] }
  | _ => none }
def fnExactCountReachingRow : OpenClaim := { program := "ytadjjmlneghklaa", sum := "6863523a8c76b1dd55cc94d25454d88759511b19416d358dd3bcfc7d844d8815", func := "loop.example/g01151/laws.FnExactCountReaching", spec := "fnExactCountReaching", unfollowed := true, recurses := true, apart := false }
def FnExactCountReachingSaid : Prop := fnExactCountReachingRow.holds Try.pinned (OpenSpec.ofChange fnExactCountReachingSpec)

/-- ITS FALSE NEIGHBOUR: 'it returns false'. Refute it at one input. -/
def fnExactCountReachingWrong : ChangeSpec := { name := "fnExactCountReaching", fn := fun _ => fun
  | [d1, d2] => { results := [.lit (.bool false)], args := [d1, d2] }
  | _ => none }
def FnExactCountReachingWrongFalsely : Prop := fnExactCountReachingRow.holds Try.pinned (OpenSpec.ofChange fnExactCountReachingWrong)

/-- 'laws.FnExactLongestTail': WHATEVER THE INPUT: true; the input reads as it did. -/
def fnExactLongestTailSpec : ChangeSpec := { name := "fnExactLongestTail", fn := fun _ => fun
  | [d1, d2] => { results := [.lit (.bool true)], args := [d1, d2] }
  | _ => none }
def fnExactLongestTailRow : OpenClaim := { program := "ytadjjmlneghklaa", sum := "6863523a8c76b1dd55cc94d25454d88759511b19416d358dd3bcfc7d844d8815", func := "loop.example/g01151/laws.FnExactLongestTail", spec := "fnExactLongestTail", unfollowed := true, recurses := true, apart := false }
def FnExactLongestTailSaid : Prop := fnExactLongestTailRow.holds Try.pinned (OpenSpec.ofChange fnExactLongestTailSpec)

/-- ITS FALSE NEIGHBOUR: 'it returns false'. Refute it at one input. -/
def fnExactLongestTailWrong : ChangeSpec := { name := "fnExactLongestTail", fn := fun _ => fun
  | [d1, d2] => { results := [.lit (.bool false)], args := [d1, d2] }
  | _ => none }
def FnExactLongestTailWrongFalsely : Prop := fnExactLongestTailRow.holds Try.pinned (OpenSpec.ofChange fnExactLongestTailWrong)

/- THE SECOND FORM. 'bulk': how many values and letters a reading holds, each counted each time it is reached (what is shared counts as often as it is met; a slice's spare places count too). A statement '..UptoSaid' is the law's where the arguments, and the package variables that the reading takes, are together of bulk at most 1048576: NARROWER than '..Said'. Prove '..Said' where nothing that the law and all that it calls make is longer than what came in: it says more and counts as full. Else prove '..UptoSaid'. A law counts once. -/
mutual
def uptoBulk {H : Type} : DataW H → Nat
  | .lit (.string bytes) => bytes.length + 1
  | .lit _ => 1
  | .nil => 1
  | .ptr d => uptoBulk d + 1
  | .slice elems spare => uptoBulkAll elems + uptoBulkAll spare + 1
  | .agg parts => uptoBulkAll parts + 1
  | .iface _ d => uptoBulk d + 1
  | .map entries => uptoBulkEntries entries + 1
  | .held _ => 1
def uptoBulkAll {H : Type} : List (DataW H) → Nat
  | [] => 0
  | d :: r => uptoBulk d + uptoBulkAll r
def uptoBulkEntries {H : Type} : List (Lit × DataW H) → Nat
  | [] => 0
  | x :: r => uptoBulkEntry x + uptoBulkEntries r
def uptoBulkEntry {H : Type} : Lit × DataW H → Nat
  | (.string bytes, d) => bytes.length + uptoBulk d + 1
  | (_, d) => uptoBulk d + 1
 end
def uptoSmall : (H : Type) → List (DataW H) → Bool := fun _ ds => decide (uptoBulkAll ds ≤ 1048576)
def OpenSpec.upto (s : _root_.Go.ChangeSpec) : _root_.Go.OpenSpec := { _root_.Go.OpenSpec.ofChange s with cond := some uptoSmall }

/-- 'laws.FnExactAllCycles', WHERE WHAT IT READS IS OF BULK AT MOST 1048576: true; the input reads as it did. -/
def fnExactAllCyclesUptoRow : OpenClaim := { program := "ytadjjmlneghklaa", sum := "6863523a8c76b1dd55cc94d25454d88759511b19416d358dd3bcfc7d844d8815", func := "loop.example/g01151/laws.FnExactAllCycles", spec := "fnExactAllCycles", unfollowed := true, recurses := true, apart := false, narrowed := true }
def FnExactAllCyclesUptoSaid : Prop := fnExactAllCyclesUptoRow.holds Try.pinned (OpenSpec.upto fnExactAllCyclesSpec)

/-- 'laws.FnExactFixedWords', WHERE WHAT IT READS IS OF BULK AT MOST 1048576: true; the input reads as it did. -/
def fnExactFixedWordsUptoRow : OpenClaim := { program := "ytadjjmlneghklaa", sum := "6863523a8c76b1dd55cc94d25454d88759511b19416d358dd3bcfc7d844d8815", func := "loop.example/g01151/laws.FnExactFixedWords", spec := "fnExactFixedWords", unfollowed := true, recurses := true, apart := false, narrowed := true }
def FnExactFixedWordsUptoSaid : Prop := fnExactFixedWordsUptoRow.holds Try.pinned (OpenSpec.upto fnExactFixedWordsSpec)

/-- 'laws.FnExactCountReaching', WHERE WHAT IT READS IS OF BULK AT MOST 1048576: true; the input reads as it did. -/
def fnExactCountReachingUptoRow : OpenClaim := { program := "ytadjjmlneghklaa", sum := "6863523a8c76b1dd55cc94d25454d88759511b19416d358dd3bcfc7d844d8815", func := "loop.example/g01151/laws.FnExactCountReaching", spec := "fnExactCountReaching", unfollowed := true, recurses := true, apart := false, narrowed := true }
def FnExactCountReachingUptoSaid : Prop := fnExactCountReachingUptoRow.holds Try.pinned (OpenSpec.upto fnExactCountReachingSpec)

/-- 'laws.FnExactLongestTail', WHERE WHAT IT READS IS OF BULK AT MOST 1048576: true; the input reads as it did. -/
def fnExactLongestTailUptoRow : OpenClaim := { program := "ytadjjmlneghklaa", sum := "6863523a8c76b1dd55cc94d25454d88759511b19416d358dd3bcfc7d844d8815", func := "loop.example/g01151/laws.FnExactLongestTail", spec := "fnExactLongestTail", unfollowed := true, recurses := true, apart := false, narrowed := true }
def FnExactLongestTailUptoSaid : Prop := fnExactLongestTailUptoRow.holds Try.pinned (OpenSpec.upto fnExactLongestTailSpec)

end Rows
end Go.Proofs.Ytadjjmlneghklaa
