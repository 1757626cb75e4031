/-
  No cell of these rows narrows 'for every input' (looked for: loops, veiled, ifaces, maps, wideKeys, modest, calm, conditions, laid).
  DERIVED. THE GIVEN ROWS OF THIS SEAT. 12 by the template 'for every input the law returns true; each argument reads behind the call as it read before'; 0 by the template 'total and deterministic' (their statements: YtecnalkjlilgmaaTotals.lean).
  GIVEN WITH THE SEED: the statements are not yours to turn. If you find one false, say at which input.
  Laid BY PROGRAM, IN A SANDBOX (cutbox-rows.mjs): the forced cells as the released guide's own fill.sh prints them over the translation d053e312e8383574… (all of the seat's roots in one cut). By AI agents, Wed Nov 11 2026. No macro, syntax, notation, axiom, sorry.
-/
import Derived.Test.YtecnalkjlilgmaaChecked
import GoSem.Claim
import GoSem.ClaimJoined
import GoSem.ClaimMapViews
import Derived.JoinedTies
import Derived.KernelRfl
namespace Go.Proofs.Ytecnalkjlilgmaa
/- THE CELL 'sum', in the pinned program and in every row, IS THE sha256 OF THE DUMP (.gsa) THAT YtecnalkjlilgmaaProg.lean LOADS. Nothing in Lean hashes anything: it is a label: what it is worth is what the hold of that sum in a sandbox is worth. -/
noncomputable def Try.pinned : Pinned := { name := "ytecnalkjlilgmaa", sum := "d053e312e83835741a96ca4e2c27f2795ccb76ad846de6885f32528055a40e0d", checked := Try.checked }
namespace Rows
def none {H : Type} : Left H := { results := [], args := [] }

/-- 'laws.FnExactDigitsOf': WHATEVER THE INPUT: true; the input reads as it did. -/
def fnExactDigitsOfSpec : ChangeSpec := { name := "fnExactDigitsOf", fn := fun _ => fun
  | [d1, d2] => { results := [.lit (.bool true)], args := [d1, d2] }
  | _ => none }
def fnExactDigitsOfRow : OpenClaim := { program := "ytecnalkjlilgmaa", sum := "d053e312e83835741a96ca4e2c27f2795ccb76ad846de6885f32528055a40e0d", func := "loop.example/g01151/laws.FnExactDigitsOf", spec := "fnExactDigitsOf", unfollowed := true, recurses := true, apart := false }
def FnExactDigitsOfSaid : Prop := fnExactDigitsOfRow.holds Try.pinned (OpenSpec.ofChange fnExactDigitsOfSpec)

/-- ITS FALSE NEIGHBOUR: 'it returns false'. Refute it at one input. -/
def fnExactDigitsOfWrong : ChangeSpec := { name := "fnExactDigitsOf", fn := fun _ => fun
  | [d1, d2] => { results := [.lit (.bool false)], args := [d1, d2] }
  | _ => none }
def FnExactDigitsOfWrongFalsely : Prop := fnExactDigitsOfRow.holds Try.pinned (OpenSpec.ofChange fnExactDigitsOfWrong)

/-- 'laws.FnExactNumberOf': WHATEVER THE INPUT: true; the input reads as it did. -/
def fnExactNumberOfSpec : ChangeSpec := { name := "fnExactNumberOf", fn := fun _ => fun
  | [d1, d2] => { results := [.lit (.bool true)], args := [d1, d2] }
  | _ => none }
def fnExactNumberOfRow : OpenClaim := { program := "ytecnalkjlilgmaa", sum := "d053e312e83835741a96ca4e2c27f2795ccb76ad846de6885f32528055a40e0d", func := "loop.example/g01151/laws.FnExactNumberOf", spec := "fnExactNumberOf", apart := false }
def FnExactNumberOfSaid : Prop := fnExactNumberOfRow.holds Try.pinned (OpenSpec.ofChange fnExactNumberOfSpec)

/-- ITS FALSE NEIGHBOUR: 'it returns false'. Refute it at one input. -/
def fnExactNumberOfWrong : ChangeSpec := { name := "fnExactNumberOf", fn := fun _ => fun
  | [d1, d2] => { results := [.lit (.bool false)], args := [d1, d2] }
  | _ => none }
def FnExactNumberOfWrongFalsely : Prop := fnExactNumberOfRow.holds Try.pinned (OpenSpec.ofChange fnExactNumberOfWrong)

/-- 'laws.FnExactAreDigits': WHATEVER THE INPUT: true; the input reads as it did. -/
def fnExactAreDigitsSpec : ChangeSpec := { name := "fnExactAreDigits", fn := fun _ => fun
  | [d1, d2] => { results := [.lit (.bool true)], args := [d1, d2] }
  | _ => none }
def fnExactAreDigitsRow : OpenClaim := { program := "ytecnalkjlilgmaa", sum := "d053e312e83835741a96ca4e2c27f2795ccb76ad846de6885f32528055a40e0d", func := "loop.example/g01151/laws.FnExactAreDigits", spec := "fnExactAreDigits", apart := false }
def FnExactAreDigitsSaid : Prop := fnExactAreDigitsRow.holds Try.pinned (OpenSpec.ofChange fnExactAreDigitsSpec)

/-- ITS FALSE NEIGHBOUR: 'it returns false'. Refute it at one input. -/
def fnExactAreDigitsWrong : ChangeSpec := { name := "fnExactAreDigits", fn := fun _ => fun
  | [d1, d2] => { results := [.lit (.bool false)], args := [d1, d2] }
  | _ => none }
def FnExactAreDigitsWrongFalsely : Prop := fnExactAreDigitsRow.holds Try.pinned (OpenSpec.ofChange fnExactAreDigitsWrong)

/-- 'laws.FnExactCountDigits': WHATEVER THE INPUT: true; the input reads as it did. -/
def fnExactCountDigitsSpec : ChangeSpec := { name := "fnExactCountDigits", fn := fun _ => fun
  | [d1, d2] => { results := [.lit (.bool true)], args := [d1, d2] }
  | _ => none }
def fnExactCountDigitsRow : OpenClaim := { program := "ytecnalkjlilgmaa", sum := "d053e312e83835741a96ca4e2c27f2795ccb76ad846de6885f32528055a40e0d", func := "loop.example/g01151/laws.FnExactCountDigits", spec := "fnExactCountDigits", unfollowed := true, recurses := true, apart := false }
def FnExactCountDigitsSaid : Prop := fnExactCountDigitsRow.holds Try.pinned (OpenSpec.ofChange fnExactCountDigitsSpec)

/-- ITS FALSE NEIGHBOUR: 'it returns false'. Refute it at one input. -/
def fnExactCountDigitsWrong : ChangeSpec := { name := "fnExactCountDigits", fn := fun _ => fun
  | [d1, d2] => { results := [.lit (.bool false)], args := [d1, d2] }
  | _ => none }
def FnExactCountDigitsWrongFalsely : Prop := fnExactCountDigitsRow.holds Try.pinned (OpenSpec.ofChange fnExactCountDigitsWrong)

/-- 'laws.FnExactDigitSum': WHATEVER THE INPUT: true; the input reads as it did. -/
def fnExactDigitSumSpec : ChangeSpec := { name := "fnExactDigitSum", fn := fun _ => fun
  | [d1, d2] => { results := [.lit (.bool true)], args := [d1, d2] }
  | _ => none }
def fnExactDigitSumRow : OpenClaim := { program := "ytecnalkjlilgmaa", sum := "d053e312e83835741a96ca4e2c27f2795ccb76ad846de6885f32528055a40e0d", func := "loop.example/g01151/laws.FnExactDigitSum", spec := "fnExactDigitSum", unfollowed := true, recurses := true, apart := false }
def FnExactDigitSumSaid : Prop := fnExactDigitSumRow.holds Try.pinned (OpenSpec.ofChange fnExactDigitSumSpec)

/-- ITS FALSE NEIGHBOUR: 'it returns false'. Refute it at one input. -/
def fnExactDigitSumWrong : ChangeSpec := { name := "fnExactDigitSum", fn := fun _ => fun
  | [d1, d2] => { results := [.lit (.bool false)], args := [d1, d2] }
  | _ => none }
def FnExactDigitSumWrongFalsely : Prop := fnExactDigitSumRow.holds Try.pinned (OpenSpec.ofChange fnExactDigitSumWrong)

/-- 'laws.FnExactDigitProduct': WHATEVER THE INPUT: true; the input reads as it did. -/
def fnExactDigitProductSpec : ChangeSpec := { name := "fnExactDigitProduct", fn := fun _ => fun
  | [d1, d2] => { results := [.lit (.bool true)], args := [d1, d2] }
  | _ => none }
def fnExactDigitProductRow : OpenClaim := { program := "ytecnalkjlilgmaa", sum := "d053e312e83835741a96ca4e2c27f2795ccb76ad846de6885f32528055a40e0d", func := "loop.example/g01151/laws.FnExactDigitProduct", spec := "fnExactDigitProduct", unfollowed := true, recurses := true, apart := false }
def FnExactDigitProductSaid : Prop := fnExactDigitProductRow.holds Try.pinned (OpenSpec.ofChange fnExactDigitProductSpec)

/-- ITS FALSE NEIGHBOUR: 'it returns false'. Refute it at one input. -/
def fnExactDigitProductWrong : ChangeSpec := { name := "fnExactDigitProduct", fn := fun _ => fun
  | [d1, d2] => { results := [.lit (.bool false)], args := [d1, d2] }
  | _ => none }
def FnExactDigitProductWrongFalsely : Prop := fnExactDigitProductRow.holds Try.pinned (OpenSpec.ofChange fnExactDigitProductWrong)

/-- 'laws.FnExactReverseNumber': WHATEVER THE INPUT: true; the input reads as it did. -/
def fnExactReverseNumberSpec : ChangeSpec := { name := "fnExactReverseNumber", fn := fun _ => fun
  | [d1, d2] => { results := [.lit (.bool true)], args := [d1, d2] }
  | _ => none }
def fnExactReverseNumberRow : OpenClaim := { program := "ytecnalkjlilgmaa", sum := "d053e312e83835741a96ca4e2c27f2795ccb76ad846de6885f32528055a40e0d", func := "loop.example/g01151/laws.FnExactReverseNumber", spec := "fnExactReverseNumber", unfollowed := true, recurses := true, apart := false }
def FnExactReverseNumberSaid : Prop := fnExactReverseNumberRow.holds Try.pinned (OpenSpec.ofChange fnExactReverseNumberSpec)

/-- ITS FALSE NEIGHBOUR: 'it returns false'. Refute it at one input. -/
def fnExactReverseNumberWrong : ChangeSpec := { name := "fnExactReverseNumber", fn := fun _ => fun
  | [d1, d2] => { results := [.lit (.bool false)], args := [d1, d2] }
  | _ => none }
def FnExactReverseNumberWrongFalsely : Prop := fnExactReverseNumberRow.holds Try.pinned (OpenSpec.ofChange fnExactReverseNumberWrong)

/-- 'laws.FnExactIsPalindrome': WHATEVER THE INPUT: true; the input reads as it did. -/
def fnExactIsPalindromeSpec : ChangeSpec := { name := "fnExactIsPalindrome", fn := fun _ => fun
  | [d1, d2] => { results := [.lit (.bool true)], args := [d1, d2] }
  | _ => none }
def fnExactIsPalindromeRow : OpenClaim := { program := "ytecnalkjlilgmaa", sum := "d053e312e83835741a96ca4e2c27f2795ccb76ad846de6885f32528055a40e0d", func := "loop.example/g01151/laws.FnExactIsPalindrome", spec := "fnExactIsPalindrome", unfollowed := true, recurses := true, apart := false }
def FnExactIsPalindromeSaid : Prop := fnExactIsPalindromeRow.holds Try.pinned (OpenSpec.ofChange fnExactIsPalindromeSpec)

/-- ITS FALSE NEIGHBOUR: 'it returns false'. Refute it at one input. -/
def fnExactIsPalindromeWrong : ChangeSpec := { name := "fnExactIsPalindrome", fn := fun _ => fun
  | [d1, d2] => { results := [.lit (.bool false)], args := [d1, d2] }
  | _ => none }
def FnExactIsPalindromeWrongFalsely : Prop := fnExactIsPalindromeRow.holds Try.pinned (OpenSpec.ofChange fnExactIsPalindromeWrong)

/-- 'laws.FnExactNextPalindrome': WHATEVER THE INPUT: true; the input reads as it did. -/
def fnExactNextPalindromeSpec : ChangeSpec := { name := "fnExactNextPalindrome", fn := fun _ => fun
  | [d1, d2] => { results := [.lit (.bool true)], args := [d1, d2] }
  | _ => none }
def fnExactNextPalindromeRow : OpenClaim := { program := "ytecnalkjlilgmaa", sum := "d053e312e83835741a96ca4e2c27f2795ccb76ad846de6885f32528055a40e0d", func := "loop.example/g01151/laws.FnExactNextPalindrome", spec := "fnExactNextPalindrome", unfollowed := true, recurses := true, apart := false }
def FnExactNextPalindromeSaid : Prop := fnExactNextPalindromeRow.holds Try.pinned (OpenSpec.ofChange fnExactNextPalindromeSpec)

/-- ITS FALSE NEIGHBOUR: 'it returns false'. Refute it at one input. -/
def fnExactNextPalindromeWrong : ChangeSpec := { name := "fnExactNextPalindrome", fn := fun _ => fun
  | [d1, d2] => { results := [.lit (.bool false)], args := [d1, d2] }
  | _ => none }
def FnExactNextPalindromeWrongFalsely : Prop := fnExactNextPalindromeRow.holds Try.pinned (OpenSpec.ofChange fnExactNextPalindromeWrong)

/-- 'laws.FnExactSortedUp': WHATEVER THE INPUT: true; the input reads as it did. -/
def fnExactSortedUpSpec : ChangeSpec := { name := "fnExactSortedUp", fn := fun _ => fun
  | [d1, d2] => { results := [.lit (.bool true)], args := [d1, d2] }
  | _ => none }
def fnExactSortedUpRow : OpenClaim := { program := "ytecnalkjlilgmaa", sum := "d053e312e83835741a96ca4e2c27f2795ccb76ad846de6885f32528055a40e0d", func := "loop.example/g01151/laws.FnExactSortedUp", spec := "fnExactSortedUp", unfollowed := true, recurses := true, apart := false }
def FnExactSortedUpSaid : Prop := fnExactSortedUpRow.holds Try.pinned (OpenSpec.ofChange fnExactSortedUpSpec)

/-- ITS FALSE NEIGHBOUR: 'it returns false'. Refute it at one input. -/
def fnExactSortedUpWrong : ChangeSpec := { name := "fnExactSortedUp", fn := fun _ => fun
  | [d1, d2] => { results := [.lit (.bool false)], args := [d1, d2] }
  | _ => none }
def FnExactSortedUpWrongFalsely : Prop := fnExactSortedUpRow.holds Try.pinned (OpenSpec.ofChange fnExactSortedUpWrong)

/-- 'laws.FnExactSortedDown': WHATEVER THE INPUT: true; the input reads as it did. -/
def fnExactSortedDownSpec : ChangeSpec := { name := "fnExactSortedDown", fn := fun _ => fun
  | [d1, d2] => { results := [.lit (.bool true)], args := [d1, d2] }
  | _ => none }
def fnExactSortedDownRow : OpenClaim := { program := "ytecnalkjlilgmaa", sum := "d053e312e83835741a96ca4e2c27f2795ccb76ad846de6885f32528055a40e0d", func := "loop.example/g01151/laws.FnExactSortedDown", spec := "fnExactSortedDown", unfollowed := true, recurses := true, apart := false }
def FnExactSortedDownSaid : Prop := fnExactSortedDownRow.holds Try.pinned (OpenSpec.ofChange fnExactSortedDownSpec)

/-- ITS FALSE NEIGHBOUR: 'it returns false'. Refute it at one input. -/
def fnExactSortedDownWrong : ChangeSpec := { name := "fnExactSortedDown", fn := fun _ => fun
  | [d1, d2] => { results := [.lit (.bool false)], args := [d1, d2] }
  | _ => none }
def FnExactSortedDownWrongFalsely : Prop := fnExactSortedDownRow.holds Try.pinned (OpenSpec.ofChange fnExactSortedDownWrong)

/-- 'laws.FnExactDigitCounts': WHATEVER THE INPUT: true; the input reads as it did. -/
def fnExactDigitCountsSpec : ChangeSpec := { name := "fnExactDigitCounts", fn := fun _ => fun
  | [d1, d2] => { results := [.lit (.bool true)], args := [d1, d2] }
  | _ => none }
def fnExactDigitCountsRow : OpenClaim := { program := "ytecnalkjlilgmaa", sum := "d053e312e83835741a96ca4e2c27f2795ccb76ad846de6885f32528055a40e0d", func := "loop.example/g01151/laws.FnExactDigitCounts", spec := "fnExactDigitCounts", unfollowed := true, recurses := true, apart := false }
def FnExactDigitCountsSaid : Prop := fnExactDigitCountsRow.holds Try.pinned (OpenSpec.ofChange fnExactDigitCountsSpec)

/-- ITS FALSE NEIGHBOUR: 'it returns false'. Refute it at one input. -/
def fnExactDigitCountsWrong : ChangeSpec := { name := "fnExactDigitCounts", fn := fun _ => fun
  | [d1, d2] => { results := [.lit (.bool false)], args := [d1, d2] }
  | _ => none }
def FnExactDigitCountsWrongFalsely : Prop := fnExactDigitCountsRow.holds Try.pinned (OpenSpec.ofChange fnExactDigitCountsWrong)

/- THE SECOND FORM. 'bulk': how many values and letters a reading holds, each counted each time it is reached (what is shared counts as often as it is met; a slice's spare places count too). A statement '..UptoSaid' is the law's where the arguments, and the package variables that the reading takes, are together of bulk at most 1048576: NARROWER than '..Said'. Prove '..Said' where nothing that the law and all that it calls make is longer than what came in: it says more and counts as full. Else prove '..UptoSaid'. A law counts once. -/
mutual
def uptoBulk {H : Type} : DataW H → Nat
  | .lit (.string bytes) => bytes.length + 1
  | .lit _ => 1
  | .nil => 1
  | .ptr d => uptoBulk d + 1
  | .slice elems spare => uptoBulkAll elems + uptoBulkAll spare + 1
  | .agg parts => uptoBulkAll parts + 1
  | .iface _ d => uptoBulk d + 1
  | .map entries => uptoBulkEntries entries + 1
  | .held _ => 1
def uptoBulkAll {H : Type} : List (DataW H) → Nat
  | [] => 0
  | d :: r => uptoBulk d + uptoBulkAll r
def uptoBulkEntries {H : Type} : List (Lit × DataW H) → Nat
  | [] => 0
  | x :: r => uptoBulkEntry x + uptoBulkEntries r
def uptoBulkEntry {H : Type} : Lit × DataW H → Nat
  | (.string bytes, d) => bytes.length + uptoBulk d + 1
  | (_, d) => uptoBulk d + 1
 end
def uptoSmall : (H : Type) → List (DataW H) → Bool := fun _ ds => decide (uptoBulkAll ds ≤ 1048576)
def OpenSpec.upto (s : _root_.Go.ChangeSpec) : _root_.Go.OpenSpec := { _root_.Go.OpenSpec.ofChange s with cond := some uptoSmall }

/-- 'laws.FnExactDigitsOf', WHERE WHAT IT READS IS OF BULK AT MOST 1048576: true; the input reads as it did. -/
def fnExactDigitsOfUptoRow : OpenClaim := { program := "ytecnalkjlilgmaa", sum := "d053e312e83835741a96ca4e2c27f2795ccb76ad846de6885f32528055a40e0d", func := "loop.example/g01151/laws.FnExactDigitsOf", spec := "fnExactDigitsOf", unfollowed := true, recurses := true, apart := false, narrowed := true }
def FnExactDigitsOfUptoSaid : Prop := fnExactDigitsOfUptoRow.holds Try.pinned (OpenSpec.upto fnExactDigitsOfSpec)

/-- 'laws.FnExactNumberOf', WHERE WHAT IT READS IS OF BULK AT MOST 1048576: true; the input reads as it did. -/
def fnExactNumberOfUptoRow : OpenClaim := { program := "ytecnalkjlilgmaa", sum := "d053e312e83835741a96ca4e2c27f2795ccb76ad846de6885f32528055a40e0d", func := "loop.example/g01151/laws.FnExactNumberOf", spec := "fnExactNumberOf", apart := false, narrowed := true }
def FnExactNumberOfUptoSaid : Prop := fnExactNumberOfUptoRow.holds Try.pinned (OpenSpec.upto fnExactNumberOfSpec)

/-- 'laws.FnExactAreDigits', WHERE WHAT IT READS IS OF BULK AT MOST 1048576: true; the input reads as it did. -/
def fnExactAreDigitsUptoRow : OpenClaim := { program := "ytecnalkjlilgmaa", sum := "d053e312e83835741a96ca4e2c27f2795ccb76ad846de6885f32528055a40e0d", func := "loop.example/g01151/laws.FnExactAreDigits", spec := "fnExactAreDigits", apart := false, narrowed := true }
def FnExactAreDigitsUptoSaid : Prop := fnExactAreDigitsUptoRow.holds Try.pinned (OpenSpec.upto fnExactAreDigitsSpec)

/-- 'laws.FnExactCountDigits', WHERE WHAT IT READS IS OF BULK AT MOST 1048576: true; the input reads as it did. -/
def fnExactCountDigitsUptoRow : OpenClaim := { program := "ytecnalkjlilgmaa", sum := "d053e312e83835741a96ca4e2c27f2795ccb76ad846de6885f32528055a40e0d", func := "loop.example/g01151/laws.FnExactCountDigits", spec := "fnExactCountDigits", unfollowed := true, recurses := true, apart := false, narrowed := true }
def FnExactCountDigitsUptoSaid : Prop := fnExactCountDigitsUptoRow.holds Try.pinned (OpenSpec.upto fnExactCountDigitsSpec)

/-- 'laws.FnExactDigitSum', WHERE WHAT IT READS IS OF BULK AT MOST 1048576: true; the input reads as it did. -/
def fnExactDigitSumUptoRow : OpenClaim := { program := "ytecnalkjlilgmaa", sum := "d053e312e83835741a96ca4e2c27f2795ccb76ad846de6885f32528055a40e0d", func := "loop.example/g01151/laws.FnExactDigitSum", spec := "fnExactDigitSum", unfollowed := true, recurses := true, apart := false, narrowed := true }
def FnExactDigitSumUptoSaid : Prop := fnExactDigitSumUptoRow.holds Try.pinned (OpenSpec.upto fnExactDigitSumSpec)

/-- 'laws.FnExactDigitProduct', WHERE WHAT IT READS IS OF BULK AT MOST 1048576: true; the input reads as it did. -/
def fnExactDigitProductUptoRow : OpenClaim := { program := "ytecnalkjlilgmaa", sum := "d053e312e83835741a96ca4e2c27f2795ccb76ad846de6885f32528055a40e0d", func := "loop.example/g01151/laws.FnExactDigitProduct", spec := "fnExactDigitProduct", unfollowed := true, recurses := true, apart := false, narrowed := true }
def FnExactDigitProductUptoSaid : Prop := fnExactDigitProductUptoRow.holds Try.pinned (OpenSpec.upto fnExactDigitProductSpec)

/-- 'laws.FnExactReverseNumber', WHERE WHAT IT READS IS OF BULK AT MOST 1048576: true; the input reads as it did. -/
def fnExactReverseNumberUptoRow : OpenClaim := { program := "ytecnalkjlilgmaa", sum := "d053e312e83835741a96ca4e2c27f2795ccb76ad846de6885f32528055a40e0d", func := "loop.example/g01151/laws.FnExactReverseNumber", spec := "fnExactReverseNumber", unfollowed := true, recurses := true, apart := false, narrowed := true }
def FnExactReverseNumberUptoSaid : Prop := fnExactReverseNumberUptoRow.holds Try.pinned (OpenSpec.upto fnExactReverseNumberSpec)

/-- 'laws.FnExactIsPalindrome', WHERE WHAT IT READS IS OF BULK AT MOST 1048576: true; the input reads as it did. -/
def fnExactIsPalindromeUptoRow : OpenClaim := { program := "ytecnalkjlilgmaa", sum := "d053e312e83835741a96ca4e2c27f2795ccb76ad846de6885f32528055a40e0d", func := "loop.example/g01151/laws.FnExactIsPalindrome", spec := "fnExactIsPalindrome", unfollowed := true, recurses := true, apart := false, narrowed := true }
def FnExactIsPalindromeUptoSaid : Prop := fnExactIsPalindromeUptoRow.holds Try.pinned (OpenSpec.upto fnExactIsPalindromeSpec)

/-- 'laws.FnExactNextPalindrome', WHERE WHAT IT READS IS OF BULK AT MOST 1048576: true; the input reads as it did. -/
def fnExactNextPalindromeUptoRow : OpenClaim := { program := "ytecnalkjlilgmaa", sum := "d053e312e83835741a96ca4e2c27f2795ccb76ad846de6885f32528055a40e0d", func := "loop.example/g01151/laws.FnExactNextPalindrome", spec := "fnExactNextPalindrome", unfollowed := true, recurses := true, apart := false, narrowed := true }
def FnExactNextPalindromeUptoSaid : Prop := fnExactNextPalindromeUptoRow.holds Try.pinned (OpenSpec.upto fnExactNextPalindromeSpec)

/-- 'laws.FnExactSortedUp', WHERE WHAT IT READS IS OF BULK AT MOST 1048576: true; the input reads as it did. -/
def fnExactSortedUpUptoRow : OpenClaim := { program := "ytecnalkjlilgmaa", sum := "d053e312e83835741a96ca4e2c27f2795ccb76ad846de6885f32528055a40e0d", func := "loop.example/g01151/laws.FnExactSortedUp", spec := "fnExactSortedUp", unfollowed := true, recurses := true, apart := false, narrowed := true }
def FnExactSortedUpUptoSaid : Prop := fnExactSortedUpUptoRow.holds Try.pinned (OpenSpec.upto fnExactSortedUpSpec)

/-- 'laws.FnExactSortedDown', WHERE WHAT IT READS IS OF BULK AT MOST 1048576: true; the input reads as it did. -/
def fnExactSortedDownUptoRow : OpenClaim := { program := "ytecnalkjlilgmaa", sum := "d053e312e83835741a96ca4e2c27f2795ccb76ad846de6885f32528055a40e0d", func := "loop.example/g01151/laws.FnExactSortedDown", spec := "fnExactSortedDown", unfollowed := true, recurses := true, apart := false, narrowed := true }
def FnExactSortedDownUptoSaid : Prop := fnExactSortedDownUptoRow.holds Try.pinned (OpenSpec.upto fnExactSortedDownSpec)

/-- 'laws.FnExactDigitCounts', WHERE WHAT IT READS IS OF BULK AT MOST 1048576: true; the input reads as it did. -/
def fnExactDigitCountsUptoRow : OpenClaim := { program := "ytecnalkjlilgmaa", sum := "d053e312e83835741a96ca4e2c27f2795ccb76ad846de6885f32528055a40e0d", func := "loop.example/g01151/laws.FnExactDigitCounts", spec := "fnExactDigitCounts", unfollowed := true, recurses := true, apart := false, narrowed := true }
def FnExactDigitCountsUptoSaid : Prop := fnExactDigitCountsUptoRow.holds Try.pinned (OpenSpec.upto fnExactDigitCountsSpec)

end Rows
end Go.Proofs.Ytecnalkjlilgmaa
