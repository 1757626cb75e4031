/-
  No cell of these rows narrows 'for every input' (looked for: loops, veiled, ifaces, maps, wideKeys, modest, calm, conditions, laid).
  DERIVED. THE GIVEN ROWS OF THIS SEAT. 3 by the template 'for every input the law returns true; each argument reads behind the call as it read before'; 0 by the template 'total and deterministic' (their statements: YtdlohdjejmpmcaaTotals.lean).
  GIVEN WITH THE SEED: the statements are not yours to turn. If you find one false, say at which input.
  Laid BY PROGRAM, IN A SANDBOX (cutbox-rows.mjs): the forced cells as the released guide's own fill.sh prints them over the translation 6ca59b42b8ecf941… (all of the seat's roots in one cut). By AI agents, Wed Nov 11 2026. No macro, syntax, notation, axiom, sorry.
-/
import Derived.Test.YtdlohdjejmpmcaaChecked
import GoSem.Claim
import GoSem.ClaimJoined
import GoSem.ClaimMapViews
import Derived.JoinedTies
import Derived.KernelRfl
namespace Go.Proofs.Ytdlohdjejmpmcaa
/- THE CELL 'sum', in the pinned program and in every row, IS THE sha256 OF THE DUMP (.gsa) THAT YtdlohdjejmpmcaaProg.lean LOADS. Nothing in Lean hashes anything: it is a label: what it is worth is what the hold of that sum in a sandbox is worth. -/
noncomputable def Try.pinned : Pinned := { name := "ytdlohdjejmpmcaa", sum := "6ca59b42b8ecf94100f84f0ee46d4d5d31a3c320918475cc743c7e46c99ad773", checked := Try.checked }
namespace Rows
def none {H : Type} : Left H := { results := [], args := [] }

/-- 'laws.FnDigitsTellNumbers': WHATEVER THE INPUT: true; the input reads as it did. -/
def fnDigitsTellNumbersSpec : ChangeSpec := { name := "fnDigitsTellNumbers", fn := fun _ => fun
  | [d1, d2] => { results := [.lit (.bool true)], args := [d1, d2] }
  | _ => none }
def fnDigitsTellNumbersRow : OpenClaim := { program := "ytdlohdjejmpmcaa", sum := "6ca59b42b8ecf94100f84f0ee46d4d5d31a3c320918475cc743c7e46c99ad773", func := "loop.example/g01151/laws.FnDigitsTellNumbers", spec := "fnDigitsTellNumbers", inPlace := ["internal/abi.NoEscape", "internal/bytealg.IndexByteString"], unfollowed := true, recurses := true, apart := false }
def FnDigitsTellNumbersSaid : Prop := fnDigitsTellNumbersRow.holds Try.pinned (OpenSpec.ofChange fnDigitsTellNumbersSpec)

/-- ITS FALSE NEIGHBOUR: 'it returns false'. Refute it at one input. -/
def fnDigitsTellNumbersWrong : ChangeSpec := { name := "fnDigitsTellNumbers", fn := fun _ => fun
  | [d1, d2] => { results := [.lit (.bool false)], args := [d1, d2] }
  | _ => none }
def FnDigitsTellNumbersWrongFalsely : Prop := fnDigitsTellNumbersRow.holds Try.pinned (OpenSpec.ofChange fnDigitsTellNumbersWrong)

/-- 'laws.FnSumsOfDigitsRun': WHATEVER THE INPUT: true; the input reads as it did. -/
def fnSumsOfDigitsRunSpec : ChangeSpec := { name := "fnSumsOfDigitsRun", fn := fun _ => fun
  | [d1, d2] => { results := [.lit (.bool true)], args := [d1, d2] }
  | _ => none }
def fnSumsOfDigitsRunRow : OpenClaim := { program := "ytdlohdjejmpmcaa", sum := "6ca59b42b8ecf94100f84f0ee46d4d5d31a3c320918475cc743c7e46c99ad773", func := "loop.example/g01151/laws.FnSumsOfDigitsRun", spec := "fnSumsOfDigitsRun", unfollowed := true, recurses := true, apart := false }
def FnSumsOfDigitsRunSaid : Prop := fnSumsOfDigitsRunRow.holds Try.pinned (OpenSpec.ofChange fnSumsOfDigitsRunSpec)

/-- ITS FALSE NEIGHBOUR: 'it returns false'. Refute it at one input. -/
def fnSumsOfDigitsRunWrong : ChangeSpec := { name := "fnSumsOfDigitsRun", fn := fun _ => fun
  | [d1, d2] => { results := [.lit (.bool false)], args := [d1, d2] }
  | _ => none }
def FnSumsOfDigitsRunWrongFalsely : Prop := fnSumsOfDigitsRunRow.holds Try.pinned (OpenSpec.ofChange fnSumsOfDigitsRunWrong)

/-- 'laws.FnNumbersByDigits': WHATEVER THE INPUT: true; the input reads as it did. -/
def fnNumbersByDigitsSpec : ChangeSpec := { name := "fnNumbersByDigits", fn := fun _ => fun
  | [d1, d2] => { results := [.lit (.bool true)], args := [d1, d2] }
  | _ => none }
def fnNumbersByDigitsRow : OpenClaim := { program := "ytdlohdjejmpmcaa", sum := "6ca59b42b8ecf94100f84f0ee46d4d5d31a3c320918475cc743c7e46c99ad773", func := "loop.example/g01151/laws.FnNumbersByDigits", spec := "fnNumbersByDigits", unfollowed := true, recurses := true, apart := false }
def FnNumbersByDigitsSaid : Prop := fnNumbersByDigitsRow.holds Try.pinned (OpenSpec.ofChange fnNumbersByDigitsSpec)

/-- ITS FALSE NEIGHBOUR: 'it returns false'. Refute it at one input. -/
def fnNumbersByDigitsWrong : ChangeSpec := { name := "fnNumbersByDigits", fn := fun _ => fun
  | [d1, d2] => { results := [.lit (.bool false)], args := [d1, d2] }
  | _ => none }
def FnNumbersByDigitsWrongFalsely : Prop := fnNumbersByDigitsRow.holds Try.pinned (OpenSpec.ofChange fnNumbersByDigitsWrong)

/- THE SECOND FORM. 'bulk': how many values and letters a reading holds, each counted each time it is reached (what is shared counts as often as it is met; a slice's spare places count too). A statement '..UptoSaid' is the law's where the arguments, and the package variables that the reading takes, are together of bulk at most 1048576: NARROWER than '..Said'. Prove '..Said' where nothing that the law and all that it calls make is longer than what came in: it says more and counts as full. Else prove '..UptoSaid'. A law counts once. -/
mutual
def uptoBulk {H : Type} : DataW H → Nat
  | .lit (.string bytes) => bytes.length + 1
  | .lit _ => 1
  | .nil => 1
  | .ptr d => uptoBulk d + 1
  | .slice elems spare => uptoBulkAll elems + uptoBulkAll spare + 1
  | .agg parts => uptoBulkAll parts + 1
  | .iface _ d => uptoBulk d + 1
  | .map entries => uptoBulkEntries entries + 1
  | .held _ => 1
def uptoBulkAll {H : Type} : List (DataW H) → Nat
  | [] => 0
  | d :: r => uptoBulk d + uptoBulkAll r
def uptoBulkEntries {H : Type} : List (Lit × DataW H) → Nat
  | [] => 0
  | x :: r => uptoBulkEntry x + uptoBulkEntries r
def uptoBulkEntry {H : Type} : Lit × DataW H → Nat
  | (.string bytes, d) => bytes.length + uptoBulk d + 1
  | (_, d) => uptoBulk d + 1
 end
def uptoSmall : (H : Type) → List (DataW H) → Bool := fun _ ds => decide (uptoBulkAll ds ≤ 1048576)
def OpenSpec.upto (s : _root_.Go.ChangeSpec) : _root_.Go.OpenSpec := { _root_.Go.OpenSpec.ofChange s with cond := some uptoSmall }

/-- 'laws.FnDigitsTellNumbers', WHERE WHAT IT READS IS OF BULK AT MOST 1048576: true; the input reads as it did. -/
def fnDigitsTellNumbersUptoRow : OpenClaim := { program := "ytdlohdjejmpmcaa", sum := "6ca59b42b8ecf94100f84f0ee46d4d5d31a3c320918475cc743c7e46c99ad773", func := "loop.example/g01151/laws.FnDigitsTellNumbers", spec := "fnDigitsTellNumbers", inPlace := ["internal/abi.NoEscape", "internal/bytealg.IndexByteString"], unfollowed := true, recurses := true, apart := false, narrowed := true }
def FnDigitsTellNumbersUptoSaid : Prop := fnDigitsTellNumbersUptoRow.holds Try.pinned (OpenSpec.upto fnDigitsTellNumbersSpec)

/-- 'laws.FnSumsOfDigitsRun', WHERE WHAT IT READS IS OF BULK AT MOST 1048576: true; the input reads as it did. -/
def fnSumsOfDigitsRunUptoRow : OpenClaim := { program := "ytdlohdjejmpmcaa", sum := "6ca59b42b8ecf94100f84f0ee46d4d5d31a3c320918475cc743c7e46c99ad773", func := "loop.example/g01151/laws.FnSumsOfDigitsRun", spec := "fnSumsOfDigitsRun", unfollowed := true, recurses := true, apart := false, narrowed := true }
def FnSumsOfDigitsRunUptoSaid : Prop := fnSumsOfDigitsRunUptoRow.holds Try.pinned (OpenSpec.upto fnSumsOfDigitsRunSpec)

/-- 'laws.FnNumbersByDigits', WHERE WHAT IT READS IS OF BULK AT MOST 1048576: true; the input reads as it did. -/
def fnNumbersByDigitsUptoRow : OpenClaim := { program := "ytdlohdjejmpmcaa", sum := "6ca59b42b8ecf94100f84f0ee46d4d5d31a3c320918475cc743c7e46c99ad773", func := "loop.example/g01151/laws.FnNumbersByDigits", spec := "fnNumbersByDigits", unfollowed := true, recurses := true, apart := false, narrowed := true }
def FnNumbersByDigitsUptoSaid : Prop := fnNumbersByDigitsUptoRow.holds Try.pinned (OpenSpec.upto fnNumbersByDigitsSpec)

end Rows
end Go.Proofs.Ytdlohdjejmpmcaa
