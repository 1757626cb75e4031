/-
  No cell of these rows narrows 'for every input' (looked for: loops, veiled, ifaces, maps, wideKeys, modest, calm, conditions, laid).
  DERIVED. THE GIVEN ROWS OF THIS SEAT. 6 by the template 'for every input the law returns true; each argument reads behind the call as it read before'; 0 by the template 'total and deterministic' (their statements: YtecnalkjlilgmabTotals.lean).
  GIVEN WITH THE SEED: the statements are not yours to turn. If you find one false, say at which input.
  Laid BY PROGRAM, IN A SANDBOX (cutbox-rows.mjs): the forced cells as the released guide's own fill.sh prints them over the translation fa204164d319439a… (all of the seat's roots in one cut). By AI agents, Wed Nov 11 2026. No macro, syntax, notation, axiom, sorry.
-/
import Derived.Test.YtecnalkjlilgmabChecked
import GoSem.Claim
import GoSem.ClaimJoined
import GoSem.ClaimMapViews
import Derived.JoinedTies
import Derived.KernelRfl
namespace Go.Proofs.Ytecnalkjlilgmab
/- THE CELL 'sum', in the pinned program and in every row, IS THE sha256 OF THE DUMP (.gsa) THAT YtecnalkjlilgmabProg.lean LOADS. Nothing in Lean hashes anything: it is a label: what it is worth is what the hold of that sum in a sandbox is worth. -/
noncomputable def Try.pinned : Pinned := { name := "ytecnalkjlilgmab", sum := "fa204164d319439aad3e00aac8da23bcb2c59fa4314bc6bc6a434c36df59f888", checked := Try.checked }
namespace Rows
def none {H : Type} : Left H := { results := [], args := [] }

/-- 'laws.FnExactLeastWith': WHATEVER THE INPUT: true; the input reads as it did. -/
def fnExactLeastWithSpec : ChangeSpec := { name := "fnExactLeastWith", fn := fun _ => fun
  | [d1, d2] => { results := [.lit (.bool true)], args := [d1, d2] }
  | _ => none }
def fnExactLeastWithRow : OpenClaim := { program := "ytecnalkjlilgmab", sum := "fa204164d319439aad3e00aac8da23bcb2c59fa4314bc6bc6a434c36df59f888", func := "loop.example/g01151/laws.FnExactLeastWith", spec := "fnExactLeastWith", apart := false }
def FnExactLeastWithSaid : Prop := fnExactLeastWithRow.holds Try.pinned (OpenSpec.ofChange fnExactLeastWithSpec)

/-- ITS FALSE NEIGHBOUR: 'it returns false'. Refute it at one input. -/
def fnExactLeastWithWrong : ChangeSpec := { name := "fnExactLeastWith", fn := fun _ => fun
  | [d1, d2] => { results := [.lit (.bool false)], args := [d1, d2] }
  | _ => none }
def FnExactLeastWithWrongFalsely : Prop := fnExactLeastWithRow.holds Try.pinned (OpenSpec.ofChange fnExactLeastWithWrong)

/-- 'laws.FnExactSameDigits': WHATEVER THE INPUT: true; the input reads as it did. -/
def fnExactSameDigitsSpec : ChangeSpec := { name := "fnExactSameDigits", fn := fun _ => fun
  | [d1, d2, d3] => { results := [.lit (.bool true)], args := [d1, d2, d3] }
  | _ => none }
def fnExactSameDigitsRow : OpenClaim := { program := "ytecnalkjlilgmab", sum := "fa204164d319439aad3e00aac8da23bcb2c59fa4314bc6bc6a434c36df59f888", func := "loop.example/g01151/laws.FnExactSameDigits", spec := "fnExactSameDigits", unfollowed := true, recurses := true, apart := false }
def FnExactSameDigitsSaid : Prop := fnExactSameDigitsRow.holds Try.pinned (OpenSpec.ofChange fnExactSameDigitsSpec)

/-- ITS FALSE NEIGHBOUR: 'it returns false'. Refute it at one input. -/
def fnExactSameDigitsWrong : ChangeSpec := { name := "fnExactSameDigits", fn := fun _ => fun
  | [d1, d2, d3] => { results := [.lit (.bool false)], args := [d1, d2, d3] }
  | _ => none }
def FnExactSameDigitsWrongFalsely : Prop := fnExactSameDigitsRow.holds Try.pinned (OpenSpec.ofChange fnExactSameDigitsWrong)

/-- 'laws.FnExactCountRearranged': WHATEVER THE INPUT: true; the input reads as it did. -/
def fnExactCountRearrangedSpec : ChangeSpec := { name := "fnExactCountRearranged", fn := fun _ => fun
  | [d1, d2] => { results := [.lit (.bool true)], args := [d1, d2] }
  | _ => none }
def fnExactCountRearrangedRow : OpenClaim := { program := "ytecnalkjlilgmab", sum := "fa204164d319439aad3e00aac8da23bcb2c59fa4314bc6bc6a434c36df59f888", func := "loop.example/g01151/laws.FnExactCountRearranged", spec := "fnExactCountRearranged", unfollowed := true, recurses := true, apart := false }
def FnExactCountRearrangedSaid : Prop := fnExactCountRearrangedRow.holds Try.pinned (OpenSpec.ofChange fnExactCountRearrangedSpec)

/-- ITS FALSE NEIGHBOUR: 'it returns false'. Refute it at one input. -/
def fnExactCountRearrangedWrong : ChangeSpec := { name := "fnExactCountRearranged", fn := fun _ => fun
  | [d1, d2] => { results := [.lit (.bool false)], args := [d1, d2] }
  | _ => none }
def FnExactCountRearrangedWrongFalsely : Prop := fnExactCountRearrangedRow.holds Try.pinned (OpenSpec.ofChange fnExactCountRearrangedWrong)

/-- 'laws.FnExactDigitalRoot': WHATEVER THE INPUT: true; the input reads as it did. -/
def fnExactDigitalRootSpec : ChangeSpec := { name := "fnExactDigitalRoot", fn := fun _ => fun
  | [d1, d2] => { results := [.lit (.bool true)], args := [d1, d2] }
  | _ => none }
def fnExactDigitalRootRow : OpenClaim := { program := "ytecnalkjlilgmab", sum := "fa204164d319439aad3e00aac8da23bcb2c59fa4314bc6bc6a434c36df59f888", func := "loop.example/g01151/laws.FnExactDigitalRoot", spec := "fnExactDigitalRoot", unfollowed := true, recurses := true, apart := false }
def FnExactDigitalRootSaid : Prop := fnExactDigitalRootRow.holds Try.pinned (OpenSpec.ofChange fnExactDigitalRootSpec)

/-- ITS FALSE NEIGHBOUR: 'it returns false'. Refute it at one input. -/
def fnExactDigitalRootWrong : ChangeSpec := { name := "fnExactDigitalRoot", fn := fun _ => fun
  | [d1, d2] => { results := [.lit (.bool false)], args := [d1, d2] }
  | _ => none }
def FnExactDigitalRootWrongFalsely : Prop := fnExactDigitalRootRow.holds Try.pinned (OpenSpec.ofChange fnExactDigitalRootWrong)

/-- 'laws.FnExactNumberText': WHATEVER THE INPUT: true; the input reads as it did. -/
def fnExactNumberTextSpec : ChangeSpec := { name := "fnExactNumberText", fn := fun _ => fun
  | [d1, d2] => { results := [.lit (.bool true)], args := [d1, d2] }
  | _ => none }
def fnExactNumberTextRow : OpenClaim := { program := "ytecnalkjlilgmab", sum := "fa204164d319439aad3e00aac8da23bcb2c59fa4314bc6bc6a434c36df59f888", func := "loop.example/g01151/laws.FnExactNumberText", spec := "fnExactNumberText", inPlace := ["internal/abi.NoEscape"], unfollowed := true, recurses := true, apart := false }
def FnExactNumberTextSaid : Prop := fnExactNumberTextRow.holds Try.pinned (OpenSpec.ofChange fnExactNumberTextSpec)

/-- ITS FALSE NEIGHBOUR: 'it returns false'. Refute it at one input. -/
def fnExactNumberTextWrong : ChangeSpec := { name := "fnExactNumberText", fn := fun _ => fun
  | [d1, d2] => { results := [.lit (.bool false)], args := [d1, d2] }
  | _ => none }
def FnExactNumberTextWrongFalsely : Prop := fnExactNumberTextRow.holds Try.pinned (OpenSpec.ofChange fnExactNumberTextWrong)

/-- 'laws.FnExactParseNumber': WHATEVER THE INPUT: true; the input reads as it did. -/
def fnExactParseNumberSpec : ChangeSpec := { name := "fnExactParseNumber", fn := fun _ => fun
  | [d1, d2] => { results := [.lit (.bool true)], args := [d1, d2] }
  | _ => none }
def fnExactParseNumberRow : OpenClaim := { program := "ytecnalkjlilgmab", sum := "fa204164d319439aad3e00aac8da23bcb2c59fa4314bc6bc6a434c36df59f888", func := "loop.example/g01151/laws.FnExactParseNumber", spec := "fnExactParseNumber", inPlace := ["internal/bytealg.IndexByteString"], apart := false }
def FnExactParseNumberSaid : Prop := fnExactParseNumberRow.holds Try.pinned (OpenSpec.ofChange fnExactParseNumberSpec)

/-- ITS FALSE NEIGHBOUR: 'it returns false'. Refute it at one input. -/
def fnExactParseNumberWrong : ChangeSpec := { name := "fnExactParseNumber", fn := fun _ => fun
  | [d1, d2] => { results := [.lit (.bool false)], args := [d1, d2] }
  | _ => none }
def FnExactParseNumberWrongFalsely : Prop := fnExactParseNumberRow.holds Try.pinned (OpenSpec.ofChange fnExactParseNumberWrong)

/- THE SECOND FORM. 'bulk': how many values and letters a reading holds, each counted each time it is reached (what is shared counts as often as it is met; a slice's spare places count too). A statement '..UptoSaid' is the law's where the arguments, and the package variables that the reading takes, are together of bulk at most 1048576: NARROWER than '..Said'. Prove '..Said' where nothing that the law and all that it calls make is longer than what came in: it says more and counts as full. Else prove '..UptoSaid'. A law counts once. -/
mutual
def uptoBulk {H : Type} : DataW H → Nat
  | .lit (.string bytes) => bytes.length + 1
  | .lit _ => 1
  | .nil => 1
  | .ptr d => uptoBulk d + 1
  | .slice elems spare => uptoBulkAll elems + uptoBulkAll spare + 1
  | .agg parts => uptoBulkAll parts + 1
  | .iface _ d => uptoBulk d + 1
  | .map entries => uptoBulkEntries entries + 1
  | .held _ => 1
def uptoBulkAll {H : Type} : List (DataW H) → Nat
  | [] => 0
  | d :: r => uptoBulk d + uptoBulkAll r
def uptoBulkEntries {H : Type} : List (Lit × DataW H) → Nat
  | [] => 0
  | x :: r => uptoBulkEntry x + uptoBulkEntries r
def uptoBulkEntry {H : Type} : Lit × DataW H → Nat
  | (.string bytes, d) => bytes.length + uptoBulk d + 1
  | (_, d) => uptoBulk d + 1
 end
def uptoSmall : (H : Type) → List (DataW H) → Bool := fun _ ds => decide (uptoBulkAll ds ≤ 1048576)
def OpenSpec.upto (s : _root_.Go.ChangeSpec) : _root_.Go.OpenSpec := { _root_.Go.OpenSpec.ofChange s with cond := some uptoSmall }

/-- 'laws.FnExactLeastWith', WHERE WHAT IT READS IS OF BULK AT MOST 1048576: true; the input reads as it did. -/
def fnExactLeastWithUptoRow : OpenClaim := { program := "ytecnalkjlilgmab", sum := "fa204164d319439aad3e00aac8da23bcb2c59fa4314bc6bc6a434c36df59f888", func := "loop.example/g01151/laws.FnExactLeastWith", spec := "fnExactLeastWith", apart := false, narrowed := true }
def FnExactLeastWithUptoSaid : Prop := fnExactLeastWithUptoRow.holds Try.pinned (OpenSpec.upto fnExactLeastWithSpec)

/-- 'laws.FnExactSameDigits', WHERE WHAT IT READS IS OF BULK AT MOST 1048576: true; the input reads as it did. -/
def fnExactSameDigitsUptoRow : OpenClaim := { program := "ytecnalkjlilgmab", sum := "fa204164d319439aad3e00aac8da23bcb2c59fa4314bc6bc6a434c36df59f888", func := "loop.example/g01151/laws.FnExactSameDigits", spec := "fnExactSameDigits", unfollowed := true, recurses := true, apart := false, narrowed := true }
def FnExactSameDigitsUptoSaid : Prop := fnExactSameDigitsUptoRow.holds Try.pinned (OpenSpec.upto fnExactSameDigitsSpec)

/-- 'laws.FnExactCountRearranged', WHERE WHAT IT READS IS OF BULK AT MOST 1048576: true; the input reads as it did. -/
def fnExactCountRearrangedUptoRow : OpenClaim := { program := "ytecnalkjlilgmab", sum := "fa204164d319439aad3e00aac8da23bcb2c59fa4314bc6bc6a434c36df59f888", func := "loop.example/g01151/laws.FnExactCountRearranged", spec := "fnExactCountRearranged", unfollowed := true, recurses := true, apart := false, narrowed := true }
def FnExactCountRearrangedUptoSaid : Prop := fnExactCountRearrangedUptoRow.holds Try.pinned (OpenSpec.upto fnExactCountRearrangedSpec)

/-- 'laws.FnExactDigitalRoot', WHERE WHAT IT READS IS OF BULK AT MOST 1048576: true; the input reads as it did. -/
def fnExactDigitalRootUptoRow : OpenClaim := { program := "ytecnalkjlilgmab", sum := "fa204164d319439aad3e00aac8da23bcb2c59fa4314bc6bc6a434c36df59f888", func := "loop.example/g01151/laws.FnExactDigitalRoot", spec := "fnExactDigitalRoot", unfollowed := true, recurses := true, apart := false, narrowed := true }
def FnExactDigitalRootUptoSaid : Prop := fnExactDigitalRootUptoRow.holds Try.pinned (OpenSpec.upto fnExactDigitalRootSpec)

/-- 'laws.FnExactNumberText', WHERE WHAT IT READS IS OF BULK AT MOST 1048576: true; the input reads as it did. -/
def fnExactNumberTextUptoRow : OpenClaim := { program := "ytecnalkjlilgmab", sum := "fa204164d319439aad3e00aac8da23bcb2c59fa4314bc6bc6a434c36df59f888", func := "loop.example/g01151/laws.FnExactNumberText", spec := "fnExactNumberText", inPlace := ["internal/abi.NoEscape"], unfollowed := true, recurses := true, apart := false, narrowed := true }
def FnExactNumberTextUptoSaid : Prop := fnExactNumberTextUptoRow.holds Try.pinned (OpenSpec.upto fnExactNumberTextSpec)

/-- 'laws.FnExactParseNumber', WHERE WHAT IT READS IS OF BULK AT MOST 1048576: true; the input reads as it did. -/
def fnExactParseNumberUptoRow : OpenClaim := { program := "ytecnalkjlilgmab", sum := "fa204164d319439aad3e00aac8da23bcb2c59fa4314bc6bc6a434c36df59f888", func := "loop.example/g01151/laws.FnExactParseNumber", spec := "fnExactParseNumber", inPlace := ["internal/bytealg.IndexByteString"], apart := false, narrowed := true }
def FnExactParseNumberUptoSaid : Prop := fnExactParseNumberUptoRow.holds Try.pinned (OpenSpec.upto fnExactParseNumberSpec)

end Rows
end Go.Proofs.Ytecnalkjlilgmab
