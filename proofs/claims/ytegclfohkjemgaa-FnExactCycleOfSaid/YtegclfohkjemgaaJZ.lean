/-
  Answers of TailOf.
-/
import Derived.Test.YtegclfohkjemgaaJW
import Derived.Test.YtegclfohkjemgaaJY
namespace Go.Proofs.Ytegclfohkjemgaa
open Go.RowKit
set_option linter.unusedVariables false
set_option linter.unusedSimpArgs false
set_option maxRecDepth 100000

/-- The value of a word. -/
def vN (b : Int) (xs : List Int) : Nat := (vl b xs).toNat
/-- The words of its run, how many they are, and how many are in no cycle. -/
abbrev fR (xs : List Int) (b : Int) : Nat → List Int := rw' b xs.length (vN b xs)
abbrev nL (xs : List Int) (b : Int) : Nat := rl (sN b xs.length) RM (vN b xs)
abbrev nT (xs : List Int) (b : Int) : Nat := tl (sN b xs.length) RM (vN b xs)
theorem vN_bd {b : Int} {xs : List Int} (hb : 2 ≤ b) (hx : ∀ x ∈ xs, 0 ≤ x ∧ x ≤ b - 1) : ((vN b xs : Nat) : Int) = vl b xs ∧ ((vN b xs : Nat) : Int) < b ^ xs.length := by
  have := vl_bd hb xs.length xs rfl hx
  unfold vN; omega
theorem fR_zero {b : Int} {xs : List Int} (hb : 2 ≤ b) (hx : ∀ x ∈ xs, 0 ≤ x ∧ x ≤ b - 1) : fR xs b 0 = xs := by
  show wd b xs.length ((vN b xs : Nat) : Int) = xs
  rw [(vN_bd hb hx).1]
  exact wd_vl hb xs.length xs rfl hx
theorem rn_word {b : Int} {xs : List Int} (hb : 2 ≤ b) (hb' : b ≤ 16) (hl : xs.length ≤ 8) (hx : ∀ x ∈ xs, 0 ≤ x ∧ x ≤ b - 1) : Rn (fR xs b) (nL xs b) (nT xs b) xs.length b :=
  rn_of (M := (b - 1).toNat) (by omega) (by omega) (by omega) hl (vN_bd hb hx).2

def VA_TailOf (xs : List Int) (b : Int) : Int := if okW xs b = true then ((nT xs b : Nat) : Int) else 0
def VB_TailOf (xs : List Int) (b : Int) : Int := if okW xs b = true then ((nL xs b - nT xs b : Nat) : Int) else 0
abbrev VAL_TailOf (xs : List Int) (b : Int) : Value := .tuple #[.int .i64 (VA_TailOf xs b), .int .i64 (VB_TailOf xs b), .bool (okW xs b)]

theorem spec_TailOf (v : Value) (xs : List Int) (b : Int) (B : Nat) (w : World) (h : Rd w B v xs) (hl : xs.length ≤ 1048576) :
    Calls Try.prog 31 #[v, .int .i64 b] w fun e w' => e = .returned (VAL_TailOf xs b) ∧ Below w.heap.size w w' := by
  have H := Lib.hid h
  obtain ⟨a, cap, rfl⟩ := h.sl.len
  clear h
  have HVA := Lib.hid (show VA_TailOf xs b = (if okW xs b = true then ((nT xs b : Nat) : Int) else 0) from rfl)
  have HVB := Lib.hid (show VB_TailOf xs b = (if okW xs b = true then ((nL xs b - nT xs b : Nat) : Int) else 0) from rfl)
  rw [VAL_TailOf, HVA.out, HVB.out]
  rcases okW_cases xs b with ⟨hq, l1, l8, b2, b16, hx⟩ | hq
  · rw [hq, if_pos rfl, if_pos rfl]
    have HRN := Lib.hid (rn_word b2 b16 l8 hx)
    have HF0 := Lib.hid (fR_zero b2 hx)
    have hLb := HRN.out.lenL
    have hTb := HRN.out.tl
    have HGR := Lib.hid (fun (u : Value) (w' : World) (h : Rd w' B u xs) => gpRun_any u (fR xs b) _ _ _ b B w' (by rw [HF0.out]; exact h) HRN.out b2 b16 l8)
    obtain ⟨L, hL⟩ : ∃ L, L = nL xs b := ⟨_, rfl⟩
    obtain ⟨T, hT⟩ : ∃ T, T = nT xs b := ⟨_, rfl⟩
    rw [← hL, ← hT] at HGR hTb
    rw [← hL] at hLb
    rw [← hL, ← hT]
    clear hx hL hT HRN HVA HVB
    go_enter Try.func31, Try.ntmps31
    go_wp2_with (first | (go_at_call 52; refine (gpWord_any _ xs b _ _ H.out (by omega)).mono ?_; rw [hq]; rintro e w1 ⟨rfl, rfl⟩) | (go_at_call 66; refine (HGR.out _ _ H.out).mono ?_; rintro e w1 ⟨g, c, vs, rfl, hr, hb1⟩; have B1 := Lib.hid hb1; clear hr hb1))
    refine bodyPost_ret (v := .tuple #[.int .i64 (T : Int), .int .i64 ((L - T : Nat) : Int), .bool true]) ?_ rfl ⟨rfl, B1.out⟩
    have e : (L : Int) - (T : Int) = ((L - T : Nat) : Int) := by omega
    simp [results, Try.results31, go_sem, e]
  · rw [hq, if_neg (by simp), if_neg (by simp)]
    go_enter Try.func31, Try.ntmps31
    go_wp2_with (go_at_call 52; refine (gpWord_any _ xs b _ _ H.out (by omega)).mono ?_; rw [hq]; rintro e w1 ⟨rfl, rfl⟩)
    exact bodyPost_ret (v := .tuple #[.int .i64 0, .int .i64 0, .bool false]) (by simp [results, Try.results31, go_sem]) rfl ⟨rfl, Below.refl _ _⟩

end Go.Proofs.Ytegclfohkjemgaa
