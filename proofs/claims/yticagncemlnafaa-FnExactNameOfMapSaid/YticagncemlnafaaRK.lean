/-
  Answers of NameOfMap and AreMapsAlike.
-/
import Derived.Test.YticagncemlnafaaRJ
namespace Go.Proofs.Yticagncemlnafaa
open Go.RowKit
set_option linter.unusedVariables false
set_option linter.unusedSimpArgs false
set_option maxRecDepth 100000
set_option maxHeartbeats 1000000

def NM_ (xs : List Int) : Txt := if goodM xs = true then nameT (fnO xs) xs.length else []
def OK_NameOfMap (xs : List Int) : Bool := goodM xs
abbrev R_NameOfMap (xs : List Int) : Value := .tuple #[.string ⟨(NM_ xs).toArray⟩, .bool (OK_NameOfMap xs)]

theorem ask_name (v : Value) (xs : List Int) (B : Nat) (w : World) (h : Rd w B v xs) (hl : xs.length ≤ 1048576) :
    Calls Try.prog 90 #[v, .func (Fn.func 91) #[] #[]] w fun e w' => e = .returned (R_NameOfMap xs) ∧ Below w.heap.size w w' := by
  have H := Lib.hid h
  by_cases hq : goodM xs = true
  · obtain ⟨g, n, cap, f, rfl, hm, hn, hf, hxs, _⟩ := h.good hq
    have HM := Lib.hid hm
    have n0 := hm.n0
    have n1 := hm.n1
    have HN := Lib.hid hn
    have HO := Lib.hid (show OK_NameOfMap xs = true from hq)
    have HL := Lib.hid (show NM_ xs = nameT f n by unfold NM_; rw [if_pos hq, ← hf, ← hn])
    clear h hm hn hf hxs hl
    go_enter Try.func90, Try.ntmps90
    go_wp2_with (first | (go_at_call 21; refine (IsMap_any _ xs _ _ H.out (by have := HN.out; omega)).mono ?_; rintro e w1 ⟨rfl, rfl⟩) | (go_at_call 91; refine (name_any g n cap f _ HM.out).mono ?_; rintro e w1 ⟨rfl, hb⟩; have HB := Lib.hid hb; clear hb))
    go_ret2
    exact ⟨by rw [R_NameOfMap, HO.out, HL.out]; rfl, HB.out⟩
  · have hq' : goodM xs = false := by simpa using hq
    have HO := Lib.hid (show OK_NameOfMap xs = false from hq')
    have HL := Lib.hid (show NM_ xs = [] by unfold NM_; rw [hq']; rfl)
    clear h hq
    go_enter Try.func90, Try.ntmps90
    go_wp2_with (go_at_call 21; refine (IsMap_any _ xs _ _ H.out (by omega)).mono ?_; rintro e w1 ⟨rfl, rfl⟩)
    go_ret2
    exact ⟨by rw [R_NameOfMap, HO.out, HL.out]; rfl, Below.refl _ _⟩

theorem impl_NameOfMap (v : Value) (xs : List Int) (B : Nat) (w : World) (h : Rd w B v xs) (hl : xs.length ≤ 1048576) :
    Calls Try.prog 55 #[v] w fun e w' => e = .returned (R_NameOfMap xs) ∧ Below w.heap.size w w' := by
  have H := Lib.hid h
  clear h
  go_enter Try.func55, Try.ntmps55
  go_wp2_with (go_at_call 90; refine (ask_name _ xs _ _ H.out hl).mono ?_; rintro e w1 ⟨rfl, hb⟩; have HB := Lib.hid hb; clear hb)
  go_ret2
  exact ⟨rfl, HB.out⟩

theorem spec_NameOfMap (v : Value) (xs : List Int) (B : Nat) (w : World) (h : Rd w B v xs) (hl : xs.length ≤ 1048576) :
    Calls Try.prog 54 #[v] w fun e w' => e = .returned (R_NameOfMap xs) ∧ Below w.heap.size w w' := by
  have H := Lib.hid h
  by_cases hq : goodM xs = true
  · obtain ⟨g, n, cap, f, rfl, hm, hn, hf, hxs, _⟩ := h.good hq
    have HM := Lib.hid hm
    have n0 := hm.n0
    have n1 := hm.n1
    have HN := Lib.hid hn
    have HO := Lib.hid (show OK_NameOfMap xs = true from hq)
    have HL := Lib.hid (show NM_ xs = nameT f n by unfold NM_; rw [if_pos hq, ← hf, ← hn])
    have HG := Lib.hid hq
    clear h hm hn hf hxs hl hq
    go_enter Try.func54, Try.ntmps54
    go_wp2_with (first | (go_at_call 58; refine (mpGood_any _ xs _ _ H.out (by have := HN.out; omega)).mono ?_; rw [HG.out]; rintro e w1 ⟨rfl, rfl⟩) | (go_at_call 89; refine (mpName_any g n cap f _ HM.out).mono ?_; rintro e w1 ⟨rfl, hb⟩; have HB := Lib.hid hb; clear hb))
    go_ret2
    exact ⟨by rw [R_NameOfMap, HO.out, HL.out]; rfl, HB.out⟩
  · have hq' : goodM xs = false := by simpa using hq
    have HO := Lib.hid (show OK_NameOfMap xs = false from hq')
    have HL := Lib.hid (show NM_ xs = [] by unfold NM_; rw [hq']; rfl)
    clear h hq
    go_enter Try.func54, Try.ntmps54
    go_wp2_with (go_at_call 58; refine (mpGood_any _ xs _ _ H.out (by omega)).mono ?_; rw [hq']; rintro e w1 ⟨rfl, rfl⟩)
    go_ret2
    exact ⟨by rw [R_NameOfMap, HO.out, HL.out]; rfl, Below.refl _ _⟩

end Go.Proofs.Yticagncemlnafaa
