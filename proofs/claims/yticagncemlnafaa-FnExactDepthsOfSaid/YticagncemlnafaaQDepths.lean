/-
  Answers of DepthsOf.
-/
import Derived.Test.YticagncemlnafaaPD
namespace Go.Proofs.Yticagncemlnafaa
open Go.RowKit
set_option linter.unusedVariables false
set_option linter.unusedSimpArgs false

def depL (f : Nat → Nat) (n : Nat) : List Int := lst n (dep f n)
theorem depL_len (f : Nat → Nat) (n : Nat) (hf : Into f n) (h0 : 1 ≤ n) (h1 : n ≤ 60) : (depL f n).length ≤ 2000000 := by unfold depL; rw [lst_len]; omega
theorem depths_u (g n cap : Nat) (f : Nat → Nat) (w : World) (h : Mp w g n f) :
    Calls Try.prog 70 #[.slice (some ⟨g, 0, none⟩) n cap] w fun e w' => ∃ u, e = .returned u ∧ Rd w' w.heap.size u (depL f n) ∧ Below w.heap.size w w' :=
  (depths_any g n cap f w h).mono fun _ _ ⟨_, _, h1, h2, h3⟩ => ⟨_, h1, h2, h3⟩

def OK_DepthsOf (xs : List Int) : Bool := goodM xs
def LF_DepthsOf (xs : List Int) : List Int := if goodM xs = true then depL (fnO xs) xs.length else []
theorem LF_DepthsOf_len (xs : List Int) (h : xs.length ≤ 1048576) : (LF_DepthsOf xs).length ≤ 2000000 := by
  unfold LF_DepthsOf
  split
  · rename_i hq
    obtain ⟨hc, h1, h2, h3⟩ := good_can hq
    have := depL_len (fnO xs) xs.length h3 h1 h2
    omega
  · simp

theorem ask_depths (v : Value) (xs : List Int) (B : Nat) (w : World) (h : Rd w B v xs) (hl : xs.length ≤ 1048576) :
    Calls Try.prog 74 #[v, .func (Fn.func 70) #[] #[]] w fun e w' => ∃ u, e = .returned (.tuple #[u, .bool (OK_DepthsOf xs)]) ∧ Rd w' w.heap.size u (LF_DepthsOf xs) ∧ Below w.heap.size w w' := by
  have H := Lib.hid h
  by_cases hq : goodM xs = true
  · obtain ⟨g, n, cap, f, rfl, hm, hn, hf, hxs, _⟩ := h.good hq
    have HM := Lib.hid hm
    have n0 := hm.n0
    have n1 := hm.n1
    have HN := Lib.hid hn
    have HO := Lib.hid (show OK_DepthsOf xs = true from hq)
    have HL := Lib.hid (show LF_DepthsOf xs = depL f n by unfold LF_DepthsOf; rw [if_pos hq, ← hf, ← hn])
    clear h hm hn hf hxs hl
    go_enter Try.func74, Try.ntmps74
    go_wp2_with (first | (go_at_call 21; refine (IsMap_any _ xs _ _ H.out (by have := HN.out; omega)).mono ?_; rintro e w1 ⟨rfl, rfl⟩) | (go_at_call 70; refine (depths_u g n cap f _ HM.out).mono ?_; rintro e w1 ⟨u, rfl, hr, hb⟩; have HR := Lib.hid hr; have HB := Lib.hid hb; clear hr hb))
    go_ret2
    exact ⟨_, by rw [HO.out]; rfl, by rw [HL.out]; exact HR.out, HB.out⟩
  · have hq' : goodM xs = false := by simpa using hq
    have HO := Lib.hid (show OK_DepthsOf xs = false from hq')
    have HL := Lib.hid (show LF_DepthsOf xs = [] by unfold LF_DepthsOf; rw [hq']; rfl)
    clear h hq
    go_enter Try.func74, Try.ntmps74
    go_wp2_with (go_at_call 21; refine (IsMap_any _ xs _ _ H.out (by omega)).mono ?_; rintro e w1 ⟨rfl, rfl⟩)
    go_ret2
    exact ⟨_, by rw [HO.out]; rfl, by rw [HL.out]; exact Rd.nil _ _, Below.refl _ _⟩

theorem impl_DepthsOf (v : Value) (xs : List Int) (B : Nat) (w : World) (h : Rd w B v xs) (hl : xs.length ≤ 1048576) :
    Calls Try.prog 37 #[v] w fun e w' => ∃ u, e = .returned (.tuple #[u, .bool (OK_DepthsOf xs)]) ∧ Rd w' w.heap.size u (LF_DepthsOf xs) ∧ Below w.heap.size w w' := by
  have H := Lib.hid h
  clear h
  go_enter Try.func37, Try.ntmps37
  go_wp2_with (go_at_call 74; refine (ask_depths _ xs _ _ H.out hl).mono ?_; rintro e w1 ⟨u, rfl, hr, hb⟩; have HR := Lib.hid hr; have HB := Lib.hid hb; clear hr hb)
  go_ret2
  exact ⟨_, rfl, HR.out, HB.out⟩

theorem spec_DepthsOf (v : Value) (xs : List Int) (B : Nat) (w : World) (h : Rd w B v xs) (hl : xs.length ≤ 1048576) :
    Calls Try.prog 36 #[v] w fun e w' => ∃ u, e = .returned (.tuple #[u, .bool (OK_DepthsOf xs)]) ∧ Rd w' w.heap.size u (LF_DepthsOf xs) ∧ Below w.heap.size w w' := by
  have H := Lib.hid h
  by_cases hq : goodM xs = true
  · obtain ⟨g, n, cap, f, rfl, hm, hn, hf, hxs, _⟩ := h.good hq
    have HM := Lib.hid hm
    have n0 := hm.n0
    have n1 := hm.n1
    have HN := Lib.hid hn
    have HO := Lib.hid (show OK_DepthsOf xs = true from hq)
    have HL := Lib.hid (show LF_DepthsOf xs = depL f n by unfold LF_DepthsOf; rw [if_pos hq, ← hf, ← hn])
    clear h hm hn hf hxs hl
    go_enter Try.func36, Try.ntmps36
    go_wp2_with (first | (go_at_call 58; refine (mpGood_any _ xs _ _ H.out (by have := HN.out; omega)).mono ?_; rintro e w1 ⟨rfl, rfl⟩) | (go_at_call 75; refine (mpDepths_any g n cap f _ HM.out).mono ?_; rintro e w1 ⟨u, rfl, hr, hb⟩; have HR := Lib.hid hr; have HB := Lib.hid hb; clear hr hb))
    go_ret2
    exact ⟨_, by rw [HO.out]; rfl, by rw [HL.out]; exact HR.out, HB.out⟩
  · have hq' : goodM xs = false := by simpa using hq
    have HO := Lib.hid (show OK_DepthsOf xs = false from hq')
    have HL := Lib.hid (show LF_DepthsOf xs = [] by unfold LF_DepthsOf; rw [hq']; rfl)
    clear h hq
    go_enter Try.func36, Try.ntmps36
    go_wp2_with (go_at_call 58; refine (mpGood_any _ xs _ _ H.out (by omega)).mono ?_; rintro e w1 ⟨rfl, rfl⟩)
    go_ret2
    exact ⟨_, by rw [HO.out]; rfl, by rw [HL.out]; exact Rd.nil _ _, Below.refl _ _⟩

end Go.Proofs.Yticagncemlnafaa
