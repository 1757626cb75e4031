/-
  Maps: answers of BeforeOf, ApplyMap, ComposeMaps.
-/
import Derived.Test.YticagncemlnafaaPG
namespace Go.Proofs.Yticagncemlnafaa
open Go.RowKit
set_option linter.unusedVariables false
set_option linter.unusedSimpArgs false

/-- Where a list leads. -/
def fnO (xs : List Int) : Nat → Nat := fun j => (xs.getD j 0).toNat
theorem fnO_lst {n : Nat} {f : Nat → Nat} {j : Nat} (h : j < n) : fnO (lst n f) j = f j := by
  simp [fnO, lst, List.getD_eq_getElem?_getD, h]

theorem good_can {xs : List Int} (h : goodM xs = true) : xs = lst xs.length (fnO xs) ∧ 1 ≤ xs.length ∧ xs.length ≤ 60 ∧ Into (fnO xs) xs.length := by
  obtain ⟨n, f, h1, h2, h3, h4, h5⟩ := goodM_ex h
  subst h2
  have he : lst xs.length (fnO xs) = lst xs.length f := lst_congr fun j hj => by conv => lhs; rw [h1]
                                                                                 exact fnO_lst hj
  refine ⟨by rw [he]; exact h1, h3, h4, fun j hj => ?_⟩
  have : fnO xs j = f j := lst_inj he j hj
  rw [this]
  exact h5 j hj

theorem Rd.good {w : World} {B : Nat} {v : Value} {xs : List Int} (h : Rd w B v xs) (hq : goodM xs = true) :
    ∃ g n cap f, v = .slice (some ⟨g, 0, none⟩) n cap ∧ Mp w g n f ∧ n = xs.length ∧ f = fnO xs ∧ xs = lst n f ∧ B ≤ g := by
  obtain ⟨h1, h2, h3, h4⟩ := good_can hq
  rcases h.cases with ⟨rfl, hx⟩ | ⟨g, cap, rfl, hg, _⟩
  · rw [hx] at h2; simp at h2
  · refine ⟨g, xs.length, cap, fnO xs, rfl, ?_, rfl, rfl, h1, hg⟩
    rw [h1] at h
    have h5 := h.mp (n := xs.length) (f := fnO xs) h4 h2 h3
    exact h5

theorem lst_good {n : Nat} {f : Nat → Nat} {w : World} {g : Nat} (h : Mp w g n f) : goodM (lst n f) = true := goodM_lst h.n0 h.n1 h.into

def OK_BeforeOf (xs : List Int) (x : Int) : Bool := goodM xs && inM xs.length x
def LF_BeforeOf (xs : List Int) (x : Int) : List Int := if OK_BeforeOf xs x = true then nts (befL (fnO xs) x.toNat xs.length) else []
theorem LF_BeforeOf_len (xs : List Int) (x : Int) (h : xs.length ≤ 1048576) : (LF_BeforeOf xs x).length ≤ 2000000 := by
  unfold LF_BeforeOf
  split
  · rw [nts_len]; have := befL_len (fnO xs) x.toNat xs.length; omega
  · simp

theorem impl_BeforeOf (v : Value) (xs : List Int) (x : Int) (B : Nat) (w : World) (h : Rd w B v xs) (hl : xs.length ≤ 1048576) :
    Calls Try.prog 39 #[v, .int .i64 x] w fun e w' => ∃ u, e = .returned (.tuple #[u, .bool (OK_BeforeOf xs x)]) ∧ Rd w' w.heap.size u (LF_BeforeOf xs x) ∧ Below w.heap.size w w' := by
  have H := Lib.hid h
  by_cases hq : goodM xs = true
  · obtain ⟨g, n, cap, f, rfl, hm, hn, hf, hxs, _⟩ := h.good hq
    have HM := Lib.hid hm
    have n1 := hm.n1
    have HN := Lib.hid hn
    have HF := Lib.hid hf
    by_cases hx : 0 ≤ x ∧ x < n
    · obtain ⟨y, rfl⟩ : ∃ y : Nat, x = (y : Int) := ⟨x.toNat, by omega⟩
      have hi := inM_yes hx.1 hx.2
      have HO := Lib.hid (show OK_BeforeOf xs y = true by unfold OK_BeforeOf; rw [hq, ← hn, hi]; rfl)
      have HL := Lib.hid (show LF_BeforeOf xs y = nts (befL f y n) by unfold LF_BeforeOf; rw [if_pos HO.out, ← hf, ← hn]; rfl)
      clear h hm hn hf hxs hx hl
      go_enter Try.func39, Try.ntmps39
      go_wp2_with (first | (go_at_call 21; refine (IsMap_any _ xs _ _ H.out (by have := HN.out; omega)).mono ?_; rintro e w1 ⟨rfl, rfl⟩) | (go_at_call 59; refine (isMapped_any _ _ _ _ _ (by omega)).mono ?_; rintro e w1 ⟨rfl, rfl⟩) | (go_at_call 77; refine (before_any g n cap f y _ HM.out).mono ?_; rintro e w1 ⟨u, rfl, hr, hb⟩; have HR := Lib.hid hr; have HB := Lib.hid hb; clear hr hb))
      go_ret2
      exact ⟨_, by rw [HO.out]; rfl, by rw [HL.out]; exact HR.out, HB.out⟩
    · have hi := inM_no (n := n) (x := x) (by omega)
      have HO := Lib.hid (show OK_BeforeOf xs x = false by unfold OK_BeforeOf; rw [hq, ← hn, hi]; rfl)
      have HL := Lib.hid (show LF_BeforeOf xs x = [] by unfold LF_BeforeOf; rw [HO.out]; rfl)
      clear h hm hn hf hxs hx hl
      go_enter Try.func39, Try.ntmps39
      go_wp2_with (first | (go_at_call 21; refine (IsMap_any _ xs _ _ H.out (by have := HN.out; omega)).mono ?_; rintro e w1 ⟨rfl, rfl⟩) | (go_at_call 59; refine (isMapped_any _ _ _ _ _ (by omega)).mono ?_; rintro e w1 ⟨rfl, rfl⟩))
      go_ret2
      exact ⟨_, by rw [HO.out]; rfl, by rw [HL.out]; exact Rd.nil _ _, Below.refl _ _⟩
  · have hq' : goodM xs = false := by simpa using hq
    have HO := Lib.hid (show OK_BeforeOf xs x = false by unfold OK_BeforeOf; rw [hq']; rfl)
    have HL := Lib.hid (show LF_BeforeOf xs x = [] by unfold LF_BeforeOf; rw [HO.out]; rfl)
    clear h hq
    go_enter Try.func39, Try.ntmps39
    go_wp2_with (go_at_call 21; refine (IsMap_any _ xs _ _ H.out (by omega)).mono ?_; rintro e w1 ⟨rfl, rfl⟩)
    go_ret2
    exact ⟨_, by rw [HO.out]; rfl, by rw [HL.out]; exact Rd.nil _ _, Below.refl _ _⟩

theorem spec_BeforeOf (v : Value) (xs : List Int) (x : Int) (B : Nat) (w : World) (h : Rd w B v xs) (hl : xs.length ≤ 1048576) :
    Calls Try.prog 38 #[v, .int .i64 x] w fun e w' => ∃ u, e = .returned (.tuple #[u, .bool (OK_BeforeOf xs x)]) ∧ Rd w' w.heap.size u (LF_BeforeOf xs x) ∧ Below w.heap.size w w' := by
  have H := Lib.hid h
  by_cases hq : OK_BeforeOf xs x = true
  · have hq2 := hq
    unfold OK_BeforeOf at hq2
    obtain ⟨hg, hi⟩ := Bool.and_eq_true_iff.1 hq2
    obtain ⟨g, n, cap, f, rfl, hm, hn, hf, hxs, _⟩ := h.good hg
    rw [← hn, inM_iff] at hi
    obtain ⟨y, rfl⟩ : ∃ y : Nat, x = (y : Int) := ⟨x.toNat, by omega⟩
    have HM := Lib.hid hm
    have HO := Lib.hid hq
    have HL := Lib.hid (show LF_BeforeOf xs y = nts (befL f y n) by unfold LF_BeforeOf; rw [if_pos hq, ← hf, ← hn]; rfl)
    clear h hm hn hf hxs hi hg hq
    go_enter Try.func38, Try.ntmps38
    go_wp2_with (first | (go_at_call 60; refine (mpX_any _ xs _ _ _ H.out (by omega)).mono ?_; rintro e w1 ⟨rfl, rfl⟩) | (go_at_call 76; refine (mpBefore_any g n cap f y _ HM.out).mono ?_; rintro e w1 ⟨u, rfl, hr, hb⟩; have HR := Lib.hid hr; have HB := Lib.hid hb; clear hr hb))
    go_ret2
    exact ⟨_, by rw [HO.out]; rfl, by rw [HL.out]; exact HR.out, HB.out⟩
  · have hq' : (goodM xs && inM xs.length x) = false := by simpa [OK_BeforeOf] using hq
    have HO := Lib.hid (show OK_BeforeOf xs x = false from hq')
    have HL := Lib.hid (show LF_BeforeOf xs x = [] by unfold LF_BeforeOf; rw [HO.out]; rfl)
    clear h hq
    go_enter Try.func38, Try.ntmps38
    go_wp2_with (go_at_call 60; refine (mpX_any _ xs _ _ _ H.out (by omega)).mono ?_; rw [hq']; rintro e w1 ⟨rfl, rfl⟩)
    go_ret2
    exact ⟨_, by rw [HO.out]; rfl, by rw [HL.out]; exact Rd.nil _ _, Below.refl _ _⟩

end Go.Proofs.Yticagncemlnafaa
