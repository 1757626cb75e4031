/-
  Answers of TailAndCycle.
-/
import Derived.Test.YticagncemlnafaaQC
namespace Go.Proofs.Yticagncemlnafaa
open Go.RowKit
set_option linter.unusedVariables false
set_option linter.unusedSimpArgs false
set_option maxRecDepth 100000

def OK_TailAndCycle (xs : List Int) (x : Int) : Bool := goodM xs && inM xs.length x
def VD_TailAndCycle (xs : List Int) (x : Int) : Int := if OK_TailAndCycle xs x = true then ((dep (fnO xs) xs.length x.toNat : Nat) : Int) else 0
def VP_TailAndCycle (xs : List Int) (x : Int) : Int := if OK_TailAndCycle xs x = true then ((per (fnO xs) xs.length (it (fnO xs) xs.length x.toNat) : Nat) : Int) else 0
abbrev R_TailAndCycle (xs : List Int) (x : Int) : Value := .tuple #[.int .i64 (VD_TailAndCycle xs x), .int .i64 (VP_TailAndCycle xs x), .bool (OK_TailAndCycle xs x)]
theorem per_dep {f : Nat → Nat} {n x : Nat} (h : Into f n) (hx : x < n) : per f n (it f (dep f n x) x) = per f n (it f n x) := by
  obtain ⟨d1, d2, d3⟩ := dep_spec (f := f) hx
  have := per_it h d2 (n - dep f n x)
  rw [← it_add, show n - dep f n x + dep f n x = n from by omega] at this
  exact this.symm

theorem impl_TailAndCycle (v : Value) (xs : List Int) (x : Int) (B : Nat) (w : World) (h : Rd w B v xs) (hl : xs.length ≤ 1048576) :
    Calls Try.prog 26 #[v, .int .i64 x] w fun e w' => e = .returned (R_TailAndCycle xs x) ∧ Below w.heap.size w w' := by
  have H1 := Lib.hid h
  have HX := Lib.hid hl
  cases q1 : goodM xs
  · skip
    have HO := Lib.hid (show OK_TailAndCycle xs x = false by unfold OK_TailAndCycle; rw [q1]; rfl)
    have HL := Lib.hid (show VD_TailAndCycle xs x = 0 by unfold VD_TailAndCycle; rw [HO.out]; rfl)
    have HM := Lib.hid (show VP_TailAndCycle xs x = 0 by unfold VP_TailAndCycle; rw [HO.out]; rfl)
    clear h hl
    go_enter Try.func26, Try.ntmps26
    go_wp2_with (go_at_call 21; refine (IsMap_any _ xs _ _ H1.out (by have := HX.out; omega)).mono ?_; rw [q1]; rintro e w1 ⟨rfl, rfl⟩)
    go_ret3
    exact ⟨by unfold R_TailAndCycle; rw [HO.out, HL.out, HM.out]; rfl, Below.refl _ _⟩
  · obtain ⟨g, n, cap, f, rfl, hm, hn, hf, hxs, _⟩ := h.good q1
    have n1 := hm.n1
    have HMm := Lib.hid hm
    by_cases hx : 0 ≤ x ∧ x < n
    · have q2 := inM_yes hx.1 hx.2
      obtain ⟨y, rfl⟩ : ∃ y : Nat, x = (y : Int) := ⟨x.toNat, by omega⟩
      have hyn : y < n := by omega
      have HO := Lib.hid (show OK_TailAndCycle xs (y : Int) = true by unfold OK_TailAndCycle; rw [q1, ← hn, q2]; rfl)
      have HL := Lib.hid (show VD_TailAndCycle xs (y : Int) = ((dep f n y : Nat) : Int) by unfold VD_TailAndCycle; rw [if_pos HO.out, ← hf, ← hn]; rfl)
      have HM2 := Lib.hid (show VP_TailAndCycle xs (y : Int) = ((per f n (it f n y) : Nat) : Int) by unfold VP_TailAndCycle; rw [if_pos HO.out, ← hf, ← hn]; rfl)

      have HI := Lib.hid (idx_spec HMm.out.into (cyc_at (f := f) hyn))
      clear h hl hm hn hf hxs hx
      go_enter Try.func26, Try.ntmps26
      go_wp2_with (first | (go_at_call 21; refine (IsMap_any _ xs _ _ H1.out (by have := HX.out; omega)).mono ?_; rw [q1]; rintro e w1 ⟨rfl, rfl⟩) | (go_at_call 59; refine (isMapped_any _ _ _ _ _ (by omega)).mono ?_; rintro e w1 ⟨rfl, rfl⟩) | (go_at_call 68; refine (cycles_any g n cap f _ HMm.out).mono ?_))
      rintro e w1 ⟨v, vs, rfl, hv, hb⟩
      obtain ⟨gv, cv, rfl⟩ := hv.outer (cycs_ne HMm.out.into HMm.out.n0)
      have HV := Lib.hid hv
      have HB := Lib.hid hb
      clear hv hb
      go_wp2_with fail
      refine (basins_any g n cap f _ (HMm.out.keep HB.out)).mono ?_
      rintro e w2 ⟨g2, c2, rfl, hr, hb⟩
      have HV2 := Lib.hid (HV.out.keep hb)
      have HB2 := Lib.hid (Below.step HB.out HB.out.size hb)
      have hcb : w2.cell? ⟨g2, y, none⟩ = some (.int .i64 ((idx f n (it f n y) : Nat) : Int)) := by
        rw [hr.at.2.2.2.2.1 y (by rw [lst_len]; exact hyn), lst_at]; rfl
      obtain ⟨l, hli, hyl, hin⟩ := HI.out
      have hll := cycs_per HMm.out.into hli hyl
      have hlp := (per_spec HMm.out.into (cycs_cyc HMm.out.into hli hyl).1).1
      obtain ⟨gu, cu, hvi, hru⟩ := HV2.out.shape hli (fun e => by rw [e] at hll; simp at hll; omega)
      obtain ⟨i, hi⟩ : ∃ i, i = idx f n (it f n y) := ⟨_, rfl⟩
      rw [← hi] at hcb hvi hli
      have hic := (List.getElem?_eq_some_iff.1 hli).1
      have hcv : w2.cell? ⟨gv, i, none⟩ = some (.slice (some ⟨gu, 0, none⟩) l.length cu) := by
        obtain ⟨i1, i2⟩ := List.getElem?_eq_some_iff.1 hvi
        obtain ⟨_, _, _, _, _, hc, _⟩ := HV2.out.row.at
        rw [hc i i1, i2]
      rw [hll] at hcv
      obtain ⟨p, hp⟩ : ∃ p, p = per f n (it f n y) := ⟨_, rfl⟩
      have HPE := Lib.hid hp
      rw [← hp] at hcv
      have hp60 : p ≤ 60 := by have h2 := (per_spec HMm.out.into (cycs_cyc HMm.out.into hli hyl).1).2.1; omega
      have hic60 : i < 61 := by omega
      clear hr hb hli hyl hin hll hlp hvi hru hi hp
      go_wp2_with (go_at_call 70; refine (depths_any g n cap f _ (HMm.out.keep HB2.out)).mono ?_; rintro e w3 ⟨g3, c3, rfl, hr, hb⟩; have HB3 := Lib.hid (Below.step HB2.out HB2.out.size hb); have hcd : w3.cell? ⟨g3, y, none⟩ = some (.int .i64 ((dep f n y : Nat) : Int)) := (by rw [hr.at.2.2.2.2.1 y (by rw [lst_len]; exact hyn), lst_at]); clear hr hb)
      go_ret3
      exact ⟨by unfold R_TailAndCycle; rw [HO.out, HL.out, HM2.out, ← HPE.out]; rfl, HB3.out⟩
    · have q2 := inM_no (n := n) (x := x) (by omega)
      have HO := Lib.hid (show OK_TailAndCycle xs x = false by unfold OK_TailAndCycle; rw [q1, ← hn, q2]; rfl)
      have HL := Lib.hid (show VD_TailAndCycle xs x = 0 by unfold VD_TailAndCycle; rw [HO.out]; rfl)
      have HM := Lib.hid (show VP_TailAndCycle xs x = 0 by unfold VP_TailAndCycle; rw [HO.out]; rfl)
      clear h hl hm hn hf hxs hx
      go_enter Try.func26, Try.ntmps26
      go_wp2_with (first | (go_at_call 21; refine (IsMap_any _ xs _ _ H1.out (by have := HX.out; omega)).mono ?_; rw [q1]; rintro e w1 ⟨rfl, rfl⟩) | (go_at_call 59; refine (isMapped_any _ _ _ _ _ (by omega)).mono ?_; rintro e w1 ⟨rfl, rfl⟩))
      go_ret3
      exact ⟨by unfold R_TailAndCycle; rw [HO.out, HL.out, HM.out]; rfl, Below.refl _ _⟩

theorem spec_TailAndCycle (v : Value) (xs : List Int) (x : Int) (B : Nat) (w : World) (h : Rd w B v xs) (hl : xs.length ≤ 1048576) :
    Calls Try.prog 25 #[v, .int .i64 x] w fun e w' => e = .returned (R_TailAndCycle xs x) ∧ Below w.heap.size w w' := by
  have H1 := Lib.hid h
  have HX := Lib.hid hl
  cases q1 : (goodM xs && inM xs.length x)
  · skip
    have HO := Lib.hid (show OK_TailAndCycle xs x = false by unfold OK_TailAndCycle; rw [q1])
    have HL := Lib.hid (show VD_TailAndCycle xs x = 0 by unfold VD_TailAndCycle; rw [HO.out]; rfl)
    have HM := Lib.hid (show VP_TailAndCycle xs x = 0 by unfold VP_TailAndCycle; rw [HO.out]; rfl)
    clear h hl
    go_enter Try.func25, Try.ntmps25
    go_wp2_with (go_at_call 60; refine (mpX_any _ xs _ _ _ H1.out (by have := HX.out; omega)).mono ?_; rw [q1]; rintro e w1 ⟨rfl, rfl⟩)
    go_ret3
    exact ⟨by unfold R_TailAndCycle; rw [HO.out, HL.out, HM.out]; rfl, Below.refl _ _⟩
  · obtain ⟨qa, qb⟩ := Bool.and_eq_true_iff.1 q1
    obtain ⟨g, n, cap, f, rfl, hm, hn, hf, hxs, _⟩ := h.good qa
    have HMm := Lib.hid hm
    have qb2 := qb
    rw [← hn, inM_iff] at qb2
    obtain ⟨y, rfl⟩ : ∃ y : Nat, x = (y : Int) := ⟨x.toNat, by omega⟩
    have hyn : y < n := by omega
    have n1 := hm.n1
    have HO := Lib.hid (show OK_TailAndCycle xs (y : Int) = true by unfold OK_TailAndCycle; rw [q1])
    have HL := Lib.hid (show VD_TailAndCycle xs (y : Int) = ((dep f n y : Nat) : Int) by unfold VD_TailAndCycle; rw [if_pos HO.out, ← hf, ← hn]; rfl)
    have HM2 := Lib.hid (show VP_TailAndCycle xs (y : Int) = ((per f n (it f n y) : Nat) : Int) by unfold VP_TailAndCycle; rw [if_pos HO.out, ← hf, ← hn]; rfl)

    have HD := Lib.hid (dep_spec (f := f) hyn)
    have HPD := Lib.hid (per_dep HMm.out.into hyn)
    clear h hl hm hn hf hxs qb2 qa qb
    go_enter Try.func25, Try.ntmps25
    go_wp2_with (first | (go_at_call 60; refine (mpX_any _ xs _ _ _ H1.out (by have := HX.out; omega)).mono ?_; rw [q1]; rintro e w1 ⟨rfl, rfl⟩) | (go_at_call 65; refine (mpCyclic_any g n cap f _ HMm.out).mono ?_))
    rintro e w1 ⟨gc, rfl, hr, hb⟩
    have HC := Lib.hid (Rb.bp hr)
    have HB := Lib.hid hb
    have hdn := HD.out.1
    clear hr hb
    go_wp2_with (first | (go_at_call 66; refine (mpDepth_any g n cap gc n f y _ (HMm.out.keep HB.out) HC.out hyn).mono ?_; rintro e w2 ⟨rfl, rfl⟩) | (go_at_call 62; refine (mpAt_any g n cap f y (dep f n y) _ (HMm.out.keep HB.out) hyn (by omega)).mono ?_; rintro e w2 ⟨rfl, rfl⟩) | (go_at_call 67; refine (mpRound_any g n cap f (it f (dep f n y) y) _ (HMm.out.keep HB.out) HD.out.2.1).mono ?_; rintro e w2 ⟨u, rfl, hr, hb⟩; have HB2 := Lib.hid (Below.step HB.out HB.out.size hb); obtain ⟨a2, c2, rfl⟩ := hr.sl.len; rw [nts_len, rnd_len, HPD.out]; clear hr hb))
    go_ret3
    exact ⟨by unfold R_TailAndCycle; rw [HO.out, HL.out, HM2.out]; rfl, HB2.out⟩

end Go.Proofs.Yticagncemlnafaa
