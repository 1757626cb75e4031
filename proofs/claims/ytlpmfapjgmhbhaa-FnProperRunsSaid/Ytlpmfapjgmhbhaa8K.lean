/-
  Circles, turned to begin with their least number: the program.
-/
import Derived.Test.Ytlpmfapjgmhbhaa8J
namespace Go.Proofs.Ytlpmfapjgmhbhaa
open Go.RowKit
set_option linter.unusedVariables false
set_option linter.unusedSimpArgs false
set_option maxRecDepth 100000

/-- Whose circle can be told. -/
def HasC (n m : Int) : Prop := Dv n ∧ Tm m ∧ crcOf (runR n m.toNat) ≠ []
instance (n m : Int) : Decidable (HasC n m) := by unfold HasC; infer_instance
def OK_CircleOf (n m : Int) : Bool := decide (HasC n m)
def LF_CircleOf (n m : Int) : List Int := if HasC n m then turn (crcOf (runR n m.toNat)) else []
theorem LF_CircleOf_len (n m : Int) : (LF_CircleOf n m).length ≤ 2000000 := by
  unfold LF_CircleOf
  split
  · rename_i h
    obtain ⟨h1, h2, _⟩ := h
    have h3 := (runR_props h1 (m := m.toNat) (by have := h2.1; omega)).2.1
    obtain ⟨k, hk⟩ := crcOf_drop (runR n m.toNat)
    rw [turn_len, hk, List.length_drop]
    have := h2.2
    omega
  · simp

set_option maxHeartbeats 1000000 in
theorem impl_CircleOf (n m : Int) (w : World) :
    Calls Try.prog 12 #[.int .i64 n, .int .i64 m] w fun e w' => ∃ v, e = .returned (.tuple #[v, .bool (OK_CircleOf n m)]) ∧ Rd w' w.heap.size v (LF_CircleOf n m) ∧ Below w.heap.size w w' := by
  by_cases h : Dv n ∧ Tm m
  · have HF := Lib.hid (fun w' => findRun_any n m w' h.1 h.2)
    have HLn := Lib.hid (show (runR n m.toNat).1.length ≤ 60 by have := (runR_props h.1 (m := m.toNat) (by have := h.2.1; omega)).2.1; have := h.2.2; omega)
    have HND := Lib.hid (runR_distinct n m.toNat)
    have HOK := Lib.hid (show crcOf (runR n m.toNat) ≠ [] → OK_CircleOf n m = true ∧ LF_CircleOf n m = turn (crcOf (runR n m.toNat)) from fun c => ⟨decide_eq_true ⟨h.1, h.2, c⟩, if_pos ⟨h.1, h.2, c⟩⟩)
    have HNO := Lib.hid (show crcOf (runR n m.toNat) = [] → OK_CircleOf n m = false ∧ LF_CircleOf n m = [] from fun c => ⟨decide_eq_false (fun q => q.2.2 c), if_neg (fun q => q.2.2 c)⟩)
    obtain ⟨OK, hOK⟩ : ∃ o, o = OK_CircleOf n m := ⟨_, rfl⟩
    obtain ⟨LF, hLF⟩ : ∃ o, o = LF_CircleOf n m := ⟨_, rfl⟩
    rw [← hOK, ← hLF] at HOK HNO
    rw [← hOK, ← hLF]
    obtain ⟨R, hR⟩ : ∃ R, R = runR n m.toNat := ⟨_, rfl⟩
    rw [← hR] at HF HLn HND HOK HNO
    clear hR h hOK hLF
    obtain ⟨xs, y⟩ := R
    have hl60 := HLn.out
    dsimp only at hl60
    go_enter Try.func12, Try.ntmps12
    go_wp2_with fail
    refine (HF.out _).mono ?_
    rintro e w2 ⟨g5, c5, L, E, rfl, hL, hcap, hr, hE, hb⟩
    try dsimp only at hL hr hE
    have HB2 := Lib.hid hb
    have HR3 := Lib.hid hr
    rcases hE with ⟨⟨e1, e2⟩, rfl⟩ | ⟨e1, rfl⟩
    · try dsimp only at e1 e2
      try dsimp only
      have k1 := plc_lt e2
      have HC0 := Lib.hid (crcOf_in e1 e2)
      obtain ⟨k, hk⟩ : ∃ k, k = plc y xs := ⟨_, rfl⟩
      rw [← hk] at k1 HC0 ⊢
      rw [← hL] at k1 hl60 ⊢
      obtain ⟨C, hC⟩ : ∃ C, C = xs.drop k := ⟨_, rfl⟩
      have hCL : C.length = L - k := by rw [hC, List.length_drop, hL]
      have hCN : C.Nodup := by rw [hC]; exact List.Nodup.sublist (List.drop_sublist _ _) HND.out
      have hOK2 := HOK.out (by rw [HC0.out, ← hC]; intro c; rw [c] at hCL; simp at hCL; omega)
      rw [HC0.out, ← hC] at hOK2
      have HO1 := Lib.hid hOK2.1
      have HRES := Lib.hid hOK2.2
      have HIM := Lib.hid (idx_min hCN (by omega))
      have HMI := Lib.hid (mi_lt (xs := C) (by omega))
      obtain ⟨q, hq⟩ : ∃ q, q = mi C := ⟨_, rfl⟩
      rw [← hq] at HIM HMI
      have HCC := Lib.hid (show CellsAt w2 g5 k C by rw [hC]; exact HR3.out.cellsAt k)
      have HML := Lib.hid (show L - k = C.length by rw [hCL])
      have HMIN := Lib.hid (fun c => Try.slices_Min_int g5 k (L - k) c C w2 (by omega) (by rw [HML.out]; exact Nat.le_refl _) (by omega) HCC.out)
      have HIDM := Lib.hid (fun c => Try.slices_Index_int g5 k (L - k) c C (Lib.minOf (C.take (L - k))) w2 (by rw [HML.out]; exact Nat.le_refl _) (by omega) HCC.out)
      rw [show Lib.idxOf (C.take (L - k)) (Lib.minOf (C.take (L - k))) = (q : Int) by rw [HML.out]; exact HIM.out] at HIDM
      obtain ⟨mn, hmn⟩ : ∃ mn, mn = Lib.minOf (C.take (L - k)) := ⟨_, rfl⟩
      rw [← hmn] at HMIN HIDM
      have hqM : q < L - k := by have := HMI.out; have := HML.out; omega
      have hkL : k < L := by omega
      have HQ := Lib.hid hq
      have HSD := Lib.hid (show ∀ (W1 : World) (cc : Nat), Below w2.heap.size w2 W1 → Src W1 (.slice (some ⟨g5, k + q, none⟩) (L - k - q) cc) (C.drop q) from fun W1 cc hb => src_cells ((HCC.out.drop q).keep hb) (by rw [List.length_drop, ← HML.out]))
      have HST := Lib.hid (show ∀ (W1 : World) (cc : Nat), Below w2.heap.size w2 W1 → Src W1 (.slice (some ⟨g5, k, none⟩) q cc) (C.take q) from fun W1 cc hb => src_cells ((HCC.out.take q).keep hb) (by rw [List.length_take, ← HML.out]; omega))
      have HALL := Lib.hid (show ∀ a b : Nat, Below w2.heap.size w2 (w2.alloc (.cells #[.slice (some ⟨g5, k + q, none⟩) (L - k - q) a, .slice (some ⟨g5, k, none⟩) q b] 28)).drew from fun a b => ((Below.refl _ _).alloc (Nat.le_refl _) _).drew)
      have HCON := Lib.hid (show ∀ a b : Nat, Calls Try.prog 55 #[.slice (some ⟨w2.heap.size, 0, none⟩) 2 2] (w2.alloc (.cells #[.slice (some ⟨g5, k + q, none⟩) (L - k - q) a, .slice (some ⟨g5, k, none⟩) q b] 28)).drew fun e w' => ∃ v, e = .returned v ∧ Rd w' w.heap.size v LF ∧ Below w.heap.size w w' from fun a b =>
        (concat2_any _ w2.heap.size (.slice (some ⟨g5, k + q, none⟩) (L - k - q) a) (.slice (some ⟨g5, k, none⟩) q b) C q (by simp [go_sem]) (by simp [go_sem]) (HSD.out _ _ (HALL.out a b)) (HST.out _ _ (HALL.out a b)) (by omega) (by omega)).mono (by
          rintro e w' ⟨v, rfl, h1, h2⟩
          have h3 := HB2.out.size
          have h4 := (HALL.out a b).size
          refine ⟨v, rfl, ?_, Below.step (Below.step HB2.out HB2.out.size (HALL.out a b)) (Nat.le_trans h3 h4) h2⟩
          rw [HRES.out, turn, ← HQ.out]
          exact h1.mono (Nat.le_trans h3 h4)))
      have hmeth := meth_cc (.slice (some ⟨g5, k, none⟩) (L - k) (c5 - k))
      have hne : (((L - k : Nat) : Int) == 0) = false := beq_no (by omega)
      clear hk k1 hC hCL hCN hq hmn hL hb hr hOK2 e1 e2
      go_wp2_with (first
        | (go_at_call 108; refine (circle_in _ _ _ _).mono ?_; rintro e w3 ⟨rfl, rfl⟩)
        | (go_at_call 54; with_reducible (refine (HMIN.out _).mono ?_); rintro e w4 ⟨rfl, rfl⟩)
        | (go_at_call 53; with_reducible (refine (HIDM.out _).mono ?_); rintro e w5 ⟨rfl, rfl⟩))
      have hq1 : q ≤ L - k := by omega
      have hq2 : q ≤ c5 - k := by omega
      have hq3 : q < c5 - k := by omega
      have hq4 : ¬ c5 - k = q := by omega
      go_region_law (go_simp; go_at_call 55; refine (HCON.out _ _).mono ?_; rintro e w6 ⟨u, rfl, hr6, hb6⟩; have HR6 := Lib.hid hr6; have HB6 := Lib.hid hb6; clear hr6 hb6)
      go_wp2
      go_ret2
      exact ⟨_, by rw [HO1.out]; rfl, HR6.out, HB6.out⟩
    · have hNO2 := HNO.out (crcOf_no e1)
      obtain ⟨k, hk⟩ : ∃ k, k = endOf (xs, y) := ⟨_, rfl⟩
      rw [← hk]
      have hm := meth_oc (.int .i64 k)
      have HO1 := Lib.hid hNO2.1
      have HRES := Lib.hid hNO2.2
      clear hr hb hL hcap e1 hk hNO2
      go_wp2_with (go_at_call 110; refine (circle_open _ _).mono ?_; rintro e w3 ⟨rfl, rfl⟩)
      go_ret2
      exact ⟨_, by rw [HO1.out]; rfl, by rw [HRES.out]; exact Rd.nil _ _, HB2.out⟩
  · have HO := Lib.hid (show OK_CircleOf n m = false from decide_eq_false (fun c => h ⟨c.1, c.2.1⟩))
    have HL := Lib.hid (show LF_CircleOf n m = [] from if_neg (fun c => h ⟨c.1, c.2.1⟩))
    have HF := Lib.hid (fun w' => findRun_no n m w' h)
    rw [HO.out, HL.out]
    clear h
    go_enter Try.func12, Try.ntmps12
    go_wp2_with (go_at_call 48; refine (HF.out _).mono ?_; rintro e w1 ⟨rfl, rfl⟩)
    go_ret2
    exact ⟨_, rfl, Rd.nil _ _, Below.refl _ _⟩

end Go.Proofs.Ytlpmfapjgmhbhaa
