/-
  The circle of a run, turned to begin with its least number: the model's.
-/
import Derived.Test.Ytlpmfapjgmhbhaa8K
namespace Go.Proofs.Ytlpmfapjgmhbhaa
open Go.RowKit
set_option linter.unusedVariables false
set_option linter.unusedSimpArgs false
set_option maxRecDepth 100000

set_option maxHeartbeats 1000000 in
theorem spec_CircleOf (n m : Int) (w : World) :
    Calls Try.prog 13 #[.int .i64 n, .int .i64 m] w fun e w' => ∃ v, e = .returned (.tuple #[v, .bool (OK_CircleOf n m)]) ∧ Rd w' w.heap.size v (LF_CircleOf n m) ∧ Below w.heap.size w w' := by
  by_cases hn : Dv n
  · have a1 : decide (Dv n) = true := decide_eq_true hn
    by_cases hm : Tm m
    · have a2 : decide (Tm m) = true := decide_eq_true hm
      have HF := Lib.hid (fun w' => dvEnd_any n m w' hn hm)
      have HLn := Lib.hid (show (runR n m.toNat).1.length ≤ 60 by have := (runR_props hn (m := m.toNat) (by have := hm.1; omega)).2.1; have := hm.2; omega)
      have HOK := Lib.hid (show crcOf (runR n m.toNat) ≠ [] → OK_CircleOf n m = true ∧ LF_CircleOf n m = turn (crcOf (runR n m.toNat)) from fun c => ⟨decide_eq_true ⟨hn, hm, c⟩, if_pos ⟨hn, hm, c⟩⟩)
      have HNO := Lib.hid (show crcOf (runR n m.toNat) = [] → OK_CircleOf n m = false ∧ LF_CircleOf n m = [] from fun c => ⟨decide_eq_false (fun q => q.2.2 c), if_neg (fun q => q.2.2 c)⟩)
      obtain ⟨OK, hOK⟩ : ∃ o, o = OK_CircleOf n m := ⟨_, rfl⟩
      obtain ⟨LF, hLF⟩ : ∃ o, o = LF_CircleOf n m := ⟨_, rfl⟩
      rw [← hOK, ← hLF] at HOK HNO
      rw [← hOK, ← hLF]
      obtain ⟨R, hR⟩ : ∃ R, R = runR n m.toNat := ⟨_, rfl⟩
      rw [← hR] at HF HLn HOK HNO
      clear hR hOK hLF hn hm
      obtain ⟨xs, y⟩ := R
      have hl60 := HLn.out
      dsimp only at hl60
      obtain ⟨ed, hed⟩ : ∃ ed, ed = endOf (xs, y) := ⟨_, rfl⟩
      rw [← hed] at HF
      clear hed
      go_enter Try.func13, Try.ntmps13
      go_wp2_with (first | (go_at_call 49; refine (dvNumber_any _ _).mono ?_; rintro e w3 ⟨rfl, rfl⟩) | (go_at_call 50; refine (dvTerms_any _ _).mono ?_; rintro e w3 ⟨rfl, rfl⟩))
      refine (HF.out _).mono ?_
      rintro e w1 ⟨u, rfl, hu, hb⟩
      have HB := Lib.hid hb
      rcases hu with ⟨hc, rfl⟩ | ⟨g, k, L, cap, rfl, hkL, hLc, hL, hr, hc⟩
      · have hNO2 := HNO.out hc
        have HO1 := Lib.hid hNO2.1
        have HRES := Lib.hid hNO2.2
        clear hNO2 hb hc
        go_wp2
        go_ret2
        exact ⟨_, by rw [HO1.out]; rfl, by rw [HRES.out]; exact Rd.nil _ _, HB.out⟩
      · dsimp only at hL hr hc
        obtain ⟨C, hC⟩ : ∃ C, C = xs.drop k := ⟨_, rfl⟩
        have hCL : C.length = L - k := by rw [hC, List.length_drop, hL]
        have hOK2 := HOK.out (by rw [hc, ← hC]; intro c; rw [c] at hCL; simp at hCL; omega)
        rw [hc, ← hC] at hOK2
        have HO1 := Lib.hid hOK2.1
        have HRES := Lib.hid hOK2.2
        have H := Lib.hid (show CellsAt w1 g k C by rw [hC]; exact hr.cellsAt k)
        obtain ⟨D, hD⟩ : ∃ D, D = L - k := ⟨_, rfl⟩
        obtain ⟨c, hcq⟩ : ∃ c, c = cap - k := ⟨_, rfl⟩
        rw [← hD] at hCL ⊢
        rw [← hcq]
        have hDc : D ≤ c := by omega
        have h0 : 0 < D := by omega
        have hD60 : D ≤ 60 := by omega
        have HN := Lib.hid hCL.symm
        have hne : ((D : Int) == 0) = false := beq_no (by omega)
        have HML := Lib.hid (miTo_lt C)
        clear hCL hOK2 hC hL hr hc hb hkL hLc hD hcq
        go_wp2
        go_loop [8, 30] (fun at' i => ∃ (j q : Nat), j ≤ D ∧ q < D ∧ i = .int .i64 (j : Int) ∧ at' = .int .i64 (q : Int) ∧ miTo C j = q) (fun _ i => D - (intOf i).toNat)
        case atStart => exact ⟨0, 0, by omega, h0, rfl, rfl, rfl⟩
        case round =>
          obtain ⟨j, q, hj, hqn, rfl, rfl, hq⟩ := hrel
          have HQ := Lib.hid hq
          clear hq
          by_cases hlt : j < D
          · have hck := H.out j (by rw [← HN.out]; exact hlt)
            have hcq := H.out q (by rw [← HN.out]; exact hqn)
            have HS := Lib.hid (miTo_succ C j)
            rw [HQ.out] at HS
            obtain ⟨x, hx⟩ : ∃ x, x = C.getD j 0 := ⟨_, rfl⟩
            obtain ⟨y, hy⟩ : ∃ y, y = C.getD q 0 := ⟨_, rfl⟩
            rw [← hx] at hck HS
            rw [← hy] at hcq HS
            clear hx hy
            by_cases hxy : x < y
            · have HE := Lib.hid (show miTo C (j + 1) = j by rw [HS.out, if_pos hxy])
              go_wp2
              go_round
              case rel => exact ⟨j + 1, j, by omega, by omega, by go_num, rfl, HE.out⟩
              case measure => simp [intOf]; omega
            · have HE := Lib.hid (show miTo C (j + 1) = q by rw [HS.out, if_neg hxy])
              go_wp2
              go_round
              case rel => exact ⟨j + 1, q, by omega, hqn, by go_num, rfl, HE.out⟩
              case measure => simp [intOf]; omega
          · obtain rfl : j = D := by omega
            have HMI := Lib.hid (show turn C = C.drop q ++ C.take q by unfold turn mi; rw [← HN.out, HQ.out])
            have HDL := Lib.hid (show (C.drop q).length = j - q by rw [List.length_drop, ← HN.out])
            have HTL := Lib.hid (show (C.take q).length = q by rw [List.length_take, ← HN.out]; omega)
            have HSD := Lib.hid (show ∀ (W1 : World) (cc : Nat), Below w1.heap.size w1 W1 → Src W1 (.slice (some ⟨g, k + q, none⟩) (j - q) cc) (C.drop q) from fun W1 cc hb => src_cells ((H.out.drop q).keep hb) HDL.out.symm)
            have hqc : ¬ c = q := by omega
            have hqc2 : q < c := by omega
            have hqk : q ≤ j := by omega
            have hqc3 : q ≤ c := by omega
            have HB0 := Lib.hid (show Below w1.heap.size w1 w1.drew from (Below.refl _ _).drew)
            have HST := Lib.hid (show ∀ W1 : World, Below w1.heap.size w1 W1 → ∀ i (hi : i < (C.take q).length), W1.cell? ((⟨g, k, none⟩ : Addr).add i) = some (.int .i64 (C.take q)[i]) from fun W1 hb i hi => by
              rw [addr_add, ((H.out.take q).keep hb) i hi, List.getD_eq_getElem?_getD, List.getElem?_eq_getElem hi]; rfl)
            go_wp2
            go_region_law (first | (refine step_appS rfl (.tmp 46) (.tmp 49) rfl w1.heap.size _ (C.drop q) (C.take q) ⟨g, k, none⟩ q c rfl rfl HR1.out HTL.out (HST.out _ HB1.out) (by rw [HDL.out, HTL.out]; omega) HB1.out.size ?_; intro v2 w2 hr2 hg2 hb2; have HR2 := Lib.hid hr2; have HB2 := Lib.hid (HB1.out.trans hb2); clear hr2 hg2 hb2) | (go_simp; go_at_call 56; refine (own_src _ (C.drop q) _ (HSD.out _ _ HB0.out) (by rw [HDL.out]; omega)).mono ?_; rintro e w1' ⟨v1, rfl, hr1, hb1⟩; have HR1 := Lib.hid (hr1.mono HB0.out.size); have HB1 := Lib.hid (Below.step HB0.out HB0.out.size hb1); clear hr1 hb1))
            all_goals
              go_simp
              go_wp2
              go_ret2
              exact ⟨_, by rw [HO1.out]; rfl, by rw [HRES.out, HMI.out]; exact HR2.out.mono HB.out.size, Below.step HB.out HB.out.size HB2.out⟩
    · have a2 : decide (Tm m) = false := decide_eq_false hm
      have HO := Lib.hid (show OK_CircleOf n m = false from decide_eq_false (fun c => hm c.2.1))
      have HL := Lib.hid (show LF_CircleOf n m = [] from if_neg (fun c => hm c.2.1))
      rw [HO.out, HL.out]
      clear hn hm
      go_enter Try.func13, Try.ntmps13
      go_wp2_with (first | (go_at_call 49; refine (dvNumber_any _ _).mono ?_; rintro e w3 ⟨rfl, rfl⟩) | (go_at_call 50; refine (dvTerms_any _ _).mono ?_; rintro e w3 ⟨rfl, rfl⟩))
      go_ret2
      exact ⟨_, rfl, Rd.nil _ _, Below.refl _ _⟩
  · have a1 : decide (Dv n) = false := decide_eq_false hn
    have HO := Lib.hid (show OK_CircleOf n m = false from decide_eq_false (fun c => hn c.1))
    have HL := Lib.hid (show LF_CircleOf n m = [] from if_neg (fun c => hn c.1))
    rw [HO.out, HL.out]
    clear hn
    go_enter Try.func13, Try.ntmps13
    go_wp2_with (go_at_call 49; refine (dvNumber_any _ _).mono ?_; rintro e w3 ⟨rfl, rfl⟩)
    go_ret2
    exact ⟨_, rfl, Rd.nil _ _, Below.refl _ _⟩

end Go.Proofs.Ytlpmfapjgmhbhaa
