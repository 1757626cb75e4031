/-
  The number of a word: the model's search, the answers.
-/
import Derived.Test.YtbgnieajeipllaaDoorYV
namespace Go.Proofs.YtbgnieajeipllaaDoor
open Go.RowKit
set_option linter.unusedVariables false
set_option linter.unusedSimpArgs false
set_option maxRecDepth 100000

theorem ba_mk (l : List UInt8) : (⟨l.toArray⟩ : ByteArray).toList = l := by rw [ba_toList]

theorem stOf_any (s : ByteArray) (w : World) (hs : s.size ≤ 20) (hA : s.data.toList.all isL = true) :
    Calls Tryd.prog 10 #[.string s] w fun e w' => e = .returned (.int .i64 (nw s.data.toList 0 1)) ∧ Below w.heap.size w w' := by
  obtain ⟨l, hl⟩ : ∃ l, l = s.data.toList := ⟨_, rfl⟩
  have HLL := Lib.hid (show l.length = s.size by rw [hl, ba_size])
  have HL := Lib.hid hl
  have HAL := Lib.hid (show ∀ j (h : j < l.length), isL l[j] = true from fun j h => List.all_eq_true.1 (by rw [← hl] at hA; exact hA) _ (List.getElem_mem h))
  rw [← hl]
  obtain ⟨R, hR⟩ : ∃ R, R = nw l 0 1 := ⟨_, rfl⟩
  have HR := Lib.hid hR
  rw [← hR]
  clear hl hA hR
  go_enter Tryd.func10, Tryd.ntmps10
  go_wp2
  go_loopw [3, 4, 5] (fun a p i wr => ∃ (j : Nat) (n P : Int), j ≤ s.size ∧ i = .int .i64 ((j + 1 : Nat) : Int) ∧ a = .int .i64 n ∧ p = .int .i64 P ∧ Hid (P = 2 ^ j) ∧ 1 ≤ n ∧ Hid (n ≤ P) ∧ Hid (lts (shL j n) = l.take j) ∧ Hid (nw (l.drop j) j n = R) ∧ Below w.heap.size w wr) (fun _ _ i _ => s.size + 1 - (intOf i).toNat)
  case atStart => exact ⟨0, 1, 1, Nat.zero_le _, rfl, rfl, rfl, Lib.hid rfl, by omega, Lib.hid (Int.le_refl _), Lib.hid rfl, Lib.hid (by rw [HR.out]; rfl), Below.refl _ _⟩
  case round =>
    rename World => wa
    obtain ⟨j, n, P, hj, rfl, rfl, rfl, HP, hn, HNP, HW, HE, hbl⟩ := hrel
    have HBL := Lib.hid hbl
    clear hbl
    by_cases hlt : j < s.size
    · have hjl : j < l.length := by rw [HLL.out]; exact hlt
      have HST := Lib.hid (nw_step n hjl)
      have HIL := Lib.hid (HAL.out j hjl)
      have HTK := Lib.hid (show l.take (j + 1) = l.take j ++ [l[j]'hjl] by rw [List.take_add_one, List.getElem?_eq_getElem hjl]; rfl)
      obtain ⟨c, hc⟩ : ∃ c, c = l[j]'hjl := ⟨_, rfl⟩
      rw [← hc] at HST HIL HTK
      clear hc
      obtain ⟨pb1, pb2⟩ := p2_20 j (by omega)
      have hP0 : 1 ≤ P ∧ P ≤ 1048576 := by rw [HP.out]; omega
      have hnP : n ≤ P := HNP.out
      have HP2 := Lib.hid (show P * 2 = 2 ^ (j + 1) by rw [HP.out, Int.pow_succ])
      have hsl : ∀ w : World, (Instr.slice 9 (.string s) none (some (.int .i64 ((j : Int) + 1))) none).run Tryd.prog w = .ok (.string (s.extract 0 (j + 1))) w := fun w => run_to s (j + 1) (by omega) w
      obtain ⟨v, hv⟩ : ∃ v, v = s.extract 0 (j + 1) := ⟨_, rfl⟩
      have HV := Lib.hid (show v.toList = l.take j ++ [c] by rw [hv, ba_toList, ba_take, ← HL.out, HTK.out])
      rw [← hv] at hsl
      have hP2k : n + P ≤ 2097152 := by omega
      obtain ⟨S, hS⟩ : ∃ S, S = n + P := ⟨_, rfl⟩
      have HSS := Lib.hid hS
      have hS1 : 1 ≤ S ∧ S ≤ 2097152 := by omega
      have HSP := Lib.hid (show S = n + 2 ^ j by rw [hS, HP.out])
      have hS2 : n + P = S := hS.symm
      have HW1 := Lib.hid (fun w' => stWord_any n (j + 1) (some (shL (j + 1) n)) w' ⟨hn, by omega⟩ (by omega) (shs_all hn (by omega) (j + 1) (by omega)).symm)
      have hj1 : (((j + 1 : Nat)) : Int) = (j : Int) + 1 := by omega
      obtain ⟨g1, hg1⟩ : ∃ g1 : ByteArray, g1 = ⟨(wrdL (some (shL (j + 1) n))).toArray⟩ := ⟨_, rfl⟩
      have HG1 := Lib.hid (show g1.toList = lts (shL (j + 1) n) by rw [hg1, ba_mk]; rfl)
      obtain ⟨z1, hz1⟩ : ∃ z1, z1 = wrdN (some (shL (j + 1) n)) (shN (j + 1) n) := ⟨_, rfl⟩
      have HW1' := Lib.hid (show ∀ w' : World, Calls Tryd.prog 18 #[.int .i64 n, .int .i64 ((j : Int) + 1)] w' fun e w'' => e = .returned (.tuple #[.string g1, .int .i64 z1, .bool true]) ∧ Below w'.heap.size w' w'' by
        rw [hg1, hz1]; exact HW1.out)
      clear hv hP2k hS HW1 hg1 hz1 pb1 pb2 hj1
      have hcell0 : (wa.alloc (.cells #[.int .i64 n, .int .i64 S] 3)).cell? ⟨wa.heap.size, 0, none⟩ = some (.int .i64 n) := by simp [go_sem]
      have hcell1 : (wa.alloc (.cells #[.int .i64 n, .int .i64 S] 3)).cell? ⟨wa.heap.size, 1, none⟩ = some (.int .i64 S) := by simp [go_sem]
      have HC0 := Lib.hid hcell0
      have HC1 := Lib.hid hcell1
      clear hcell0 hcell1
      go_wp2
      by_cases hfit : let1 (shN j n) = c
      · have hbq : (g1.toList == v.toList) = true := by rw [HG1.out, HV.out, word_yes HW.out hfit]; exact beq_self_eq_true _
        have HNX := Lib.hid (show nw (l.drop (j + 1)) (j + 1) n = R by rw [← HE.out, HST.out, if_pos hfit])
        have HWX := Lib.hid (show lts (shL (j + 1) n) = l.take (j + 1) by rw [HTK.out]; exact word_yes HW.out hfit)
        clear hfit
        refine wp_loop_rounds 1 ?_
        rw [rounds_succ]
        have c0 := HC0.out
        go_wp2_with (go_at_call 18; refine (HW1'.out _).mono ?_; rintro e w1 ⟨rfl, hb⟩; have HB1 := Lib.hid (Below.step (HBL.out.alloc HBL.out.size _) (HBL.out.alloc HBL.out.size _).size hb); clear hb)
        go_roundw
        case rel => exact ⟨j + 1, n, P * 2, by omega, by go_num, rfl, by go_num, HP2, hn, Lib.hid (by omega), HWX, HNX, HB1.out⟩
        case measure => simp [intOf]; omega
      · have hbq : (g1.toList == v.toList) = false := by rw [HG1.out, HV.out]; exact beq_eq_false_iff_ne.2 (word_no HW.out hfit)
        have HWX := Lib.hid (show lts (shL (j + 1) S) = l.take (j + 1) by rw [HTK.out, HSP.out]; exact word_next HW.out HIL.out hfit)
        have HNX := Lib.hid (show nw (l.drop (j + 1)) (j + 1) S = R by rw [← HE.out, HST.out, if_neg hfit, HSP.out])
        have HW2 := Lib.hid (fun w' => stWord_any S (j + 1) (some (shL (j + 1) S)) w' ⟨hS1.1, by omega⟩ (by omega) (shs_up hS1.1 hS1.2 (j + 1) (by omega)).symm)
        obtain ⟨g2, hg2⟩ : ∃ g2 : ByteArray, g2 = ⟨(wrdL (some (shL (j + 1) S))).toArray⟩ := ⟨_, rfl⟩
        have HG2 := Lib.hid (show g2.toList = lts (shL (j + 1) S) by rw [hg2, ba_mk]; rfl)
        obtain ⟨z2, hz2⟩ : ∃ z2, z2 = wrdN (some (shL (j + 1) S)) (shN (j + 1) S) := ⟨_, rfl⟩
        have HW2' := Lib.hid (show ∀ w' : World, Calls Tryd.prog 18 #[.int .i64 S, .int .i64 ((j : Int) + 1)] w' fun e w'' => e = .returned (.tuple #[.string g2, .int .i64 z2, .bool true]) ∧ Below w'.heap.size w' w'' by
          rw [hg2, hz2]; exact HW2.out)
        have hbq2 : (g2.toList == v.toList) = true := by rw [HG2.out, HV.out, HWX.out, HTK.out]; exact beq_self_eq_true _
        have HSN := Lib.hid (show S ≤ P * 2 by rw [HSS.out]; omega)
        clear hfit HW2 hg2 hz2
        refine wp_loop_rounds 2 ?_
        rw [rounds_succ]
        have c0 := HC0.out
        go_wp2_with (go_at_call 18; refine (HW1'.out _).mono ?_; rintro e w1 ⟨rfl, hb⟩; have c1 := Below.keeps_cell hb HC1.out; have HB1 := Lib.hid (Below.step (HBL.out.alloc HBL.out.size _) (HBL.out.alloc HBL.out.size _).size hb); clear hb)
        rw [rounds_succ]
        go_wp2_with (go_at_call 18; refine (HW2'.out _).mono ?_; rintro e w2 ⟨rfl, hb⟩; have HB2 := Lib.hid (Below.step HB1.out HB1.out.size hb); clear hb)
        go_roundw
        case rel => exact ⟨j + 1, S, P * 2, by omega, by go_num, rfl, by go_num, HP2, hS1.1, Lib.hid HSN.out, HWX, HNX, HB2.out⟩
        case measure => simp [intOf]; omega
    · have HD := Lib.hid (show n = R by rw [← HE.out, nw_done n (by rw [HLL.out]; omega)])
      go_wp2
      go_ret
      exact ⟨by rw [HD.out]; rfl, HBL.out⟩

def RNumberOfWord (s : ByteArray) : Option Int := if okW s = true then some (nw s.data.toList 0 1) else none

theorem spec_NumberOfWord (s : ByteArray) (w : World) :
    Calls Tryd.prog 5 #[.string s] w fun e w' => e = .returned (optRes (RNumberOfWord s)) ∧ Below w.heap.size w w' := by
  by_cases h : okW s = true
  · have HO := Lib.hid h
    have HR := Lib.hid (show RNumberOfWord s = some (nw s.data.toList 0 1) from if_pos h)
    have h2 : s.size ≤ 20 ∧ s.data.toList.all isL = true := by
      unfold okW at h
      rw [Bool.and_eq_true, decide_eq_true_eq] at h
      exact h
    have HA := Lib.hid h2
    clear h h2
    go_enter Tryd.func5, Tryd.ntmps5
    go_wp2_with (first | (go_at_call 9; refine (stLetters_any _ _).mono ?_; rw [HO.out]; rintro e w1 ⟨rfl, rfl⟩) | (go_at_call 10; refine (stOf_any _ _ HA.out.1 HA.out.2).mono ?_; rintro e w1 ⟨rfl, hb⟩; have HB := Lib.hid hb; clear hb))
    go_ret2
    exact ⟨by rw [HR.out]; rfl, HB.out⟩
  · have HO := Lib.hid (show okW s = false by simpa using h)
    have HR := Lib.hid (show RNumberOfWord s = none from if_neg h)
    clear h
    go_enter Tryd.func5, Tryd.ntmps5
    go_wp2_with (go_at_call 9; refine (stLetters_any _ _).mono ?_; rw [HO.out]; rintro e w1 ⟨rfl, rfl⟩)
    go_ret2
    exact ⟨by rw [HR.out]; rfl, Below.refl _ _⟩

theorem impl_NumberOfWord (s : ByteArray) (w : World) :
    Calls Tryd.prog 6 #[.string s] w fun e w' => e = .returned (optRes (RNumberOfWord s)) ∧ Below w.heap.size w w' := by
  by_cases h : okW s = true
  · have HO := Lib.hid h
    have HR := Lib.hid (show RNumberOfWord s = some (nw s.data.toList 0 1) from if_pos h)
    have h2 : s.size ≤ 20 ∧ s.data.toList.all isL = true := by
      unfold okW at h
      rw [Bool.and_eq_true, decide_eq_true_eq] at h
      exact h
    have HA := Lib.hid h2
    clear h h2
    go_enter Tryd.func6, Tryd.ntmps6
    go_wp2_with (first | (go_at_call 11; refine (isParityWord_any _ _).mono ?_; rw [HO.out]; rintro e w1 ⟨rfl, hb⟩; have HB := Lib.hid hb; clear hb) | (go_at_call 12; refine (numberOfWord_any _ _ HA.out.1 HA.out.2).mono ?_; rintro e w1 ⟨rfl, rfl⟩))
    go_ret2
    exact ⟨by rw [HR.out]; rfl, HB.out⟩
  · have HO := Lib.hid (show okW s = false by simpa using h)
    have HR := Lib.hid (show RNumberOfWord s = none from if_neg h)
    clear h
    go_enter Tryd.func6, Tryd.ntmps6
    go_wp2_with (go_at_call 11; refine (isParityWord_any _ _).mono ?_; rw [HO.out]; rintro e w1 ⟨rfl, hb⟩; have HB := Lib.hid hb; clear hb)
    go_ret2
    exact ⟨by rw [HR.out]; rfl, HB.out⟩

theorem law_NumberOfWord {W : World} (s : ByteArray) (hz : s.size ≤ maxLen) :
    Calls Tryd.prog 3 #[.string s] W fun e w' => e = .returned (.bool true) ∧ Below W.heap.size W w' := by
  unfold maxLen at hz
  by_cases hl : s.size ≤ 1048576
  · go_enter Tryd.func3, Tryd.ntmps3
    go_wp2_with (first | (go_at_call 5; refine (spec_NumberOfWord _ _).mono ?_; rintro e w1 ⟨rfl, hbl⟩; have HB1 := Lib.hid hbl; clear hbl) | (go_at_call 6; refine (impl_NumberOfWord _ _).mono ?_; rintro e w2 ⟨rfl, hbl⟩; have HB2 := Lib.hid hbl; clear hbl))
    go_ret
    exact ⟨by simp, Below.step HB1.out HB1.out.size HB2.out⟩
  · go_enter Tryd.func3, Tryd.ntmps3
    go_wp2
    go_ret
    exact ⟨rfl, Below.refl _ _⟩

end Go.Proofs.YtbgnieajeipllaaDoor
