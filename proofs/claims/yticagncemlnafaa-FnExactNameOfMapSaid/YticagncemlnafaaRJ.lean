/-
  The model: the name of a map, walked.
-/
import Derived.Test.YticagncemlnafaaRI
import Derived.Test.YticagncemlnafaaPZ
namespace Go.Proofs.Yticagncemlnafaa
open Go.RowKit
set_option linter.unusedVariables false
set_option linter.unusedSimpArgs false
set_option maxRecDepth 100000
set_option maxHeartbeats 1000000

/-- The least of the first k turned texts between its signs, without the closing one and the opening one; nothing before the first. -/
def bestT (ts : List Txt) (k : Nat) : Txt := if k = 0 then [] else 91 :: (minTo ts k ++ [93])

theorem mpName_any (g n cap : Nat) (f : Nat → Nat) (w : World) (h : Mp w g n f) :
    Calls Try.prog 89 #[.slice (some ⟨g, 0, none⟩) n cap] w fun e w' => e = .returned (.string ⟨(nameT f n).toArray⟩) ∧ Below w.heap.size w w' := by
  have H := Lib.hid h
  have h0 := h.n0
  have h1 := h.n1
  clear h
  go_enter Try.func89, Try.ntmps89
  go_wp2_with (first
    | (go_at_call 65; refine (mpCyclic_any g n cap f _ H.out).mono ?_; rintro e w1 ⟨gc, rfl, hs, hb⟩; have HS1 := Lib.hid (Rb.bp hs); have HB1 := Lib.hid hb; have H1 := Lib.hid (H.out.keep hb); clear hs hb)
    | (go_at_call 71; refine (mpCycles_any g n cap f _ H1.out).mono ?_; rintro e w2 ⟨v, vs, rfl, hv, hb⟩; have HV := Lib.hid hv; have HB2 := Lib.hid hb; clear hv hb; obtain ⟨av, cv, rfl⟩ := HV.out.row.len))
  obtain ⟨NC, hNC⟩ : ∃ x, x = (cycs f n).length := ⟨_, rfl⟩
  have HNC := Lib.hid hNC
  have hvl : vs.length = NC := by rw [hNC]; exact HV.out.len
  have hNCn : NC ≤ n := by rw [hNC]; exact cycsTo_len f n n
  rw [hvl] at HV ⊢
  clear hNC hvl
  have HW2 := Lib.hid (Below.step HB1.out HB1.out.size HB2.out)
  go_wp2
  go_loopw [4, 22] (fun v i wr => ∃ k : Nat, k ≤ NC ∧ i = .int .i64 k ∧ Rt wr w2.heap.size v (((cycs f n).take k).map (cycT f n)) ∧ Below w2.heap.size w2 wr) (fun _ i _ => NC - (intOf i).toNat)
  case atStart => exact ⟨0, Nat.zero_le _, rfl, Rg.nil _ _ _, Below.refl _ _⟩
  case round =>
    rename World => wa
    obtain ⟨k, hk, rfl, hr, hb⟩ := hrel
    have HR := Lib.hid hr
    have HB := Lib.hid hb
    clear hr hb
    have HBa := Lib.hid (Below.step HW2.out HW2.out.size HB.out)
    have HB1a := Lib.hid (Below.step HB2.out HB2.out.size HB.out)
    have HVa := Lib.hid (HV.out.keep HB.out)
    by_cases hlt : k < NC
    · obtain ⟨l, hl⟩ : ∃ l, (cycs f n)[k]? = some l := ⟨(cycs f n)[k]'(by have := HNC.out; omega), by simp⟩
      have HL := Lib.hid hl
      have hll := cycs_lens H.out.into h1 l (List.mem_of_getElem? hl)
      obtain ⟨gv, hgv⟩ : ∃ gv, av = some ⟨gv, 0, none⟩ := by
        rcases HV.out.row.cases with ⟨hv, _⟩ | ⟨gv, c2, hv⟩
        · simp only [Value.slice.injEq] at hv; omega
        · simp only [Value.slice.injEq] at hv; exact ⟨gv, hv.1⟩
      subst hgv
      obtain ⟨gu, cu, hvj, hru⟩ := HVa.out.shape hl (fun e => by rw [e] at hll; simp at hll)
      have hcell : wa.cell? ⟨gv, k, none⟩ = some (.slice (some ⟨gu, 0, none⟩) l.length cu) := by
        obtain ⟨i1, i2⟩ := List.getElem?_eq_some_iff.1 hvj
        obtain ⟨_, _, _, _, _, hc, _⟩ := HVa.out.row.at
        rw [hc k i1, i2]
      obtain ⟨p, hp⟩ : ∃ p, p = l.length := ⟨_, rfl⟩
      have HP := Lib.hid hp
      have HU := Lib.hid hru
      rw [← hp] at hcell HU hll
      obtain ⟨ts, hts⟩ : ∃ ts, ts = l.map (tr f n) := ⟨_, rfl⟩
      have HTS := Lib.hid hts
      have HTL := Lib.hid (show ts.length = p by rw [hts, hp, List.length_map])
      have HCL := Lib.hid (show ts.flatten.length ≤ 7200 by rw [hts]; exact circ_len H.out.into h1 hl)
      have HSTEP := Lib.hid (show ((cycs f n).take (k + 1)).map (cycT f n) = ((cycs f n).take k).map (cycT f n) ++ [91 :: (minTo ts p ++ [93])] by
        rw [List.take_add_one, hl, hts, hp]; simp [cycT])
      have HEL := Lib.hid (show ∀ (j x : Nat), l[j]? = some x → x < n ∧ ts[j]? = some (tr f n x) from fun j x hx => ⟨(cycs_cyc H.out.into hl (List.mem_of_getElem? hx)).2, by rw [hts, List.getElem?_map, hx]; rfl⟩)
      have hp1 := hll.1
      have hp2 := hll.2
      clear hl hvj hru hp hts hll
      go_wp2
      go_loopw [7, 28] (fun v i wr => ∃ j : Nat, j ≤ p ∧ i = .int .i64 j ∧ Rt wr wa.heap.size v (ts.take j) ∧ Below wa.heap.size wa wr) (fun _ i _ => p - (intOf i).toNat)
      case atStart => exact ⟨0, Nat.zero_le _, rfl, Rg.nil _ _ _, Below.refl _ _⟩
      case round =>
        rename World => wb
        obtain ⟨j, hj, rfl, hr, hb⟩ := hrel
        have HRj := Lib.hid hr
        have HBj := Lib.hid hb
        have HBw := Lib.hid (Below.step HBa.out HBa.out.size hb)
        have HBs := Lib.hid (Below.step HB1a.out HB1a.out.size hb)
        clear hr hb
        by_cases hjp : j < p
        · obtain ⟨x, hx⟩ : ∃ x, l[j]? = some x := ⟨l[j]'(by have := HP.out; omega), by simp⟩
          obtain ⟨hxn, hxt⟩ := HEL.out j x hx
          have HXT := Lib.hid (show ts.take (j + 1) = ts.take j ++ [tr f n x] by rw [List.take_add_one, hxt]; rfl)
          have HTK := Lib.hid (show (ts.take j).length ≤ 60 by rw [List.length_take]; omega)
          have hcx : wb.cell? ⟨gu, j, none⟩ = some (.int .i64 (x : Int)) := by
            obtain ⟨i1, i2⟩ := List.getElem?_eq_some_iff.1 hx
            rw [(HU.out.keep HBj.out).at.2.2.2.2.1 j (by rw [nts_len]; exact i1)]
            simp [nts, i2]
          clear hx hxt
          go_wp2_with (first
            | (go_at_call 100; refine (mpTree_any (n + 1) g n cap gc n x f _ (H.out.keep HBw.out) (HS1.out.keep HBs.out) hxn (by omega)).mono ?_; rintro e w4 ⟨rfl, hb4⟩; have HR4 := Lib.hid (HRj.out.keep hb4); have HB4 := Lib.hid (Below.step HBj.out HBj.out.size hb4); clear hb4)
            | (at_builtin; refine wpList_appG rfl (.tmp 32) (.tmp 37) _ 9 (.string ⟨#[]⟩) 16 Try.underlying78 infoT (by omega) rfl rfl wa.heap.size wa.heap.size _ _ ((ts.take j).map encStr) [encStr (tr f n x)] rfl rfl (HR4.out.alloc _) (Rg.lit _ _ _ _ HB4.out.size) (by simp [encStr, Value.oneCell']) (by have := HTK.out; simp; omega) (by have := HB4.out.size; simp; omega) ?_; intro v5 w5 hr5 hg5 hb5))
          have HR5 := Lib.hid hr5
          have HB5 := Lib.hid ((HB4.out.alloc HB4.out.size _).trans hb5)
          clear hr5 hg5 hb5
          go_wp2
          go_roundw
          case rel => exact ⟨j + 1, by omega, by go_num, by unfold Rt; rw [HXT.out, List.map_append]; exact HR5.out, HB5.out⟩
          case measure => simp [intOf]; omega
        · obtain rfl : j = p := by omega
          have HFA := Lib.hid (show ts.take j = ts from List.take_of_length_le (Nat.le_of_eq HTL.out))
          rw [HFA.out] at HRj
          obtain ⟨gp, cp, hgp⟩ : ∃ gp cp, u7 = .slice (some ⟨gp, 0, none⟩) j cp := by
            rcases HRj.out.cases with ⟨_, hz⟩ | ⟨gp, cp, hv⟩
            · have := HTL.out; rw [List.map_eq_nil_iff.1 hz] at this; simp at this; omega
            · rw [List.length_map, HTL.out] at hv; exact ⟨gp, cp, hv⟩
          subst hgp
          go_wp2
          go_loopw [10, 42] (fun s i wr => ∃ (q : Nat) (b : Txt), q ≤ j ∧ i = .int .i64 q ∧ s = .string ⟨b.toArray⟩ ∧ Hid (b = bestT ts q) ∧ wb = wr) (fun _ i _ => j - (intOf i).toNat)
          case atStart => exact ⟨0, [], Nat.zero_le _, rfl, rfl, Lib.hid rfl, rfl⟩
          case round =>
            obtain ⟨q, b, hq, rfl, rfl, HBQ, rfl⟩ := hrel
            by_cases hqj : q < j
            · go_wp2
              go_loopw [12, 47] (fun s i wr => ∃ (r : Nat) (pre : Txt), r ≤ j ∧ i = .int .i64 r ∧ s = .string ⟨pre.toArray⟩ ∧ Hid (pre = [91] ++ ((rotL ts q).take r).flatten) ∧ wb = wr) (fun _ i _ => j - (intOf i).toNat)
              case atStart => exact ⟨0, [91], Nat.zero_le _, rfl, rfl, Lib.hid (by simp), rfl⟩
              case round =>
                obtain ⟨r, pre, hr, rfl, rfl, HPRE, rfl⟩ := hrel
                by_cases hrj : r < j
                · have hjp2 : 0 < j := by omega
                  have hmod : (q + r) % j < j := Nat.mod_lt _ hjp2
                  obtain ⟨z, hz⟩ : ∃ z, ts[(q + r) % j]? = some z := ⟨ts[(q + r) % j]'(by rw [HTL.out]; exact hmod), by simp⟩
                  have hzr : (rotL ts q)[r]? = some z := by rw [rotL_at (by rw [HTL.out]; exact hqj) (by rw [HTL.out]; exact hrj), HTL.out]; exact hz
                  have hcz : wb.cell? ⟨gp, (q + r) % j, none⟩ = some (.string ⟨z.toArray⟩) := by
                    obtain ⟨i1, i2⟩ := List.getElem?_eq_some_iff.1 hz
                    rw [HRj.out.at.2.2.2.2.2.1 _ (by rw [List.length_map]; exact i1)]
                    simp [encStr, i2]
                  have hzl := flat_at hz
                  have hpl : pre.length ≤ 7201 := by
                    rw [HPRE.out, List.length_append]
                    have h2 := take_flat_len (rotL ts q) r
                    have h3 := rotT_len ts q
                    unfold rotT at h3
                    have := HCL.out
                    simp only [List.length_cons, List.length_nil]; omega
                  have HN := Lib.hid (show pre ++ z = [91] ++ ((rotL ts q).take (r + 1)).flatten by rw [HPRE.out, take_flat_step hzr, List.append_assoc])
                  have hadd := fun (w : World) => addS (P := Try.prog) w pre z (by omega) (by have := HCL.out; omega)
                  have hmodI : ((q : Int) + (r : Int)) % (j : Int) < (j : Int) := Int.emod_lt_of_pos _ (by omega)
                  have hmod0 : 0 ≤ ((q : Int) + (r : Int)) % (j : Int) := Int.emod_nonneg _ (by omega)
                  clear hz hzr hzl hpl
                  go_wp2
                  go_roundw
                  case rel => exact ⟨r + 1, pre ++ z, by omega, by go_num, rfl, HN, trivial⟩
                  case measure => simp [intOf]; omega
                · obtain rfl : r = j := by omega
                  have hpe : pre = 91 :: rotT ts q := by rw [HPRE.out, List.take_of_length_le (by rw [rotL_len, HTL.out]; exact Nat.le_refl _)]; rfl
                  have hpl : pre.length ≤ 7201 := by rw [hpe, List.length_cons, rotT_len]; have := HCL.out; omega
                  have hadd := fun (w : World) => addS (P := Try.prog) w pre [93] (by omega) (by simp)
                  obtain ⟨q2, hq2⟩ : ∃ x, x = pre ++ [93] := ⟨_, rfl⟩
                  have hq2e : q2 = 91 :: (rotT ts q ++ [93]) := by rw [hq2, hpe]; rfl
                  rw [← hq2] at hadd
                  have HQ2 := Lib.hid hq2e
                  clear hpe hpl hq2 hq2e
                  by_cases hq0 : q = 0
                  · subst hq0
                    obtain rfl : b = [] := HBQ.out
                    have HNB := Lib.hid (show q2 = bestT ts (0 + 1) by rw [HQ2.out]; unfold bestT; rw [if_neg (by omega), minTo_one, rotT_zero])
                    go_wp2
                    go_roundw
                    case rel => exact ⟨0 + 1, q2, by omega, by go_num, rfl, HNB, trivial⟩
                    case measure => simp [intOf]; omega
                  · obtain ⟨t, ht⟩ : ∃ t, t = minTo ts q ++ [93] := ⟨_, rfl⟩
                    obtain rfl : b = 91 :: t := by rw [HBQ.out, ht]; unfold bestT; rw [if_neg hq0]
                    have hmw := min_wrap ts q
                    rw [← HQ2.out, ← ht] at hmw
                    have hbl : Op.bytesLess q2 (91 :: t) = decide (q2 < 91 :: t) := Proofs.bytesLess_eq _ _
                    by_cases hlw : q2 < 91 :: t
                    · rw [if_pos hlw] at hmw
                      rw [decide_eq_true hlw] at hbl
                      have HNB := Lib.hid (show q2 = bestT ts (q + 1) by unfold bestT; rw [if_neg (by omega), hmw])
                      clear hmw hlw ht
                      go_wp2
                      go_roundw
                      case rel => exact ⟨q + 1, q2, by omega, by go_num, rfl, HNB, trivial⟩
                      case measure => simp [intOf]; omega
                    · rw [if_neg hlw] at hmw
                      rw [decide_eq_false hlw] at hbl
                      have HNB := Lib.hid (show 91 :: t = bestT ts (q + 1) by unfold bestT; rw [if_neg (by omega), hmw])
                      clear hmw hlw ht
                      go_wp2
                      go_roundw
                      case rel => exact ⟨q + 1, 91 :: t, by omega, by go_num, rfl, HNB, trivial⟩
                      case measure => simp [intOf]; omega
            · obtain rfl : q = j := by omega
              have HBE := Lib.hid (show b = 91 :: (minTo ts q ++ [93]) by rw [HBQ.out]; unfold bestT; rw [if_neg (by omega)])
              have HKL := Lib.hid (show (((cycs f n).take k).map (cycT f n)).length ≤ 60 by rw [List.length_map, List.length_take]; omega)
              rw [← HBE.out] at HSTEP
              go_wp2_with (at_builtin; refine wpList_appG rfl (.tmp 73) (.tmp 75) _ 9 (.string ⟨#[]⟩) 16 Try.underlying78 infoT (by omega) rfl rfl w2.heap.size w2.heap.size _ _ (((cycs f n).take k).map (cycT f n) |>.map encStr) [.string ⟨b.toArray⟩] rfl rfl ((HR.out.keep HBj.out).alloc _) (Rg.lit _ _ _ _ (Nat.le_trans HB.out.size HBj.out.size)) (by simp [Value.oneCell']) (by have := HKL.out; simp; omega) (by have := HBj.out.size; have := HB.out.size; simp; omega) ?_; intro v5 w5 hr5 hg5 hb5)
              have HR5 := Lib.hid hr5
              have t1 := Below.step HB.out HB.out.size HBj.out
              have HB5 := Lib.hid ((t1.alloc t1.size _).trans hb5)
              clear hr5 hg5 hb5 t1
              go_wp2
              go_roundw
              case rel => exact ⟨k + 1, by omega, by go_num, by unfold Rt; rw [HSTEP.out, List.map_append]; exact HR5.out, HB5.out⟩
              case measure => simp [intOf]; omega
    · obtain rfl : k = NC := by omega
      have HCA := Lib.hid (show (cycs f n).take k = cycs f n from List.take_of_length_le (Nat.le_of_eq HNC.out.symm))
      rw [HCA.out] at HR
      have HLS := Lib.hid (show ((cycs f n).map (cycT f n)).length ≤ 20000 by rw [List.length_map, ← HNC.out]; omega)
      go_wp2_with fail
      refine (mpSort_any _ _ w2.heap.size _ HR.out HLS.out).mono ?_
      rintro e w3 ⟨u3, rfl, hr, hb⟩
      obtain ⟨ts, hts⟩ : ∃ ts, ts = srtT ((cycs f n).map (cycT f n)) := ⟨_, rfl⟩
      rw [← hts] at hr
      have HNT := Lib.hid (show nameT f n = ts.flatten by rw [hts]; rfl)
      have HFN := Lib.hid (show ts.flatten.length ≤ 432120 by rw [← HNT.out]; exact name_flat H.out.into h1)
      obtain ⟨a2, c2, rfl⟩ := hr.len
      rw [List.length_map]
      obtain ⟨M, hM⟩ : ∃ M, M = ts.length := ⟨_, rfl⟩
      have HM := Lib.hid hM
      have HU2 := Lib.hid hr
      have hML : M ≤ 60 := by rw [hM, hts, srtT_len, List.length_map, ← HNC.out]; omega
      rw [List.length_map, ← hM] at HU2
      rw [← hM]
      have HB3 := Lib.hid (Below.step HW2.out HW2.out.size (Below.step HB.out HB.out.size hb))
      clear hr hb hts hM
      go_wp2
      go_loopw [14, 81] (fun s i wr => ∃ (q : Nat) (pre : Txt), q ≤ M ∧ i = .int .i64 q ∧ s = .string ⟨pre.toArray⟩ ∧ Hid (pre = (ts.take q).flatten) ∧ w3 = wr) (fun _ i _ => M - (intOf i).toNat)
      case atStart => exact ⟨0, [], Nat.zero_le _, rfl, rfl, Lib.hid (by simp), rfl⟩
      case round =>
        obtain ⟨q, pre, hq, rfl, rfl, HPRE, rfl⟩ := hrel
        have hpl : pre.length ≤ 432120 := by
          rw [HPRE.out]
          exact Nat.le_trans (take_flat_len ts q) HFN.out
        by_cases hqM : q < M
        · obtain ⟨z, hz⟩ : ∃ z, ts[q]? = some z := ⟨ts[q]'(by have := HM.out; omega), by simp⟩
          obtain ⟨g2, hg2⟩ : ∃ g2, a2 = some ⟨g2, 0, none⟩ := by
            rcases HU2.out.cases with ⟨hv, _⟩ | ⟨g2, c3, hv⟩
            · simp only [Value.slice.injEq] at hv; omega
            · simp only [Value.slice.injEq] at hv; exact ⟨g2, hv.1⟩
          subst hg2
          have hcell : w3.cell? ⟨g2, q, none⟩ = some (.string ⟨z.toArray⟩) := by
            obtain ⟨i1, i2⟩ := List.getElem?_eq_some_iff.1 hz
            rw [HU2.out.at.2.2.2.2.2.1 q (by rw [List.length_map]; exact i1)]
            simp [encStr, i2]
          have hzl := flat_at hz
          have HN := Lib.hid (show pre ++ z = (ts.take (q + 1)).flatten by rw [HPRE.out, take_flat_step hz])
          have hadd := fun (w : World) => addS (P := Try.prog) w pre z (by omega) (by have := HFN.out; omega)
          clear hz hzl
          go_wp2
          go_roundw
          case rel => exact ⟨q + 1, pre ++ z, by omega, by go_num, rfl, HN, trivial⟩
          case measure => simp [intOf]; omega
        · obtain rfl : q = M := by omega
          have HPN := Lib.hid (show pre = nameT f n by rw [HNT.out, HPRE.out, List.take_of_length_le (Nat.le_of_eq HM.out.symm)])
          go_wp2
          go_ret
          exact ⟨by rw [← HPN.out]; rfl, HB3.out⟩

end Go.Proofs.Yticagncemlnafaa
