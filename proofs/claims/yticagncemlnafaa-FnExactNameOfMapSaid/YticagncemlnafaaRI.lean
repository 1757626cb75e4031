/-
  The program: the name of a map, walked.
-/
import Derived.Test.YticagncemlnafaaRH
import Derived.Test.YticagncemlnafaaPY
import Derived.Test.YticagncemlnafaaQX
namespace Go.Proofs.Yticagncemlnafaa
open Go.RowKit
set_option linter.unusedVariables false
set_option linter.unusedSimpArgs false
set_option maxRecDepth 100000
set_option maxHeartbeats 1000000

/-- The first j texts, and empty ones behind. -/
def fillT (ts : List Txt) (j : Nat) : List Txt := ts.take j ++ List.replicate (ts.length - j) []
theorem fillT_zero (ts : List Txt) : fillT ts 0 = List.replicate ts.length [] := by simp [fillT]
theorem fillT_all (ts : List Txt) : fillT ts ts.length = ts := by simp [fillT]
theorem fillT_len (ts : List Txt) (j : Nat) (h : j ≤ ts.length) : (fillT ts j).length = ts.length := by simp [fillT]; omega
theorem fillT_set {ts : List Txt} {j : Nat} {z : Txt} (hz : ts[j]? = some z) : (fillT ts j).set j z = fillT ts (j + 1) := by
  obtain ⟨h1, h2⟩ := List.getElem?_eq_some_iff.1 hz
  unfold fillT
  rw [show ts.length - j = (ts.length - (j + 1)) + 1 by omega, List.replicate_succ, List.set_append, if_neg (by rw [List.length_take]; omega), List.take_add_one, hz]
  simp [Nat.min_eq_left (Nat.le_of_lt h1)]
theorem fillT_row {ts : List Txt} {j : Nat} {z : Txt} (hz : ts[j]? = some z) : ((fillT ts j).map encStr).set j (encStr z) = (fillT ts (j + 1)).map encStr := by
  rw [← fillT_set hz, List.map_set]

theorem sum_le {ts : List Txt} {k c : Nat} (h1 : ts.length ≤ k) (h2 : ∀ t ∈ ts, t.length ≤ c) : ts.flatten.length ≤ k * c := by
  rw [flat_sum]
  have : (ts.map List.length).sum ≤ ts.length * c := by
    clear h1
    induction ts with
    | nil => simp
    | cons a r ih =>
      have := ih fun t ht => h2 t (by simp [ht])
      have := h2 a (by simp)
      simp only [List.map_cons, List.sum_cons, List.length_cons, Nat.add_mul]
      omega
  exact Nat.le_trans this (Nat.mul_le_mul_right _ h1)

theorem circ_len {f : Nat → Nat} {n i : Nat} {l : List Nat} (h : Into f n) (h1 : n ≤ 60) (hl : (cycs f n)[i]? = some l) : (l.map (tr f n)).flatten.length ≤ 7200 := by
  have hp := (cycs_lens h h1 l (List.mem_of_getElem? hl)).2
  refine Nat.le_trans (sum_le (k := 60) (c := 120) (by rw [List.length_map]; exact hp) fun t ht => ?_) (by omega)
  obtain ⟨y, hy, rfl⟩ := List.mem_map.1 ht
  have := tr_len h (cycs_cyc h hl hy).2
  omega

theorem cycT_len {f : Nat → Nat} {n i : Nat} {l : List Nat} (h : Into f n) (h1 : n ≤ 60) (hl : (cycs f n)[i]? = some l) : (cycT f n l).length ≤ 7202 := by
  unfold cycT
  have := circ_len h h1 hl
  simp only [List.length_cons, List.length_append, List.length_nil, minTo_len]
  omega

theorem name_flat {f : Nat → Nat} {n : Nat} (h : Into f n) (h1 : n ≤ 60) : (nameT f n).length ≤ 432120 := by
  unfold nameT
  rw [srtT_flat, ← flat_sum]
  refine Nat.le_trans (sum_le (k := 60) (c := 7202) (by rw [List.length_map]; have := cycsTo_len f n n; exact Nat.le_trans this h1) fun t ht => ?_) (by omega)
  obtain ⟨l, hl, rfl⟩ := List.mem_map.1 ht
  obtain ⟨i, hi⟩ := List.getElem?_of_mem hl
  exact cycT_len h h1 hi

theorem name_any (g n cap : Nat) (f : Nat → Nat) (w : World) (h : Mp w g n f) :
    Calls Try.prog 91 #[.slice (some ⟨g, 0, none⟩) n cap] w fun e w' => e = .returned (.string ⟨(nameT f n).toArray⟩) ∧ Below w.heap.size w w' := by
  have H := Lib.hid h
  have h0 := h.n0
  have h1 := h.n1
  clear h
  go_enter Try.func91, Try.ntmps91
  go_wp2_with (first
    | (go_at_call 94; refine (onCycles_any g n cap f _ H.out).mono ?_; rintro e w1 ⟨b, rfl, hCb, hs, hb⟩; have HS1 := Lib.hid hs; have HB1 := Lib.hid hb; have H1 := Lib.hid (H.out.keep hb); clear hs hb hCb)
    | (go_at_call 68; refine (cycles_any g n cap f _ H1.out).mono ?_; rintro e w2 ⟨v, vs, rfl, hv, hb⟩; have HV := Lib.hid hv; have HB2 := Lib.hid hb; clear hv hb; obtain ⟨av, cv, rfl⟩ := HV.out.row.len))
  obtain ⟨NC, hNC⟩ : ∃ x, x = (cycs f n).length := ⟨_, rfl⟩
  have HNC := Lib.hid hNC
  have hvl : vs.length = NC := by rw [hNC]; exact HV.out.len
  have hNCn : NC ≤ n := by rw [hNC]; exact cycsTo_len f n n
  rw [hvl] at HV ⊢
  clear hNC hvl
  have HW2 := Lib.hid (Below.step HB1.out HB1.out.size HB2.out)
  go_wp2
  go_loopw [3, 15] (fun v i wr => ∃ k : Nat, k ≤ NC ∧ i = .int .i64 k ∧ Rt wr w2.heap.size v (((cycs f n).take k).map (cycT f n)) ∧ Below w2.heap.size w2 wr) (fun _ i _ => NC - (intOf i).toNat)
  case atStart => exact ⟨0, Nat.zero_le _, rfl, Rg.nil _ _ _, Below.refl _ _⟩
  case round =>
    rename World => wa
    obtain ⟨k, hk, rfl, hr, hb⟩ := hrel
    have HR := Lib.hid hr
    have HB := Lib.hid hb
    clear hr hb
    have HBa := Lib.hid (Below.step HW2.out HW2.out.size HB.out)
    have HB1a := Lib.hid (Below.step HB2.out HB2.out.size HB.out)
    have HVa := Lib.hid (HV.out.keep HB.out)
    by_cases hlt : k < NC
    · obtain ⟨l, hl⟩ : ∃ l, (cycs f n)[k]? = some l := ⟨(cycs f n)[k]'(by have := HNC.out; omega), by simp⟩
      have HL := Lib.hid hl
      have hll := cycs_lens H.out.into h1 l (List.mem_of_getElem? hl)
      obtain ⟨gv, hgv⟩ : ∃ gv, av = some ⟨gv, 0, none⟩ := by
        rcases HV.out.row.cases with ⟨hv, _⟩ | ⟨gv, c2, hv⟩
        · simp only [Value.slice.injEq] at hv; omega
        · simp only [Value.slice.injEq] at hv; exact ⟨gv, hv.1⟩
      subst hgv
      obtain ⟨gu, cu, hvj, hru⟩ := HVa.out.shape hl (fun e => by rw [e] at hll; simp at hll)
      have hcell : wa.cell? ⟨gv, k, none⟩ = some (.slice (some ⟨gu, 0, none⟩) l.length cu) := by
        obtain ⟨i1, i2⟩ := List.getElem?_eq_some_iff.1 hvj
        obtain ⟨_, _, _, _, _, hc, _⟩ := HVa.out.row.at
        rw [hc k i1, i2]
      obtain ⟨p, hp⟩ : ∃ p, p = l.length := ⟨_, rfl⟩
      have HP := Lib.hid hp
      have HU := Lib.hid hru
      rw [← hp] at hcell HU hll
      obtain ⟨ts, hts⟩ : ∃ ts, ts = l.map (tr f n) := ⟨_, rfl⟩
      have HTS := Lib.hid hts
      have HTL := Lib.hid (show ts.length = p by rw [hts, hp, List.length_map])
      have HCL := Lib.hid (show ts.flatten.length ≤ 7200 by rw [hts]; exact circ_len H.out.into h1 hl)
      have HSTEP := Lib.hid (show ((cycs f n).take (k + 1)).map (cycT f n) = ((cycs f n).take k).map (cycT f n) ++ [[91] ++ minTo ts p ++ [93]] by
        rw [List.take_add_one, hl, hts, hp]; simp [cycT])
      have HEL := Lib.hid (show ∀ (j x : Nat), l[j]? = some x → x < n ∧ ts[j]? = some (tr f n x) from fun j x hx => ⟨(cycs_cyc H.out.into hl (List.mem_of_getElem? hx)).2, by rw [hts, List.getElem?_map, hx]; rfl⟩)
      clear hl hvj hru hp hts
      go_wp2_with (at_make; refine wpList_mkG rfl _ _ _ 9 (.string ⟨#[]⟩) 16 Try.underlying78 infoT (by omega) rfl rfl .i64 .i64 _ _ p rfl rfl rfl rfl (by omega) ?_; intro w3 hr3 hg3 hb3)
      have HR3 := Lib.hid (show Rt w3 wa.heap.size (.slice (some ⟨wa.heap.size, 0, none⟩) p p) (fillT ts 0) by unfold Rt; rw [fillT_zero, HTL.out, List.map_replicate]; exact hr3)
      have HB3 := Lib.hid hb3
      clear hr3 hg3 hb3
      go_wp2
      go_loopw [24] (fun i wr => ∃ j : Nat, j ≤ p ∧ i = .int .i64 j ∧ Rt wr wa.heap.size (.slice (some ⟨wa.heap.size, 0, none⟩) p p) (fillT ts j) ∧ Below wa.heap.size wa wr) (fun i _ => p - (intOf i).toNat)
      case atStart => exact ⟨0, Nat.zero_le _, rfl, HR3.out, HB3.out⟩
      case round =>
        obtain ⟨j, hj, rfl, hr, hb⟩ := hrel
        have HRj := Lib.hid hr
        have HBj := Lib.hid hb
        have HBw := Lib.hid (Below.step HBa.out HBa.out.size hb)
        have HBs := Lib.hid (Below.step HB1a.out HB1a.out.size hb)
        clear hr hb
        by_cases hjp : j < p
        · obtain ⟨x, hx⟩ : ∃ x, l[j]? = some x := ⟨l[j]'(by have := HP.out; omega), by simp⟩
          obtain ⟨hxn, hxt⟩ := HEL.out j x hx
          have HXT := Lib.hid hxt
          have hcx : wr.cell? ⟨gu, j, none⟩ = some (.int .i64 (x : Int)) := by
            obtain ⟨i1, i2⟩ := List.getElem?_eq_some_iff.1 hx
            rw [(HU.out.keep HBj.out).at.2.2.2.2.1 j (by rw [nts_len]; exact i1)]
            simp [nts, i2]
          clear hx hxt
          go_wp2_with (go_at_call 102; refine (treeText_any (n + 1) g n cap b x f _ (H.out.keep HBw.out) (HS1.out.keep HBs.out) hxn (by omega)).mono ?_; rintro e w4 ⟨rfl, hb4⟩; have HR4 := Lib.hid (HRj.out.keep hb4); have HB4 := Lib.hid (Below.step HBj.out HBj.out.size hb4); clear hb4; have hfz := HR4.out.at.2.2.2.2.2.2 j; have hcz := HR4.out.at.2.2.2.2.2.1 j (by rw [List.length_map, fillT_len _ _ (by have := HTL.out; omega)]; have := HTL.out; omega))
          have HS4 := Lib.hid (HR4.out.set j (encStr (tr f n x)))
          go_wp2
          go_roundw
          case rel => exact ⟨j + 1, by omega, by go_num, by unfold Rt; rw [← fillT_row HXT.out]; exact HS4.out.1, HB4.out.setCell (p := ⟨wa.heap.size, j, none⟩) (Nat.le_refl _) _⟩
          case measure => simp [intOf]; omega
        · obtain rfl : j = p := by omega
          have HFA := Lib.hid (show fillT ts j = ts by rw [← HTL.out]; exact fillT_all ts)
          obtain ⟨mt, hmt⟩ : ∃ x, x = minTo ts j := ⟨_, rfl⟩
          have HMT := Lib.hid hmt
          have hml : mt.length ≤ 7200 := by rw [hmt, minTo_len]; exact HCL.out
          have hadd1 := fun (w : World) => addS (P := Try.prog) w [91] mt (by simp) (by omega)
          obtain ⟨q1, hq1⟩ : ∃ x, x = [91] ++ mt := ⟨_, rfl⟩
          have hql : q1.length ≤ 7201 := by rw [hq1, List.length_append]; simp only [List.length_cons, List.length_nil]; omega
          have hadd2 := fun (w : World) => addS (P := Try.prog) w q1 [93] (by omega) (by simp)
          obtain ⟨q2, hq2⟩ : ∃ x, x = q1 ++ [93] := ⟨_, rfl⟩
          rw [← hq1] at hadd1
          rw [← hq2] at hadd2
          have HKL := Lib.hid (show (((cycs f n).take k).map (cycT f n)).length ≤ 60 by rw [List.length_map, List.length_take]; omega)
          rw [HFA.out] at HRj
          rw [← hmt, ← hq1, ← hq2] at HSTEP
          clear hmt hml hq1 hq2 hql
          go_wp2_with (first
            | (go_at_call 103; refine (leastTurned_any _ j j _ ts _ HRj.out (by rw [HTL.out]; omega) (Nat.le_trans HCL.out (by omega))).mono ?_; rw [← HMT.out]; rintro e w4 ⟨rfl, hb4⟩; have HB4 := Lib.hid (Below.step HBj.out HBj.out.size hb4); clear hb4)
            | (at_builtin; refine wpList_appG rfl (.tmp 37) (.tmp 42) _ 9 (.string ⟨#[]⟩) 16 Try.underlying78 infoT (by omega) rfl rfl w2.heap.size w2.heap.size _ _ (((cycs f n).take k).map (cycT f n) |>.map encStr) [.string ⟨q2.toArray⟩] rfl rfl ((HR.out.keep HB4.out).alloc _) (Rg.lit _ _ _ _ (Nat.le_trans HB.out.size HB4.out.size)) (by simp [Value.oneCell']) (by have := HKL.out; simp; omega) (by have := HB4.out.size; have := HB.out.size; simp; omega) ?_; intro v5 w5 hr5 hg5 hb5))
          have HR5 := Lib.hid hr5
          have t1 := Below.step HB.out HB.out.size HB4.out
          have HB5 := Lib.hid ((t1.alloc t1.size _).trans hb5)
          clear hr5 hg5 hb5 t1
          go_wp2
          go_roundw
          case rel => exact ⟨k + 1, by omega, by go_num, by unfold Rt; rw [HSTEP.out, List.map_append]; exact HR5.out, HB5.out⟩
          case measure => simp [intOf]; omega
    · obtain rfl : k = NC := by omega
      have HCA := Lib.hid (show (cycs f n).take k = cycs f n from List.take_of_length_le (Nat.le_of_eq HNC.out.symm))
      rw [HCA.out] at HR
      have HLS := Lib.hid (show ((cycs f n).map (cycT f n)).length ≤ 2000000 by rw [List.length_map, ← HNC.out]; omega)
      go_wp2_with fail
      refine (sortT_any _ _ w2.heap.size _ HR.out HB.out.size HLS.out).mono ?_
      rintro e w3 ⟨rfl, hr, hb⟩
      have HR3 := Lib.hid hr
      have HB3 := Lib.hid (HB.out.trans hb)
      clear hr hb
      have HNF := Lib.hid (name_flat H.out.into h1)
      go_wp2_with fail
      refine (joinT_any _ _ _ HR3.out.src (by rw [srtT_len]; exact HLS.out) (Nat.le_trans HNF.out (by omega))).mono ?_
      rintro e w4 ⟨rfl, hb⟩
      have HB4 := Lib.hid (Below.step HB3.out HB3.out.size hb)
      clear hb
      go_wp2
      go_ret
      exact ⟨rfl, Below.step HW2.out HW2.out.size HB4.out⟩

end Go.Proofs.Yticagncemlnafaa
