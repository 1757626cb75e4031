/-
  The model: the text of a tree, walked.
-/
import Derived.Test.YticagncemlnafaaRE
import Derived.Test.YticagncemlnafaaRC
import Derived.Test.YticagncemlnafaaPI
import Derived.Laws.Concat
namespace Go.Proofs.Yticagncemlnafaa
open Go.RowKit
set_option linter.unusedVariables false
set_option linter.unusedSimpArgs false
set_option maxRecDepth 100000
set_option maxHeartbeats 1000000

theorem take_flat_step {ts : List Txt} {j : Nat} {z : Txt} (hz : ts[j]? = some z) : (ts.take (j + 1)).flatten = (ts.take j).flatten ++ z := by
  rw [List.take_add_one, hz]
  simp
theorem take_flat_len (ts : List Txt) (j : Nat) : (ts.take j).flatten.length ≤ ts.flatten.length := by
  have := congrArg (fun l => l.flatten.length) (List.take_append_drop j ts)
  simp only [List.flatten_append, List.length_append] at this
  omega
theorem flat_at {ts : List Txt} {j : Nat} {z : Txt} (hz : ts[j]? = some z) : z.length ≤ ts.flatten.length := by
  have h1 := take_flat_len ts (j + 1)
  rw [take_flat_step hz, List.length_append] at h1
  omega

theorem mpTree_any : ∀ (N g n cap gc cc x : Nat) (f : Nat → Nat) (w : World), Mp w g n f → Bp w gc n (cyc f n) → x < n → n - dep f n x < N →
    Calls Try.prog 100 #[.slice (some ⟨g, 0, none⟩) n cap, .slice (some ⟨gc, 0, none⟩) n cc, .int .i64 (x : Int)] w fun e w' => e = .returned (encStr (tr f n x)) ∧ Below w.heap.size w w' := by
  intro N
  induction N with
  | zero => intro g n cap gc cc x f w h hs hx hN; exact absurd hN (Nat.not_lt_zero _)
  | succ N ih =>
    intro g n cap gc cc x f w h hs hx hN
    have H := Lib.hid h
    have HS := Lib.hid hs
    have IH := Lib.hid ih
    have h0 := h.n0
    have h1 := h.n1
    have HTE := Lib.hid (tr_eq h.into hx)
    have HFL := Lib.hid (tr_flat h.into hx)
    have HND := Lib.hid hN
    clear h hs ih hN
    go_enter Try.func100, Try.ntmps100
    go_wp2_with fail
    refine (mpBefore_any g n cap f x _ H.out).mono ?_
    rintro e w1 ⟨u1, rfl, hr, hb⟩
    obtain ⟨a1, c1, rfl⟩ := hr.sl.len
    rw [nts_len]
    have HU := Lib.hid hr
    have HB1 := Lib.hid hb
    have hbl := befL_len f x n
    obtain ⟨m, hm⟩ : ∃ m, m = (befL f x n).length := ⟨_, rfl⟩
    have HMM := Lib.hid hm
    rw [nts_len, ← hm] at HU
    rw [← hm] at hbl ⊢
    clear hr hb hm
    go_wp2
    go_loopw [7, 17] (fun v i wr => ∃ j : Nat, j ≤ m ∧ i = .int .i64 j ∧ Rt wr w1.heap.size v ((chTo f n x j).map (tr f n)) ∧ Below w1.heap.size w1 wr) (fun _ i _ => m - (intOf i).toNat)
    case atStart => exact ⟨0, Nat.zero_le _, rfl, Rg.nil _ _ _, Below.refl _ _⟩
    case round =>
      rename World => wa
      obtain ⟨j, hj, rfl, hr, hb⟩ := hrel
      have HR := Lib.hid hr
      have HB := Lib.hid hb
      have HBw := Lib.hid (Below.step HB1.out HB1.out.size hb)
      clear hr hb
      by_cases hlt : j < m
      · obtain ⟨y, hy⟩ : ∃ y, (befL f x n)[j]? = some y := ⟨(befL f x n)[j]'(by have := HMM.out; omega), by simp⟩
        have HCS := Lib.hid (chTo_step hy)
        have hyn : y < n := by have := List.mem_of_getElem? hy; unfold befL at this; exact List.mem_range.1 (List.mem_filter.1 this).1
        have hyx : f y = x := by have := List.mem_of_getElem? hy; unfold befL at this; simpa using (List.mem_filter.1 this).2
        obtain ⟨g1, hg1⟩ : ∃ g1, a1 = some ⟨g1, 0, none⟩ := by
          rcases HU.out.cases with ⟨hv, _⟩ | ⟨g1, c2, hv, _⟩
          · simp only [Value.slice.injEq] at hv; omega
          · simp only [Value.slice.injEq] at hv; exact ⟨g1, hv.1⟩
        subst hg1
        have hcell : wa.cell? ⟨g1, j, none⟩ = some (.int .i64 (y : Int)) := by
          obtain ⟨i1, i2⟩ := List.getElem?_eq_some_iff.1 hy
          rw [(HU.out.keep HB.out).at.2.2.2.2.1 j (by rw [nts_len]; exact i1)]
          simp [nts, i2]
        have hcc := (HS.out.keep HBw.out).cell y hyn
        clear hy
        cases hc : cyc f n y
        · rw [hc] at hcc
          have HCY := Lib.hid (show chTo f n x (j + 1) = chTo f n x j ++ [y] by rw [HCS.out, if_neg (by rw [hc]; simp)])
          have hyc : y ∈ ch f n x := mem_ch.2 ⟨hyn, hyx, hc⟩
          have hyd := ch_dep H.out.into hx hyc
          have HYD := Lib.hid (show n - dep f n y < N by have := HND.out; have := (dep_spec (f := f) hyn).1; omega)
          have HLC := Lib.hid (chTo_len f n x j)
          clear hyc hyd hc
          go_wp2_with (first | (go_at_call 100; refine (IH.out g n cap gc cc y f _ (H.out.keep HBw.out) (HS.out.keep HBw.out) hyn HYD.out).mono ?_; rintro e w2 ⟨rfl, hb2⟩; have HR2 := Lib.hid (HR.out.keep hb2); have HB2 := Lib.hid (Below.step HB.out HB.out.size hb2); clear hb2) | (at_builtin; refine wpList_appG rfl (.tmp 26) (.tmp 31) _ 9 (.string ⟨#[]⟩) 16 Try.underlying78 infoT (by omega) rfl rfl w1.heap.size w1.heap.size _ _ ((chTo f n x j).map (tr f n) |>.map encStr) [encStr (tr f n y)] rfl rfl (HR2.out.alloc _) (Rg.lit _ _ _ _ HB2.out.size) (by simp [encStr, Value.oneCell']) (by have := HLC.out; simp; omega) (by have := HB2.out.size; simp; omega) ?_; intro v1 w3 hr3 hg3 hb3))
          have HR3 := Lib.hid hr3
          have HB3 := Lib.hid ((HB2.out.alloc HB2.out.size _).trans hb3)
          clear hr3 hg3 hb3
          go_wp2
          go_roundw
          case rel => exact ⟨j + 1, by omega, by go_num, by unfold Rt; rw [HCY.out, List.map_append, List.map_append]; exact HR3.out, HB3.out⟩
          case measure => simp [intOf]; omega
        · rw [hc] at hcc
          have HCY := Lib.hid (show chTo f n x (j + 1) = chTo f n x j by rw [HCS.out, if_pos hc])
          clear hc
          go_wp2
          go_roundw
          case rel => exact ⟨j + 1, by omega, by go_num, by rw [HCY.out]; exact HR.out, HB.out⟩
          case measure => simp [intOf]; omega
      · obtain rfl : j = m := by omega
        have HCA := Lib.hid (show chTo f n x j = ch f n x by rw [HMM.out]; exact chTo_all f n x)
        have HLS := Lib.hid (show ((chTo f n x j).map (tr f n)).length ≤ 20000 by rw [List.length_map]; have := chTo_len f n x j; omega)
        go_wp2_with fail
        refine (mpSort_any _ _ w1.heap.size _ HR.out HLS.out).mono ?_
        rintro e w2 ⟨u2, rfl, hr, hb⟩
        obtain ⟨ts, hts⟩ : ∃ ts, ts = srtT ((chTo f n x j).map (tr f n)) := ⟨_, rfl⟩
        have HF := Lib.hid hts
        rw [← hts] at hr
        have hfn : ts.flatten.length ≤ 2 * n := by rw [hts, HCA.out, srtT_flat, ← flat_sum]; exact HFL.out
        have HFN := Lib.hid hfn
        have HTR := Lib.hid (show tr f n x = [40] ++ ts.flatten ++ [41] by rw [HTE.out, hts, HCA.out]; rfl)
        obtain ⟨a2, c2, rfl⟩ := hr.len
        rw [List.length_map]
        obtain ⟨M, hM⟩ : ∃ M, M = ts.length := ⟨_, rfl⟩
        have HM := Lib.hid hM
        have HU2 := Lib.hid hr
        have hML : M ≤ 60 := by rw [hM, hts, srtT_len, List.length_map]; exact Nat.le_trans (chTo_len f n x j) h1
        rw [List.length_map, ← hM] at HU2
        rw [← hM]
        have HB2 := Lib.hid (Below.step HB1.out HB1.out.size (Below.step HB.out HB.out.size hb))
        clear hr hb hts hfn hM
        go_wp2
        go_loopw [10, 37] (fun s i wr => ∃ (q : Nat) (pre : Txt), q ≤ M ∧ i = .int .i64 q ∧ s = .string ⟨pre.toArray⟩ ∧ Hid (pre = [40] ++ (ts.take q).flatten) ∧ w2 = wr) (fun _ i _ => M - (intOf i).toNat)
        case atStart => exact ⟨0, [40], Nat.zero_le _, rfl, rfl, Lib.hid (by simp), rfl⟩
        case round =>
          obtain ⟨q, pre, hq, rfl, rfl, HPRE, rfl⟩ := hrel
          have hpl : pre.length ≤ 1 + 2 * n := by
            rw [HPRE.out, List.length_append]
            have := take_flat_len ts q
            have := HFN.out
            simp only [List.length_cons, List.length_nil]; omega
          by_cases hqM : q < M
          · obtain ⟨z, hz⟩ : ∃ z, ts[q]? = some z := ⟨ts[q]'(by have := HM.out; omega), by simp⟩
            obtain ⟨g2, hg2⟩ : ∃ g2, a2 = some ⟨g2, 0, none⟩ := by
              rcases HU2.out.cases with ⟨hv, _⟩ | ⟨g2, c3, hv⟩
              · simp only [Value.slice.injEq] at hv; omega
              · simp only [Value.slice.injEq] at hv; exact ⟨g2, hv.1⟩
            subst hg2
            have hcell : w2.cell? ⟨g2, q, none⟩ = some (.string ⟨z.toArray⟩) := by
              obtain ⟨i1, i2⟩ := List.getElem?_eq_some_iff.1 hz
              rw [HU2.out.at.2.2.2.2.2.1 q (by rw [List.length_map]; exact i1)]
              simp [encStr, i2]
            have hzl := flat_at hz
            have HN := Lib.hid (show pre ++ z = [40] ++ (ts.take (q + 1)).flatten by rw [HPRE.out, take_flat_step hz, List.append_assoc])
            have hadd := fun (w : World) => addS (P := Try.prog) w pre z (by omega) (by have := HFN.out; omega)
            clear hz hzl
            go_wp2
            go_roundw
            case rel => exact ⟨q + 1, pre ++ z, by omega, by go_num, rfl, HN, trivial⟩
            case measure => simp [intOf]; omega
          · obtain rfl : q = M := by omega
            have HP := Lib.hid (show pre ++ [41] = tr f n x by rw [HTR.out, HPRE.out, List.take_of_length_le (Nat.le_of_eq HM.out.symm)])
            have hadd := fun (w : World) => addS (P := Try.prog) w pre [41] (by omega) (by simp)
            go_wp2
            go_ret
            exact ⟨by rw [← HP.out]; rfl, HB2.out⟩

end Go.Proofs.Yticagncemlnafaa
