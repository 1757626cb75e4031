/-
  The program: the text of a tree, walked.
-/
import Derived.Test.YticagncemlnafaaRB
import Derived.Laws.Concat
namespace Go.Proofs.Yticagncemlnafaa
open Go.RowKit
set_option linter.unusedVariables false
set_option linter.unusedSimpArgs false
set_option maxRecDepth 100000

/-- A text between two signs. -/
def wrapT (a b : UInt8) (s : Txt) : Txt := a :: s ++ [b]
theorem addS {P : Program} (w : World) (x y : Txt) (hx : x.length ≤ 8000000) (hy : y.length ≤ 8000000) : (Op.stringOp .add ⟨x.toArray⟩ ⟨y.toArray⟩).run P w = .ok (.string ⟨(x ++ y).toArray⟩) w :=
  run_string_add_lists w x y (by omega) (by omega)

def chTo (f : Nat → Nat) (n x j : Nat) : List Nat := ((befL f x n).take j).filter fun y => !cyc f n y
theorem chTo_all (f : Nat → Nat) (n x : Nat) : chTo f n x (befL f x n).length = ch f n x := by
  unfold chTo; rw [List.take_of_length_le (Nat.le_refl _)]; rfl
theorem chTo_step {f : Nat → Nat} {n x j y : Nat} (hy : (befL f x n)[j]? = some y) : chTo f n x (j + 1) = if cyc f n y = true then chTo f n x j else chTo f n x j ++ [y] := by
  obtain ⟨i1, i2⟩ := List.getElem?_eq_some_iff.1 hy
  unfold chTo
  rw [List.take_add_one, List.getElem?_eq_getElem i1, i2, List.filter_append]
  by_cases h : cyc f n y = true
  · rw [if_pos h]; simp [h]
  · rw [if_neg h]; simp at h; simp [h]
theorem chTo_len (f : Nat → Nat) (n x j : Nat) : (chTo f n x j).length ≤ n := Nat.le_trans (List.length_filter_le _ _) (by have := befL_len f x n; rw [List.length_take]; omega)

theorem tr_flat {f : Nat → Nat} {n x : Nat} (h : Into f n) (hx : x < n) : ((ch f n x).map (tr f n)).flatten.length ≤ 2 * n := by
  have h1 := tr_len h hx
  rw [tr_eq h hx] at h1
  rw [flat_sum]
  simp only [List.length_append, List.length_cons, List.length_nil, srtT_flat] at h1
  omega

theorem treeText_any : ∀ (N g n cap b x : Nat) (f : Nat → Nat) (w : World), Mp w g n f → St w n b (cyc f n) → x < n → n - dep f n x < N →
    Calls Try.prog 102 #[.slice (some ⟨g, 0, none⟩) n cap, .int .i64 (x : Int), .map (some b)] w fun e w' => e = .returned (encStr (tr f n x)) ∧ Below w.heap.size w w' := by
  intro N
  induction N with
  | zero => intro g n cap b x f w h hs hx hN; exact absurd hN (Nat.not_lt_zero _)
  | succ N ih =>
    intro g n cap b x f w h hs hx hN
    have H := Lib.hid h
    have HS := Lib.hid hs
    have IH := Lib.hid ih
    have h0 := h.n0
    have h1 := h.n1
    have HTE := Lib.hid (tr_eq h.into hx)
    have HFL := Lib.hid (tr_flat h.into hx)
    have HND := Lib.hid hN
    clear h hs ih hN
    go_enter Try.func102, Try.ntmps102
    go_wp2_with fail
    refine (before_any g n cap f x _ H.out).mono ?_
    rintro e w1 ⟨u1, rfl, hr, hb⟩
    obtain ⟨a1, c1, rfl⟩ := hr.sl.len
    rw [nts_len]
    have HU := Lib.hid hr
    have HB1 := Lib.hid hb
    have hbl := befL_len f x n
    obtain ⟨m, hm⟩ : ∃ m, m = (befL f x n).length := ⟨_, rfl⟩
    have HMM := Lib.hid hm
    rw [nts_len, ← hm] at HU
    rw [← hm] at hbl ⊢
    clear hr hb hm
    go_wp2
    go_loopw [7, 14] (fun v i wr => ∃ j : Nat, j ≤ m ∧ i = .int .i64 j ∧ Rt wr w1.heap.size v ((chTo f n x j).map (tr f n)) ∧ Below w1.heap.size w1 wr) (fun _ i _ => m - (intOf i).toNat)
    case atStart => exact ⟨0, Nat.zero_le _, rfl, Rg.nil _ _ _, Below.refl _ _⟩
    case round =>
      obtain ⟨j, hj, rfl, hr, hb⟩ := hrel
      have HR := Lib.hid hr
      have HB := Lib.hid hb
      have HBw := Lib.hid (Below.step HB1.out HB1.out.size hb)
      clear hr hb
      by_cases hlt : j < m
      · obtain ⟨y, hy⟩ : ∃ y, (befL f x n)[j]? = some y := ⟨(befL f x n)[j]'(by have := HMM.out; omega), by simp⟩
        have HCS := Lib.hid (chTo_step hy)
        have hyn : y < n := by have := List.mem_of_getElem? hy; unfold befL at this; exact List.mem_range.1 (List.mem_filter.1 this).1
        have hyx : f y = x := by have := List.mem_of_getElem? hy; unfold befL at this; simpa using (List.mem_filter.1 this).2
        obtain ⟨g1, hg1⟩ : ∃ g1, a1 = some ⟨g1, 0, none⟩ := by
          rcases HU.out.cases with ⟨hv, _⟩ | ⟨g1, c2, hv, _⟩
          · simp only [Value.slice.injEq] at hv; omega
          · simp only [Value.slice.injEq] at hv; exact ⟨g1, hv.1⟩
        subst hg1
        have hcell : wr.cell? ⟨g1, j, none⟩ = some (.int .i64 (y : Int)) := by
          obtain ⟨i1, i2⟩ := List.getElem?_eq_some_iff.1 hy
          rw [(HU.out.keep HB.out).at.2.2.2.2.1 j (by rw [nts_len]; exact i1)]
          simp [nts, i2]
        clear hy
        cases hc : cyc f n y
        · have HCY := Lib.hid (show chTo f n x (j + 1) = chTo f n x j ++ [y] by rw [HCS.out, if_neg (by rw [hc]; simp)])
          have hyc : y ∈ ch f n x := mem_ch.2 ⟨hyn, hyx, hc⟩
          have hyd := ch_dep H.out.into hx hyc
          have HYD := Lib.hid (show n - dep f n y < N by have := HND.out; have := (dep_spec (f := f) hyn).1; omega)
          have HLC := Lib.hid (chTo_len f n x j)
          clear hyc hyd
          go_wp2_with (first | (at_lookup; refine wpList_lookS rfl _ _ rfl n b _ y rfl rfl (HS.out.keep HBw.out) hyn h1 ?_; rw [hc]) | (go_at_call 102; refine (IH.out g n cap b y f _ (H.out.keep HBw.out) (HS.out.keep HBw.out) hyn HYD.out).mono ?_; rintro e w2 ⟨rfl, hb2⟩; have HR2 := Lib.hid (HR.out.keep hb2); have HB2 := Lib.hid (Below.step HB.out HB.out.size hb2); clear hb2) | (at_builtin; refine wpList_appG rfl _ _ _ 9 (.string ⟨#[]⟩) 16 Try.underlying78 infoT (by omega) rfl rfl w1.heap.size w1.heap.size _ _ ((chTo f n x j).map (tr f n) |>.map encStr) [encStr (tr f n y)] rfl rfl (HR2.out.alloc _) (Rg.lit _ _ _ _ HB2.out.size) (by simp [encStr, Value.oneCell']) (by have := HLC.out; simp; omega) (by have := HB2.out.size; simp; omega) ?_; intro v1 w3 hr3 hg3 hb3))
          have HR3 := Lib.hid hr3
          have HB3 := Lib.hid ((HB2.out.alloc HB2.out.size _).trans hb3)
          clear hr3 hg3 hb3
          go_wp2
          go_roundw
          case rel => exact ⟨j + 1, by omega, by go_num, by unfold Rt; rw [HCY.out, List.map_append, List.map_append]; exact HR3.out, HB3.out⟩
          case measure => simp [intOf]; omega
        · have HCY := Lib.hid (show chTo f n x (j + 1) = chTo f n x j by rw [HCS.out, if_pos hc])
          go_wp2_with (at_lookup; refine wpList_lookS rfl _ _ rfl n b _ y rfl rfl (HS.out.keep HBw.out) hyn h1 ?_; rw [hc])
          go_roundw
          case rel => exact ⟨j + 1, by omega, by go_num, by rw [HCY.out]; exact HR.out, HB.out⟩
          case measure => simp [intOf]; omega
      · obtain rfl : j = m := by omega
        have HCA := Lib.hid (show chTo f n x j = ch f n x by rw [HMM.out]; exact chTo_all f n x)
        have HLS := Lib.hid (show ((chTo f n x j).map (tr f n)).length ≤ 2000000 by rw [List.length_map]; have := chTo_len f n x j; omega)
        go_wp2_with fail
        refine (sortT_any _ _ w1.heap.size _ HR.out HB.out.size HLS.out).mono ?_
        rintro e w2 ⟨rfl, hr, hb⟩
        have HR2 := Lib.hid hr
        have HB2 := Lib.hid (HB.out.trans hb)
        clear hr hb
        obtain ⟨fl, hfl⟩ : ∃ fl, fl = (srtT ((chTo f n x j).map (tr f n))).flatten := ⟨_, rfl⟩
        have HF := Lib.hid hfl
        have hfn : fl.length ≤ 2 * n := by rw [hfl, HCA.out, srtT_flat, ← flat_sum]; exact HFL.out
        have HLT := Lib.hid (show (srtT ((chTo f n x j).map (tr f n))).length ≤ 2000000 by rw [srtT_len]; exact HLS.out)
        have HTR := Lib.hid (show tr f n x = [40] ++ fl ++ [41] by rw [HTE.out, hfl, HCA.out]; rfl)
        have hadd1 := fun (w : World) => addS (P := Try.prog) w [40] fl (by simp) (by omega)
        have hadd2 := fun (w : World) => addS (P := Try.prog) w ([40] ++ fl) [41] (by simp; omega) (by simp)
        clear hfl
        go_wp2_with fail
        refine (joinT_any _ _ _ HR2.out.src HLT.out (by rw [← HF.out]; omega)).mono ?_
        rw [← HF.out]
        rintro e w3 ⟨rfl, hb⟩
        have HB3 := Lib.hid (Below.step HB2.out HB2.out.size hb)
        clear hb
        rw [show encStr fl = Value.string ⟨fl.toArray⟩ from rfl]
        go_wp2
        go_ret
        exact ⟨by rw [HTR.out]; rfl, Below.step HB1.out HB1.out.size HB3.out⟩

end Go.Proofs.Yticagncemlnafaa
