/-
  The program: the least of the turned texts of a circle, walked.
-/
import Derived.Test.YticagncemlnafaaRG
import Derived.Deep.RegionWith
import Derived.Lib.MinMaxS
namespace Go.Proofs.Yticagncemlnafaa
open Go.RowKit
set_option linter.unusedVariables false
set_option linter.unusedSimpArgs false
set_option maxRecDepth 100000
set_option maxHeartbeats 1000000

theorem minS_leB (a b : Txt) : Lib.minS ⟨a.toArray⟩ ⟨b.toArray⟩ = ⟨(if leB a b = true then a else b).toArray⟩ := by
  unfold Lib.minS leB
  by_cases h : a ≤ b
  · have h2 : a < b ∨ a = b := by
      by_cases h3 : a < b
      · exact .inl h3
      · exact .inr (List.le_antisymm h (List.not_lt.1 h3))
    simp [h, h2]
  · have h2 : ¬ (a < b ∨ a = b) := by
      rintro (h3 | h3)
      · exact h (List.le_of_lt h3)
      · subst h3; exact h (List.le_refl _)
    simp [h, h2]

theorem leastTurned_any (g m c B : Nat) (ts : List Txt) (w : World) (h : Rt w B (.slice (some ⟨g, 0, none⟩) m c) ts) (hl : ts.length ≤ 60) (hf : ts.flatten.length ≤ 1000000) :
    Calls Try.prog 103 #[.slice (some ⟨g, 0, none⟩) m c] w fun e w' => e = .returned (.string ⟨(minTo ts m).toArray⟩) ∧ Below w.heap.size w w' := by
  have HV := Lib.hid h
  have HM := Lib.hid (show m = ts.length by have := h.at.1; rw [List.length_map] at this; exact this)
  have hmc : m ≤ c := by have := h.at.2.2.2.1; rw [List.length_map] at this; rw [HM.out]; exact this
  have HF := Lib.hid hf
  have HLL := Lib.hid hl
  have hm60 : m ≤ 60 := by rw [HM.out]; exact hl
  clear h hf hl
  obtain ⟨M0, hM0⟩ : ∃ x, x = ts.flatten := ⟨_, rfl⟩
  have HM0 := Lib.hid hM0
  clear hM0
  go_enter Try.func103, Try.ntmps103
  go_wp2_with fail
  refine (joinT_any _ _ _ HV.out.src (Nat.le_trans HLL.out (by omega)) (Nat.le_trans HF.out (by omega))).mono ?_
  rw [← HM0.out]
  rintro e w1 ⟨rfl, hb⟩
  have HB1 := Lib.hid hb
  clear hb
  rw [show encStr M0 = Value.string ⟨M0.toArray⟩ from rfl]
  go_wp2
  go_loopw [3, 10] (fun s i wr => ∃ (k : Nat) (b : Txt), k ≤ m ∧ i = .int .i64 k ∧ s = .string ⟨b.toArray⟩ ∧ Hid (b = minTo ts k) ∧ Below w.heap.size w wr) (fun _ i _ => m - (intOf i).toNat)
  case atStart => exact ⟨0, M0, Nat.zero_le _, rfl, rfl, HM0, HB1.out⟩
  case round =>
    obtain ⟨k, b, hk, rfl, rfl, HBK, hb⟩ := hrel
    have HB := Lib.hid hb
    clear hb
    by_cases hlt : k < m
    · obtain ⟨DF, hDF⟩ : ∃ x, x = (ts.drop k).flatten := ⟨_, rfl⟩
      obtain ⟨TF, hTF⟩ : ∃ x, x = (ts.take k).flatten := ⟨_, rfl⟩
      obtain ⟨RF, hRF⟩ : ∃ x, x = rotT ts k := ⟨_, rfl⟩
      obtain ⟨NF, hNF⟩ : ∃ x, x = minTo ts (k + 1) := ⟨_, rfl⟩
      have hsum : DF ++ TF = RF := by rw [hDF, hTF, hRF]; unfold rotT rotL; rw [List.flatten_append]
      have hlen : DF.length + TF.length ≤ 1000000 := by rw [← List.length_append, hsum, hRF, rotT_len]; exact HF.out
      have hadd := fun (w : World) => addS (P := Try.prog) w DF TF (by omega) (by omega)
      rw [hsum] at hadd
      have hmin : ∀ (tt : Array TypeId) (t : TypeId) (w : World), (Builtin.min_ tt t #[.string ⟨b.toArray⟩, .string ⟨RF.toArray⟩]).run Try.prog w = .ok (.string ⟨NF.toArray⟩) w := by
        intro tt t w
        rw [Lib.run_min_strs, minS_leB, hNF, hRF, HBK.out]
        rfl
      have HNF := Lib.hid hNF
      have HVD := Lib.hid (show Rt wr.drew B (.slice (some ⟨g, 0, none⟩) m c) ts from (HV.out.keep HB.out).drew)
      have HA := Lib.hid (fun (W1 : World) (hb : Below wr.heap.size wr.drew W1) => joinT_any (.slice (some ⟨g, k, none⟩) (m - k) (c - k)) (ts.drop k) W1 ((HVD.out.drop k (c - k) k (m - k) (by have := HM.out; omega) (fun _ => rfl) (by rw [HM.out]) (by omega)).keep hb) (by rw [List.length_drop]; have := HLL.out; omega) (by rw [← hDF]; omega))
      have HT := Lib.hid (fun (W1 : World) (hb : Below wr.heap.size wr.drew W1) => joinT_any (.slice (some ⟨g, 0, none⟩) k c) (ts.take k) W1 ((HVD.out.take k c (by have := HM.out; omega) (by omega)).keep hb) (by rw [List.length_take]; have := HLL.out; omega) (by rw [← hTF]; omega))
      rw [← hDF] at HA
      rw [← hTF] at HT
      have hkc : k < c := by omega
      have HBd := Lib.hid (show Below w.heap.size w wr.drew from HB.out.drew)
      clear hDF hTF hRF hNF hsum hlen
      go_upto_region 5 with (fail)
      go_region_with (first
        | (go_at_call_of 105 (Value.slice (some ⟨g, k, none⟩) (m - k) (c - k)); refine (HA.out _ ?_).mono ?_; (first | exact Below.refl _ _ | exact HJT.out); rintro e w2 ⟨rfl, hb2⟩; have HJA := Lib.hid hb2; clear hb2; rw [show encStr DF = Value.string ⟨DF.toArray⟩ from rfl])
        | (go_at_call_of 105 (Value.slice (some ⟨g, 0, none⟩) k c); refine (HT.out _ ?_).mono ?_; (first | exact Below.refl _ _ | exact HJA.out); rintro e w2 ⟨rfl, hb2⟩; have HJT := Lib.hid hb2; clear hb2; rw [show encStr TF = Value.string ⟨TF.toArray⟩ from rfl]))
      all_goals go_wp2
      all_goals go_roundw
      all_goals first
        | exact ⟨k + 1, NF, by omega, by go_num, rfl, HNF, by
            have t1 := Below.step HBd.out HBd.out.size HJA.out
            exact Below.step t1 t1.size HJT.out⟩
        | exact ⟨k + 1, NF, by omega, by go_num, rfl, HNF, by
            have t1 := Below.step HBd.out HBd.out.size HJT.out
            exact Below.step t1 t1.size HJA.out⟩
        | (simp [intOf]; omega)
    · obtain rfl : k = m := by omega
      go_wp2
      go_ret
      exact ⟨by first | rfl | (rw [HBK.out]; rfl), HB.out⟩

end Go.Proofs.Yticagncemlnafaa
