/-
  The model: texts put in order, walked.
-/
import Derived.Test.YticagncemlnafaaRD
import Derived.Laws.Cover1
namespace Go.Proofs.Yticagncemlnafaa
open Go.RowKit
set_option linter.unusedVariables false
set_option linter.unusedSimpArgs false
set_option maxRecDepth 100000
set_option maxHeartbeats 1000000

theorem Rt.empty (w : World) (B : Nat) (h : B ≤ w.heap.size) : Rt (w.alloc (.cells #[] 9)) B (.slice (some ⟨w.heap.size, 0, none⟩) 0 0) [] := Rg.mono (rt_empty w) h

theorem Rg.len {e : TypeId} {w : World} {B : Nat} {v : Value} {xs : List Value} (h : Rg e w B v xs) : ∃ a c, v = .slice a xs.length c := by
  rcases h.cases with ⟨rfl, h2⟩ | ⟨g, c, rfl⟩
  · subst h2; exact ⟨_, _, rfl⟩
  · exact ⟨_, _, rfl⟩

theorem insT_done {ss out : List Txt} {j k : Nat} {x : Txt} (hx : ss[j]? = some x) (hp : out.Perm (ss.take j)) : (out.take k ++ [x] ++ out.drop k).Perm (ss.take (j + 1)) := by
  refine (insT_perm out x k).trans ?_
  rw [List.take_add_one, hx]
  refine (List.Perm.cons x hp).trans ?_
  exact List.perm_append_comm (l₁ := [x])

theorem mpSort_any (v : Value) (ss : List Txt) (B : Nat) (w : World) (h : Rt w B v ss) (hl : ss.length ≤ 20000) :
    Calls Try.prog 101 #[v] w fun e w' => ∃ u, e = .returned u ∧ Rt w' w.heap.size u (srtT ss) ∧ Below w.heap.size w w' := by
  obtain ⟨a1, c1, rfl⟩ := h.len
  obtain ⟨m, hm⟩ : ∃ m, m = ss.length := ⟨_, rfl⟩
  have HV := Lib.hid h
  have HM := Lib.hid hm
  rw [List.length_map, ← hm] at HV
  rw [List.length_map, ← hm]
  rw [← hm] at hl
  clear h hm
  go_enter Try.func101, Try.ntmps101
  go_wp2
  go_loopw [3, 10] (fun v i wr => ∃ (j : Nat) (out : List Txt), j ≤ m ∧ i = .int .i64 j ∧ Rt wr w.heap.size v out ∧ Hid (out.Perm (ss.take j)) ∧ Hid (out.Pairwise (fun a b => leB a b = true)) ∧ Below w.heap.size w wr) (fun _ i _ => m - (intOf i).toNat)
  case atStart => exact ⟨0, [], Nat.zero_le _, rfl, Rg.nil _ _ _, Lib.hid (by simp), Lib.hid (by simp), Below.refl _ _⟩
  case round =>
    rename World => wa
    obtain ⟨j, out, hj, rfl, hr, HP, HS, hb⟩ := hrel
    have HR := Lib.hid hr
    have HB := Lib.hid hb
    obtain ⟨L, hL⟩ : ∃ L, L = out.length := ⟨_, rfl⟩
    have HL := Lib.hid hL
    have hLj : L ≤ j := by rw [hL, HP.out.length_eq, List.length_take]; omega
    clear hr hb hL
    by_cases hlt : j < m
    · obtain ⟨x, hx⟩ : ∃ x, ss[j]? = some x := ⟨ss[j]'(by have := HM.out; omega), by simp⟩
      obtain ⟨g1, hg1⟩ : ∃ g1, a1 = some ⟨g1, 0, none⟩ := by
        rcases HV.out.cases with ⟨hv, _⟩ | ⟨g1, c2, hv⟩
        · simp only [Value.slice.injEq] at hv; omega
        · simp only [Value.slice.injEq] at hv; exact ⟨g1, hv.1⟩
      subst hg1
      have hcell : wa.cell? ⟨g1, j, none⟩ = some (.string ⟨x.toArray⟩) := by
        obtain ⟨i1, i2⟩ := List.getElem?_eq_some_iff.1 hx
        rw [(HV.out.keep HB.out).at.2.2.2.2.2.1 j (by rw [List.length_map]; exact i1)]
        simp [encStr, i2]
      have HX := Lib.hid hx
      clear hx
      rcases HR.out.cases with ⟨hu, h0⟩ | ⟨g3, c3, hu⟩
      · subst hu
        have HO := Lib.hid (List.map_eq_nil_iff.1 h0)
        have HW := Lib.hid (show out.take 0 ++ [x] ++ out.drop 0 = [x] by rw [HO.out]; rfl)
        have hi1 := insT (out := out) (x := x) (k := 0) (Nat.zero_le _) HS.out (fun q _ h => absurd h (Nat.not_lt_zero _)) (fun h => by rw [HO.out] at h; simp at h)
        have hi2 := insT_done (k := 0) HX.out HP.out
        rw [HW.out] at hi1 hi2
        have HI1 := Lib.hid hi1
        have HI2 := Lib.hid hi2
        clear h0 hi1 hi2
        go_wp2
        refine wp_loop_rounds 1 ?_
        rw [rounds_succ]
        have HN := Lib.hid (show (([] : List Txt) ++ [x] ++ []).length ≤ 20001 by simp)
        go_wp2_with (first | (at_builtin; refine wpList_appT rfl (.tmp 28) (.tmp 31) rfl wa.heap.size (.slice (some ⟨wa.heap.size, 0, none⟩) 0 0) (.slice none 0 0) [] ([] : List Txt) rfl rfl (Rt.empty wa _ (Nat.le_refl _)) ⟨none, 0, rfl, .inl rfl⟩ (.inl rfl) (by have := HL.out; first | (simp; done) | (simp; omega)) ((Below.refl _ _).alloc (Nat.le_refl _) _).size ?_; intro v1 w1 hr1 hg1 hb1; have HR1 := Lib.hid (show Rt w1 wa.heap.size v1 ([] : List Txt) from hr1); have HB1 := Lib.hid (((Below.refl _ _).alloc (Nat.le_refl _) _).trans hb1); clear hr1 hg1 hb1) | (at_builtin; go_loud (refine wpList_appG rfl (.tmp 32) (.tmp 34) _ 9 (.string ⟨#[]⟩) 16 Try.underlying78 infoT (by omega) rfl rfl wa.heap.size wa.heap.size _ _ (([] : List Txt).map encStr) [encStr x] rfl rfl (HR1.out.alloc _) (Rg.lit _ _ _ _ HB1.out.size) (by simp [encStr, Value.oneCell']) (by have := HL.out; first | (simp; done) | (simp; omega)) (by have := HB1.out.size; simp; omega) ?_); intro v2 w2 hr2 hg2 hb2; have HR2 := Lib.hid (show Rt w2 wa.heap.size v2 (([] : List Txt) ++ [x]) by unfold Rt; rw [List.map_append]; exact hr2); have HB2 := Lib.hid ((HB1.out.alloc HB1.out.size _).trans hb2); clear hr2 hg2 hb2) | (at_builtin; go_loud (refine wpList_appT rfl (.tmp 36) (.tmp 39) rfl wa.heap.size _ (.slice none 0 0) (([] : List Txt) ++ [x]) ([] : List Txt) rfl rfl HR2.out ⟨none, 0, rfl, .inl rfl⟩ (.inl rfl) (by rw [← List.length_append]; have := HN.out; omega) HB2.out.size ?_); intro v3 w3 hr3 hg3 hb3))
        have HR3 := Lib.hid (Rg.mono hr3 HB.out.size)
        have HB3 := Lib.hid (Below.step HB.out HB.out.size (HB2.out.trans hb3))
        clear hr3 hg3 hb3
        go_wp2
        go_roundw
        case rel => exact ⟨j + 1, ([] : List Txt) ++ [x] ++ ([] : List Txt), by omega, by go_num, HR3.out, HI2, HI1, HB3.out⟩
        case measure => simp [intOf]; omega
      · rw [List.length_map, ← HL.out] at hu
        subst hu
        have hLc : L ≤ c3 := by have := HR.out.at.2.2.2.1; rw [List.length_map, ← HL.out] at this; exact this
        go_wp2
        go_loopw [6] (fun i wr => ∃ k : Nat, k ≤ L ∧ i = .int .i64 k ∧ Hid (∀ q (hq : q < out.length), q < k → leB out[q] x = true) ∧ wa = wr) (fun i _ => L - (intOf i).toNat)
        case atStart => exact ⟨0, Nat.zero_le _, rfl, Lib.hid (fun q _ h => absurd h (Nat.not_lt_zero _)), rfl⟩
        case round =>
          obtain ⟨k, hk, rfl, HQ, rfl⟩ := hrel
          by_cases hkL : k < L
          · obtain ⟨y, hy⟩ : ∃ y, out[k]? = some y := ⟨out[k]'(by have := HL.out; omega), by simp⟩
            have HY := Lib.hid hy
            have hcy : wa.cell? ⟨g3, k, none⟩ = some (.string ⟨y.toArray⟩) := by
              obtain ⟨i1, i2⟩ := List.getElem?_eq_some_iff.1 hy
              rw [HR.out.at.2.2.2.2.2.1 k (by rw [List.length_map]; exact i1)]
              simp [encStr, i2]
            clear hy
            have hle := leB_leq y x
            have HLE := Lib.hid hle
            clear hle
            cases h1 : Op.bytesLess y x
            · cases h2 : (y == x)
              · have hc : leB y x = false := by rw [← HLE.out, h1, h2]; rfl
                have HK := Lib.hid (fun (h : k < out.length) => show leB x out[k] = true by
                  have h2 := HY.out; rw [List.getElem?_eq_getElem h] at h2; rw [Option.some.inj h2]; exact leB_no hc)
                clear hc
                have hkc : k < c3 := by omega
                have hi1 := insT (k := k) (x := x) (Nat.le_trans hk (Nat.le_of_eq HL.out)) HS.out HQ.out HK.out
                have hi2 := insT_done (k := k) HX.out HP.out
                have HI1 := Lib.hid hi1
                have HI2 := Lib.hid hi2
                have HN := Lib.hid (show (out.take k ++ [x] ++ out.drop k).length ≤ 20001 by rw [hi2.length_eq, List.length_take]; omega)
                have HT := Lib.hid (HR.out.take k c3 (Nat.le_trans hk (Nat.le_of_eq HL.out)) (by omega))
                have HD := Lib.hid (HR.out.drop k (c3 - k) k (L - k) (Nat.le_trans hk (Nat.le_of_eq HL.out)) (by have := HL.out; omega) (by have := HL.out; omega) (by omega))
                clear hi1 hi2
                go_wp2_with (first | (at_builtin; refine wpList_appT rfl (.tmp 28) (.tmp 31) rfl wa.heap.size (.slice (some ⟨wa.heap.size, 0, none⟩) 0 0) (.slice (some ⟨g3, 0, none⟩) k c3) [] (out.take k) rfl rfl (Rt.empty wa _ (Nat.le_refl _)) (HT.out.keep ((Below.refl _ _).alloc (Nat.le_refl _) _)) (.inr ⟨_, _, _, rfl⟩) (by have := HL.out; first | (simp; done) | (simp; omega)) ((Below.refl _ _).alloc (Nat.le_refl _) _).size ?_; intro v1 w1 hr1 hg1 hb1; have HR1 := Lib.hid (show Rt w1 wa.heap.size v1 (out.take k) from hr1); have HB1 := Lib.hid (((Below.refl _ _).alloc (Nat.le_refl _) _).trans hb1); clear hr1 hg1 hb1) | (at_builtin; go_loud (refine wpList_appG rfl (.tmp 32) (.tmp 34) _ 9 (.string ⟨#[]⟩) 16 Try.underlying78 infoT (by omega) rfl rfl wa.heap.size wa.heap.size _ _ ((out.take k).map encStr) [encStr x] rfl rfl (HR1.out.alloc _) (Rg.lit _ _ _ _ HB1.out.size) (by simp [encStr, Value.oneCell']) (by have := HL.out; first | (simp; done) | (simp; omega)) (by have := HB1.out.size; simp; omega) ?_); intro v2 w2 hr2 hg2 hb2; have HR2 := Lib.hid (show Rt w2 wa.heap.size v2 ((out.take k) ++ [x]) by unfold Rt; rw [List.map_append]; exact hr2); have HB2 := Lib.hid ((HB1.out.alloc HB1.out.size _).trans hb2); clear hr2 hg2 hb2) | (at_builtin; go_loud (refine wpList_appT rfl (.tmp 36) (.tmp 39) rfl wa.heap.size _ (.slice (some ⟨g3, k, none⟩) (L - k) (c3 - k)) ((out.take k) ++ [x]) (out.drop k) rfl rfl HR2.out (HD.out.keep HB2.out) (.inr ⟨_, _, _, rfl⟩) (by rw [← List.length_append]; have := HN.out; omega) HB2.out.size ?_); intro v3 w3 hr3 hg3 hb3))
                have HR3 := Lib.hid (Rg.mono hr3 HB.out.size)
                have HB3 := Lib.hid (Below.step HB.out HB.out.size (HB2.out.trans hb3))
                clear hr3 hg3 hb3
                go_wp2
                go_roundw
                case rel => exact ⟨j + 1, (out.take k) ++ [x] ++ (out.drop k), by omega, by go_num, HR3.out, HI2, HI1, HB3.out⟩
                case measure => simp [intOf]; omega
              · have hc : leB y x = true := by rw [← HLE.out, h1, h2]; rfl
                have HQ2 := Lib.hid (fun (q : Nat) (hq : q < out.length) (h : q < k + 1) => show leB out[q] x = true by
                  by_cases e : q = k
                  · subst e; have h2 := HY.out; rw [List.getElem?_eq_getElem hq] at h2; rw [Option.some.inj h2]; exact hc
                  · exact HQ.out q hq (by omega))
                clear hc
                go_wp2
                go_roundw
                case rel => exact ⟨k + 1, by omega, by go_num, HQ2, trivial⟩
                case measure => simp [intOf]; omega
            · have hc : leB y x = true := by rw [← HLE.out, h1]; rfl
              have HQ2 := Lib.hid (fun (q : Nat) (hq : q < out.length) (h : q < k + 1) => show leB out[q] x = true by
                by_cases e : q = k
                · subst e; have h2 := HY.out; rw [List.getElem?_eq_getElem hq] at h2; rw [Option.some.inj h2]; exact hc
                · exact HQ.out q hq (by omega))
              clear hc
              go_wp2
              go_roundw
              case rel => exact ⟨k + 1, by omega, by go_num, HQ2, trivial⟩
              case measure => simp [intOf]; omega
          · obtain rfl : k = L := by omega
            have HK := Lib.hid (fun (h : k < out.length) => show leB x out[k] = true from absurd h (by have := HL.out; omega))
            by_cases hkc : k < c3
            · have hi1 := insT (k := k) (x := x) (Nat.le_trans hk (Nat.le_of_eq HL.out)) HS.out HQ.out HK.out
              have hi2 := insT_done (k := k) HX.out HP.out
              have HI1 := Lib.hid hi1
              have HI2 := Lib.hid hi2
              have HN := Lib.hid (show (out.take k ++ [x] ++ out.drop k).length ≤ 20001 by rw [hi2.length_eq, List.length_take]; omega)
              have HT := Lib.hid (HR.out.take k c3 (Nat.le_trans hk (Nat.le_of_eq HL.out)) (by omega))
              have HD := Lib.hid (HR.out.drop k (c3 - k) k 0 (Nat.le_trans hk (Nat.le_of_eq HL.out)) (by have := HL.out; omega) (by have := HL.out; omega) (by omega))
              clear hi1 hi2
              go_wp2_with (first | (at_builtin; refine wpList_appT rfl (.tmp 28) (.tmp 31) rfl wa.heap.size (.slice (some ⟨wa.heap.size, 0, none⟩) 0 0) (.slice (some ⟨g3, 0, none⟩) k c3) [] (out.take k) rfl rfl (Rt.empty wa _ (Nat.le_refl _)) (HT.out.keep ((Below.refl _ _).alloc (Nat.le_refl _) _)) (.inr ⟨_, _, _, rfl⟩) (by have := HL.out; first | (simp; done) | (simp; omega)) ((Below.refl _ _).alloc (Nat.le_refl _) _).size ?_; intro v1 w1 hr1 hg1 hb1; have HR1 := Lib.hid (show Rt w1 wa.heap.size v1 (out.take k) from hr1); have HB1 := Lib.hid (((Below.refl _ _).alloc (Nat.le_refl _) _).trans hb1); clear hr1 hg1 hb1) | (at_builtin; go_loud (refine wpList_appG rfl (.tmp 32) (.tmp 34) _ 9 (.string ⟨#[]⟩) 16 Try.underlying78 infoT (by omega) rfl rfl wa.heap.size wa.heap.size _ _ ((out.take k).map encStr) [encStr x] rfl rfl (HR1.out.alloc _) (Rg.lit _ _ _ _ HB1.out.size) (by simp [encStr, Value.oneCell']) (by have := HL.out; first | (simp; done) | (simp; omega)) (by have := HB1.out.size; simp; omega) ?_); intro v2 w2 hr2 hg2 hb2; have HR2 := Lib.hid (show Rt w2 wa.heap.size v2 ((out.take k) ++ [x]) by unfold Rt; rw [List.map_append]; exact hr2); have HB2 := Lib.hid ((HB1.out.alloc HB1.out.size _).trans hb2); clear hr2 hg2 hb2) | (at_builtin; go_loud (refine wpList_appT rfl (.tmp 36) (.tmp 39) rfl wa.heap.size _ (.slice (some ⟨g3, k, none⟩) 0 (c3 - k)) ((out.take k) ++ [x]) (out.drop k) rfl rfl HR2.out (HD.out.keep HB2.out) (.inr ⟨_, _, _, rfl⟩) (by rw [← List.length_append]; have := HN.out; omega) HB2.out.size ?_); intro v3 w3 hr3 hg3 hb3))
              have HR3 := Lib.hid (Rg.mono hr3 HB.out.size)
              have HB3 := Lib.hid (Below.step HB.out HB.out.size (HB2.out.trans hb3))
              clear hr3 hg3 hb3
              go_wp2
              go_roundw
              case rel => exact ⟨j + 1, (out.take k) ++ [x] ++ (out.drop k), by omega, by go_num, HR3.out, HI2, HI1, HB3.out⟩
              case measure => simp [intOf]; omega
            · obtain rfl : k = c3 := by omega
              have hi1 := insT (k := k) (x := x) (Nat.le_trans hk (Nat.le_of_eq HL.out)) HS.out HQ.out HK.out
              have hi2 := insT_done (k := k) HX.out HP.out
              have HI1 := Lib.hid hi1
              have HI2 := Lib.hid hi2
              have HN := Lib.hid (show (out.take k ++ [x] ++ out.drop k).length ≤ 20001 by rw [hi2.length_eq, List.length_take]; omega)
              have HT := Lib.hid (HR.out.take k k (Nat.le_trans hk (Nat.le_of_eq HL.out)) (by omega))
              have HD := Lib.hid (HR.out.drop k 0 0 0 (Nat.le_trans hk (Nat.le_of_eq HL.out)) (by have := HL.out; omega) (by have := HL.out; omega) (by omega))
              clear hi1 hi2
              go_wp2_with (first | (at_builtin; refine wpList_appT rfl (.tmp 28) (.tmp 31) rfl wa.heap.size (.slice (some ⟨wa.heap.size, 0, none⟩) 0 0) (.slice (some ⟨g3, 0, none⟩) k k) [] (out.take k) rfl rfl (Rt.empty wa _ (Nat.le_refl _)) (HT.out.keep ((Below.refl _ _).alloc (Nat.le_refl _) _)) (.inr ⟨_, _, _, rfl⟩) (by have := HL.out; first | (simp; done) | (simp; omega)) ((Below.refl _ _).alloc (Nat.le_refl _) _).size ?_; intro v1 w1 hr1 hg1 hb1; have HR1 := Lib.hid (show Rt w1 wa.heap.size v1 (out.take k) from hr1); have HB1 := Lib.hid (((Below.refl _ _).alloc (Nat.le_refl _) _).trans hb1); clear hr1 hg1 hb1) | (at_builtin; go_loud (refine wpList_appG rfl (.tmp 32) (.tmp 34) _ 9 (.string ⟨#[]⟩) 16 Try.underlying78 infoT (by omega) rfl rfl wa.heap.size wa.heap.size _ _ ((out.take k).map encStr) [encStr x] rfl rfl (HR1.out.alloc _) (Rg.lit _ _ _ _ HB1.out.size) (by simp [encStr, Value.oneCell']) (by have := HL.out; first | (simp; done) | (simp; omega)) (by have := HB1.out.size; simp; omega) ?_); intro v2 w2 hr2 hg2 hb2; have HR2 := Lib.hid (show Rt w2 wa.heap.size v2 ((out.take k) ++ [x]) by unfold Rt; rw [List.map_append]; exact hr2); have HB2 := Lib.hid ((HB1.out.alloc HB1.out.size _).trans hb2); clear hr2 hg2 hb2) | (at_builtin; go_loud (refine wpList_appT rfl (.tmp 36) (.tmp 39) rfl wa.heap.size _ (.slice (some ⟨g3, 0, none⟩) 0 0) ((out.take k) ++ [x]) (out.drop k) rfl rfl HR2.out (HD.out.keep HB2.out) (.inr ⟨_, _, _, rfl⟩) (by rw [← List.length_append]; have := HN.out; omega) HB2.out.size ?_); intro v3 w3 hr3 hg3 hb3))
              have HR3 := Lib.hid (Rg.mono hr3 HB.out.size)
              have HB3 := Lib.hid (Below.step HB.out HB.out.size (HB2.out.trans hb3))
              clear hr3 hg3 hb3
              go_wp2
              go_roundw
              case rel => exact ⟨j + 1, (out.take k) ++ [x] ++ (out.drop k), by omega, by go_num, HR3.out, HI2, HI1, HB3.out⟩
              case measure => simp [intOf]; omega
    · obtain rfl : j = m := by omega
      have HE := Lib.hid (srtT_unique (HP.out.trans (by rw [List.take_of_length_le (Nat.le_of_eq HM.out.symm)])) HS.out)
      go_wp2
      go_ret
      exact ⟨_, rfl, by rw [← HE.out]; exact HR.out, HB.out⟩

end Go.Proofs.Yticagncemlnafaa
