/-
  Numbers without sources: the model's answer.
-/
import Derived.Test.Ytlpmfapjgmhbhaa8Y
namespace Go.Proofs.Ytlpmfapjgmhbhaa
open Go.RowKit
set_option linter.unusedVariables false
set_option linter.unusedSimpArgs false
set_option maxRecDepth 100000

theorem lst_set (n : Nat) (F : Nat → Nat) (k q : Nat) : (lst n F).set k (q : Int) = lst n (fun x => if x = k then q else F x) := by
  apply List.ext_getElem?
  intro j
  by_cases hj : j < n
  · by_cases e : k = j
    · subst e; simp [lst, List.getElem?_set, hj]
    · have e' : ¬ j = k := fun h => e h.symm
      simp [lst, List.getElem?_set, hj, e, e']
  · rw [List.getElem?_eq_none (by simp [lst]; omega), List.getElem?_eq_none (by simp [lst]; omega)]
theorem Rd.setL {w : World} {B g n cap : Nat} {F : Nat → Nat} (h : Rd w B (.slice (some ⟨g, 0, none⟩) n cap) (lst n F)) (j q : Nat) :
    Rd (w.setCell ⟨g, j, none⟩ (.int .i64 (q : Int))) B (.slice (some ⟨g, 0, none⟩) n cap) (lst n (fun x => if x = j then q else F x)) ∧ w.grownBy (w.setCell ⟨g, j, none⟩ (.int .i64 (q : Int))) (some g) := by
  have := h.set j (q : Int)
  rw [lst_set] at this
  exact this
theorem lst_rep (n : Nat) : List.replicate n (0 : Int) = lst n (fun _ => 0) := by
  apply List.ext_getElem?
  intro j
  by_cases hj : j < n
  · simp [lst, hj]
  · rw [List.getElem?_eq_none (by simp; omega), List.getElem?_eq_none (by simp [lst]; omega)]

/-- The model's counts: how many of the first k numbers have each sum. -/
def Cn (m k : Nat) (F : Nat → Nat) : Prop := (∀ s, F s ≤ k) ∧ (2 ≤ m → ∀ s, 1 ≤ s → s ≤ m → F s = (srcTo (s : Int) k).length)
theorem Cn.one (m : Nat) : Cn m 1 (fun _ => 0) := ⟨fun _ => Nat.zero_le _, fun _ s h1 _ => by rw [srcTo_one (by omega)]; rfl⟩
theorem Cn.hit {m k s : Nat} {F : Nat → Nat} (h : Cn m k F) (hs : prop ((k + 1 : Nat) : Int) = (s : Int)) : Cn m (k + 1) (fun x => if x = s then F s + 1 else F x) := by
  refine ⟨fun x => ?_, fun hm x h1 h2 => ?_⟩
  · have h3 := h.1 s
    have h4 := h.1 x
    by_cases e : x = s
    · simp [e]; omega
    · simp [e]; omega
  · by_cases e : x = s
    · subst e
      have := h.2 hm x h1 h2
      rw [srcTo_hit hs]
      simp [this]
    · rw [srcTo_miss (by rw [hs]; omega)]
      simp [e, h.2 hm x h1 h2]
theorem Cn.miss {m k : Nat} {F : Nat → Nat} (h : Cn m k F) (hs : ∀ s : Nat, s ≤ m → ¬ prop ((k + 1 : Nat) : Int) = (s : Int)) : Cn m (k + 1) F := by
  refine ⟨fun x => Nat.le_succ_of_le (h.1 x), fun hm x h1 h2 => ?_⟩
  rw [srcTo_miss (hs x h2)]
  exact h.2 hm x h1 h2

theorem spec_NoSources (n : Int) (w : World) :
    Calls Try.prog 35 #[.int .i64 n] w fun e w' => ∃ v, e = .returned (.tuple #[v, .bool (OK_NoSources n)]) ∧ Rd w' w.heap.size v (LF_NoSources n) ∧ Below w.heap.size w w' := by
  by_cases h : Nd n
  · have HO := Lib.hid (show OK_NoSources n = true from decide_eq_true h)
    have HL := Lib.hid (show LF_NoSources n = nsr (upTo n.toNat) (n.toNat - 1) from if_pos h)
    rw [HO.out, HL.out]
    obtain ⟨m, rfl⟩ : ∃ m : Nat, n = (m : Int) := ⟨n.toNat, by have := h.1; omega⟩
    obtain ⟨m0, m1⟩ := h
    have hm1 : m ≤ 100 := by omega
    have HU := Lib.hid (upTo_int hm1)
    have hub := upTo_le hm1
    have HUP := Lib.hid (fun (h : 2 ≤ m) => upTo_pos h hm1)
    obtain ⟨q0, q1⟩ := sq_le (m := (m : Int)) m0 m1
    have HM1 := Lib.hid (show m ≤ 1 → upTo m ≤ 1 from fun h => by
      match m, h with
      | 0, _ => decide
      | 1, _ => decide)
    rw [show ((m : Int)).toNat = m from Int.toNat_natCast m]
    obtain ⟨NN, hNN⟩ : ∃ NN, NN = upTo m := ⟨_, rfl⟩
    rw [← hNN] at HU hub HUP HM1 ⊢
    clear HO HL hNN
    go_enter Try.func35, Try.ntmps35
    go_wp2_with (first | (go_at_call 63; refine (l1In_yes _ _ _ _ m0 m1).mono ?_; rintro e w1 ⟨rfl, rfl⟩) | (at_make; refine wpList_mkR rfl _ _ rfl .i64 .i64 _ _ (m + 1) rfl rfl (by omega) (by omega) (by omega) ?_; intro w1 hr1 hg1 hb1; rw [lst_rep] at hr1; have HR1 := Lib.hid hr1; have HB1 := Lib.hid hb1; clear hr1 hg1 hb1))
    go_loopw [5] (fun i wr => ∃ (k : Nat) (F : Nat → Nat), i = .int .i64 ((k + 1 : Nat) : Int) ∧ (k ≤ NN ∨ k = 1) ∧ 1 ≤ k ∧ Hid (Cn m k F) ∧ Rd wr w.heap.size (.slice (some ⟨w.heap.size, 0, none⟩) (m + 1) (m + 1)) (lst (m + 1) F) ∧ Below w.heap.size w wr) (fun i _ => NN + 1 - (intOf i).toNat)
    case atStart => exact ⟨1, _, rfl, .inr rfl, Nat.le_refl _, Lib.hid (Cn.one m), HR1.out, HB1.out⟩
    case round =>
      obtain ⟨k, F, rfl, hk, hk1, HC, hr, hb⟩ := hrel
      have HR := Lib.hid hr
      have HB := Lib.hid hb
      clear hr hb
      by_cases hlt : k < NN
      · have hle : ((k + 1 : Nat) : Int) ≤ ((m : Int) - 1) * ((m : Int) - 1) := by have := HU.out; omega
        have hm2 : (1 : Int) < (m : Int) := by
          by_cases c : m ≤ 1
          · have := HM1.out c; omega
          · omega
        have hDv : Dv ((k + 1 : Nat) : Int) := ⟨by omega, by omega⟩
        have HP := Lib.hid (fun w' => dvProper_any ((k + 1 : Nat) : Int) w' hDv)
        have pb := prop_bd (n := ((k + 1 : Nat) : Int)) (by omega) (by omega)
        have HT1 := Lib.hid (fun (s : Nat) (h : prop ((k + 1 : Nat) : Int) = (s : Int)) => HC.out.hit h)
        have HT2 := Lib.hid (fun h => HC.out.miss (k := k) h)
        obtain ⟨s, hs⟩ : ∃ s, s = prop ((k + 1 : Nat) : Int) := ⟨_, rfl⟩
        rw [← hs] at HP pb HT1 HT2
        obtain ⟨s0, s1, _, _⟩ := pb
        clear hs
        obtain ⟨K, hK⟩ : ∃ K, K = k + 1 := ⟨_, rfl⟩
        have HK := Lib.hid hK
        rw [← hK] at HP HT1 HT2 hle ⊢
        have hKb : K ≤ 9801 := by omega
        clear hDv hK
        by_cases h3 : s ≤ (m : Int)
        · obtain ⟨S, rfl⟩ : ∃ S : Nat, s = (S : Int) := ⟨s.toNat, by omega⟩
          have hSm : S ≤ m := by omega
          have hSm2 : S < m + 1 := by omega
          have HCK := Lib.hid (HT1.out S rfl)
          have hF := HC.out.1 S
          obtain ⟨q, hq⟩ : ∃ q, q = F S := ⟨_, rfl⟩
          have HQ := Lib.hid hq
          rw [← hq] at hF HCK
          have hqb : q ≤ 9801 := by omega
          clear hq HT1 HT2 hF
          go_wp2_with (go_at_call 69; refine (HP.out _).mono ?_; rintro e w2 ⟨rfl, hb2⟩; have HR2 := Lib.hid (HR.out.keep hb2); have HB2 := Lib.hid (Below.step HB.out HB.out.size hb2); have hcell2 := HR2.out.at.2.2.2.2.1 S (by rw [lst_len]; exact hSm2); rw [lst_at, ← HQ.out] at hcell2; have hfro2 := HR2.out.at.2.2.2.2.2 S; clear hb2)
          have HST := Lib.hid (HR2.out.setL S (q + 1))
          go_roundw
          case rel => exact ⟨K, _, by go_num, .inl (by have := HK.out; omega), by have := HK.out; omega, Lib.hid HCK.out, HST.out.1, HB2.out.grown HST.out.2 HB2.out.size (fun q hq => by cases hq; exact Nat.le_refl _)⟩
          case measure => have := HK.out; simp [intOf]; omega
        · have HCK := Lib.hid (HT2.out (fun q hq => by omega))
          clear HT1 HT2
          go_wp2_with (go_at_call 69; refine (HP.out _).mono ?_; rintro e w2 ⟨rfl, hb2⟩; have HR2 := Lib.hid (HR.out.keep hb2); have HB2 := Lib.hid (Below.step HB.out HB.out.size hb2); clear hb2)
          go_roundw
          case rel => exact ⟨K, F, by go_num, .inl (by have := HK.out; omega), by have := HK.out; omega, Lib.hid HCK.out, HR2.out, HB2.out⟩
          case measure => have := HK.out; simp [intOf]; omega
      · have hle : ¬ ((k + 1 : Nat) : Int) ≤ ((m : Int) - 1) * ((m : Int) - 1) := by have := HU.out; omega
        have HCN := Lib.hid (show ∀ s : Nat, 1 ≤ s → s ≤ m → 2 ≤ m → F s = (srcTo (s : Int) NN).length from fun s h1 h2 h3 => by
          have hk3 : k = NN := by have := HUP.out h3; omega
          rw [← hk3]
          exact HC.out.2 h3 s h1 h2)
        have HFB := Lib.hid (fun s => HC.out.1 s)
        have hkb : k ≤ 9801 := by omega
        rename World => wo
        go_wp2
        go_loopw [7, 8] (fun o i wr => ∃ (j : Nat), i = .int .i64 ((j + 2 : Nat) : Int) ∧ j ≤ m - 1 ∧ Rd wr wo.heap.size o (nsr NN j) ∧ Below wo.heap.size wo wr) (fun _ i _ => m + 2 - (intOf i).toNat)
        case atStart => exact ⟨0, rfl, Nat.zero_le _, Rd.nil _ _, Below.refl _ _⟩
        case round =>
          obtain ⟨j, rfl, hj, hr, hbl⟩ := hrel
          have HRo := Lib.hid hr
          have HB2 := Lib.hid hbl
          clear hr hbl
          obtain ⟨J, hJ⟩ : ∃ J, J = j + 2 := ⟨_, rfl⟩
          have HJ := Lib.hid hJ
          have HH := Lib.hid (fun h => nsr_hit (N := NN) (j := j) h)
          have HM := Lib.hid (fun h => nsr_miss (N := NN) (j := j) h)
          have hnl := nsr_len NN j
          by_cases hlt2 : j < m - 1
          · have HFE := Lib.hid (HCN.out (j + 2) (by omega) (by omega) (by omega))
            have hcell := (HR.out.keep HB2.out).at.2.2.2.2.1 (j + 2) (by rw [lst_len]; omega)
            rw [lst_at] at hcell
            have hFb := HFB.out (j + 2)
            rw [← HFE.out] at HH HM
            obtain ⟨L, hL⟩ : ∃ L, L = F (j + 2) := ⟨_, rfl⟩
            rw [← hL] at HH HM hcell hFb
            obtain ⟨l, hl⟩ : ∃ l, l = nsr NN j := ⟨_, rfl⟩
            rw [← hl] at HH HM HRo hnl
            rw [← hJ] at HH hcell ⊢
            have hJm : (J : Int) ≤ (m : Int) := by omega
            have hJm2 : J < m + 1 := by omega
            clear hL hl hJ HFE
            by_cases hz : L = 0
            · have HT3 := Lib.hid (HH.out hz)
              subst hz
              clear HH HM
              go_wp2_with (at_builtin; refine wpList_appR rfl _ _ rfl wo.heap.size wo.heap.size _ _ l [(J : Int)] rfl rfl (HRo.out.alloc _) (Rd.litB _ _ _ HB2.out.size) (by simp; omega) (by have := HB2.out.size; simp; omega) ?_; intro v4 w4 hr4 hg4 hb4; rw [← HT3.out] at hr4; have HR4 := Lib.hid hr4; have HB4 := Lib.hid ((HB2.out.alloc HB2.out.size _).trans hb4); clear hr4 hg4 hb4)
              go_roundw
              case rel => exact ⟨j + 1, by have := HJ.out; first | (rw [this]; go_num) | go_num, by omega, HR4.out, HB4.out⟩
              case measure => have := HJ.out; simp [intOf]; omega
            · have HT3 := Lib.hid (HM.out hz)
              have hzb : ((L : Int) == 0) = false := beq_no (by omega)
              clear HH HM hz
              go_wp2
              go_roundw
              case rel => exact ⟨j + 1, by have := HJ.out; first | (rw [this]; go_num) | go_num, by omega, by rw [HT3.out]; exact HRo.out, HB2.out⟩
              case measure => have := HJ.out; simp [intOf]; omega
          · obtain rfl : j = m - 1 := by omega
            have hJm : ¬ (J : Int) ≤ (m : Int) := by omega
            rw [← hJ]
            clear hJ
            go_wp2
            go_ret2
            exact ⟨_, rfl, HRo.out.mono HB.out.size, Below.step HB.out HB.out.size HB2.out⟩
  · have HO := Lib.hid (show OK_NoSources n = false from decide_eq_false h)
    have HL := Lib.hid (show LF_NoSources n = [] from if_neg h)
    rw [HO.out, HL.out]
    have hs : n < 0 ∨ 100 < n := by unfold Nd at h; omega
    clear h
    go_enter Try.func35, Try.ntmps35
    go_wp2_with (go_at_call 63; refine (l1In_no _ _ _ _ hs).mono ?_; rintro e w1 ⟨rfl, rfl⟩)
    go_ret2
    exact ⟨_, rfl, Rd.nil _ _, Below.refl _ _⟩

end Go.Proofs.Ytlpmfapjgmhbhaa
