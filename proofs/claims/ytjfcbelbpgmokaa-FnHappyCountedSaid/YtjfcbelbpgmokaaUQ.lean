/-
  Answers: spreads of sums, happy numbers counted.
-/
import Derived.Test.YtjfcbelbpgmokaaUP
namespace Go.Proofs.Ytjfcbelbpgmokaa
open Go.RowKit
set_option linter.unusedVariables false
set_option linter.unusedSimpArgs false
set_option maxRecDepth 100000

def OKS (k b : Int) : Bool := decide ((0 ≤ k ∧ k ≤ 12) ∧ Bas10 b)
/-- How many sums there are. -/
def nS (k b : Nat) : Nat := k * ((b - 1) * (b - 1)) + 1
def LF_SumsSpread (k b : Int) : List Int := if OKS k b = true then lst (nS k.toNat b.toNat) (sp b.toNat k.toNat) else []
def V_CountHappy (k b : Int) : Int := if OKS k b = true then ((hc b.toNat k.toNat (nS k.toNat b.toNat) : Nat) : Int) else 0
abbrev R_CountHappy (k b : Int) : Value := .tuple #[.int .i64 (V_CountHappy k b), .bool (OKS k b)]

theorem oks_cases (k b : Int) : (OKS k b = true ∧ ∃ K B : Nat, k = (K : Int) ∧ b = (B : Int) ∧ K ≤ 12 ∧ 2 ≤ B ∧ B ≤ 10) ∨ OKS k b = false := by
  cases h : OKS k b
  · exact .inr rfl
  · obtain ⟨h1, h2⟩ := of_decide_eq_true h
    obtain ⟨h2a, h2b⟩ := h2
    exact .inl ⟨rfl, k.toNat, b.toNat, by omega, by omega, by omega, by omega, by omega⟩

theorem nS_le {k b : Nat} (hk : k ≤ 12) (hb : b ≤ 10) : nS k b ≤ 973 := by have := qq_le hb hk; unfold nS; omega

theorem LF_SumsSpread_len (k b : Int) : (LF_SumsSpread k b).length ≤ 2000000 := by
  unfold LF_SumsSpread
  rcases oks_cases k b with ⟨h, K, B, rfl, rfl, h1, h2, h3⟩ | h
  · rw [if_pos h, lst_len]
    have := nS_le h1 h3
    show nS K B ≤ _
    omega
  · rw [h]; simp

theorem pwSpreadAsked_any (k b : Int) (w : World) : Calls Try.prog 21 #[.int .i64 k, .int .i64 b] w fun e w' => e = .returned (.bool (OKS k b)) ∧ w = w' := by
  by_cases h : 0 ≤ k ∧ k ≤ 12
  · obtain ⟨k0, k1⟩ := h
    by_cases h2 : 2 ≤ b ∧ b ≤ 10
    · have HO := Lib.hid (show OKS k b = true from decide_eq_true ⟨⟨k0, k1⟩, h2⟩)
      obtain ⟨b0, b1⟩ := h2
      go_enter Try.func21, Try.ntmps21
      go_wp2_with fail
      refine (l1In_yes _ _ _ _ k0 k1).mono ?_
      rintro e w1 ⟨rfl, rfl⟩
      go_wp2_with fail
      refine (l1In_yes _ _ _ _ b0 b1).mono ?_
      rintro e w1 ⟨rfl, rfl⟩
      go_wp2
      go_ret
      exact ⟨ret_bool HO.out.symm, rfl⟩
    · have HO := Lib.hid (show OKS k b = false from decide_eq_false (fun h => h2 h.2))
      have H := Lib.hid (show b < 2 ∨ 10 < b by omega)
      clear h2
      go_enter Try.func21, Try.ntmps21
      go_wp2_with fail
      refine (l1In_yes _ _ _ _ k0 k1).mono ?_
      rintro e w1 ⟨rfl, rfl⟩
      go_wp2_with fail
      refine (l1In_no _ _ _ _ H.out).mono ?_
      rintro e w1 ⟨rfl, rfl⟩
      go_wp2
      go_ret
      exact ⟨ret_bool HO.out.symm, rfl⟩
  · have HO := Lib.hid (show OKS k b = false from decide_eq_false (fun h2 => h h2.1))
    have H := Lib.hid (show k < 0 ∨ 12 < k by omega)
    clear h
    go_enter Try.func21, Try.ntmps21
    go_wp2_with fail
    refine (l1In_no _ _ _ _ H.out).mono ?_
    rintro e w1 ⟨rfl, rfl⟩
    go_wp2
    go_ret
    exact ⟨ret_bool HO.out.symm, rfl⟩

theorem spec_SumsSpread (k b : Int) (w : World) :
    Calls Try.prog 9 #[.int .i64 k, .int .i64 b] w fun e w' => ∃ u, e = .returned (.tuple #[u, .bool (OKS k b)]) ∧ Rd w' w.heap.size u (LF_SumsSpread k b) ∧ Below w.heap.size w w' := by
  rcases oks_cases k b with ⟨hok, K, B, rfl, rfl, hK, hB, hB'⟩ | hn
  · have HO := Lib.hid hok
    have HL := Lib.hid (show LF_SumsSpread (K : Int) (B : Int) = lst (nS K B) (sp B K) by unfold LF_SumsSpread; rw [if_pos hok]; rfl)
    have HA := Lib.hid (pwSpreadAsked_any (K : Int) (B : Int))
    rw [hok] at HA
    clear hok
    go_enter Try.func9, Try.ntmps9
    go_wp2_with (go_at_call 21; refine (HA.out _).mono ?_; rintro e w1 ⟨rfl, rfl⟩)
    refine (pwSpread_any K B _ hB hB' hK).mono ?_
    rintro e w1 ⟨u, rfl, hr, hb1⟩
    have HR := Lib.hid hr
    have HB := Lib.hid hb1
    clear hr hb1
    go_wp2
    go_ret2
    exact ⟨_, by rw [HO.out]; rfl, by rw [HL.out]; exact HR.out, HB.out⟩
  · have HO := Lib.hid hn
    have HL := Lib.hid (show LF_SumsSpread k b = [] by unfold LF_SumsSpread; rw [hn]; rfl)
    have HA := Lib.hid (pwSpreadAsked_any k b)
    rw [hn] at HA
    clear hn
    go_enter Try.func9, Try.ntmps9
    go_wp2_with (go_at_call 21; refine (HA.out _).mono ?_; rintro e w1 ⟨rfl, rfl⟩)
    go_ret2
    exact ⟨_, by rw [HO.out]; rfl, by rw [HL.out]; exact Rd.nil _ _, Below.refl _ _⟩

theorem impl_SumsSpread (k b : Int) (w : World) :
    Calls Try.prog 8 #[.int .i64 k, .int .i64 b] w fun e w' => ∃ u, e = .returned (.tuple #[u, .bool (OKS k b)]) ∧ Rd w' w.heap.size u (LF_SumsSpread k b) ∧ Below w.heap.size w w' := by
  by_cases h0 : k < 0
  · have HO := Lib.hid (show OKS k b = false from decide_eq_false (fun h => by have := h.1; omega))
    have HL := Lib.hid (show LF_SumsSpread k b = [] by unfold LF_SumsSpread; rw [HO.out]; rfl)
    go_enter Try.func8, Try.ntmps8
    go_wp2
    go_ret2
    exact ⟨_, by rw [HO.out]; rfl, by rw [HL.out]; exact Rd.nil _ _, Below.refl _ _⟩
  · by_cases h1 : 12 < k
    · have HO := Lib.hid (show OKS k b = false from decide_eq_false (fun h => by have := h.1; omega))
      have HL := Lib.hid (show LF_SumsSpread k b = [] by unfold LF_SumsSpread; rw [HO.out]; rfl)
      go_enter Try.func8, Try.ntmps8
      go_wp2
      go_ret2
      exact ⟨_, by rw [HO.out]; rfl, by rw [HL.out]; exact Rd.nil _ _, Below.refl _ _⟩
    · by_cases hB : Bas10 b
      · have a2 : decide (Bas10 b) = true := decide_eq_true hB
        have hok : OKS k b = true := decide_eq_true ⟨by omega, hB⟩
        have HO := Lib.hid hok
        obtain ⟨b0, b1⟩ := hB
        obtain ⟨K, rfl⟩ : ∃ K : Nat, k = (K : Int) := ⟨k.toNat, by omega⟩
        obtain ⟨B, rfl⟩ : ∃ B : Nat, b = (B : Int) := ⟨b.toNat, by omega⟩
        have HL := Lib.hid (show LF_SumsSpread (K : Int) (B : Int) = lst (nS K B) (sp B K) by unfold LF_SumsSpread; rw [if_pos hok]; rfl)
        have hK : K ≤ 12 := by omega
        clear hok
        go_enter Try.func8, Try.ntmps8
        go_wp2_with (go_at_call 24; refine (isSearchedBase_any _ _).mono ?_; rintro e w1 ⟨rfl, rfl⟩)
        refine (powersOf_any B 2 _ (by omega) (by omega) (by omega) (by omega)).mono ?_
        rintro e w1 ⟨g, c, rfl, hg, hT, hB⟩
        have HT := Lib.hid hT
        have HB := Lib.hid hB
        clear hg hT hB
        go_wp2_with fail
        refine (spreadP_any g c B K _ HT.out (by omega) (by omega) hK).mono ?_
        rintro e w2 ⟨u, rfl, hr, hb2⟩
        have HR := Lib.hid (hr.mono HB.out.size)
        have HB2 := Lib.hid (Below.step HB.out HB.out.size hb2)
        clear hr hb2
        go_wp2
        go_ret2
        exact ⟨_, by rw [HO.out]; rfl, by rw [HL.out]; exact HR.out, HB2.out⟩
      · have a2 : decide (Bas10 b) = false := decide_eq_false hB
        have HO := Lib.hid (show OKS k b = false from decide_eq_false (fun h => hB h.2))
        have HL := Lib.hid (show LF_SumsSpread k b = [] by unfold LF_SumsSpread; rw [HO.out]; rfl)
        clear hB
        go_enter Try.func8, Try.ntmps8
        go_wp2_with (go_at_call 24; refine (isSearchedBase_any _ _).mono ?_; rintro e w1 ⟨rfl, rfl⟩)
        go_ret2
        exact ⟨_, by rw [HO.out]; rfl, by rw [HL.out]; exact Rd.nil _ _, Below.refl _ _⟩

theorem hc_yes {b k j : Nat} (h : hap b j = true) : hc b k (j + 1) = hc b k j + sp b k j := by show hc b k j + (if hap b j = true then sp b k j else 0) = _; rw [if_pos h]
theorem hc_no {b k j : Nat} (h : hap b j = false) : hc b k (j + 1) = hc b k j := by show hc b k j + (if hap b j = true then sp b k j else 0) = _; rw [h]; rfl

theorem spec_CountHappy (k b : Int) (w : World) :
    Calls Try.prog 7 #[.int .i64 k, .int .i64 b] w fun e w' => e = .returned (R_CountHappy k b) ∧ Below w.heap.size w w' := by
  rcases oks_cases k b with ⟨hok, K, B, rfl, rfl, hK, hB, hB'⟩ | hn
  · have HO := Lib.hid hok
    have HV := Lib.hid (show V_CountHappy (K : Int) (B : Int) = ((hc B K (nS K B) : Nat) : Int) by unfold V_CountHappy; rw [if_pos hok]; rfl)
    have HA := Lib.hid (pwSpreadAsked_any (K : Int) (B : Int))
    have HSB := Lib.hid (sp_bd hB hB' hK)
    have HS := Lib.hid (show ∀ w' : World, Calls Try.prog 22 #[.int .i64 (K : Int), .int .i64 (B : Int)] w' fun e w'' => ∃ u, e = .returned u ∧ Rd w'' w'.heap.size u (lst (nS K B) (sp B K)) ∧ Below w'.heap.size w' w'' from fun w' => pwSpread_any K B w' hB hB' hK)
    obtain ⟨N, hN⟩ : ∃ N, N = nS K B := ⟨_, rfl⟩
    have hNb : N ≤ 973 := by rw [hN]; exact nS_le hK hB'
    have hN1 : 1 ≤ N := by rw [hN]; unfold nS; omega
    rw [hok] at HA
    rw [← hN] at HV HS
    clear hok hN
    go_enter Try.func7, Try.ntmps7
    go_wp2_with (go_at_call 21; refine (HA.out _).mono ?_; rintro e w1 ⟨rfl, rfl⟩)
    refine (HS.out _).mono ?_
    rintro e w1 ⟨u, rfl, hr, hb1⟩
    obtain ⟨gu, cu, rfl⟩ : ∃ gu cu, u = .slice (some ⟨gu, 0, none⟩) N cu := by
      rcases hr.cases with ⟨_, hx⟩ | ⟨gu, cu, hu, _⟩
      · have := congrArg List.length hx; rw [lst_len] at this; simp at this; omega
      · rw [lst_len] at hu; exact ⟨gu, cu, hu⟩
    have HR := Lib.hid hr
    have HB := Lib.hid hb1
    clear hr hb1
    go_wp2
    go_loopw [6, 17] (fun s i wr => ∃ j : Nat, j ≤ N ∧ i = .int .i64 (j : Int) ∧ s = .int .i64 ((hc B K j : Nat) : Int) ∧ Rd wr w.heap.size (.slice (some ⟨gu, 0, none⟩) N cu) (lst N (sp B K)) ∧ Below w.heap.size w wr) (fun _ i _ => N - (intOf i).toNat)
    case atStart => exact ⟨0, Nat.zero_le _, rfl, rfl, HR.out, HB.out⟩
    case round =>
      obtain ⟨j, hj, rfl, rfl, hr, hbl⟩ := hrel
      have HR2 := Lib.hid hr
      have HB2 := Lib.hid hbl
      clear hr hbl
      by_cases hlt : j < N
      · have hcell := HR2.out.at.2.2.2.2.1 j (by rw [lst_len]; exact hlt)
        rw [lst_at] at hcell
        have hcb := hc_le (b := B) HSB.out j
        have hcb2 : j * 1000000000000 ≤ 973 * 1000000000000 := Nat.mul_le_mul (by omega) (Nat.le_refl _)
        have hvb := HSB.out j
        cases hq : hap B j
        · have HN := Lib.hid (hc_no (k := K) hq)
          obtain ⟨v, hv⟩ : ∃ v, v = sp B K j := ⟨_, rfl⟩
          obtain ⟨t, ht⟩ : ∃ t, t = hc B K j := ⟨_, rfl⟩
          rw [← hv] at hcell
          rw [← ht] at HN ⊢
          clear hv ht hcb hcb2 hvb
          go_wp2_with (go_at_call 23; refine (pwHappy_any j B _ (by omega) (by omega) (by omega)).mono ?_; rw [hq]; rintro e w2 ⟨rfl, hb2⟩; have HB3 := Lib.hid (Below.step HB2.out HB2.out.size hb2); have HR3 := Lib.hid (HR2.out.keep hb2); clear hb2)
          go_roundw
          case rel => exact ⟨j + 1, by omega, by go_num, by rw [HN.out], HR3.out, HB3.out⟩
          case measure => simp [intOf]; omega
        · have HN := Lib.hid (hc_yes (k := K) hq)
          obtain ⟨v, hv⟩ : ∃ v, v = sp B K j := ⟨_, rfl⟩
          obtain ⟨t, ht⟩ : ∃ t, t = hc B K j := ⟨_, rfl⟩
          rw [← hv] at hcell hvb
          rw [← ht] at hcb ⊢
          rw [← hv, ← ht] at HN
          clear hv ht
          go_wp2_with (go_at_call 23; refine (pwHappy_any j B _ (by omega) (by omega) (by omega)).mono ?_; rw [hq]; rintro e w2 ⟨rfl, hb2⟩; have HB3 := Lib.hid (Below.step HB2.out HB2.out.size hb2); have HR3 := Lib.hid (HR2.out.keep hb2); clear hb2)
          go_roundw
          case rel => exact ⟨j + 1, by omega, by go_num, by rw [HN.out]; go_num, HR3.out, HB3.out⟩
          case measure => simp [intOf]; omega
      · obtain rfl : j = N := by omega
        go_wp2
        go_ret2
        exact ⟨by unfold R_CountHappy; rw [HO.out, HV.out]; rfl, HB2.out⟩
  · have HO := Lib.hid hn
    have HV := Lib.hid (show V_CountHappy k b = 0 by unfold V_CountHappy; rw [hn]; rfl)
    have HA := Lib.hid (pwSpreadAsked_any k b)
    rw [hn] at HA
    clear hn
    go_enter Try.func7, Try.ntmps7
    go_wp2_with (go_at_call 21; refine (HA.out _).mono ?_; rintro e w1 ⟨rfl, rfl⟩)
    go_ret2
    exact ⟨by unfold R_CountHappy; rw [HO.out, HV.out]; rfl, Below.refl _ _⟩

theorem impl_CountHappy (k b : Int) (w : World) :
    Calls Try.prog 6 #[.int .i64 k, .int .i64 b] w fun e w' => e = .returned (R_CountHappy k b) ∧ Below w.heap.size w w' := by
  have HS := Lib.hid (impl_SumsSpread k b)
  rcases oks_cases k b with ⟨hok, K, B, rfl, rfl, hK, hB, hB'⟩ | hn
  · have HO := Lib.hid hok
    have HV := Lib.hid (show V_CountHappy (K : Int) (B : Int) = ((hc B K (nS K B) : Nat) : Int) by unfold V_CountHappy; rw [if_pos hok]; rfl)
    have HL := Lib.hid (show LF_SumsSpread (K : Int) (B : Int) = lst (nS K B) (sp B K) by unfold LF_SumsSpread; rw [if_pos hok]; rfl)
    have HSB := Lib.hid (sp_bd hB hB' hK)
    obtain ⟨N, hN⟩ : ∃ N, N = nS K B := ⟨_, rfl⟩
    have hNb : N ≤ 973 := by rw [hN]; exact nS_le hK hB'
    have hN1 : 1 ≤ N := by rw [hN]; unfold nS; omega
    rw [hok] at HS
    rw [← hN] at HV HL
    rw [HL.out] at HS
    clear hok hN
    go_enter Try.func6, Try.ntmps6
    go_wp2_with fail
    refine (HS.out _).mono ?_
    rintro e w1 ⟨u, rfl, hr, hb1⟩
    obtain ⟨gu, cu, rfl⟩ : ∃ gu cu, u = .slice (some ⟨gu, 0, none⟩) N cu := by
      rcases hr.cases with ⟨_, hx⟩ | ⟨gu, cu, hu, _⟩
      · have := congrArg List.length hx; rw [lst_len] at this; simp at this; omega
      · rw [lst_len] at hu; exact ⟨gu, cu, hu⟩
    have HR := Lib.hid hr
    have HB := Lib.hid hb1
    clear hr hb1
    go_wp2
    go_loopw [8, 23] (fun s i wr => ∃ j : Nat, j ≤ N ∧ i = .int .i64 (j : Int) ∧ s = .int .i64 ((hc B K j : Nat) : Int) ∧ Rd wr w.heap.size (.slice (some ⟨gu, 0, none⟩) N cu) (lst N (sp B K)) ∧ Below w.heap.size w wr) (fun _ i _ => N - (intOf i).toNat)
    case atStart => exact ⟨0, Nat.zero_le _, rfl, rfl, HR.out, HB.out⟩
    case round =>
      obtain ⟨j, hj, rfl, rfl, hr, hbl⟩ := hrel
      have HR2 := Lib.hid hr
      have HB2 := Lib.hid hbl
      clear hr hbl
      by_cases hlt : j < N
      · have hcell := HR2.out.at.2.2.2.2.1 j (by rw [lst_len]; exact hlt)
        rw [lst_at] at hcell
        have hcb := hc_le (b := B) HSB.out j
        have hcb2 : j * 1000000000000 ≤ 973 * 1000000000000 := Nat.mul_le_mul (by omega) (Nat.le_refl _)
        have hvb := HSB.out j
        cases hq : hap B j
        · have HN := Lib.hid (hc_no (k := K) hq)
          obtain ⟨v, hv⟩ : ∃ v, v = sp B K j := ⟨_, rfl⟩
          obtain ⟨t, ht⟩ : ∃ t, t = hc B K j := ⟨_, rfl⟩
          rw [← hv] at hcell
          rw [← ht] at HN ⊢
          clear hv ht hcb hcb2 hvb
          go_wp2_with (go_at_call 11; refine (isHappy_at j B _ (by omega) (by omega) (by omega)).mono ?_; rw [hq]; rintro e w2 ⟨rfl, hb2⟩; have HB3 := Lib.hid (Below.step HB2.out HB2.out.size hb2); have HR3 := Lib.hid (HR2.out.keep hb2); clear hb2)
          go_roundw
          case rel => exact ⟨j + 1, by omega, by go_num, by rw [HN.out], HR3.out, HB3.out⟩
          case measure => simp [intOf]; omega
        · have HN := Lib.hid (hc_yes (k := K) hq)
          obtain ⟨v, hv⟩ : ∃ v, v = sp B K j := ⟨_, rfl⟩
          obtain ⟨t, ht⟩ : ∃ t, t = hc B K j := ⟨_, rfl⟩
          rw [← hv] at hcell hvb
          rw [← ht] at hcb ⊢
          rw [← hv, ← ht] at HN
          clear hv ht
          go_wp2_with (go_at_call 11; refine (isHappy_at j B _ (by omega) (by omega) (by omega)).mono ?_; rw [hq]; rintro e w2 ⟨rfl, hb2⟩; have HB3 := Lib.hid (Below.step HB2.out HB2.out.size hb2); have HR3 := Lib.hid (HR2.out.keep hb2); clear hb2)
          go_roundw
          case rel => exact ⟨j + 1, by omega, by go_num, by rw [HN.out]; go_num, HR3.out, HB3.out⟩
          case measure => simp [intOf]; omega
      · obtain rfl : j = N := by omega
        go_wp2
        go_ret2
        exact ⟨by unfold R_CountHappy; rw [HO.out, HV.out]; rfl, HB2.out⟩
  · have HO := Lib.hid hn
    have HV := Lib.hid (show V_CountHappy k b = 0 by unfold V_CountHappy; rw [hn]; rfl)
    rw [hn] at HS
    clear hn
    go_enter Try.func6, Try.ntmps6
    go_wp2_with fail
    refine (HS.out _).mono ?_
    rintro e w1 ⟨u, rfl, hr, hb1⟩
    have HB := Lib.hid hb1
    clear hr hb1
    go_wp2
    go_ret2
    exact ⟨by unfold R_CountHappy; rw [HO.out, HV.out]; rfl, HB.out⟩

end Go.Proofs.Ytjfcbelbpgmokaa
