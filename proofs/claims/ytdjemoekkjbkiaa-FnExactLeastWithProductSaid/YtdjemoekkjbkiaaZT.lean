/-
  The least number with a product: the answers and the law.
-/
import Derived.Test.YtdjemoekkjbkiaaZR
import Derived.Test.YtdjemoekkjbkiaaK
namespace Go.Proofs.Ytdjemoekkjbkiaa
open Go.RowKit
set_option linter.unusedVariables false
set_option linter.unusedSimpArgs false
set_option maxRecDepth 100000

theorem sp_hit {c L p : Nat} (hc : 2 ≤ c) (h2 : 2 ≤ p) (hp : p ≤ 1000000000000) (hY : spF c L 2 p ≠ []) (hA : ∀ j, j < L → spF c j 2 p = []) : ct c p ≠ 0 ∧ spF c L 2 p = gr c p := by
  obtain ⟨a1, a2, a3⟩ := spF_sound hc L 2 p (Nat.le_refl _) hY
  have h1 := ct_list c _ a2
  have h3 := fw_le c _ a2
  rw [a3] at h1 h3
  rw [a1] at h3
  obtain ⟨m1, m2, m3, m4, m5, _⟩ := mf_spec h2 h1
  have h4 : (mf c p).1 = L + 1 := by
    by_cases h5 : (mf c p).1 = L + 1
    · exact h5
    · exfalso
      have h6 := sp_first hc ((mf c p).1 - 1) 2 p (Nat.le_refl _) h2 hp h1 (by omega) m1
      rw [hA _ (by omega)] at h6
      have h7 := (gr_spec c p (by omega) h1).2.2.1
      rw [← h6] at h7
      simp at h7
      omega
  exact ⟨h1, sp_first hc L 2 p (Nat.le_refl _) h2 hp h1 h4 m1⟩
theorem sp_end {c p : Nat} (hc : 2 ≤ c) (h2 : 2 ≤ p) (hp : p ≤ 1000000000000) (hA : ∀ j, j < 40 → spF c j 2 p = []) : ct c p = 0 := by
  by_cases h1 : ct c p = 0
  · exact h1
  · exfalso
    obtain ⟨m1, m2, m3, m4, m5, _⟩ := mf_spec h2 h1
    have h3 := fw_40 (by omega) hp h1
    have h6 := sp_first hc ((mf c p).1 - 1) 2 p (Nat.le_refl _) h2 hp h1 (by omega) m1
    rw [hA _ (by omega)] at h6
    have h7 := (gr_spec c p (by omega) h1).2.2.1
    rw [← h6] at h7
    simp at h7
    omega

def AskL (n b : Int) : Prop := (1 ≤ n ∧ n ≤ 1000000000000) ∧ Bas b
instance (n b : Int) : Decidable (AskL n b) := by unfold AskL; infer_instance
def ansL (n b : Int) : Option Int := if AskL n b then lwp b.toNat n.toNat else none
theorem ansL_yes {p c : Nat} (h : AskL (p : Int) (c : Int)) : ansL (p : Int) (c : Int) = lwp c p := by rw [ansL, if_pos h]; rfl
theorem ansL_no {n b : Int} (h : ¬ AskL n b) : ansL n b = none := if_neg h

theorem impl_LeastWithProduct (n b : Int) (w : World) :
    Calls Try.prog 5 #[.int .i64 n, .int .i64 b] w fun e w' => e = .returned (optRes (ansL n b)) ∧ Below w.heap.size w w' := by
  by_cases h1 : 1 ≤ n
  · have hlt : decide (n < 1) = false := decide_eq_false (by omega)
    have HF := Lib.hid (show ∀ w' : World, Calls Try.prog 10 #[.int .i64 n, .int .i64 b, .func (Fn.func 11) #[] #[]] w' fun e w'' => e = .returned (optRes (ansL n b)) ∧ Below w'.heap.size w' w'' from fun w' => by
      by_cases hn : Num n
      · have a1 : decide (Num n) = true := decide_eq_true hn
        by_cases hB : Bas b
        · have a2 : decide (Bas b) = true := decide_eq_true hB
          obtain ⟨n0, n1⟩ := hn
          obtain ⟨b0, b1⟩ := hB
          obtain ⟨c, rfl⟩ : ∃ c : Nat, b = (c : Int) := ⟨b.toNat, by omega⟩
          obtain ⟨p, rfl⟩ : ∃ p : Nat, n = (p : Int) := ⟨n.toNat, by omega⟩
          have hR := Lib.hid (ansL_yes (p := p) (c := c) ⟨⟨h1, n1⟩, b0, b1⟩)
          have HL := Lib.hid (fun w' => leastWithProduct_any p c w' (by omega) (by omega) (by omega) (by omega))
          go_enter Try.func10, Try.ntmps10
          go_wp2_with (first | (go_at_call 16; refine (isNumber_any _ _).mono ?_; rintro e w1 ⟨rfl, rfl⟩) | (go_at_call 17; refine (isBase_any _ _).mono ?_; rintro e w1 ⟨rfl, rfl⟩) | (go_at_call 11; refine (HL.out _).mono ?_; rintro e w1 ⟨rfl, hbl⟩; have HB := Lib.hid hbl; clear hbl))
          go_ret2
          exact ⟨by rw [hR.out]; rfl, HB.out⟩
        · have a2 : decide (Bas b) = false := decide_eq_false hB
          have hR := Lib.hid (ansL_no (n := n) (b := b) (fun h => hB h.2))
          clear hn hB
          go_enter Try.func10, Try.ntmps10
          go_wp2_with (first | (go_at_call 16; refine (isNumber_any _ _).mono ?_; rintro e w1 ⟨rfl, rfl⟩) | (go_at_call 17; refine (isBase_any _ _).mono ?_; rintro e w1 ⟨rfl, rfl⟩))
          go_ret2
          exact ⟨by rw [hR.out]; rfl, Below.refl _ _⟩
      · have a1 : decide (Num n) = false := decide_eq_false hn
        have hR := Lib.hid (ansL_no (n := n) (b := b) (fun h => hn ⟨by have := h.1.1; omega, h.1.2⟩))
        clear hn
        go_enter Try.func10, Try.ntmps10
        go_wp2_with (first | (go_at_call 16; refine (isNumber_any _ _).mono ?_; rintro e w1 ⟨rfl, rfl⟩) | (go_at_call 17; refine (isBase_any _ _).mono ?_; rintro e w1 ⟨rfl, rfl⟩))
        go_ret2
        exact ⟨by rw [hR.out]; rfl, Below.refl _ _⟩)
    go_enter Try.func5, Try.ntmps5
    go_wp2_with (go_at_call 10; refine (HF.out _).mono ?_; rintro e w1 ⟨rfl, hbl⟩; have HB := Lib.hid hbl; clear hbl)
    go_ret2
    exact ⟨rfl, HB.out⟩
  · have hlt : decide (n < 1) = true := decide_eq_true (by omega)
    have hR := Lib.hid (ansL_no (n := n) (b := b) (fun h => h1 h.1.1))
    go_enter Try.func5, Try.ntmps5
    go_wp2
    go_ret2
    exact ⟨by rw [hR.out]; rfl, Below.refl _ _⟩

set_option maxHeartbeats 1000000 in
theorem spec_LeastWithProduct (n b : Int) (w : World) :
    Calls Try.prog 4 #[.int .i64 n, .int .i64 b] w fun e w' => e = .returned (optRes (ansL n b)) ∧ Below w.heap.size w w' := by
  by_cases hq : Num n ∧ Bas b
  · have a1 : decide (Num n ∧ Bas b) = true := decide_eq_true hq
    obtain ⟨⟨n0, n1⟩, b0, b1⟩ := hq
    by_cases hz : n = 0
    · have hR := Lib.hid (ansL_no (n := n) (b := b) (fun h => by have := h.1.1; omega))
      have hz0 : (n == 0) = true := beq_yes hz
      clear hz
      go_enter Try.func4, Try.ntmps4
      go_wp2_with (go_at_call 6; refine (dgAsked_any _ _ _).mono ?_; rw [a1]; rintro e w1 ⟨rfl, rfl⟩)
      go_ret2
      exact ⟨by rw [hR.out]; rfl, Below.refl _ _⟩
    · obtain ⟨c, rfl⟩ : ∃ c : Nat, b = (c : Int) := ⟨b.toNat, by omega⟩
      obtain ⟨p, rfl⟩ : ∃ p : Nat, n = (p : Int) := ⟨n.toNat, by omega⟩
      have hR := Lib.hid (ansL_yes (p := p) (c := c) ⟨⟨by omega, n1⟩, b0, b1⟩)
      have hz0 : ((p : Int) == 0) = false := beq_no hz
      have A1 := Lib.hid a1
      by_cases h1 : p = 1
      · have hp1 : ((p : Int) == 1) = true := beq_yes (by omega)
        have HL := Lib.hid (show lwp c p = some 1 by rw [h1]; exact lwp_one c)
        clear hz a1 h1
        go_enter Try.func4, Try.ntmps4
        go_wp2_with (go_at_call 6; refine (dgAsked_any _ _ _).mono ?_; rw [A1.out]; rintro e w1 ⟨rfl, rfl⟩)
        go_ret2
        exact ⟨by rw [hR.out, HL.out]; rfl, Below.refl _ _⟩
      · have hp1 : ((p : Int) == 1) = false := beq_no (by omega)
        have hp2 : 2 ≤ p := by omega
        have HP1 := Lib.hid h1
        obtain ⟨q, hq⟩ : ∃ q, q = smo (c : Int) (p : Int) := ⟨_, rfl⟩
        have HQ := Lib.hid hq
        cases q with
        | false =>
          have HL := Lib.hid (show lwp c p = none from lwp_none h1 (by
            by_cases h : ct c p = 0
            · exact h
            · have := smo_ct (b := c) (by omega) (by omega) h
              rw [← hq] at this
              cases this))
          clear hz a1 h1 hq
          go_enter Try.func4, Try.ntmps4
          go_wp2_with (first | (go_at_call 6; refine (dgAsked_any _ _ _).mono ?_; rw [A1.out]; rintro e w1 ⟨rfl, rfl⟩) | (go_at_call 7; refine (prSmooth_any _ _ _ (by omega) n1 b0 b1).mono ?_; rw [← HQ.out]; rintro e w1 ⟨rfl, rfl⟩))
          go_ret2
          exact ⟨by rw [hR.out, HL.out]; rfl, Below.refl _ _⟩
        | true =>
          have HSP := Lib.hid (fun (L : Nat) (w' : World) (hL : L ≤ 39) => prSpell_any c (by omega) (by omega) L 2 p w' hL (Nat.le_refl _) (by omega) (by omega) (by omega))
          clear hz a1 h1 hq
          go_enter Try.func4, Try.ntmps4
          go_wp2_with (first | (go_at_call 6; refine (dgAsked_any _ _ _).mono ?_; rw [A1.out]; rintro e w1 ⟨rfl, rfl⟩) | (go_at_call 7; refine (prSmooth_any _ _ _ (by omega) n1 b0 b1).mono ?_; rw [← HQ.out]; rintro e w1 ⟨rfl, rfl⟩))
          go_loopw [6] (fun i wr => ∃ L : Nat, i = .int .i64 ((L : Int) + 1) ∧ L ≤ 40 ∧ Hid (∀ j, j < L → spF c j 2 p = []) ∧ Below w.heap.size w wr) (fun i _ => (41 - intOf i).toNat)
          case atStart => exact ⟨0, rfl, by omega, Lib.hid (fun j h => by omega), Below.refl _ _⟩
          case round =>
            obtain ⟨L, rfl, hL, HA, hbl⟩ := hrel
            have HB := Lib.hid hbl
            clear hbl
            by_cases hlt : L < 40
            · have HI := Lib.hid (fun w' => HSP.out L w' (by omega))
              go_wp2_with fail
              refine (HI.out _).mono ?_
              rintro e w1 ⟨v, rfl, hrv, hbv⟩
              have HRV := Lib.hid hrv
              have HBV := Lib.hid (Below.step HB.out HB.out.size hbv)
              obtain ⟨a5, c5, rfl⟩ := rd_shape9 hrv
              obtain ⟨Y, hY⟩ : ∃ Y, Y = spF c L 2 p := ⟨_, rfl⟩
              have HY := Lib.hid hY
              rw [← hY, ntI_len]
              rw [ntI_len] at HRV
              rw [← hY] at HRV
              clear hrv hbv hY
              by_cases he : Y = []
              · have hl0 : Y.length = 0 := by rw [he]; rfl
                have HN := Lib.hid (show ∀ j, j < L + 1 → spF c j 2 p = [] from fun j hj => by
                  by_cases e : j = L
                  · subst e; rw [← HY.out]; exact he
                  · exact HA.out j (by omega))
                clear he
                go_wp2_with fail
                go_roundw
                case rel => exact ⟨L + 1, by go_num, by omega, HN, HBV.out⟩
                case measure => simp [intOf]; omega
              · have hl0 : 0 < Y.length := List.length_pos_iff.2 he
                have hl1 : (0 : Int) < (Y.length : Int) := by omega
                obtain ⟨k1, k2⟩ := sp_hit (c := c) (L := L) (by omega) hp2 (by omega) (by rw [← HY.out]; exact he) HA.out
                have HL := Lib.hid (show lwp c p = numF (c : Int) (ntI Y) 0 by rw [lwp_some HP1.out k1, HY.out, k2])
                have HYS := Lib.hid (spF_sound (b := c) (by omega) L 2 p (Nat.le_refl _) (by rw [← HY.out]; exact he))
                rw [← HY.out] at HYS
                have HYL := Lib.hid (show (ntI Y).length ≤ 1000000 by rw [ntI_len, HYS.out.1]; omega)
                have HYA := Lib.hid (ntI_all HYS.out.2.1 (by omega))
                have HDG := Lib.hid (fun w' (h : Rd w' w'.heap.size (.slice a5 Y.length c5) (ntI Y)) => dgFrom_any (.slice a5 Y.length c5) (ntI Y) (c : Int) w'.heap.size w' h HYA.out b0 b1 HYL.out)
                obtain ⟨R, hR2⟩ : ∃ R, R = numF (c : Int) (ntI Y) 0 := ⟨_, rfl⟩
                have HDF := Lib.hid (dgFrom_any (.slice a5 Y.length c5) (ntI Y) (c : Int) _ _ HRV.out HYA.out b0 b1 HYL.out)
                rw [← hR2] at HDF HL
                clear he k1 k2 hR2
                go_wp2_with (go_at_call 9; refine HDF.out.mono ?_; rintro e w2 ⟨rfl, rfl⟩)
                go_ret2
                exact ⟨by rw [hR.out, HL.out]; rfl, HBV.out⟩
            · have HL := Lib.hid (show lwp c p = none from lwp_none HP1.out (sp_end (by omega) hp2 (by omega) (fun j hj => HA.out j (by omega))))
              go_wp2_with fail
              go_ret2
              exact ⟨by rw [hR.out, HL.out]; rfl, HB.out⟩
  · have a1 : decide (Num n ∧ Bas b) = false := decide_eq_false hq
    have hR := Lib.hid (ansL_no (n := n) (b := b) (fun h => hq ⟨⟨by have := h.1.1; omega, h.1.2⟩, h.2⟩))
    clear hq
    go_enter Try.func4, Try.ntmps4
    go_wp2_with (go_at_call 6; refine (dgAsked_any _ _ _).mono ?_; rw [a1]; rintro e w1 ⟨rfl, rfl⟩)
    go_ret2
    exact ⟨by rw [hR.out]; rfl, Below.refl _ _⟩

theorem law_LeastWithProduct (n b : Int) (w : World) :
    Calls Try.prog 3 #[.int .i64 n, .int .i64 b] w fun e w' => e = .returned (.bool true) ∧ Below w.heap.size w w' := by
  go_enter Try.func3, Try.ntmps3
  go_wp2_with (first | (go_at_call 4; refine (spec_LeastWithProduct _ _ _).mono ?_; rintro e w1 ⟨rfl, hbl⟩; have HB1 := Lib.hid hbl; clear hbl) | (go_at_call 5; refine (impl_LeastWithProduct _ _ _).mono ?_; rintro e w2 ⟨rfl, hbl⟩; have HB2 := Lib.hid hbl; clear hbl))
  go_ret
  exact ⟨by simp, Below.step HB1.out HB1.out.size HB2.out⟩

end Go.Proofs.Ytdjemoekkjbkiaa
