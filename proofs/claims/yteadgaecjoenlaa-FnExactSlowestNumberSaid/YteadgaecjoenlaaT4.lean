/-
  Answers of SlowestNumber.
-/
import Derived.Test.YteadgaecjoenlaaT3
import Derived.Test.YteadgaecjoenlaaTH
namespace Go.Proofs.Yteadgaecjoenlaa
open Go.RowKit
set_option linter.unusedVariables false
set_option linter.unusedSimpArgs false
set_option maxRecDepth 100000

/-- The slowest number of a width, and how long it takes. -/
def SL1 (V b m : Int) : Int := if okSS V b m = true then b ^ (V.toNat - 1) + ((slwN V.toNat b m.toNat (cnN V.toNat b)).1 : Int) else 0
def SL2 (V b m : Int) : Int := if okSS V b m = true then (slwN V.toNat b m.toNat (cnN V.toNat b)).2 else 0
abbrev VAL_SlowestNumber (V b m : Int) : Value := .tuple #[.int .i64 (SL1 V b m), .int .i64 (SL2 V b m), .bool (okSS V b m)]

theorem slw_end {V : Nat} {b : Int} (h : Sp V b) (m : Nat) : 0 ≤ (slwN V b m (cnN V b)).2 ∧ (slwN V b m (cnN V b)).1 < cnN V b ∧ tmZ V b m (slwN V b m (cnN V b)).1 = (slwN V b m (cnN V b)).2 ∧
    (∀ j, j < (slwN V b m (cnN V b)).1 → tmZ V b m j ≠ (slwN V b m (cnN V b)).2) ∧ (∀ i, i < cnN V b → tmZ V b m i ≤ (slwN V b m (cnN V b)).2) := by
  obtain ⟨h1, h2, h3⟩ := slwN_spec V b m (cnN V b)
  obtain ⟨i, hi, h0⟩ := h.some0 m
  have h4 := h1 i hi
  rw [h0] at h4
  rcases h3 with h3 | ⟨h3, h5, h6⟩
  · omega
  · exact ⟨h4, h3, h5, h6, h1⟩

theorem max_tzl {V : Nat} {b : Int} (h : Sp V b) (m : Nat) : Lib.maxOf (tzl V b m (cnN V b)) = (slwN V b m (cnN V b)).2 := by
  obtain ⟨h0, h1, h2, h3, h4⟩ := slw_end h m
  refine maxOf_is _ _ (fun z hz => ?_) ?_
  · unfold tzl at hz
    rw [List.mem_map] at hz
    obtain ⟨i, hi, rfl⟩ := hz
    exact h4 i (List.mem_range.1 hi)
  · unfold tzl
    rw [List.mem_map]
    exact ⟨_, List.mem_range.2 h1, h2⟩

theorem tzl_getD (V : Nat) (b : Int) (m n j : Nat) (h : j < n) : (tzl V b m n).getD j 0 = tmZ V b m j := by
  rw [List.getD_eq_getElem?_getD, List.getElem?_eq_getElem (by rw [tzl_len]; exact h), tzl_at]; rfl

theorem impl_SlowestNumber (V b m : Int) (w : World) :
    Calls Try.prog 41 #[.int .i64 V, .int .i64 b, .int .i64 m] w fun e w' => e = .returned (VAL_SlowestNumber V b m) ∧ Below w.heap.size w w' := by
  unfold VAL_SlowestNumber
  by_cases ho : okSp V b = true
  · have HO := Lib.hid ho
    by_cases hm : okM m = true
    · have HM := Lib.hid hm
      have ha := okSS_yes ho hm
      have e1 : SL1 V b m = b ^ (V.toNat - 1) + ((slwN V.toNat b m.toNat (cnN V.toNat b)).1 : Int) := if_pos ha
      have e2 : SL2 V b m = (slwN V.toNat b m.toNat (cnN V.toNat b)).2 := if_pos ha
      rw [e1, e2, ha]
      obtain ⟨U, rfl, hs⟩ := okSp_sp ho
      obtain ⟨k, rfl, hk⟩ := okM_nat hm
      rw [Int.toNat_natCast, Int.toNat_natCast]
      have HTW := Lib.hid (fun w => timesOfWidth_any U b k w hs hk)
      obtain ⟨s0, s1, s2, s3, s4⟩ := slw_end hs k
      have hmx := max_tzl hs k
      have HLE := Lib.hid (fun w => leastOfWidth_any b U w hs.b2 hs.b16 hs.v1 hs.v14)
      obtain ⟨l1, l2⟩ := hs.least
      obtain ⟨_, n1, n2⟩ := hs.cn
      have hbd := (tmZ_bd U b k (slwN U b k (cnN U b)).1).2
      rw [s2] at hbd
      obtain ⟨I, hI⟩ : ∃ I, I = (slwN U b k (cnN U b)).1 := ⟨_, rfl⟩
      obtain ⟨T, hT⟩ : ∃ T, T = (slwN U b k (cnN U b)).2 := ⟨_, rfl⟩
      rw [← hI, ← hT]
      rw [← hT] at s0 hmx hbd
      rw [← hI] at s1
      rw [← hI, ← hT] at s2 s3
      obtain ⟨P, hP⟩ : ∃ P, P = b ^ (U - 1) := ⟨_, rfl⟩
      rw [← hP] at HLE l1 l2
      rw [← hP]
      have HIX := Lib.hid (show ∀ n, cnN U b = n → Lib.idxOf ((tzl U b k n).take n) T = (I : Int) from fun n hn => by
        subst hn
        exact Lib.idxOf_hit _ _ I T s1 (by rw [tzl_len]; exact Nat.le_refl _) (by rw [tzl_getD U b k _ I s1, s2]) (fun j hj => by rw [tzl_getD U b k _ j (by omega)]; exact s3 j hj))
      have HMX := Lib.hid (show ∀ n, cnN U b = n → Lib.maxOf ((tzl U b k n).take n) = T from fun n hn => by
        subst hn
        rw [List.take_of_length_le (by rw [tzl_len]; exact Nat.le_refl _), hmx])
      obtain ⟨N, hN⟩ : ∃ N, N = cnN U b := ⟨_, rfl⟩
      have HIX2 := Lib.hid (HIX.out N hN.symm)
      have HMX2 := Lib.hid (HMX.out N hN.symm)
      rw [← hN] at HTW s1 n1 n2
      clear ho hm ha hs e1 e2 s2 s3 s4 hmx hI hT hP HIX HMX hN
      go_enter Try.func41, Try.ntmps41
      go_wp2_with (first
        | (go_at_call 72; go_loud (refine (isSpreadWidth_any _ _ _).mono ?_; rw [HO.out]; rintro e w1 ⟨rfl, rfl⟩))
        | (go_at_call 59; go_loud (refine (areTimes_any _ _).mono ?_; rw [HM.out]; rintro e w1 ⟨rfl, rfl⟩))
        | (go_at_call 73; go_loud (refine (HTW.out _).mono ?_; rintro e w1 ⟨g1, rfl, hr1, hb1⟩; have R1 := Lib.hid hr1; have B1 := Lib.hid hb1; clear hr1 hb1; have HZ := Lib.hid (show ∀ j, j < (tzl U b k N).length → w1.cell? ⟨g1, 0 + j, none⟩ = some (.int .i64 ((tzl U b k N).getD j 0)) from fun j hj => (by rw [Nat.zero_add, R1.out.at.2.2.2.2.1 j hj, List.getD_eq_getElem?_getD, List.getElem?_eq_getElem hj]; rfl))))
        | (go_at_call 74; go_loud (refine (Try.slices_Max_int g1 0 N N (tzl U b k N) _ (by omega) (by rw [tzl_len]; exact Nat.le_refl _) (by omega) HZ.out).mono ?_; rw [HMX2.out]; rintro e w2 ⟨rfl, rfl⟩))
        | (go_at_call 75; go_loud (refine (HLE.out _).mono ?_; rintro e w3 ⟨rfl, rfl⟩))
        | (go_at_call 76; go_loud (refine (Try.slices_Index_int g1 0 N N (tzl U b k N) T _ (by rw [tzl_len]; exact Nat.le_refl _) (by omega) HZ.out).mono ?_; rw [HIX2.out]; rintro e w4 ⟨rfl, rfl⟩)))
      go_ret3
      exact ⟨rfl, B1.out⟩
    · have hm' : okM m = false := by simpa using hm
      have HM := Lib.hid hm'
      have ha := okSS_no2 (V := V) (b := b) hm'
      have e1 : SL1 V b m = 0 := if_neg (by rw [ha]; simp)
      have e2 : SL2 V b m = 0 := if_neg (by rw [ha]; simp)
      rw [e1, e2, ha]
      clear ho hm hm' ha e1 e2
      go_enter Try.func41, Try.ntmps41
      go_wp2_with (first
        | (go_at_call 72; go_loud (refine (isSpreadWidth_any _ _ _).mono ?_; rw [HO.out]; rintro e w1 ⟨rfl, rfl⟩))
        | (go_at_call 59; go_loud (refine (areTimes_any _ _).mono ?_; rw [HM.out]; rintro e w1 ⟨rfl, rfl⟩)))
      go_ret3
      exact ⟨rfl, Below.refl _ _⟩
  · have ho' : okSp V b = false := by simpa using ho
    have HO := Lib.hid ho'
    have ha := okSS_no1 (m := m) ho'
    have e1 : SL1 V b m = 0 := if_neg (by rw [ha]; simp)
    have e2 : SL2 V b m = 0 := if_neg (by rw [ha]; simp)
    rw [e1, e2, ha]
    clear ho ho' ha e1 e2
    go_enter Try.func41, Try.ntmps41
    go_wp2_with (go_at_call 72; go_loud (refine (isSpreadWidth_any _ _ _).mono ?_; rw [HO.out]; rintro e w1 ⟨rfl, rfl⟩))
    go_ret3
    exact ⟨rfl, Below.refl _ _⟩

end Go.Proofs.Yteadgaecjoenlaa
