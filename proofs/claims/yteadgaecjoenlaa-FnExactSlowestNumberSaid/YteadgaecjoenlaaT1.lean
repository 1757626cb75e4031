/-
  The program's and the model's widths, and how long the numbers of one take.
-/
import Derived.Test.YteadgaecjoenlaaTZ
import Derived.Test.YteadgaecjoenlaaTW
namespace Go.Proofs.Yteadgaecjoenlaa
open Go.RowKit
set_option linter.unusedVariables false
set_option linter.unusedSimpArgs false
set_option maxRecDepth 100000

theorem powerOfBase_any (b : Int) (n : Nat) (w : World) (hb : 2 ≤ b) (hb' : b ≤ 16) (hn : n ≤ 13) :
    Calls Try.prog 97 #[.int .i64 b, .int .i64 (n : Int)] w fun e w' => e = .returned (.int .i64 (b ^ n)) ∧ w = w' := by
  go_enter Try.func97, Try.ntmps97
  go_wp2
  go_loop [5, 7] (fun p i => ∃ k : Nat, k ≤ n ∧ i = .int .i64 (k : Int) ∧ p = .int .i64 (b ^ k)) (fun _ i => n - (intOf i).toNat)
  case atStart => exact ⟨0, Nat.zero_le _, rfl, by simp⟩
  case round =>
    obtain ⟨k, hk, rfl, rfl⟩ := hrel
    by_cases hlt : k < n
    · obtain ⟨p1, p2⟩ := pw_bd b hb hb' (k + 1) (by omega)
      obtain ⟨q1, q2⟩ := pw_bd b hb hb' k (by omega)
      have HS := Lib.hid (Int.pow_succ b k)
      rw [HS.out] at p1 p2
      obtain ⟨q, hq⟩ : ∃ q, q = b ^ k := ⟨_, rfl⟩
      have HQ := Lib.hid hq
      rw [← hq] at p1 p2 q1 q2
      rw [← hq]
      clear hq
      go_wp2
      go_round
      case rel => exact ⟨k + 1, by omega, by go_num, by rw [HS.out, ← HQ.out] <;> first | rfl | go_num⟩
      case measure => simp [intOf]; omega
    · obtain rfl : k = n := by omega
      go_wp2
      go_ret
      exact ⟨rfl, rfl⟩

theorem leastOfWidth_any (b : Int) (V : Nat) (w : World) (hb : 2 ≤ b) (hb' : b ≤ 16) (hv : 1 ≤ V) (hv' : V ≤ 14) :
    Calls Try.prog 75 #[.int .i64 (V : Int), .int .i64 b] w fun e w' => e = .returned (.int .i64 (b ^ (V - 1))) ∧ w = w' := by
  have hV : ((V : Int) - 1) = ((V - 1 : Nat) : Int) := by omega
  have HP := Lib.hid (fun w => powerOfBase_any b (V - 1) w hb hb' (by omega))
  obtain ⟨P, hP⟩ : ∃ P, P = b ^ (V - 1) := ⟨_, rfl⟩
  obtain ⟨U, hU⟩ : ∃ U, U = V - 1 := ⟨_, rfl⟩
  rw [← hP, ← hU] at HP
  rw [← hP]
  have hVU : V = U + 1 := by omega
  subst hVU
  clear hP hU hV
  have hw1 : IntKind.i64.wrap (((U + 1 : Nat) : Int) - 1) = (U : Int) := by rw [IntWalk.i64_in _ (by omega)]; omega
  go_enter Try.func75, Try.ntmps75
  go_wp2_with (go_at_call 97; go_loud (refine (HP.out _).mono ?_; rintro e w1 ⟨rfl, rfl⟩))
  go_ret
  exact ⟨rfl, rfl⟩

theorem okSp_no1 {V b : Int} (h : ¬ (2 ≤ b ∧ b ≤ 16)) : okSp V b = false := by unfold okSp; rw [decide_eq_false h]; rfl
theorem okSp_no2 {V b : Int} (h : ¬ (1 ≤ V ∧ V ≤ 14)) : okSp V b = false := by unfold okSp; rw [decide_eq_false h]; simp
theorem okSp_is {V : Nat} {b : Int} (h1 : 2 ≤ b ∧ b ≤ 16) (h2 : 1 ≤ V ∧ V ≤ 14) : okSp (V : Int) b = decide ((b - 1) * b ^ (V - 1) ≤ 20000) := by
  unfold okSp
  rw [decide_eq_true h1, decide_eq_true (show 1 ≤ (V : Int) ∧ (V : Int) ≤ 14 by omega), Int.toNat_natCast]
  rfl

theorem isSpreadWidth_any (V b : Int) (w : World) : Calls Try.prog 72 #[.int .i64 V, .int .i64 b] w fun e w' => e = .returned (.bool (okSp V b)) ∧ w = w' := by
  by_cases hb : 2 ≤ b ∧ b ≤ 16
  · have HB := Lib.hid (show decide (Bas b) = true from decide_eq_true (p := Bas b) hb)
    by_cases hV : 1 ≤ V ∧ V ≤ 14
    · obtain ⟨U, rfl⟩ : ∃ U : Nat, V = (U : Int) := ⟨V.toNat, by omega⟩
      have HO := Lib.hid (okSp_is (V := U) hb (by omega))
      rw [HO.out]
      obtain ⟨b2, b16⟩ := hb
      obtain ⟨v1, v2⟩ := hV
      have HL := Lib.hid (fun w => leastOfWidth_any b U w b2 b16 (by omega) (by omega))
      obtain ⟨P, hP⟩ : ∃ P, P = b ^ (U - 1) := ⟨_, rfl⟩
      obtain ⟨p1, p2⟩ := pw_bd b b2 b16 (U - 1) (by omega)
      rw [← hP] at HL p1 p2
      rw [← hP]
      have m1 : 0 ≤ (b - 1) * P := Int.mul_nonneg (by omega) (by omega)
      have m2 : (b - 1) * P ≤ 15 * 72057594037927936 := Int.mul_le_mul (by omega) p2 (by omega) (by omega)
      clear hP
      go_enter Try.func72, Try.ntmps72
      go_wp2_with (first
        | (go_at_call 84; go_loud (refine (isBase_any _ _).mono ?_; rw [HB.out]; rintro e w1 ⟨rfl, rfl⟩))
        | (go_at_call 75; go_loud (refine (HL.out _).mono ?_; rintro e w1 ⟨rfl, rfl⟩)))
      go_ret
      exact ⟨rfl, rfl⟩
    · have HO := Lib.hid (okSp_no2 (b := b) hV)
      rw [HO.out]
      by_cases h1 : V < 1
      · clear hV hb
        go_enter Try.func72, Try.ntmps72
        go_wp2_with (go_at_call 84; go_loud (refine (isBase_any _ _).mono ?_; rw [HB.out]; rintro e w1 ⟨rfl, rfl⟩))
        go_ret
        exact ⟨rfl, rfl⟩
      · have h2 : 14 < V := by omega
        clear hV hb
        go_enter Try.func72, Try.ntmps72
        go_wp2_with (go_at_call 84; go_loud (refine (isBase_any _ _).mono ?_; rw [HB.out]; rintro e w1 ⟨rfl, rfl⟩))
        go_ret
        exact ⟨rfl, rfl⟩
  · have HB := Lib.hid (show decide (Bas b) = false from decide_eq_false (p := Bas b) hb)
    have HO := Lib.hid (okSp_no1 (V := V) hb)
    rw [HO.out]
    clear hb
    go_enter Try.func72, Try.ntmps72
    go_wp2_with (go_at_call 84; go_loud (refine (isBase_any _ _).mono ?_; rw [HB.out]; rintro e w1 ⟨rfl, rfl⟩))
    go_ret
    exact ⟨rfl, rfl⟩

theorem rvFrom_yes (V : Nat) (b : Int) (w : World) (h : Sp V b) :
    Calls Try.prog 70 #[.int .i64 (V : Int), .int .i64 b] w fun e w' => e = .returned (.tuple #[.int .i64 (b ^ (V - 1)), .int .i64 (cnN V b : Int)]) ∧ w = w' := by
  have HB := Lib.hid (show decide (Bas b) = true from decide_eq_true (p := Bas b) ⟨h.b2, h.b16⟩)
  have hb2 := h.b2
  have hb16 := h.b16
  have v1 : (1:Int) ≤ (V : Int) := by have := h.v1; omega
  have v2 : (V : Int) ≤ 14 := by have := h.v14; omega
  have HC := Lib.hid h.cn.1
  obtain ⟨l1, l2⟩ := h.least
  have hle := h.le
  have HPB := Lib.hid (fun k (hk : k ≤ V - 1) => show 1 ≤ b ^ k ∧ b ^ k ≤ b ^ (V - 1) from ⟨pw_pos b hb2 k, by
    have h1 : ∀ j, b ^ k ≤ b ^ (k + j) := by
      intro j
      induction j with
      | zero => exact Int.le_refl _
      | succ j ih =>
        rw [← Nat.add_assoc, Int.pow_succ]
        have hp := pw_pos b hb2 (k + j)
        have : b ^ (k + j) * 1 ≤ b ^ (k + j) * b := Int.mul_le_mul_of_nonneg_left (by omega) (by omega)
        omega
    have := h1 (V - 1 - k)
    rwa [show k + (V - 1 - k) = V - 1 by omega] at this⟩)
  clear h
  go_enter Try.func70, Try.ntmps70
  go_wp2_with (first
    | (go_at_call 83; go_loud (refine (dgBase_any _ _).mono ?_; rw [HB.out]; rintro e w1 ⟨rfl, rfl⟩))
    | (go_at_call 77; go_loud (refine (l1In_yes _ _ _ _ v1 v2).mono ?_; rintro e w1 ⟨rfl, rfl⟩)))
  go_loop [6, 7] (fun f i => ∃ k : Nat, k ≤ V - 1 ∧ i = .int .i64 ((k : Int) + 1) ∧ f = .int .i64 (b ^ k)) (fun _ i => V - (intOf i).toNat)
  case atStart => exact ⟨0, Nat.zero_le _, rfl, by simp⟩
  case round =>
    obtain ⟨k, hk, rfl, rfl⟩ := hrel
    by_cases hlt : k + 1 < V
    · have hp := HPB.out (k + 1) (by omega)
      have hq := HPB.out k (by omega)
      have HS := Lib.hid (Int.pow_succ b k)
      rw [HS.out] at hp
      obtain ⟨q, hqq⟩ : ∃ q, q = b ^ k := ⟨_, rfl⟩
      have HQ := Lib.hid hqq
      rw [← hqq] at hp hq
      rw [← hqq]
      obtain ⟨p1, p2⟩ := hp
      obtain ⟨q1, q2⟩ := hq
      have hltI : (k : Int) + 1 < (V : Int) := by omega
      have hn2 : ¬ 20000 < q * b := by omega
      clear hqq
      go_wp2
      go_round
      case rel => exact ⟨k + 1, by omega, by go_num, by rw [HS.out, ← HQ.out] <;> first | rfl | go_num⟩
      case measure => simp [intOf]; omega
    · obtain rfl : k = V - 1 := by omega
      obtain ⟨P, hP⟩ : ∃ P, P = b ^ (V - 1) := ⟨_, rfl⟩
      rw [← hP] at l1 l2 hle HC
      rw [← hP]
      have hltI : ¬ ((V - 1 : Nat) : Int) + 1 < (V : Int) := by omega
      have HMC := Lib.hid (show P * (b - 1) = (cnN V b : Int) by rw [HC.out, Int.mul_comm])
      have hm1 : P * (b - 1) ≤ 20000 := by rw [Int.mul_comm]; exact hle
      have hm0 : 0 ≤ P * (b - 1) := Int.mul_nonneg (by omega) (by omega)
      have HPP := Lib.hid hP
      clear hP HPB hlt hk
      go_wp2
      go_ret2
      exact ⟨by rw [← HPP.out, ← HMC.out]; rfl, rfl⟩

theorem rvFrom_no (V b : Int) (w : World) (h : okSp V b = false) :
    Calls Try.prog 70 #[.int .i64 V, .int .i64 b] w fun e w' => e = .returned (.tuple #[.int .i64 0, .int .i64 0]) ∧ w = w' := by
  by_cases hb : 2 ≤ b ∧ b ≤ 16
  · have HB := Lib.hid (show decide (Bas b) = true from decide_eq_true (p := Bas b) hb)
    by_cases hV : 1 ≤ V ∧ V ≤ 14
    · obtain ⟨U, rfl⟩ : ∃ U : Nat, V = (U : Int) := ⟨V.toNat, by omega⟩
      rw [okSp_is (V := U) hb (by omega)] at h
      have hbig := of_decide_eq_false h
      obtain ⟨b2, b16⟩ := hb
      obtain ⟨v1, v2⟩ := hV
      have HBIG := Lib.hid (show ¬ b ^ (U - 1) * (b - 1) ≤ 20000 by rw [Int.mul_comm]; exact hbig)
      clear h hbig
      go_enter Try.func70, Try.ntmps70
      go_wp2_with (first
        | (go_at_call 83; go_loud (refine (dgBase_any _ _).mono ?_; rw [HB.out]; rintro e w1 ⟨rfl, rfl⟩))
        | (go_at_call 77; go_loud (refine (l1In_yes _ _ _ _ v1 v2).mono ?_; rintro e w1 ⟨rfl, rfl⟩)))
      go_loop [6, 7] (fun f i => ∃ k : Nat, k ≤ U - 1 ∧ i = .int .i64 ((k : Int) + 1) ∧ f = .int .i64 (b ^ k) ∧ b ^ k ≤ 20000) (fun _ i => U - (intOf i).toNat)
      case atStart => exact ⟨0, Nat.zero_le _, rfl, by simp, by simp⟩
      case round =>
        obtain ⟨k, hk, rfl, rfl, hle⟩ := hrel
        have hp0 := pw_pos b b2 k
        by_cases hlt : k + 1 < U
        · have HS := Lib.hid (Int.pow_succ b k)
          obtain ⟨q, hqq⟩ : ∃ q, q = b ^ k := ⟨_, rfl⟩
          have HQ := Lib.hid hqq
          rw [← hqq] at hle hp0
          rw [← hqq]
          have m0 : 0 ≤ q * b := Int.mul_nonneg (by omega) (by omega)
          have m1 : q * b ≤ 20000 * 16 := Int.mul_le_mul hle b16 (by omega) (by omega)
          have hltI : (k : Int) + 1 < (U : Int) := by omega
          clear hqq
          by_cases hbg : 20000 < q * b
          · go_wp2
            go_ret2
            exact ⟨rfl, rfl⟩
          · go_wp2
            go_round
            case rel => exact ⟨k + 1, by omega, by go_num, by rw [HS.out, ← HQ.out] <;> first | rfl | go_num, by rw [HS.out, ← HQ.out]; omega⟩
            case measure => simp [intOf]; omega
        · obtain rfl : k = U - 1 := by omega
          obtain ⟨P, hP⟩ : ∃ P, P = b ^ (U - 1) := ⟨_, rfl⟩
          rw [← hP] at HBIG hle hp0
          rw [← hP]
          have hltI : ¬ ((U - 1 : Nat) : Int) + 1 < (U : Int) := by omega
          have hbg : 20000 < P * (b - 1) := by have := HBIG.out; omega
          have m1 : P * (b - 1) ≤ 20000 * 16 := Int.mul_le_mul hle (by omega) (by omega) (by omega)
          clear hP hlt hk
          go_wp2
          go_ret2
          exact ⟨rfl, rfl⟩
    · have HV := Lib.hid (show V < 1 ∨ 14 < V by omega)
      clear hV hb h
      go_enter Try.func70, Try.ntmps70
      go_wp2_with (first
        | (go_at_call 83; go_loud (refine (dgBase_any _ _).mono ?_; rw [HB.out]; rintro e w1 ⟨rfl, rfl⟩))
        | (go_at_call 77; go_loud (refine (l1In_no _ _ _ _ HV.out).mono ?_; rintro e w1 ⟨rfl, rfl⟩)))
      go_ret2
      exact ⟨rfl, rfl⟩
  · have HB := Lib.hid (show decide (Bas b) = false from decide_eq_false (p := Bas b) hb)
    clear hb h
    go_enter Try.func70, Try.ntmps70
    go_wp2_with (go_at_call 83; go_loud (refine (dgBase_any _ _).mono ?_; rw [HB.out]; rintro e w1 ⟨rfl, rfl⟩))
    go_ret2
    exact ⟨rfl, rfl⟩

end Go.Proofs.Yteadgaecjoenlaa
