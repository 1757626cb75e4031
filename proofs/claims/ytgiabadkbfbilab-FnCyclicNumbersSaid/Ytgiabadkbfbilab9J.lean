/-
  Full primes listed, cyclic numbers and how they are turned: the program's and the model's answers.
-/
import Derived.Test.Ytgiabadkbfbilab9G
namespace Go.Proofs.Ytgiabadkbfbilab
open Go.RowKit
set_option linter.unusedVariables false
set_option linter.unusedSimpArgs false
set_option maxRecDepth 100000

theorem Bas.nat {b : Int} (h : Bas b) : ∃ B : Nat, b = (B : Int) ∧ 2 ≤ B ∧ B ≤ 16 := by
  obtain ⟨b0, b1⟩ := h
  exact ⟨b.toNat, by omega, by omega, by omega⟩

theorem spec_FullPrimes (b m : Int) (w : World) :
    Calls Try.prog 19 #[.int .i64 b, .int .i64 m] w fun e w' => ∃ v, e = .returned (.tuple #[v, .bool (OK_FullPrimes b m)]) ∧ Rd w' w.heap.size v (LF_FullPrimes b m) ∧ Below w.heap.size w w' := by
  by_cases hB : Bas b
  · have hb := decide_eq_true hB
    by_cases hm : 0 ≤ m ∧ m ≤ 300
    · have HO := Lib.hid (show OK_FullPrimes b m = true from decide_eq_true ⟨hB, hm⟩)
      have HL := Lib.hid (show LF_FullPrimes b m = fpL b (m.toNat + 1) from if_pos ⟨hB, hm⟩)
      rw [HO.out, HL.out]
      clear HO HL
      have HBs := Lib.hid hB
      obtain ⟨m0, m1⟩ := hm
      obtain ⟨M, rfl⟩ : ∃ M : Nat, m = (M : Int) := ⟨m.toNat, by omega⟩
      obtain ⟨B, rfl, b0, b1⟩ := hB.nat
      simp only [Int.toNat_natCast]
      clear hB
      go_enter Try.func19, Try.ntmps19
      go_wp2_with (first | (go_at_call 77; refine (dgBase_any _ _).mono ?_; rintro e w1 ⟨rfl, rfl⟩) | (go_at_call 78; refine (l1In_yes _ _ _ _ m0 m1).mono ?_; rintro e w1 ⟨rfl, rfl⟩))
      go_loopw [6, 7] (fun o i wr => ∃ j : Nat, 2 ≤ j ∧ (j ≤ M + 1 ∨ j = 2) ∧ i = .int .i64 (j : Int) ∧ Rd wr w.heap.size o (fpL (B : Int) j) ∧ Below w.heap.size w wr) (fun _ i _ => M + 1 - (intOf i).toNat)
      case atStart => exact ⟨2, Nat.le_refl _, .inr rfl, rfl, by rw [fpL_two]; exact Rd.nil _ _, Below.refl _ _⟩
      case round =>
        obtain ⟨j, j2, hj, rfl, hr, hbl⟩ := hrel
        have HR := Lib.hid hr
        have HB := Lib.hid hbl
        clear hr hbl
        by_cases hlt : j ≤ M
        · have hlt' : (j : Int) ≤ (M : Int) := by omega
          have HFj := Lib.hid (fun w' => teFull_any j B w' (by omega) (by omega) b0 b1)
          have HE := Lib.hid (show decide (Ful (j : Int) (B : Int)) = decide (FulR (j : Int) (B : Int)) from decide_eq_decide.2 ⟨fun c => ⟨by omega, by omega, HBs.out, c⟩, fun c => c.2.2.2⟩)
          rw [HE.out] at HFj
          have hlen := fpL_len (B : Int) j
          cases hq : decide (FulR (j : Int) (B : Int)) with
          | true =>
            rw [hq] at HFj
            have HN := Lib.hid (fpL_yes (b := (B : Int)) hq)
            clear hq
            go_wp2_with (first | (go_at_call 79; refine (HFj.out _).mono ?_; rintro e w3 ⟨rfl, hb3⟩; have HB3 := Lib.hid (Below.step HB.out HB.out.size hb3); have HR3 := Lib.hid (HR.out.keep hb3); clear hb3) | (at_builtin; refine wpList_appR rfl _ _ rfl w.heap.size w.heap.size _ _ (fpL (B : Int) j) [(j : Int)] rfl rfl (HR3.out.alloc _) (Rd.litB _ _ _ HB3.out.size) (by simp; omega) (by have := HB3.out.size; simp; omega) ?_; intro v1 w4 hr1 hg1 hb1; rw [← HN.out] at hr1; have HR4 := Lib.hid hr1; have HB4 := Lib.hid (((HB3.out.alloc HB3.out.size _).trans hb1)); clear hr1 hg1 hb1))
            go_roundw
            case rel => exact ⟨j + 1, by omega, by omega, by go_num, HR4.out, HB4.out⟩
            case measure => simp [intOf]; omega
          | false =>
            rw [hq] at HFj
            have HN := Lib.hid (fpL_no (b := (B : Int)) hq)
            clear hq
            go_wp2_with (go_at_call 79; refine (HFj.out _).mono ?_; rintro e w3 ⟨rfl, hb3⟩; have HB3 := Lib.hid (Below.step HB.out HB.out.size hb3); have HR3 := Lib.hid (HR.out.keep hb3); clear hb3)
            go_roundw
            case rel => exact ⟨j + 1, by omega, by omega, by go_num, by rw [HN.out]; exact HR3.out, HB3.out⟩
            case measure => simp [intOf]; omega
        · have hlt' : ¬ (j : Int) ≤ (M : Int) := by omega
          have HEnd := Lib.hid (show fpL (B : Int) j = fpL (B : Int) (M + 1) by
            by_cases c : j = M + 1
            · rw [c]
            · have hM : M = 0 ∨ M = 1 := by omega
              obtain rfl : j = 2 := by omega
              rcases hM with rfl | rfl
              · have h0 : fpL (B : Int) 2 = [] := fpL_two _
                have h1 : decide (FulR ((0 : Nat) : Int) (B : Int)) = false := decide_eq_false (fun c => by have := c.1; omega)
                rw [h0, fpL_no h1, fpL_zero]
              · rfl)
          go_wp2
          go_ret2
          exact ⟨_, rfl, by rw [← HEnd.out]; exact HR.out, HB.out⟩
    · have HO := Lib.hid (show OK_FullPrimes b m = false from decide_eq_false (fun c => hm c.2))
      have HL := Lib.hid (show LF_FullPrimes b m = [] from if_neg (fun c => hm c.2))
      have H := Lib.hid (show m < 0 ∨ 300 < m by omega)
      rw [HO.out, HL.out]
      clear HO HL hm hB
      go_enter Try.func19, Try.ntmps19
      go_wp2_with (first | (go_at_call 77; refine (dgBase_any _ _).mono ?_; rintro e w1 ⟨rfl, rfl⟩) | (go_at_call 78; refine (l1In_no _ _ _ _ H.out).mono ?_; rintro e w1 ⟨rfl, rfl⟩))
      go_ret2
      exact ⟨_, rfl, Rd.nil _ _, Below.refl _ _⟩
  · have hb := decide_eq_false hB
    have HO := Lib.hid (show OK_FullPrimes b m = false from decide_eq_false (fun c => hB c.1))
    have HL := Lib.hid (show LF_FullPrimes b m = [] from if_neg (fun c => hB c.1))
    rw [HO.out, HL.out]
    clear HO HL hB
    go_enter Try.func19, Try.ntmps19
    go_wp2_with (go_at_call 77; refine (dgBase_any _ _).mono ?_; rintro e w1 ⟨rfl, rfl⟩)
    go_ret2
    exact ⟨_, rfl, Rd.nil _ _, Below.refl _ _⟩

theorem impl_FullPrimes (b m : Int) (w : World) :
    Calls Try.prog 18 #[.int .i64 b, .int .i64 m] w fun e w' => ∃ v, e = .returned (.tuple #[v, .bool (OK_FullPrimes b m)]) ∧ Rd w' w.heap.size v (LF_FullPrimes b m) ∧ Below w.heap.size w w' := by
  by_cases hB : Bas b
  · have hb := decide_eq_true hB
    by_cases hm : 0 ≤ m ∧ m ≤ 300
    · have HO := Lib.hid (show OK_FullPrimes b m = true from decide_eq_true ⟨hB, hm⟩)
      have HL := Lib.hid (show LF_FullPrimes b m = fpL b (m.toNat + 1) from if_pos ⟨hB, hm⟩)
      rw [HO.out, HL.out]
      clear HO HL
      have HBs := Lib.hid hB
      obtain ⟨m0, m1⟩ := hm
      obtain ⟨M, rfl⟩ : ∃ M : Nat, m = (M : Int) := ⟨m.toNat, by omega⟩
      obtain ⟨B, rfl, b0, b1⟩ := hB.nat
      simp only [Int.toNat_natCast]
      clear hB
      go_enter Try.func18, Try.ntmps18
      go_wp2_with (first | (go_at_call 76; refine (isBase_any _ _).mono ?_; rintro e w1 ⟨rfl, rfl⟩))
      go_loopw [6, 21] (fun o i wr => ∃ j : Nat, j ≤ M + 1 ∧ i = .int .i64 (j : Int) ∧ Rd wr w.heap.size o (fpL (B : Int) j) ∧ Below w.heap.size w wr) (fun _ i _ => M + 1 - (intOf i).toNat)
      case atStart => exact ⟨0, Nat.zero_le _, rfl, by rw [fpL_zero]; exact Rd.nil _ _, Below.refl _ _⟩
      case round =>
        obtain ⟨j, hj, rfl, hr, hbl⟩ := hrel
        have HR := Lib.hid hr
        have HB := Lib.hid hbl
        clear hr hbl
        by_cases hlt : j ≤ M
        · have hlt' : (j : Int) < (M : Int) + 1 := by omega
          have HFj := Lib.hid (fun w' => isFullPrime_any (j : Int) (B : Int) w')
          have hlen := fpL_len (B : Int) j
          cases hq : decide (FulR (j : Int) (B : Int)) with
          | true =>
            rw [hq] at HFj
            have HN := Lib.hid (fpL_yes (b := (B : Int)) hq)
            clear hq
            go_wp2_with (first | (go_at_call 73; refine (HFj.out _).mono ?_; rintro e w3 ⟨rfl, hb3⟩; have HB3 := Lib.hid (Below.step HB.out HB.out.size hb3); have HR3 := Lib.hid (HR.out.keep hb3); clear hb3) | (at_builtin; refine wpList_appR rfl _ _ rfl w.heap.size w.heap.size _ _ (fpL (B : Int) j) [(j : Int)] rfl rfl (HR3.out.alloc _) (Rd.litB _ _ _ HB3.out.size) (by simp; omega) (by have := HB3.out.size; simp; omega) ?_; intro v1 w4 hr1 hg1 hb1; rw [← HN.out] at hr1; have HR4 := Lib.hid hr1; have HB4 := Lib.hid (((HB3.out.alloc HB3.out.size _).trans hb1)); clear hr1 hg1 hb1))
            go_roundw
            case rel => exact ⟨j + 1, by omega, by go_num, HR4.out, HB4.out⟩
            case measure => simp [intOf]; omega
          | false =>
            rw [hq] at HFj
            have HN := Lib.hid (fpL_no (b := (B : Int)) hq)
            clear hq
            go_wp2_with (go_at_call 73; refine (HFj.out _).mono ?_; rintro e w3 ⟨rfl, hb3⟩; have HB3 := Lib.hid (Below.step HB.out HB.out.size hb3); have HR3 := Lib.hid (HR.out.keep hb3); clear hb3)
            go_roundw
            case rel => exact ⟨j + 1, by omega, by go_num, by rw [HN.out]; exact HR3.out, HB3.out⟩
            case measure => simp [intOf]; omega
        · have hlt' : ¬ (j : Int) < (M : Int) + 1 := by omega
          have HEnd := Lib.hid (show fpL (B : Int) j = fpL (B : Int) (M + 1) by rw [show j = M + 1 by omega])
          go_wp2
          go_ret2
          exact ⟨_, rfl, by rw [← HEnd.out]; exact HR.out, HB.out⟩
    · have HO := Lib.hid (show OK_FullPrimes b m = false from decide_eq_false (fun c => hm c.2))
      have HL := Lib.hid (show LF_FullPrimes b m = [] from if_neg (fun c => hm c.2))
      rw [HO.out, HL.out]
      clear HO HL hB
      by_cases h0 : m < 0
      · clear hm
        go_enter Try.func18, Try.ntmps18
        go_wp2_with (go_at_call 76; refine (isBase_any _ _).mono ?_; rintro e w1 ⟨rfl, rfl⟩)
        go_ret2
        exact ⟨_, rfl, Rd.nil _ _, Below.refl _ _⟩
      · have h1 : 300 < m := by omega
        clear hm
        go_enter Try.func18, Try.ntmps18
        go_wp2_with (go_at_call 76; refine (isBase_any _ _).mono ?_; rintro e w1 ⟨rfl, rfl⟩)
        go_ret2
        exact ⟨_, rfl, Rd.nil _ _, Below.refl _ _⟩
  · have hb := decide_eq_false hB
    have HO := Lib.hid (show OK_FullPrimes b m = false from decide_eq_false (fun c => hB c.1))
    have HL := Lib.hid (show LF_FullPrimes b m = [] from if_neg (fun c => hB c.1))
    rw [HO.out, HL.out]
    clear HO HL hB
    go_enter Try.func18, Try.ntmps18
    go_wp2_with (go_at_call 76; refine (isBase_any _ _).mono ?_; rintro e w1 ⟨rfl, rfl⟩)
    go_ret2
    exact ⟨_, rfl, Rd.nil _ _, Below.refl _ _⟩


/-- Full primes as natural numbers. -/
theorem FulR.nats {p b : Int} (h : FulR p b) : ∃ P B : Nat, p = (P : Int) ∧ b = (B : Int) ∧ 2 ≤ P ∧ P ≤ 300 ∧ 2 ≤ B ∧ B ≤ 16 ∧ Nat.gcd B P = 1 := by
  obtain ⟨h1, h2, ⟨b0, b1⟩, h4, h5, h6⟩ := h
  exact ⟨p.toNat, b.toNat, by omega, by omega, by omega, by omega, by omega, by omega, h5⟩

def OK_CyclicOf (p b : Int) : Bool := decide (FulR p b)
def LF_CyclicOf (p b : Int) : List Int := if FulR p b then rpt 1 p.toNat b.toNat else []
theorem LF_CyclicOf_len (p b : Int) : (LF_CyclicOf p b).length ≤ 2000000 := by
  unfold LF_CyclicOf
  split
  · rename_i h
    obtain ⟨P, B, rfl, rfl, p0, p1, b0, b1, _⟩ := h.nats
    rw [rpt_len]
    have := (per_bd (a := 1) (n := P) (b := B) (by omega) (by omega) (by omega)).2.1
    simp only [Int.toNat_natCast]
    omega
  · simp

theorem spec_CyclicOf (p b : Int) (w : World) :
    Calls Try.prog 16 #[.int .i64 p, .int .i64 b] w fun e w' => ∃ v, e = .returned (.tuple #[v, .bool (OK_CyclicOf p b)]) ∧ Rn w' w.heap.size v (LF_CyclicOf p b) ∧ Below w.heap.size w w' := by
  have HC := Lib.hid (fun w' => teCyclic_any p b w')
  by_cases h : FulR p b
  · rw [decide_eq_true h] at HC
    have HO := Lib.hid (show OK_CyclicOf p b = true from decide_eq_true h)
    have HL := Lib.hid (show LF_CyclicOf p b = rpt 1 p.toNat b.toNat from if_pos h)
    rw [HO.out, HL.out]
    clear HO HL
    obtain ⟨P, B, rfl, rfl, p0, p1, b0, b1, _⟩ := h.nats
    have HR := Lib.hid (fun w' => teRepetend_any 1 P B w' (by omega) (by omega) (by omega) b1 (by omega))
    simp only [Int.toNat_natCast]
    obtain ⟨X, hX⟩ : ∃ X, X = rpt 1 P B := ⟨_, rfl⟩
    rw [← hX] at HR ⊢
    clear hX h
    go_enter Try.func16, Try.ntmps16
    go_wp2_with (first | (go_at_call 74; refine (HC.out _).mono ?_; rintro e w1 ⟨rfl, hb⟩; have HB := Lib.hid hb; clear hb) | (go_at_call 68; refine (HR.out _).mono ?_; rintro e w1 ⟨v, rfl, hr, hb⟩; have HRv := Lib.hid (hr.mono HB.out.size); have HB2 := Lib.hid (Below.step HB.out HB.out.size hb); clear hr hb))
    go_ret2
    exact ⟨_, rfl, .inr HRv.out, HB2.out⟩
  · rw [decide_eq_false h] at HC
    have HO := Lib.hid (show OK_CyclicOf p b = false from decide_eq_false h)
    have HL := Lib.hid (show LF_CyclicOf p b = [] from if_neg h)
    rw [HO.out, HL.out]
    clear HO HL h
    go_enter Try.func16, Try.ntmps16
    go_wp2_with (first | (go_at_call 74; refine (HC.out _).mono ?_; rintro e w1 ⟨rfl, hb⟩; have HB := Lib.hid hb; clear hb))
    go_ret2
    exact ⟨_, rfl, Rn.nil _ _, HB.out⟩

theorem impl_CyclicOf (p b : Int) (w : World) :
    Calls Try.prog 15 #[.int .i64 p, .int .i64 b] w fun e w' => ∃ v, e = .returned (.tuple #[v, .bool (OK_CyclicOf p b)]) ∧ Rn w' w.heap.size v (LF_CyclicOf p b) ∧ Below w.heap.size w w' := by
  have HC := Lib.hid (fun w' => isFullPrime_any p b w')
  by_cases h : FulR p b
  · rw [decide_eq_true h] at HC
    have HO := Lib.hid (show OK_CyclicOf p b = true from decide_eq_true h)
    have HL := Lib.hid (show LF_CyclicOf p b = rpt 1 p.toNat b.toNat from if_pos h)
    rw [HO.out, HL.out]
    clear HO HL
    have HR := Lib.hid (fun w' => impl_RepetendOf 1 p b w')
    have hF : Frc 1 p b := ⟨h.2.2.1, ⟨by have := h.1; omega, by have := h.2.1; omega⟩, by omega, by have := h.1; omega⟩
    obtain ⟨P, B, rfl, rfl, p0, p1, b0, b1, _⟩ := h.nats
    have hpd := (per_bd (a := 1) (n := P) (b := B) (by omega) (by omega) (by omega)).2.1
    have hpd2 : pA 1 P B ≤ 400 := by omega
    rw [show OK_RepetendOf 1 (P : Int) (B : Int) = true from decide_eq_true ⟨hF, hpd2⟩, show LF_RepetendOf 1 (P : Int) (B : Int) = rpt 1 P B from if_pos ⟨hF, hpd2⟩] at HR
    simp only [Int.toNat_natCast]
    obtain ⟨X, hX⟩ : ∃ X, X = rpt 1 P B := ⟨_, rfl⟩
    rw [← hX] at HR ⊢
    clear hX h hF hpd hpd2
    go_enter Try.func15, Try.ntmps15
    go_wp2_with (first | (go_at_call 73; refine (HC.out _).mono ?_; rintro e w1 ⟨rfl, hb⟩; have HB := Lib.hid hb; clear hb) | (go_at_call 11; refine (HR.out _).mono ?_; rintro e w1 ⟨v, rfl, hr, hb⟩; have HRv := Lib.hid (hr.mono HB.out.size); have HB2 := Lib.hid (Below.step HB.out HB.out.size hb); clear hr hb))
    go_ret2
    exact ⟨_, rfl, HRv.out, HB2.out⟩
  · rw [decide_eq_false h] at HC
    have HO := Lib.hid (show OK_CyclicOf p b = false from decide_eq_false h)
    have HL := Lib.hid (show LF_CyclicOf p b = [] from if_neg h)
    rw [HO.out, HL.out]
    clear HO HL h
    go_enter Try.func15, Try.ntmps15
    go_wp2_with (first | (go_at_call 73; refine (HC.out _).mono ?_; rintro e w1 ⟨rfl, hb⟩; have HB := Lib.hid hb; clear hb))
    go_ret2
    exact ⟨_, rfl, Rn.nil _ _, HB.out⟩

/-- By how many places a cyclic number is turned, k remainders having been told. -/
def trnL (b p : Nat) : Nat → List Int
  | 0 => List.replicate (p - 1) 0
  | k + 1 => (trnL b p k).set (it (mb b p) k 1 - 1) (k : Int)
theorem trnL_len (b p k : Nat) : (trnL b p k).length = p - 1 := by
  induction k with
  | zero => simp [trnL]
  | succ k ih => rw [trnL, List.length_set, ih]

theorem it_ne {b p : Nat} (hg : Nat.gcd b p = 1) (hp : 2 ≤ p) : ∀ k, 0 < it (mb b p) k 1
  | 0 => Nat.one_pos
  | k + 1 => by
    have ih := it_ne hg hp k
    have hl := it_lt (mb_into (b := b) (show 0 < p by omega)) k (show 1 < p by omega)
    by_cases h : it (mb b p) (k + 1) 1 = 0
    · have h2 : mb b p (it (mb b p) k 1) = mb b p 0 := by
        have e : mb b p 0 = 0 := by simp [mb]
        rw [e]; exact h
      have := mb_inj hg hl (by omega) h2
      omega
    · omega

def OK_TurnsOf (p b : Int) : Bool := decide (FulR p b)
def LF_TurnsOf (p b : Int) : List Int := if FulR p b then trnL b.toNat p.toNat (p.toNat - 1) else []
theorem LF_TurnsOf_len (p b : Int) : (LF_TurnsOf p b).length ≤ 2000000 := by
  unfold LF_TurnsOf
  split
  · rename_i h
    have h1 := h.2.1
    rw [trnL_len]
    omega
  · simp

theorem spec_TurnsOf (p b : Int) (w : World) :
    Calls Try.prog 14 #[.int .i64 p, .int .i64 b] w fun e w' => ∃ v, e = .returned (.tuple #[v, .bool (OK_TurnsOf p b)]) ∧ Rd w' w.heap.size v (LF_TurnsOf p b) ∧ Below w.heap.size w w' := by
  have HC := Lib.hid (fun w' => teCyclic_any p b w')
  by_cases h : FulR p b
  · rw [decide_eq_true h] at HC
    have HO := Lib.hid (show OK_TurnsOf p b = true from decide_eq_true h)
    have HL := Lib.hid (show LF_TurnsOf p b = trnL b.toNat p.toNat (p.toNat - 1) from if_pos h)
    rw [HO.out, HL.out]
    clear HO HL
    obtain ⟨P, B, rfl, rfl, p0, p1, b0, b1, hg⟩ := h.nats
    simp only [Int.toNat_natCast]
    have HM := Lib.hid (fun x (hx : x < P) => mb_facts b1 (show 0 < P by omega) (by omega) hx)
    have HI := Lib.hid (fun k => it_lt (mb_into (b := B) (show 0 < P by omega)) k (show 1 < P by omega))
    have HZ := Lib.hid (fun k => it_ne hg p0 k)
    have HLn := Lib.hid (fun k => trnL_len B P k)
    have HT := Lib.hid (fun k => show trnL B P (k + 1) = (trnL B P k).set (it (mb B P) k 1 - 1) (k : Int) from rfl)
    have HT0 := Lib.hid (show trnL B P 0 = List.replicate (P - 1) 0 from rfl)
    have HNs := Lib.hid (fun k => show it (mb B P) (k + 1) 1 = mb B P (it (mb B P) k 1) from rfl)
    have HP1 := Lib.hid (show (P : Int) - 1 = ((P - 1 : Nat) : Int) by omega)
    have hz := beq_no (show (P : Int) ≠ 0 by omega)
    have hz2 : ¬ (P : Int) = 0 := by omega
    obtain ⟨K, hK⟩ : ∃ K, K = P - 1 := ⟨_, rfl⟩
    have HK := Lib.hid hK
    rw [← hK] at HLn HT0 HP1 ⊢
    have k0 : K ≤ 299 := by omega
    have k1 : (P : Int) = (K : Int) + 1 := by omega
    have HK1 := Lib.hid k1
    clear h hg hK k1
    go_enter Try.func14, Try.ntmps14
    go_wp2_with (first | (go_at_call 74; refine (HC.out _).mono ?_; rintro e w1 ⟨rfl, hb⟩; have HB := Lib.hid hb; clear hb) | (at_make; rename World => w1; refine wpList_mkR rfl _ _ rfl .i64 .i64 _ _ K rfl rfl HP1.out HP1.out (by omega) ?_; intro w2 hr1 hg1 hb1; have HR1 := Lib.hid hr1; have HB1 := Lib.hid (Below.step HB.out HB.out.size hb1); clear hr1 hg1 hb1))
    go_loopw [7, 8] (fun x i wr => ∃ j : Nat, j ≤ K ∧ i = .int .i64 (j : Int) ∧ x = .int .i64 ((it (mb B P) j 1 : Nat) : Int) ∧ Rd wr w1.heap.size (.slice (some ⟨w1.heap.size, 0, none⟩) K K) (trnL B P j) ∧ Below w.heap.size w wr) (fun _ i _ => K - (intOf i).toNat)
    case atStart => exact ⟨0, Nat.zero_le _, rfl, rfl, by rw [HT0.out]; exact HR1.out, HB1.out⟩
    case round =>
      obtain ⟨j, hj, rfl, rfl, hr, hbl⟩ := hrel
      have HR := Lib.hid hr
      have HB2 := Lib.hid hbl
      clear hr hbl
      by_cases hlt : j < K
      · have hlt1 : (j : Int) < (K : Int) := by omega
        have hlt2 : (j : Int) < (P : Int) - 1 := by rw [HP1.out]; exact hlt1
        obtain ⟨y, hy⟩ : ∃ y, it (mb B P) j 1 = y + 1 := ⟨it (mb B P) j 1 - 1, by have := HZ.out j; omega⟩
        have HX := Lib.hid (HI.out j)
        have HN := Lib.hid (HNs.out j)
        have HTj := Lib.hid (HT.out j)
        rw [hy] at HX HN HTj ⊢
        rw [Nat.add_sub_cancel] at HTj
        clear hy
        have hyK : y < K := by have h1 := HX.out; have h2 := HK.out; omega
        obtain ⟨m0, m1, m2, m3, m4⟩ := HM.out (y + 1) HX.out
        have hcast : ((y + 1 : Nat) : Int) = (y : Int) + 1 := by push_cast; rfl
        rw [hcast] at m0 m1 m2 ⊢
        have HM2 := Lib.hid m2
        clear m2 hcast
        obtain ⟨q0, hd⟩ : ∃ q, wr.cell? ⟨w1.heap.size, y, none⟩ = some (.int .i64 q) := ⟨_, HR.out.at.2.2.2.2.1 y (by have := HLn.out j; omega)⟩
        have hf := HR.out.at.2.2.2.2.2 y
        have HS2 := Lib.hid (HR.out.set y (j : Int))
        have HBs := Lib.hid (HB2.out.setCell (p := ⟨w1.heap.size, y, none⟩) HB.out.size (.int .i64 (j : Int)))
        go_wp2
        go_roundw
        case rel => exact ⟨j + 1, by omega, by go_num, by rw [HM2.out, HN.out], by rw [HTj.out]; exact HS2.out.1, HBs.out⟩
        case measure => simp [intOf]; omega
      · obtain rfl : j = K := by omega
        have hlt2 : ¬ (j : Int) < (P : Int) - 1 := by rw [HP1.out]; omega
        go_wp2
        go_ret2
        exact ⟨_, rfl, HR.out.mono HB.out.size, HB2.out⟩
  · rw [decide_eq_false h] at HC
    have HO := Lib.hid (show OK_TurnsOf p b = false from decide_eq_false h)
    have HL := Lib.hid (show LF_TurnsOf p b = [] from if_neg h)
    rw [HO.out, HL.out]
    clear HO HL h
    go_enter Try.func14, Try.ntmps14
    go_wp2_with (first | (go_at_call 74; refine (HC.out _).mono ?_; rintro e w1 ⟨rfl, hb⟩; have HB := Lib.hid hb; clear hb))
    go_ret2
    exact ⟨_, rfl, Rd.nil _ _, HB.out⟩

theorem impl_TurnsOf (p b : Int) (w : World) :
    Calls Try.prog 13 #[.int .i64 p, .int .i64 b] w fun e w' => ∃ v, e = .returned (.tuple #[v, .bool (OK_TurnsOf p b)]) ∧ Rd w' w.heap.size v (LF_TurnsOf p b) ∧ Below w.heap.size w w' := by
  have HC := Lib.hid (fun w' => isFullPrime_any p b w')
  by_cases h : FulR p b
  · rw [decide_eq_true h] at HC
    have HO := Lib.hid (show OK_TurnsOf p b = true from decide_eq_true h)
    have HL := Lib.hid (show LF_TurnsOf p b = trnL b.toNat p.toNat (p.toNat - 1) from if_pos h)
    rw [HO.out, HL.out]
    clear HO HL
    obtain ⟨P, B, rfl, rfl, p0, p1, b0, b1, hg⟩ := h.nats
    simp only [Int.toNat_natCast]
    have HM := Lib.hid (fun x (hx : x < P) => mb_facts b1 (show 0 < P by omega) (by omega) hx)
    have HI := Lib.hid (fun k => it_lt (mb_into (b := B) (show 0 < P by omega)) k (show 1 < P by omega))
    have HZ := Lib.hid (fun k => it_ne hg p0 k)
    have HLn := Lib.hid (fun k => trnL_len B P k)
    have HT := Lib.hid (fun k => show trnL B P (k + 1) = (trnL B P k).set (it (mb B P) k 1 - 1) (k : Int) from rfl)
    have HT0 := Lib.hid (show trnL B P 0 = List.replicate (P - 1) 0 from rfl)
    have HNs := Lib.hid (fun k => show it (mb B P) (k + 1) 1 = mb B P (it (mb B P) k 1) from rfl)
    have HP1 := Lib.hid (show (P : Int) - 1 = ((P - 1 : Nat) : Int) by omega)
    have hz := beq_no (show (P : Int) ≠ 0 by omega)
    have hz2 : ¬ (P : Int) = 0 := by omega
    obtain ⟨K, hK⟩ : ∃ K, K = P - 1 := ⟨_, rfl⟩
    have HK := Lib.hid hK
    rw [← hK] at HLn HT0 HP1 ⊢
    have k0 : K ≤ 299 := by omega
    have k1 : (P : Int) = (K : Int) + 1 := by omega
    have HK1 := Lib.hid k1
    clear h hg hK k1
    go_enter Try.func13, Try.ntmps13
    go_wp2_with (first | (go_at_call 73; refine (HC.out _).mono ?_; rintro e w1 ⟨rfl, hb⟩; have HB := Lib.hid hb; clear hb) | (at_make; rename World => w1; refine wpList_mkR rfl _ _ rfl .i64 .i64 _ _ K rfl rfl HP1.out HP1.out (by omega) ?_; intro w2 hr1 hg1 hb1; have HR1 := Lib.hid hr1; have HB1 := Lib.hid (Below.step HB.out HB.out.size hb1); clear hr1 hg1 hb1))
    go_loopw [7, 18] (fun x i wr => ∃ j : Nat, j ≤ K ∧ i = .int .i64 (j : Int) ∧ x = .int .i64 ((it (mb B P) j 1 : Nat) : Int) ∧ Rd wr w1.heap.size (.slice (some ⟨w1.heap.size, 0, none⟩) K K) (trnL B P j) ∧ Below w.heap.size w wr) (fun _ i _ => K - (intOf i).toNat)
    case atStart => exact ⟨0, Nat.zero_le _, rfl, rfl, by rw [HT0.out]; exact HR1.out, HB1.out⟩
    case round =>
      obtain ⟨j, hj, rfl, rfl, hr, hbl⟩ := hrel
      have HR := Lib.hid hr
      have HB2 := Lib.hid hbl
      clear hr hbl
      by_cases hlt : j < K
      · have hlt1 : (j : Int) < (K : Int) := by omega
        have hlt2 : (j : Int) < (P : Int) - 1 := by rw [HP1.out]; exact hlt1
        obtain ⟨y, hy⟩ : ∃ y, it (mb B P) j 1 = y + 1 := ⟨it (mb B P) j 1 - 1, by have := HZ.out j; omega⟩
        have HX := Lib.hid (HI.out j)
        have HN := Lib.hid (HNs.out j)
        have HTj := Lib.hid (HT.out j)
        rw [hy] at HX HN HTj ⊢
        rw [Nat.add_sub_cancel] at HTj
        clear hy
        have hyK : y < K := by have h1 := HX.out; have h2 := HK.out; omega
        obtain ⟨m0, m1, m2, m3, m4⟩ := HM.out (y + 1) HX.out
        have hcast : ((y + 1 : Nat) : Int) = (y : Int) + 1 := by push_cast; rfl
        rw [hcast] at m0 m1 m2 ⊢
        have HM2 := Lib.hid m2
        clear m2 hcast
        obtain ⟨q0, hd⟩ : ∃ q, wr.cell? ⟨w1.heap.size, y, none⟩ = some (.int .i64 q) := ⟨_, HR.out.at.2.2.2.2.1 y (by have := HLn.out j; omega)⟩
        have hf := HR.out.at.2.2.2.2.2 y
        have HS2 := Lib.hid (HR.out.set y (j : Int))
        have HBs := Lib.hid (HB2.out.setCell (p := ⟨w1.heap.size, y, none⟩) HB.out.size (.int .i64 (j : Int)))
        go_wp2
        go_roundw
        case rel => exact ⟨j + 1, by omega, by go_num, by rw [HM2.out, HN.out], by rw [HTj.out]; exact HS2.out.1, HBs.out⟩
        case measure => simp [intOf]; omega
      · obtain rfl : j = K := by omega
        have hlt2 : ¬ (j : Int) < (P : Int) - 1 := by rw [HP1.out]; omega
        go_wp2
        go_ret2
        exact ⟨_, rfl, HR.out.mono HB.out.size, HB2.out⟩
  · rw [decide_eq_false h] at HC
    have HO := Lib.hid (show OK_TurnsOf p b = false from decide_eq_false h)
    have HL := Lib.hid (show LF_TurnsOf p b = [] from if_neg h)
    rw [HO.out, HL.out]
    clear HO HL h
    go_enter Try.func13, Try.ntmps13
    go_wp2_with (first | (go_at_call 73; refine (HC.out _).mono ?_; rintro e w1 ⟨rfl, hb⟩; have HB := Lib.hid hb; clear hb))
    go_ret2
    exact ⟨_, rfl, Rd.nil _ _, HB.out⟩

end Go.Proofs.Ytgiabadkbfbilab
