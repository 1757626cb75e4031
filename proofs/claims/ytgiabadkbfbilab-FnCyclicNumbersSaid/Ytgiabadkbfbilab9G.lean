/-
  Full primes: who is one; the program's and the model's answers.
-/
import Derived.Test.Ytgiabadkbfbilab9F
import Derived.Test.Ytgiabadkbfbilab8Q
import Derived.Test.Ytgiabadkbfbilab0Q
namespace Go.Proofs.Ytgiabadkbfbilab
open Go.RowKit
set_option linter.unusedVariables false
set_option linter.unusedSimpArgs false
set_option maxRecDepth 100000

theorem prm_gcd {P B : Nat} (hp : prm (P : Int) = true) (h0 : 0 < P) : Nat.gcd B P = 1 ∨ B % P = 0 := by
  obtain ⟨_, hr, h2⟩ := prm_pp (n := (P : Int)) (by omega) (show prmZ (P : Int) from by unfold prm at hp; unfold prmZ; exact of_decide_eq_true hp)
  have hg := Nat.gcd_pos_of_pos_right B h0
  have hle := Nat.gcd_le_right B h0
  have hd := Nat.gcd_dvd_right B P
  by_cases h1 : Nat.gcd B P = 1
  · exact .inl h1
  · by_cases hP : Nat.gcd B P = P
    · right
      have := Nat.gcd_dvd_left B P
      rw [hP] at this
      exact Nat.mod_eq_zero_of_dvd this
    · refine absurd ?_ (hr ((Nat.gcd B P : Nat) : Int) (by omega) (by omega))
      have : P % Nat.gcd B P = 0 := Nat.mod_eq_zero_of_dvd hd
      omega

/-- A full prime of a base. -/
def Ful (p b : Int) : Prop := prm p = true ∧ Nat.gcd b.toNat p.toNat = 1 ∧ ordN b.toNat p.toNat + 1 = p.toNat
instance (p b : Int) : Decidable (Ful p b) := by unfold Ful; infer_instance
def FulR (p b : Int) : Prop := 2 ≤ p ∧ p ≤ 300 ∧ Bas b ∧ Ful p b
instance (p b : Int) : Decidable (FulR p b) := by unfold FulR; infer_instance

theorem teFull_any (P B : Nat) (w : World) (p0 : 2 ≤ P) (p1 : P ≤ 2000) (b0 : 2 ≤ B) (b1 : B ≤ 16) :
    Calls Try.prog 79 #[.int .i64 (P : Int), .int .i64 (B : Int)] w fun e w' => e = .returned (.bool (decide (Ful (P : Int) (B : Int)))) ∧ Below w.heap.size w w' := by
  have HPr := Lib.hid (fun w' => dvPrime_any (P : Int) w' ⟨by omega, by omega⟩ (by omega))
  have hz := beq_no (show (P : Int) ≠ 0 by omega)
  have hz2 : ¬ (P : Int) = 0 := by omega
  cases hp : prm (P : Int) with
  | false =>
    rw [hp] at HPr
    have HE := Lib.hid (show decide (Ful (P : Int) (B : Int)) = false from decide_eq_false (fun c => by have := c.1; rw [hp] at this; cases this))
    rw [HE.out]
    clear hp HE
    go_enter Try.func79, Try.ntmps79
    go_wp2_with (go_at_call 66; refine (HPr.out _).mono ?_; rintro e w1 ⟨rfl, hb⟩; have HB := Lib.hid hb; clear hb)
    go_ret
    exact ⟨by simp, HB.out⟩
  | true =>
    rw [hp] at HPr
    by_cases hm : B % P = 0
    · have HE := Lib.hid (show decide (Ful (P : Int) (B : Int)) = false from decide_eq_false (fun c => by
        have h2 : Nat.gcd B P = 1 := c.2.1
        have h3 : Nat.gcd B P = P := by rw [Nat.gcd_comm]; exact Nat.gcd_eq_left (Nat.dvd_of_mod_eq_zero hm)
        omega))
      rw [HE.out]
      have hm2 : (B : Int) % (P : Int) = 0 := by omega
      clear hp HE hm
      go_enter Try.func79, Try.ntmps79
      go_wp2_with (go_at_call 66; refine (HPr.out _).mono ?_; rintro e w1 ⟨rfl, hb⟩; have HB := Lib.hid hb; clear hb)
      go_ret
      exact ⟨by simp, HB.out⟩
    · have hg := (prm_gcd (B := B) hp (by omega)).resolve_right hm
      have HO := Lib.hid (fun w' => teOrder_any P B w' (by omega) p1 b1 hg)
      obtain ⟨o1, o2, _, _⟩ := ord_spec hg (show 0 < P by omega)
      have HE := Lib.hid (show decide (Ful (P : Int) (B : Int)) = (((ordN B P : Nat) : Int) == (P : Int) - 1) by
        by_cases c : ordN B P + 1 = P
        · rw [beq_yes (by omega)]; exact decide_eq_true ⟨hp, hg, c⟩
        · rw [beq_no (by omega)]; exact decide_eq_false (fun d => c d.2.2))
      rw [HE.out]
      have hm2 : (0 : Int) < (B : Int) % (P : Int) := by
        have e : (B : Int) % (P : Int) = ((B % P : Nat) : Int) := rfl
        omega
      obtain ⟨O, hO⟩ : ∃ O, O = ordN B P := ⟨_, rfl⟩
      rw [← hO] at HO o1 o2 ⊢
      clear hp HE hm hO hg
      go_enter Try.func79, Try.ntmps79
      go_wp2_with (first | (go_at_call 66; refine (HPr.out _).mono ?_; rintro e w1 ⟨rfl, hb⟩; have HB := Lib.hid hb; clear hb) | (go_at_call 133; refine (HO.out _).mono ?_; rintro e w1 ⟨rfl, hb⟩; have HB2 := Lib.hid (Below.step HB.out HB.out.size hb); clear hb))
      go_ret
      exact ⟨by simp, HB2.out⟩

theorem isFullPrime_any (p b : Int) (w : World) :
    Calls Try.prog 73 #[.int .i64 p, .int .i64 b] w fun e w' => e = .returned (.bool (decide (FulR p b))) ∧ Below w.heap.size w w' := by
  by_cases h2 : p < 2
  · have HE := Lib.hid (show decide (FulR p b) = false from decide_eq_false (fun c => by have := c.1; omega))
    rw [HE.out]
    clear HE
    go_enter Try.func73, Try.ntmps73
    go_wp2
    go_ret
    exact ⟨by simp, Below.refl _ _⟩
  · by_cases h3 : 300 < p
    · have HE := Lib.hid (show decide (FulR p b) = false from decide_eq_false (fun c => by have := c.2.1; omega))
      rw [HE.out]
      clear HE
      go_enter Try.func73, Try.ntmps73
      go_wp2
      go_ret
      exact ⟨by simp, Below.refl _ _⟩
    · have HPr := Lib.hid (fun w' => isPrime_any p w' ⟨by omega, by omega⟩)
      have HO := Lib.hid (fun w' => impl_OrderOf p b w')
      cases hp : prm p with
      | false =>
        rw [hp] at HPr
        have HE := Lib.hid (show decide (FulR p b) = false from decide_eq_false (fun c => by have := c.2.2.2.1; rw [hp] at this; cases this))
        rw [HE.out]
        clear hp HE
        go_enter Try.func73, Try.ntmps73
        go_wp2_with (go_at_call 63; refine (HPr.out _).mono ?_; rintro e w1 ⟨rfl, hb⟩; have HB := Lib.hid hb; clear hb)
        go_ret
        exact ⟨by simp, HB.out⟩
      | true =>
        rw [hp] at HPr
        by_cases hg : Bas b ∧ Nat.gcd b.toNat p.toNat = 1
        · have hD : Den p := ⟨by omega, by omega⟩
          have hR : ROrd p b = some ((ordN b.toNat p.toNat : Nat) : Int) := if_pos ⟨hg.1, hD, hg.2⟩
          rw [hR] at HO
          obtain ⟨o1, o2, _, _⟩ := ord_spec hg.2 (show 0 < p.toNat by omega)
          have HE := Lib.hid (show decide (FulR p b) = (((ordN b.toNat p.toNat : Nat) : Int) == p - 1) by
            by_cases c : ordN b.toNat p.toNat + 1 = p.toNat
            · rw [beq_yes (by omega)]; exact decide_eq_true ⟨by omega, by omega, hg.1, hp, hg.2, c⟩
            · rw [beq_no (by omega)]; exact decide_eq_false (fun d => c d.2.2.2.2.2))
          rw [HE.out]
          obtain ⟨O, hO⟩ : ∃ O, O = ordN b.toNat p.toNat := ⟨_, rfl⟩
          rw [← hO] at HO o1 o2 ⊢
          clear hp HE hO hg hR hD
          go_enter Try.func73, Try.ntmps73
          go_wp2_with (first | (go_at_call 63; refine (HPr.out _).mono ?_; rintro e w1 ⟨rfl, hb⟩; have HB := Lib.hid hb; clear hb) | (go_at_call 20; refine (HO.out _).mono ?_; rintro e w1 ⟨rfl, hb⟩; have HB2 := Lib.hid (Below.step HB.out HB.out.size hb); clear hb))
          go_ret
          exact ⟨by simp, HB2.out⟩
        · have hR : ROrd p b = none := if_neg (fun c => hg ⟨c.1, c.2.2⟩)
          rw [hR] at HO
          have HE := Lib.hid (show decide (FulR p b) = false from decide_eq_false (fun c => hg ⟨c.2.2.1, c.2.2.2.2.1⟩))
          rw [HE.out]
          clear hp HE hg hR
          go_enter Try.func73, Try.ntmps73
          go_wp2_with (first | (go_at_call 63; refine (HPr.out _).mono ?_; rintro e w1 ⟨rfl, hb⟩; have HB := Lib.hid hb; clear hb) | (go_at_call 20; refine (HO.out _).mono ?_; rintro e w1 ⟨rfl, hb⟩; have HB2 := Lib.hid (Below.step HB.out HB.out.size hb); clear hb))
          go_ret
          exact ⟨by simp, HB2.out⟩

theorem teCyclic_any (p b : Int) (w : World) :
    Calls Try.prog 74 #[.int .i64 p, .int .i64 b] w fun e w' => e = .returned (.bool (decide (FulR p b))) ∧ Below w.heap.size w w' := by
  by_cases hB : Bas b
  · have hb := decide_eq_true hB
    by_cases hp : 2 ≤ p ∧ p ≤ 300
    · have HE := Lib.hid (show decide (FulR p b) = decide (Ful p b) from decide_eq_decide.2 ⟨fun c => c.2.2.2, fun c => ⟨hp.1, hp.2, hB, c⟩⟩)
      obtain ⟨p0, p1⟩ := hp
      have hB2 := hB
      obtain ⟨b0, b1⟩ := hB2
      rw [HE.out]
      obtain ⟨P, rfl⟩ : ∃ P : Nat, p = (P : Int) := ⟨p.toNat, by omega⟩
      obtain ⟨B, rfl⟩ : ∃ B : Nat, b = (B : Int) := ⟨b.toNat, by omega⟩
      have HF := Lib.hid (fun w' => teFull_any P B w' (by omega) (by omega) (by omega) (by omega))
      obtain ⟨q, hq⟩ : ∃ q, q = decide (Ful (P : Int) (B : Int)) := ⟨_, rfl⟩
      rw [← hq] at HF ⊢
      clear hq HE hB
      go_enter Try.func74, Try.ntmps74
      go_wp2_with (first | (go_at_call 77; refine (dgBase_any _ _).mono ?_; rintro e w1 ⟨rfl, rfl⟩) | (go_at_call 78; refine (l1In_yes _ _ _ _ p0 p1).mono ?_; rintro e w1 ⟨rfl, rfl⟩) | (go_at_call 79; refine (HF.out _).mono ?_; rintro e w1 ⟨rfl, hb⟩; have HB := Lib.hid hb; clear hb))
      go_ret
      exact ⟨by simp, HB.out⟩
    · have HE := Lib.hid (show decide (FulR p b) = false from decide_eq_false (fun c => hp ⟨c.1, c.2.1⟩))
      have H := Lib.hid (show p < 2 ∨ 300 < p by omega)
      rw [HE.out]
      clear HE hp hB
      go_enter Try.func74, Try.ntmps74
      go_wp2_with (first | (go_at_call 77; refine (dgBase_any _ _).mono ?_; rintro e w1 ⟨rfl, rfl⟩) | (go_at_call 78; refine (l1In_no _ _ _ _ H.out).mono ?_; rintro e w1 ⟨rfl, rfl⟩))
      go_ret
      exact ⟨by simp, Below.refl _ _⟩
  · have hb := decide_eq_false hB
    have HE := Lib.hid (show decide (FulR p b) = false from decide_eq_false (fun c => hB c.2.2.1))
    rw [HE.out]
    clear HE hB
    go_enter Try.func74, Try.ntmps74
    go_wp2_with (first | (go_at_call 77; refine (dgBase_any _ _).mono ?_; rintro e w1 ⟨rfl, rfl⟩))
    go_ret
    exact ⟨by simp, Below.refl _ _⟩

/-- The full primes below m. -/
def fpL (b : Int) (m : Nat) : List Int := ((List.range m).filter (fun (p : Nat) => decide (FulR (p : Int) b))).map (fun (p : Nat) => (p : Int))
theorem fpL_zero (b : Int) : fpL b 0 = [] := rfl
theorem fpL_two (b : Int) : fpL b 2 = [] := by
  have h0 : decide (FulR ((0 : Nat) : Int) b) = false := decide_eq_false (fun c => by have := c.1; omega)
  have h1 : decide (FulR ((1 : Nat) : Int) b) = false := decide_eq_false (fun c => by have := c.1; omega)
  unfold fpL
  rw [show List.range 2 = [0, 1] from rfl, List.filter_cons, h0, List.filter_cons, h1]
  rfl
theorem fpL_yes {b : Int} {m : Nat} (h : decide (FulR (m : Int) b) = true) : fpL b (m + 1) = fpL b m ++ [(m : Int)] := by
  unfold fpL
  rw [List.range_succ, List.filter_append, List.map_append, List.filter_cons, if_pos h]
  rfl
theorem fpL_no {b : Int} {m : Nat} (h : decide (FulR (m : Int) b) = false) : fpL b (m + 1) = fpL b m := by
  unfold fpL
  rw [List.range_succ, List.filter_append, List.map_append, List.filter_cons, if_neg (by rw [h]; simp)]
  simp
theorem fpL_len (b : Int) (m : Nat) : (fpL b m).length ≤ m := by
  unfold fpL
  rw [List.length_map]
  have := List.length_filter_le (fun p => decide (FulR ((p : Nat) : Int) b)) (List.range m)
  simpa using this

def OK_FullPrimes (b m : Int) : Bool := decide (Bas b ∧ 0 ≤ m ∧ m ≤ 300)
def LF_FullPrimes (b m : Int) : List Int := if Bas b ∧ 0 ≤ m ∧ m ≤ 300 then fpL b (m.toNat + 1) else []
theorem LF_FullPrimes_len (b m : Int) : (LF_FullPrimes b m).length ≤ 2000000 := by
  unfold LF_FullPrimes
  split
  · have := fpL_len b (m.toNat + 1); omega
  · simp

end Go.Proofs.Ytgiabadkbfbilab
