/-
  Sums and numbers of divisors: the program's, made of powers, and the model's, made of stretches of equal factors.
-/
import Derived.Test.Ytlpmfapjgmhbhaa8P
import Derived.BigQuiet
namespace Go.Proofs.Ytlpmfapjgmhbhaa
open Go.RowKit
set_option linter.unusedVariables false
set_option linter.unusedSimpArgs false
set_option maxRecDepth 100000

theorem ppSum_any (p : Int) (t : Nat) (w : World) (h0 : 2 ≤ p) (h1 : p ≤ 1000000000) (ht : t < 30) (hs : sgP p t ≤ 2000000000) :
    Calls Try.prog 86 #[.agg #[.int .i64 p, .int .i64 (t : Int)]] w fun e w' => e = .returned (.int .i64 (sgP p t)) ∧ Below w.heap.size w w' := by
  have HB := Lib.hid (alloc_below w (.cells #[.int .i64 p, .int .i64 (t : Int)] 77))
  have c0 : (w.alloc (.cells #[.int .i64 p, .int .i64 (t : Int)] 77)).cell? ⟨w.heap.size, 0, none⟩ = some (.int .i64 p) := by simp [go_sem]
  have c1 : (w.alloc (.cells #[.int .i64 p, .int .i64 (t : Int)] 77)).cell? ⟨w.heap.size, 1, none⟩ = some (.int .i64 (t : Int)) := by simp [go_sem]
  have HS := Lib.hid hs
  clear hs
  go_enter Try.func86, Try.ntmps86
  go_wp2
  go_loop [3, 6] (fun s i => ∃ (j : Nat) (S : Int), j ≤ t ∧ i = .int .i64 (j : Int) ∧ s = .int .i64 S ∧ Hid (S = sgP p j)) (fun _ i => t - (intOf i).toNat)
  case atStart => exact ⟨0, 1, Nat.zero_le _, rfl, rfl, Lib.hid rfl⟩
  case round =>
    obtain ⟨j, S, hj, rfl, rfl, HSj⟩ := hrel
    by_cases hlt : j < t
    · have hm : S * p + 1 = sgP p (j + 1) := by rw [HSj.out]; rfl
      have hb1 := sgP_le h0 (show j + 1 ≤ t by omega)
      have hb2 := (sgP_bd h0 (j + 1)).1
      have hb3 := (pow_two_le h0 (j + 1)).2
      have m0 : 0 ≤ S * p := by omega
      have m1 : S * p ≤ 2000000000 := by have := HS.out; omega
      have HM := Lib.hid hm
      have hlt' : (j : Int) < (t : Int) := by omega
      clear hm hb1 hb2 hb3
      go_wp2
      go_round
      case rel => exact ⟨j + 1, S * p + 1, by omega, by go_num, by go_num, Lib.hid HM.out⟩
      case measure => simp [intOf]; omega
    · obtain rfl : j = t := by omega
      go_wp2
      go_ret
      exact ⟨ret_int HSj.out, HB.out⟩

theorem take_next {α : Type} (X : List α) (j : Nat) (h : j < X.length) : X.take (j + 1) = X.take j ++ [X[j]] ∧ X.take (j + 1) ++ X.drop (j + 1) = X := by
  refine ⟨?_, List.take_append_drop _ _⟩
  rw [List.take_add_one, List.getElem?_eq_getElem h]; simp

/-- Results up to a place, as the program's loops have them. -/
theorem sum_round {n : Int} (hn : Dv n) {j : Nat} (h : j < (pp n).length) :
    ∃ (p : Int) (t : Nat), (pp n)[j]? = some (p, t) ∧ 2 ≤ p ∧ p ≤ 1000000000 ∧ 0 < t ∧ t < 30 ∧ sgP p t ≤ 2000000000 ∧ 1 ≤ sgP p t ∧ sgL ((pp n).take (j + 1)) = sgL ((pp n).take j) * sgP p t ∧ ctL ((pp n).take (j + 1)) = ctL ((pp n).take j) * ((t : Int) + 1) ∧
      1 ≤ sgL ((pp n).take (j + 1)) ∧ sgL ((pp n).take (j + 1)) ≤ 1000000000000000000 ∧ 1 ≤ ctL ((pp n).take (j + 1)) ∧ ctL ((pp n).take (j + 1)) ≤ 1000000000 ∧ 1 ≤ sgL ((pp n).take j) ∧ sgL ((pp n).take j) ≤ 1000000000000000000 ∧ 1 ≤ ctL ((pp n).take j) ∧ ctL ((pp n).take j) ≤ 1000000000 := by
  obtain ⟨n0, n1⟩ := hn
  obtain ⟨t1, t2⟩ := take_next (pp n) j h
  obtain ⟨b1, b2, b3, b4, b5, b6, b7⟩ := one_bd (n := n) (by omega) n1 (List.getElem_mem h)
  have p1 := part_bd (n := n) (by omega) n1 t2
  have p2 := part_bd (n := n) (by omega) n1 (List.take_append_drop j (pp n))
  refine ⟨(pp n)[j].1, (pp n)[j].2, List.getElem?_eq_getElem h, b1, b2, b3, b4, b6, b5, ?_, ?_, p1.1, p1.2.1, p1.2.2.1, p1.2.2.2, p2.1, p2.2.1, p2.2.2.1, p2.2.2.2⟩
  · rw [t1, sgL_snoc]
  · rw [t1, ctL_snoc]

theorem sumOfDivisors_any (n : Int) (w : World) (hn : Dv n) :
    Calls Try.prog 70 #[.int .i64 n] w fun e w' => e = .returned (.int .i64 (sgL (pp n))) ∧ Below w.heap.size w w' := by
  have HR := Lib.hid (fun j (h : j < (pp n).length) => sum_round hn h)
  have HLen := Lib.hid (fac_bd (n := n) (by have := hn.1; omega) hn.2).2
  have HP := Lib.hid (fun w' => powers_any n w' hn)
  obtain ⟨X, hX⟩ : ∃ X, X = pp n := ⟨_, rfl⟩
  rw [← hX] at HR HLen HP ⊢
  clear hX hn
  go_enter Try.func70, Try.ntmps70
  go_wp2_with fail
  refine (HP.out _).mono ?_
  rintro e w1 ⟨v, rfl, hr, hb⟩
  have HB := Lib.hid hb
  have hlX : X.length ≤ 30 := by have := HLen.out; omega
  rcases hr.cases with ⟨rfl, hx⟩ | ⟨g, cap, rfl, hg0, hg1, hc⟩
  · subst hx
    clear hr hb
    go_wp2
    refine wp_loop_rounds 1 ?_
    rw [rounds_succ]
    go_wp2
    go_ret
    exact ⟨rfl, HB.out⟩
  · have HC := Lib.hid hc
    clear hr hb hc
    go_wp2
    go_loopw [3, 9] (fun s i wr => ∃ (j : Nat) (S : Int), j ≤ X.length ∧ i = .int .i64 (j : Int) ∧ s = .int .i64 S ∧ Hid (S = sgL (X.take j)) ∧ Below w1.heap.size w1 wr) (fun _ i _ => X.length - (intOf i).toNat)
    case atStart => exact ⟨0, 1, Nat.zero_le _, rfl, rfl, Lib.hid rfl, Below.refl _ _⟩
    case round =>
      obtain ⟨j, S, hj, rfl, rfl, HSj, hbl⟩ := hrel
      have HB2 := Lib.hid hbl
      clear hbl
      by_cases hlt : j < X.length
      · obtain ⟨p, t, e1, p0, p1, t0, t1, s1, s0, m1, m2, b1, b2, b3, b4, b5, b6, b7, b8⟩ := HR.out j hlt
        obtain ⟨cc0, cc1⟩ := HC.out j _ e1
        have c0 := Below.keeps_cell HB2.out cc0
        have c1 := Below.keeps_cell HB2.out cc1
        obtain ⟨G, hG⟩ : ∃ G, G = sgP p t := ⟨_, rfl⟩
        have HPS := Lib.hid (fun w' => ppSum_any p t w' p0 p1 t1 s1)
        rw [← HSj.out] at m1 b5 b6
        rw [← hG] at HPS m1 s1 s0
        have HM := Lib.hid m1
        have m0' : 0 ≤ S * G := by omega
        have m1' : S * G ≤ 1000000000000000000 := by omega
        clear hG cc0 cc1 m1 m2 b1 b2 b3 b4 b7 b8 e1
        go_wp2_with (go_at_call 86; refine (HPS.out _).mono ?_; rintro e w3 ⟨rfl, hb3⟩; have HB3 := Lib.hid (Below.step (HB2.out.alloc HB2.out.size _) (HB2.out.alloc HB2.out.size _).size hb3); clear hb3)
        go_roundw
        case rel => exact ⟨j + 1, S * G, by omega, by go_num, by go_num, Lib.hid HM.out.symm, HB3.out⟩
        case measure => simp [intOf]; omega
      · obtain rfl : j = X.length := by omega
        have HE := Lib.hid (show S = sgL X by rw [HSj.out, List.take_of_length_le (Nat.le_refl _)])
        go_wp2
        go_ret
        exact ⟨ret_int HE.out, Below.step HB.out HB.out.size HB2.out⟩

theorem countDivisors_any (n : Int) (w : World) (hn : Dv n) :
    Calls Try.prog 72 #[.int .i64 n] w fun e w' => e = .returned (.int .i64 (ctL (pp n))) ∧ Below w.heap.size w w' := by
  have HR := Lib.hid (fun j (h : j < (pp n).length) => sum_round hn h)
  have HLen := Lib.hid (fac_bd (n := n) (by have := hn.1; omega) hn.2).2
  have HP := Lib.hid (fun w' => powers_any n w' hn)
  obtain ⟨X, hX⟩ : ∃ X, X = pp n := ⟨_, rfl⟩
  rw [← hX] at HR HLen HP ⊢
  clear hX hn
  go_enter Try.func72, Try.ntmps72
  go_wp2_with fail
  refine (HP.out _).mono ?_
  rintro e w1 ⟨v, rfl, hr, hb⟩
  have HB := Lib.hid hb
  have hlX : X.length ≤ 30 := by have := HLen.out; omega
  rcases hr.cases with ⟨rfl, hx⟩ | ⟨g, cap, rfl, hg0, hg1, hc⟩
  · subst hx
    clear hr hb
    go_wp2
    refine wp_loop_rounds 1 ?_
    rw [rounds_succ]
    go_wp2
    go_ret
    exact ⟨rfl, HB.out⟩
  · have HC := Lib.hid hc
    clear hr hb hc
    go_wp2
    go_loopw [3, 9] (fun s i wr => ∃ (j : Nat) (S : Int), j ≤ X.length ∧ i = .int .i64 (j : Int) ∧ s = .int .i64 S ∧ Hid (S = ctL (X.take j)) ∧ Below w1.heap.size w1 wr) (fun _ i _ => X.length - (intOf i).toNat)
    case atStart => exact ⟨0, 1, Nat.zero_le _, rfl, rfl, Lib.hid rfl, Below.refl _ _⟩
    case round =>
      obtain ⟨j, S, hj, rfl, rfl, HSj, hbl⟩ := hrel
      have HB2 := Lib.hid hbl
      clear hbl
      by_cases hlt : j < X.length
      · obtain ⟨p, t, e1, p0, p1, t0, t1, s1, s0, m1, m2, b1, b2, b3, b4, b5, b6, b7, b8⟩ := HR.out j hlt
        obtain ⟨cc0, cc1⟩ := HC.out j _ e1
        have c0 := Below.keeps_cell HB2.out cc0
        have c1 := Below.keeps_cell HB2.out cc1
        rw [← HSj.out] at m2 b7 b8
        have HM := Lib.hid m2
        have m0' : 0 ≤ S * ((t : Int) + 1) := by omega
        have m1' : S * ((t : Int) + 1) ≤ 1000000000 := by omega
        clear cc0 cc1 m1 m2 b1 b2 b3 b4 b5 b6 e1 s1 s0
        go_wp2
        go_roundw
        case rel => exact ⟨j + 1, S * ((t : Int) + 1), by omega, by go_num, by go_num, Lib.hid HM.out.symm, HB2.out.alloc HB2.out.size _⟩
        case measure => simp [intOf]; omega
      · obtain rfl : j = X.length := by omega
        have HE := Lib.hid (show S = ctL X by rw [HSj.out, List.take_of_length_le (Nat.le_refl _)])
        go_wp2
        go_ret
        exact ⟨ret_int HE.out, Below.step HB.out HB.out.size HB2.out⟩

theorem properSum_any (n : Int) (w : World) (hn : Dv n) :
    Calls Try.prog 58 #[.int .i64 n] w fun e w' => e = .returned (.int .i64 (prop n)) ∧ Below w.heap.size w w' := by
  obtain ⟨b1, b2, b3, b4⟩ := prop_bd (n := n) (by have := hn.1; omega) hn.2
  have HS := Lib.hid (fun w' => sumOfDivisors_any n w' hn)
  have HP := Lib.hid (show prop n = sgL (pp n) - n from rfl)
  obtain ⟨S, hS⟩ : ∃ S, S = sgL (pp n) := ⟨_, rfl⟩
  rw [← hS] at HS HP b3 b4
  obtain ⟨n0, n1⟩ := hn
  rw [HP.out]
  clear hS b1 b2
  go_enter Try.func58, Try.ntmps58
  go_wp2_with (go_at_call 70; refine (HS.out _).mono ?_; rintro e w3 ⟨rfl, hb3⟩; have HB3 := Lib.hid hb3; clear hb3)
  go_ret
  exact ⟨by first | rfl | go_num, HB3.out⟩

theorem compare_i (a b : Int) (w : World) : Calls Try.prog 84 #[.int .i64 a, .int .i64 b] w fun e w' => e = .returned (.int .i64 (if a < b then -1 else if b < a then 1 else 0)) ∧ Below w.heap.size w w' := by
  have n1 : ∀ w' : World, Calls Try.prog 88 #[.int .i64 a] w' fun e w'' => e = .returned (.bool false) ∧ w' = w'' := by
    intro w'
    go_enter Try.func88, Try.ntmps88
    go_wp2
    go_ret
    exact ⟨by simp, rfl⟩
  have n2 : ∀ w' : World, Calls Try.prog 88 #[.int .i64 b] w' fun e w'' => e = .returned (.bool false) ∧ w' = w'' := by
    intro w'
    go_enter Try.func88, Try.ntmps88
    go_wp2
    go_ret
    exact ⟨by simp, rfl⟩
  have N1 := Lib.hid n1
  have N2 := Lib.hid n2
  clear n1 n2
  by_cases h1 : a < b
  · have HR := Lib.hid (show (if a < b then (-1 : Int) else if b < a then 1 else 0) = -1 from if_pos h1)
    rw [HR.out]
    go_enter Try.func84, Try.ntmps84
    go_wp2_with (go_at_call 88; (first | (refine (N1.out _).mono ?_; rintro e w1 ⟨rfl, rfl⟩) | (refine (N2.out _).mono ?_; rintro e w1 ⟨rfl, rfl⟩)))
    go_ret
    exact ⟨rfl, Below.refl _ _⟩
  · by_cases h2 : b < a
    · have HR := Lib.hid (show (if a < b then (-1 : Int) else if b < a then 1 else 0) = 1 by rw [if_neg h1, if_pos h2])
      rw [HR.out]
      go_enter Try.func84, Try.ntmps84
      go_wp2_with (go_at_call 88; (first | (refine (N1.out _).mono ?_; rintro e w1 ⟨rfl, rfl⟩) | (refine (N2.out _).mono ?_; rintro e w1 ⟨rfl, rfl⟩)))
      go_ret
      exact ⟨rfl, Below.refl _ _⟩
    · have HR := Lib.hid (show (if a < b then (-1 : Int) else if b < a then 1 else 0) = 0 by rw [if_neg h1, if_neg h2])
      rw [HR.out]
      go_enter Try.func84, Try.ntmps84
      go_wp2_with (go_at_call 88; (first | (refine (N1.out _).mono ?_; rintro e w1 ⟨rfl, rfl⟩) | (refine (N2.out _).mono ?_; rintro e w1 ⟨rfl, rfl⟩)))
      go_ret
      exact ⟨rfl, Below.refl _ _⟩

/-- What kind a number is. -/
def knd (n : Int) : Int := if prop n < n then -1 else if n < prop n then 1 else 0
theorem kind_any (n : Int) (w : World) (hn : Dv n) :
    Calls Try.prog 66 #[.int .i64 n] w fun e w' => e = .returned (.int .i64 (knd n)) ∧ Below w.heap.size w w' := by
  have HS := Lib.hid (fun w' => properSum_any n w' hn)
  have HC := Lib.hid (fun w' => compare_i (prop n) n w')
  have HK := Lib.hid (show knd n = (if prop n < n then -1 else if n < prop n then 1 else 0) from rfl)
  obtain ⟨K, hK⟩ : ∃ K, K = (if prop n < n then (-1 : Int) else if n < prop n then 1 else 0) := ⟨_, rfl⟩
  rw [← hK] at HC HK
  rw [HK.out]
  obtain ⟨P, hP⟩ : ∃ P, P = prop n := ⟨_, rfl⟩
  rw [← hP] at HS HC
  clear hK hP hn
  go_enter Try.func66, Try.ntmps66
  go_wp2_with (first | (go_at_call 58; refine (HS.out _).mono ?_; rintro e w3 ⟨rfl, hb3⟩; have HB3 := Lib.hid hb3; clear hb3) | (go_at_call 84; refine (HC.out _).mono ?_; rintro e w4 ⟨rfl, hb4⟩; have HB4 := Lib.hid (Below.step HB3.out HB3.out.size hb4); clear hb4))
  go_ret
  exact ⟨rfl, HB4.out⟩

end Go.Proofs.Ytlpmfapjgmhbhaa
