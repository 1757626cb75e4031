/-
  The model's sums and numbers of divisors, by stretches of equal factors.
-/
import Derived.Test.Ytlpmfapjgmhbhaa8E
namespace Go.Proofs.Ytlpmfapjgmhbhaa
open Go.RowKit
set_option linter.unusedVariables false
set_option linter.unusedSimpArgs false
set_option maxRecDepth 100000

/-- One more power of a number, as the model's loops have it. -/
theorem stretch {n : Int} (hn : Dv n) {a b : List (Int × Nat)} {p : Int} {t : Nat} (h : a ++ (p, t) :: b = pp n) :
    2 ≤ p ∧ p ≤ 1000000000 ∧ 0 < t ∧ t < 30 ∧ sgP p t ≤ 2000000000 ∧ p ^ t ≤ 1000000000 ∧ 1 ≤ sgL a ∧ 1 ≤ ctL a ∧ sgL a * sgP p t ≤ 1000000000000000000 ∧ ctL a * ((t : Int) + 1) ≤ 1000000000 ∧ sgL (a ++ [(p, t)]) = sgL a * sgP p t ∧ ctL (a ++ [(p, t)]) = ctL a * ((t : Int) + 1) ∧ 1 ≤ sgL (a ++ [(p, t)]) ∧ 1 ≤ ctL (a ++ [(p, t)]) ∧
      (∀ j, j < t → (flt (pp n)).getD ((flt a).length + j) 0 = p ∧ (flt a).length + j < (flt (pp n)).length) ∧ ((flt a).length + t < (flt (pp n)).length → (flt (pp n)).getD ((flt a).length + t) 0 ≠ p) ∧ (flt a).length + t ≤ (flt (pp n)).length ∧ (flt (a ++ [(p, t)])).length = (flt a).length + t ∧ (a ++ [(p, t)]) ++ b = pp n := by
  obtain ⟨n0, n1⟩ := hn
  have hm : (p, t) ∈ pp n := by rw [← h]; simp
  obtain ⟨b1, b2, b3, b4, b5, b6, b7⟩ := one_bd (n := n) (by omega) n1 hm
  have e2 : (a ++ [(p, t)]) ++ b = pp n := by rw [← h]; simp
  have p1 := part_bd (n := n) (by omega) n1 e2
  have p2 := part_bd (n := n) (by omega) n1 h
  have s1 := sgL_snoc a (p, t)
  have s2 := ctL_snoc a (p, t)
  have hup := pp_up (n := n) (by omega)
  rw [← h] at hup
  refine ⟨b1, b2, b3, b4, b6, b7, p2.1, p2.2.2.1, ?_, ?_, s1, s2, p1.1, p1.2.2.1, ?_, ?_, ?_, flt_end a (p, t), e2⟩
  · have := p1.2.1; rw [s1] at this; exact this
  · have := p1.2.2.2; rw [s2] at this; exact this
  · intro j hj
    rw [← h]
    exact flt_at a (p, t) b j hj
  · intro hl
    rw [← h] at hl ⊢
    exact flt_next a (p, t) b hup hl
  · rw [← h, flt_mid]
    simp

theorem dvSums_any (n : Int) (w : World) (hn : Dv n) :
    Calls Try.prog 71 #[.int .i64 n] w fun e w' => e = .returned (.tuple #[.int .i64 (sgL (pp n)), .int .i64 (ctL (pp n))]) ∧ Below w.heap.size w w' := by
  have HS := Lib.hid (fun (a b : List (Int × Nat)) (p : Int) (t : Nat) (h : a ++ (p, t) :: b = pp n) => stretch hn h)
  have HD := Lib.hid (fun w' => dvFactors_any n w' hn)
  have HLen := Lib.hid (fac_bd (n := n) (by have := hn.1; omega) hn.2).1
  have HF0 := Lib.hid (show fac n = flt (pp n) from rfl)
  obtain ⟨F, hF⟩ : ∃ F, F = fac n := ⟨_, rfl⟩
  rw [← hF] at HD HLen HF0
  have hlF : F.length ≤ 30 := by have := HLen.out; omega
  clear hF hn
  go_enter Try.func71, Try.ntmps71
  go_wp2_with fail
  refine (HD.out _).mono ?_
  rintro e w1 ⟨v, rfl, hr, hb⟩
  have HB := Lib.hid hb
  rcases hr.cases with ⟨rfl, hx⟩ | ⟨g, cap, rfl, hg0, hg1, hn1, hn2, hc, _⟩
  · have HE := Lib.hid (show pp n = [] by
      have h1 := HF0.out
      rw [hx] at h1
      cases hq : pp n with
      | nil => rfl
      | cons p t =>
        have h2 := (HS.out [] t p.1 p.2 (by rw [hq]; rfl)).2.2.1
        rw [hq, flt] at h1
        have h3 := congrArg List.length h1
        simp at h3
        omega)
    clear hr hb hx
    go_wp2
    refine wp_loop_rounds 1 ?_
    rw [rounds_succ]
    go_wp2
    go_ret2
    exact ⟨by rw [HE.out]; rfl, HB.out⟩
  · have HC := Lib.hid (show ∀ j, j < F.length → w1.cell? ⟨g, j, none⟩ = some (.int .i64 (F.getD j 0)) from fun j hj => by rw [hc j hj]; simp [hj])
    clear hr hb hc
    go_wp2
    go_loop [4, 5, 7] (fun s c i => ∃ (a b : List (Int × Nat)) (S C : Int) (L : Nat), i = .int .i64 (L : Int) ∧ s = .int .i64 S ∧ c = .int .i64 C ∧ Hid (a ++ b = pp n) ∧ Hid (S = sgL a) ∧ Hid (C = ctL a) ∧ Hid (L = (flt a).length) ∧ L ≤ F.length) (fun _ _ i => F.length - (intOf i).toNat)
    case atStart => exact ⟨[], pp n, 1, 1, 0, rfl, rfl, rfl, Lib.hid rfl, Lib.hid rfl, Lib.hid rfl, Lib.hid rfl, Nat.zero_le _⟩
    case round =>
      obtain ⟨a, b, S, C, L, rfl, rfl, rfl, HAB, HSa, HCa, HLa, hLF⟩ := hrel
      cases b with
      | nil =>
        have ha : a = pp n := by have := HAB.out; simpa using this
        obtain rfl : L = F.length := by rw [HLa.out, HF0.out, ha]
        have HE1 := Lib.hid (show S = sgL (pp n) by rw [HSa.out, ha])
        have HE2 := Lib.hid (show C = ctL (pp n) by rw [HCa.out, ha])
        clear ha
        go_wp2
        go_ret2
        exact ⟨by rw [HE1.out, HE2.out]; rfl, HB.out⟩
      | cons q b =>
        obtain ⟨p, t⟩ := q
        obtain ⟨p0, p1, t0, t1, s1, pw1, a1, a2, m1, m2, e1, e2, f1, f2, hat, hnx, hle, hln, happ⟩ := HS.out a b p t HAB.out
        rw [← HF0.out, ← HLa.out] at hat hnx hle
        rw [← HLa.out] at hln
        rw [← HSa.out] at a1 m1 e1
        rw [← HCa.out] at a2 m2 e2
        have HAT := Lib.hid hat
        have HNX := Lib.hid hnx
        have HLN := Lib.hid hln
        have HAP := Lib.hid happ
        have HE1 := Lib.hid e1
        have HE2 := Lib.hid e2
        have HPW := Lib.hid pw1
        obtain ⟨z1, z2⟩ := hat 0 t0
        rw [Nat.add_zero] at z1 z2
        have c0 := HC.out L z2
        rw [z1] at c0
        obtain ⟨G, hG⟩ : ∃ G, G = sgP p t := ⟨_, rfl⟩
        rw [← hG] at m1 s1 HE1
        have HG := Lib.hid hG
        have g0 : 1 ≤ G := by rw [hG]; have h1 := (sgP_bd p0 t).1; have h2 := (pow_two_le p0 t).2; omega
        have hSG0 : 0 ≤ S * G := Int.mul_nonneg (by omega) (by omega)
        have hCT0 : 0 ≤ C * ((t : Int) + 1) := Int.mul_nonneg (by omega) (by omega)
        clear hat hnx hln happ e1 e2 pw1 z1 hG f1 f2
        go_wp2
        go_loop [7, 9, 10, 11] (fun i pw k pt => ∃ (j : Nat) (P Q : Int), j ≤ t ∧ i = .int .i64 ((L + j : Nat) : Int) ∧ pw = .int .i64 P ∧ k = .int .i64 (j : Int) ∧ pt = .int .i64 Q ∧ Hid (P = p ^ j) ∧ Hid (Q = sgP p j)) (fun _ _ k _ => t - (intOf k).toNat)
        case atStart => exact ⟨0, 1, 1, Nat.zero_le _, rfl, rfl, rfl, rfl, Lib.hid (by simp), Lib.hid rfl⟩
        case round =>
          obtain ⟨j, P, Q, hj, rfl, rfl, rfl, rfl, HPj, HQj⟩ := hrel
          obtain ⟨I, hI⟩ : ∃ I, I = L + j := ⟨_, rfl⟩
          rw [← hI]
          have HI := Lib.hid hI
          by_cases hlt : j < t
          · obtain ⟨u1, u2⟩ := HAT.out j hlt
            rw [← hI] at u1 u2
            have cj := HC.out I u2
            rw [u1] at cj
            have k1 := pow_le p0 (show j + 1 ≤ t by omega)
            have k2 := (pow_two_le p0 (j + 1)).2
            have k3 : P * p = p ^ (j + 1) := by rw [HPj.out, Int.pow_succ]
            have k4 : Q + P * p = sgP p (j + 1) := by rw [k3, HQj.out, sgP_more]
            have k5 := sgP_le p0 (show j + 1 ≤ t by omega)
            have k6 : 0 ≤ P * p := by omega
            have k7 : P * p ≤ 1000000000 := by have := HPW.out; omega
            have k8 : 1 ≤ Q := by rw [HQj.out]; have h1 := (sgP_bd p0 j).1; have h2 := (pow_two_le p0 j).2; omega
            have k9 : Q ≤ 2000000000 := by have h2 := sgP_le p0 (show j ≤ t by omega); have := HG.out; rw [HQj.out]; omega
            have HK3 := Lib.hid k3
            have HK4 := Lib.hid k4
            clear k1 k2 k3 k4 k5 u1 hI
            have hu2 : (I : Int) < (F.length : Int) := by omega
            go_wp2
            go_round
            case rel => exact ⟨j + 1, P * p, Q + P * p, by omega, by have := HI.out; first | (rw [this]; go_num) | go_num, by go_num, by go_num, by go_num, Lib.hid HK3.out, Lib.hid HK4.out⟩
            case measure => simp [intOf]; omega
          · obtain rfl : j = t := by omega
            have HQG : Q = G := by rw [HQj.out, HG.out]
            subst HQG
            by_cases hend : I < F.length
            · have cj := HC.out I hend
              have hne := HNX.out (by rw [← hI]; exact hend)
              rw [← hI] at hne
              obtain ⟨r, hr⟩ : ∃ r, r = F.getD I 0 := ⟨_, rfl⟩
              rw [← hr] at cj hne
              have hne' : (r == p) = false := beq_no hne
              clear hr hne hI
              go_wp2
              go_round
              case rel => exact ⟨a ++ [(p, j)], b, S * Q, C * ((j : Int) + 1), I, by have := HI.out; first | rfl | go_num, by go_num, by go_num, Lib.hid HAP.out, Lib.hid HE1.out.symm, Lib.hid HE2.out.symm, Lib.hid (by rw [HLN.out]; exact HI.out), by omega⟩
              case measure => have := HI.out; simp [intOf]; omega
            · have hend' : I = F.length := by omega
              clear hend
              go_wp2
              go_round
              case rel => exact ⟨a ++ [(p, j)], b, S * Q, C * ((j : Int) + 1), I, by have := HI.out; first | rfl | go_num, by go_num, by go_num, Lib.hid HAP.out, Lib.hid HE1.out.symm, Lib.hid HE2.out.symm, Lib.hid (by rw [HLN.out]; exact HI.out), by omega⟩
              case measure => have := HI.out; simp [intOf]; omega

theorem dvProper_any (n : Int) (w : World) (hn : Dv n) :
    Calls Try.prog 69 #[.int .i64 n] w fun e w' => e = .returned (.int .i64 (prop n)) ∧ Below w.heap.size w w' := by
  obtain ⟨b1, b2, b3, b4⟩ := prop_bd (n := n) (by have := hn.1; omega) hn.2
  have HS := Lib.hid (fun w' => dvSums_any n w' hn)
  have HP := Lib.hid (show prop n = sgL (pp n) - n from rfl)
  obtain ⟨S, hS⟩ : ∃ S, S = sgL (pp n) := ⟨_, rfl⟩
  rw [← hS] at HS HP b3 b4
  obtain ⟨n0, n1⟩ := hn
  rw [HP.out]
  clear hS b1 b2
  go_enter Try.func69, Try.ntmps69
  go_wp2_with (go_at_call 71; refine (HS.out _).mono ?_; rintro e w3 ⟨rfl, hb3⟩; have HB3 := Lib.hid hb3; clear hb3)
  go_ret
  exact ⟨by first | rfl | go_num, HB3.out⟩

end Go.Proofs.Ytlpmfapjgmhbhaa
