/-
  The least number with a power sum: the model's search; answers.
-/
import Derived.Test.YtejehmplebjnmaaUT
import Derived.Test.YtejehmplebjnmaaUE
namespace Go.Proofs.Ytejehmplebjnmaa
open Go.RowKit
set_option linter.unusedVariables false
set_option linter.unusedSimpArgs false
set_option maxRecDepth 100000

def OKL (s b p : Int) : Bool := decide ((0 ≤ s ∧ s ≤ 2000) ∧ Bas b ∧ Pow p 8)
def V_LeastWithSum (s b p : Int) : Option Int := if OKL s b p = true then RLs b.toNat p.toNat s.toNat else none
abbrev R_LeastWithSum (s b p : Int) : Value := optRes (V_LeastWithSum s b p)

theorem l1Least_any (a b : Nat) (w : World) (ha : a ≤ 1000000000) (hb : b ≤ 1000000000) :
    Calls Try.prog 84 #[.int .i64 (a : Int), .int .i64 (b : Int)] w fun e w' => e = .returned (.int .i64 ((min a b : Nat) : Int)) ∧ w = w' := by
  by_cases h : a < b
  · have HM := Lib.hid (show min a b = a by omega)
    have hc : ((a : Nat) : Int) < ((b : Nat) : Int) := by omega
    go_enter Try.func84, Try.ntmps84
    go_wp2
    go_ret
    exact ⟨by rw [HM.out]; rfl, rfl⟩
  · have HM := Lib.hid (show min a b = b by omega)
    have hc : ¬ ((a : Nat) : Int) < ((b : Nat) : Int) := by omega
    go_enter Try.func84, Try.ntmps84
    go_wp2
    go_ret
    exact ⟨by rw [HM.out]; rfl, rfl⟩

theorem mn_le0 {F : Nat → Nat} {p s : Nat} : ∀ n, mn F p s n ≤ 1000000
  | 0 => Nat.le_refl _
  | n + 1 => by show min _ _ ≤ _; have := mn_le0 (F := F) (p := p) (s := s) n; omega

set_option maxHeartbeats 4000000 in
theorem spec_least_yes (S b p : Nat) (w : World) (hb : 2 ≤ b) (hb' : b ≤ 16) (hp : 1 ≤ p) (hp' : p ≤ 8) (hS : S ≤ 2000) :
    Calls Try.prog 49 #[.int .i64 (S : Int), .int .i64 (b : Int), .int .i64 (p : Int)] w fun e w' => e = .returned (optRes (RLs b p S)) ∧ Below w.heap.size w w' := by
  have a2 : decide (Bas (b : Int)) = true := decide_eq_true ⟨by omega, by omega⟩
  have a3 : decide (Pow (p : Int) 8) = true := decide_eq_true ⟨by omega, by omega⟩
  have m0 : (0 : Int) ≤ (S : Int) := by omega
  have m1 : (S : Int) ≤ 2000 := by omega
  have HPW := Lib.hid (show ∀ (d u : Nat) (w' : World), d ≤ 15 → u = d ^ p → Calls Try.prog 83 #[.int .i64 (d : Int), .int .i64 (p : Int)] w' fun e w'' => e = .returned (.int .i64 (u : Int)) ∧ w'' = w' from fun d u w' hd hu => by
    subst hu; exact (pwOf_any d p w' hd hp').mono (fun e w'' h => ⟨h.1, h.2.symm⟩))
  go_enter Try.func49, Try.ntmps49
  go_wp2_with (first | (go_at_call 67; refine (l1In_yes _ _ _ _ m0 m1).mono ?_; rintro e w1 ⟨rfl, rfl⟩) | (go_at_call 62; refine (dgBase_any _ _).mono ?_; rintro e w1 ⟨rfl, rfl⟩) | (go_at_call 52; refine (pwPower_any _ _ _).mono ?_; rintro e w1 ⟨rfl, rfl⟩))
  go_loopw [8, 9] (fun o i wr => ∃ (s : Nat) (u : Value), 1 ≤ s ∧ s ≤ S + 1 ∧ i = .int .i64 (s : Int) ∧ u = o ∧ Rd wr w.heap.size u (lst s (fw b p)) ∧ Below w.heap.size w wr) (fun _ i _ => S + 1 - (intOf i).toNat)
  case atStart => exact ⟨1, _, by omega, by omega, rfl, rfl, Rd.lit _ _, alloc_below _ _⟩
  case round =>
    obtain ⟨s, u, s1, sS, rfl, rfl, hr, hbl⟩ := hrel
    obtain ⟨gu, cu, rfl⟩ : ∃ gu cu, u = .slice (some ⟨gu, 0, none⟩) s cu := by
      rcases hr.cases with ⟨_, hx⟩ | ⟨gu, cu, hu, _⟩
      · have := congrArg List.length hx; rw [lst_len] at this; simp at this; omega
      · rw [lst_len] at hu; exact ⟨gu, cu, hu⟩
    have HR := Lib.hid hr
    have HB := Lib.hid hbl
    have hsz := hbl.size
    clear hr hbl
    by_cases hlt : s ≤ S
    · obtain ⟨D, hD⟩ : ∃ D, D = dm b p s := ⟨_, rfl⟩
      have HD := Lib.hid (dm_spec (b := b) (p := p) (s := s) hb)
      have HFE := Lib.hid (show mn (fw b p) p s D = fw b p s by
        obtain ⟨t, rfl⟩ : ∃ t, s = t + 1 := ⟨s - 1, by omega⟩
        rw [fw_succ, hD])
      rw [← hD] at HD
      have hDb : D < b := HD.out.1
      clear hD
      go_wp2
      go_loop [10, 11] (fun e i => ∃ n : Nat, n ≤ D ∧ i = .int .i64 ((n : Int) + 1) ∧ e = .int .i64 ((mn (fw b p) p s n : Nat) : Int)) (fun _ i => D + 1 - (intOf i).toNat)
      case atStart => exact ⟨0, Nat.zero_le _, rfl, rfl⟩
      case round =>
        obtain ⟨n, hn, rfl, rfl⟩ := hrel
        obtain ⟨d, hd⟩ : ∃ d, d = n + 1 := ⟨_, rfl⟩
        have hdi : (n : Int) + 1 = (d : Int) := by omega
        rw [hdi]
        have HDn := Lib.hid hd
        clear hdi
        obtain ⟨y, hy⟩ : ∃ y, y = mn (fw b p) p s n := ⟨_, rfl⟩
        have hyb : y ≤ 1000000 := by rw [hy]; exact mn_le0 n
        by_cases hlD : n < D
        · obtain ⟨q1, q2⟩ := HD.out.2.1 n hlD
          rw [← hd] at q1 q2
          obtain ⟨u, hu⟩ : ∃ u, u = d ^ p := ⟨_, rfl⟩
          have HU := Lib.hid (HPW.out d u · (by omega) hu)
          rw [← hu] at q2
          obtain ⟨q, hq⟩ : ∃ q, q = s - u := ⟨_, rfl⟩
          have hqi : (s : Int) - (u : Int) = (q : Int) := by omega
          have hu1 : 1 ≤ u := by rw [hu]; exact Nat.pow_pos (by omega)
          have hqs : q < s := by omega
          have hcq := HR.out.at.2.2.2.2.1 q (by rw [lst_len]; exact hqs)
          rw [lst_at] at hcq
          have HST := Lib.hid (show mn (fw b p) p s d = min y (1 + fw b p q) by rw [hd, hq, hu, hd, hy]; rfl)
          have hfb := fw_le p hb q
          obtain ⟨v, hv⟩ : ∃ v, v = fw b p q := ⟨_, rfl⟩
          rw [← hv] at hcq HST hfb
          rw [← hy]
          have hv1 : (1 : Int) + (v : Int) = ((1 + v : Nat) : Int) := by push_cast; rfl
          have HV1 := Lib.hid hv1
          clear hu hq hv hd hy hv1
          go_wp2_with (first | (go_at_call 83; refine (HU.out _).mono ?_; rintro e w1 ⟨rfl, rfl⟩) | (go_at_call 84; rw [HV1.out]; refine (l1Least_any y (1 + v) _ (by omega) (by omega)).mono ?_; rintro e w1 ⟨rfl, rfl⟩))
          go_round
          case rel => exact ⟨n + 1, by omega, vint (by have := HDn.out; omega), by rw [← HDn.out, HST.out]⟩
          case measure => have := HDn.out; simp [intOf]; omega
        · obtain rfl : n = D := by omega
          have hnot := HD.out.2.2
          rw [← hd] at hnot
          rw [← hy] at HFE ⊢
          have HR2 := Lib.hid (show lst s (fw b p) ++ [(y : Int)] = lst (s + 1) (fw b p) by rw [lst_succ, HFE.out])
          by_cases hdb : d < b
          · obtain ⟨u, hu⟩ : ∃ u, u = d ^ p := ⟨_, rfl⟩
            have HU := Lib.hid (HPW.out d u · (by omega) hu)
            rw [← hu] at hnot
            have hus : ¬ u ≤ s := fun h => hnot ⟨hdb, h⟩
            clear hnot hu hd hy
            go_wp2_with (first | (go_at_call 83; refine (HU.out _).mono ?_; rintro e w1 ⟨rfl, rfl⟩) | (at_builtin; refine wpList_appR rfl _ _ rfl w.heap.size w.heap.size _ _ (lst s (fw b p)) [(y : Int)] rfl rfl (HR.out.alloc _) (Rd.litB _ _ _ (by omega)) (by rw [lst_len]; simp; omega) (by simp; omega) ?_; intro v1 w4 hr1 hg1 hb1; have HR1 := Lib.hid hr1; have HB1 := Lib.hid ((HB.out.alloc (by omega) _).trans hb1); clear hr1 hg1 hb1))
            go_roundw
            case rel => exact ⟨s + 1, _, by omega, by omega, by go_num, rfl, by rw [← HR2.out]; exact HR1.out, HB1.out⟩
            case measure => simp [intOf]; omega
          · clear hnot hd hy
            go_wp2_with (at_builtin; refine wpList_appR rfl _ _ rfl w.heap.size w.heap.size _ _ (lst s (fw b p)) [(y : Int)] rfl rfl (HR.out.alloc _) (Rd.litB _ _ _ (by omega)) (by rw [lst_len]; simp; omega) (by simp; omega) ?_; intro v1 w4 hr1 hg1 hb1; have HR1 := Lib.hid hr1; have HB1 := Lib.hid ((HB.out.alloc (by omega) _).trans hb1); clear hr1 hg1 hb1)
            go_roundw
            case rel => exact ⟨s + 1, _, by omega, by omega, by go_num, rfl, by rw [← HR2.out]; exact HR1.out, HB1.out⟩
            case measure => simp [intOf]; omega
    · obtain ⟨K, hK⟩ : ∃ K, K = s := ⟨_, rfl⟩
      have hKS : s = S + 1 := by omega
      have hSs : S < s := by omega
      have hcS := HR.out.at.2.2.2.2.1 S (by rw [lst_len]; exact hSs)
      rw [lst_at] at hcS
      have hfS := fw_le p hb S
      by_cases hbig : 40 < fw b p S
      · have HRN := Lib.hid (RLs_big (p := p) hb hb' hS hbig)
        obtain ⟨v, hv⟩ : ∃ v, v = fw b p S := ⟨_, rfl⟩
        rw [← hv] at hcS hbig
        clear hv hK hKS hfS
        go_wp2
        go_ret2
        exact ⟨by rw [HRN.out]; rfl, HB.out⟩
      · obtain ⟨v, hv⟩ : ∃ v, v = fw b p S := ⟨_, rfl⟩
        rw [← hv] at hcS hbig hfS
        clear hv hK
        have HKS := Lib.hid hKS
        clear hKS
        go_wp2
        go_loopw [0, 12] (fun i a wq => ∃ (t m acc : Nat), t ≤ S ∧ fw b p t ≤ m ∧ acc ≤ 1000000000000 ∧ i = .int .i64 (t : Int) ∧ a = .int .i64 (acc : Int) ∧ Hid (numF (b : Int) (dgL b p m t) (acc : Int) = RLs b p S) ∧ Rd wq w.heap.size (.slice (some ⟨gu, 0, none⟩) s cu) (lst s (fw b p)) ∧ Below w.heap.size w wq) (fun i _ _ => (intOf i).toNat)
        case atStart => exact ⟨S, 2000, 0, Nat.le_refl _, by have := fw_le p hb S; omega, by omega, rfl, rfl, Lib.hid rfl, HR.out, HB.out⟩
        case round =>
          obtain ⟨t, m, acc, htS, hfm, hacc, rfl, rfl, HNF, hr, hbl⟩ := hrel
          have HRq := Lib.hid hr
          have HBq := Lib.hid hbl
          clear hr hbl
          by_cases ht0 : 0 < t
          · have hm1 : 1 ≤ m := by have := fw_pos (b := b) (p := p) (s := t) ht0; omega
            obtain ⟨m', rfl⟩ : ∃ m', m = m' + 1 := ⟨m - 1, by omega⟩
            have HFD := Lib.hid (fd_spec (p := p) hb ht0 (show t ≤ 2000 by omega))
            have HDS := Lib.hid (dgL_step (b := b) (p := p) (n := m') ht0)
            obtain ⟨d, hd⟩ : ∃ d, d = fd b p t := ⟨_, rfl⟩
            rw [← hd] at HFD HDS
            have hdb : d < b := HFD.out.2.1
            have hfwt := fw_pos (b := b) (p := p) (s := t) ht0
            have hfwt2 := fw_le p hb t
            obtain ⟨z, hz⟩ : ∃ z, z = fw b p t := ⟨_, rfl⟩
            have HZ := Lib.hid hz
            rw [← hz] at hfm hfwt hfwt2
            clear hd hz
            go_wp2
            go_loopw [13] (fun i wq => ∃ x : Nat, 1 ≤ x ∧ x ≤ d ∧ i = .int .i64 (x : Int) ∧ Rd wq w.heap.size (.slice (some ⟨gu, 0, none⟩) s cu) (lst s (fw b p)) ∧ Below w.heap.size w wq) (fun i _ => d - (intOf i).toNat)
            case atStart => exact ⟨1, by omega, HFD.out.1, rfl, HRq.out, HBq.out⟩
            case round =>
              obtain ⟨x, x1, xd, rfl, hr, hbl⟩ := hrel
              have HRy := Lib.hid hr
              have HBy := Lib.hid hbl
              clear hr hbl
              obtain ⟨u, hu⟩ : ∃ u, u = x ^ p := ⟨_, rfl⟩
              have HU := Lib.hid (HPW.out x u · (by omega) hu)
              have hu1 : 1 ≤ u := by rw [hu]; exact Nat.pow_pos (by omega)
              have hut : u ≤ t := by have h1 := Nat.pow_le_pow_left xd p; have h2 := HFD.out.2.2.1; rw [hu]; omega
              obtain ⟨q, hq⟩ : ∃ q, q = t - u := ⟨_, rfl⟩
              have hqi : (t : Int) - (u : Int) = (q : Int) := by omega
              have hqs : q < s := by omega
              have hts : t < s := by omega
              have hcq := HRy.out.at.2.2.2.2.1 q (by rw [lst_len]; exact hqs)
              rw [lst_at] at hcq
              have hct := HRy.out.at.2.2.2.2.1 t (by rw [lst_len]; exact hts)
              rw [lst_at, ← HZ.out] at hct
              have hfq := fw_le p hb q
              have HXF := Lib.hid (show x < d → fw b p q + 1 ≠ z by intro hx; rw [hq, hu, HZ.out]; exact HFD.out.2.2.2.2 x x1 hx)
              have HXE := Lib.hid (show x = d → fw b p q + 1 = z by intro hx; rw [hq, hu, hx, HZ.out]; exact HFD.out.2.2.2.1)
              have HQD := Lib.hid (show x = d → q = t - d ^ p by intro hx; rw [hq, hu, hx])
              obtain ⟨v, hv⟩ : ∃ v, v = fw b p q := ⟨_, rfl⟩
              rw [← hv] at hcq HXF HXE hfq
              have HVQ := Lib.hid hv
              have hz1 : (z : Int) - 1 = ((z - 1 : Nat) : Int) := by omega
              obtain ⟨z1, hz1'⟩ : ∃ z1, z1 = z - 1 := ⟨_, rfl⟩
              have hzz : (z : Int) - 1 = (z1 : Int) := by omega
              have hIq : (0 : Int) ≤ (q : Int) := by omega
              have hIqs : (q : Int) < (s : Int) := by omega
              have hIt : (0 : Int) ≤ (t : Int) := by omega
              have hIts : (t : Int) < (s : Int) := by omega
              have hwq : IntKind.i64.wrap (q : Int) = (q : Int) := IntWalk.i64_in _ (by omega)
              have hwz : IntKind.i64.wrap (z1 : Int) = (z1 : Int) := IntWalk.i64_in _ (by omega)
              by_cases hxd : x < d
              · have hne := HXF.out hxd
                have hbn : ((v : Int) != (z1 : Int)) = true := bne_yes (by omega)
                clear hu hq hv hz1 hne hz1'
                go_wp2
                go_quiet (first | (go_at_call 83; exact Calls.quiet_of_same (HU.out _)))
                go_wp2
                go_roundw
                case rel => exact ⟨x + 1, by omega, by omega, by go_num, HRy.out.drewN _, below_drewN' HBy.out _⟩
                case measure => simp [intOf]; omega
              · obtain rfl : x = d := by omega
                have hE := HXE.out rfl
                have HQE := Lib.hid (HQD.out rfl)
                have hbn : ((v : Int) != (z1 : Int)) = false := bne_no (by omega)
                have hma : acc * b ≤ 16000000000000 := by have := Nat.mul_le_mul hacc hb'; omega
                obtain ⟨r, hr⟩ : ∃ r, r = acc * b := ⟨_, rfl⟩
                have hri : (acc : Int) * (b : Int) = (r : Int) := by rw [hr]; push_cast; rfl
                rw [← hr] at hma
                obtain ⟨k, hk⟩ : ∃ k, k = r + x := ⟨_, rfl⟩
                have hki : (r : Int) + (x : Int) = (k : Int) := by omega
                have hfz : fw b p q ≤ m' := by rw [← HVQ.out]; omega
                have HNS := Lib.hid (show RLs b p S = if 1000000000000 < (k : Int) then none else numF (b : Int) (dgL b p m' q) (k : Int) by
                  rw [← HNF.out, HDS.out, HQE.out, numF, hri, hki])
                clear hu hq hv hz1 hE hz1' hr hk
                by_cases hgt : 1000000000000 < k
                · have hgi : (1000000000000 : Int) < (k : Int) := by omega
                  have HRN := Lib.hid (show RLs b p S = none by rw [HNS.out, if_pos hgi])
                  go_wp2
                  go_quiet (first | (go_at_call 83; exact Calls.quiet_of_same (HU.out _)))
                  go_wp2
                  go_ret2
                  exact ⟨by rw [HRN.out]; rfl, below_drewN' HBy.out _⟩
                · have hgi : ¬ (1000000000000 : Int) < (k : Int) := by omega
                  have HRN := Lib.hid (show numF (b : Int) (dgL b p m' q) (k : Int) = RLs b p S by rw [HNS.out, if_neg hgi])
                  go_wp2
                  go_quiet (first | (go_at_call 83; exact Calls.quiet_of_same (HU.out _)))
                  go_wp2_with (go_at_call 83; refine (HU.out _).mono ?_; rintro e w1 ⟨rfl, rfl⟩)
                  go_roundw
                  case rel => exact ⟨q, m', k, by omega, hfz, by omega, vint (by omega), by first | rfl | go_num, HRN, HRy.out.drewN _, below_drewN' HBy.out _⟩
                  case measure => simp [intOf]; omega
          · obtain rfl : t = 0 := by omega
            have HE := Lib.hid (show RLs b p S = some (acc : Int) by rw [← HNF.out, dgL_zero]; rfl)
            go_wp2
            go_ret2
            exact ⟨by rw [HE.out]; rfl, HBq.out⟩

theorem okl_cases (s b p : Int) : (OKL s b p = true ∧ ∃ S B P : Nat, s = (S : Int) ∧ b = (B : Int) ∧ p = (P : Int) ∧ S ≤ 2000 ∧ 2 ≤ B ∧ B ≤ 16 ∧ 1 ≤ P ∧ P ≤ 8) ∨ OKL s b p = false := by
  cases h : OKL s b p
  · exact .inr rfl
  · obtain ⟨h1, h2, h3⟩ := of_decide_eq_true h
    obtain ⟨h2a, h2b⟩ := h2
    obtain ⟨h3a, h3b⟩ := h3
    exact .inl ⟨rfl, s.toNat, b.toNat, p.toNat, by omega, by omega, by omega, by omega, by omega, by omega, by omega, by omega⟩

theorem spec_LeastWithSum (s b p : Int) (w : World) :
    Calls Try.prog 49 #[.int .i64 s, .int .i64 b, .int .i64 p] w fun e w' => e = .returned (R_LeastWithSum s b p) ∧ Below w.heap.size w w' := by
  rcases okl_cases s b p with ⟨hok, S, B, P, rfl, rfl, rfl, h1, h2, h3, h4, h5⟩ | hn
  · have HV : V_LeastWithSum (S : Int) (B : Int) (P : Int) = RLs B P S := by unfold V_LeastWithSum; rw [if_pos hok]; rfl
    unfold R_LeastWithSum
    rw [HV]
    exact spec_least_yes S B P w h2 h3 h4 h5 h1
  · have HV := Lib.hid (show V_LeastWithSum s b p = none by unfold V_LeastWithSum; rw [hn]; rfl)
    have hnot := of_decide_eq_false hn
    by_cases hs : 0 ≤ s ∧ s ≤ 2000
    · obtain ⟨m0, m1⟩ := hs
      by_cases hb : Bas b
      · have a2 : decide (Bas b) = true := decide_eq_true hb
        have a3 : decide (Pow p 8) = false := decide_eq_false (fun h => hnot ⟨⟨m0, m1⟩, hb, h⟩)
        clear hn hnot hb
        go_enter Try.func49, Try.ntmps49
        go_wp2_with (first | (go_at_call 67; refine (l1In_yes _ _ _ _ m0 m1).mono ?_; rintro e w1 ⟨rfl, rfl⟩) | (go_at_call 62; refine (dgBase_any _ _).mono ?_; rintro e w1 ⟨rfl, rfl⟩) | (go_at_call 52; refine (pwPower_any _ _ _).mono ?_; rintro e w1 ⟨rfl, rfl⟩))
        go_ret2
        exact ⟨by unfold R_LeastWithSum; rw [HV.out]; rfl, Below.refl _ _⟩
      · have a2 : decide (Bas b) = false := decide_eq_false hb
        clear hn hnot hb
        go_enter Try.func49, Try.ntmps49
        go_wp2_with (first | (go_at_call 67; refine (l1In_yes _ _ _ _ m0 m1).mono ?_; rintro e w1 ⟨rfl, rfl⟩) | (go_at_call 62; refine (dgBase_any _ _).mono ?_; rintro e w1 ⟨rfl, rfl⟩))
        go_ret2
        exact ⟨by unfold R_LeastWithSum; rw [HV.out]; rfl, Below.refl _ _⟩
    · have H := Lib.hid (show s < 0 ∨ 2000 < s by omega)
      clear hn hnot hs
      go_enter Try.func49, Try.ntmps49
      go_wp2_with (go_at_call 67; refine (l1In_no _ _ _ _ H.out).mono ?_; rintro e w1 ⟨rfl, rfl⟩)
      go_ret2
      exact ⟨by unfold R_LeastWithSum; rw [HV.out]; rfl, Below.refl _ _⟩

theorem impl_LeastWithSum (s b p : Int) (w : World) :
    Calls Try.prog 50 #[.int .i64 s, .int .i64 b, .int .i64 p] w fun e w' => e = .returned (R_LeastWithSum s b p) ∧ Below w.heap.size w w' := by
  rcases okl_cases s b p with ⟨hok, S, B, P, rfl, rfl, rfl, h1, h2, h3, h4, h5⟩ | hn
  · have HV := Lib.hid (show V_LeastWithSum (S : Int) (B : Int) (P : Int) = RLs B P S by unfold V_LeastWithSum; rw [if_pos hok]; rfl)
    have a2 : decide (Bas (B : Int)) = true := decide_eq_true ⟨by omega, by omega⟩
    have a3 : decide (Pow (P : Int) 8) = true := decide_eq_true ⟨by omega, by omega⟩
    have HLP := Lib.hid (fun (g c : Nat) (w' : World) (hT : Tp w' g B P) => leastP_any g c B P S w' hT h2 h3 h4 h5 h1)
    obtain ⟨o, ho⟩ : ∃ o, o = RLs B P S := ⟨_, rfl⟩
    rw [← ho] at HLP HV
    clear hok ho
    go_enter Try.func50, Try.ntmps50
    go_wp2_with (first | (go_at_call 55; refine (isBase_any _ _).mono ?_; rintro e w1 ⟨rfl, rfl⟩) | (go_at_call 56; refine (isPower_any _ _ _).mono ?_; rintro e w1 ⟨rfl, rfl⟩))
    refine (powersOf_any B P _ (by omega) (by omega) (by omega) (by omega)).mono ?_
    rintro e w1 ⟨g, c, rfl, hg, hT, hB⟩
    have HT := Lib.hid hT
    have HB := Lib.hid hB
    clear hg hT hB
    go_wp2_with fail
    refine (HLP.out g c _ HT.out).mono ?_
    rintro e w2 ⟨rfl, hb2⟩
    have HB2 := Lib.hid (Below.step HB.out HB.out.size hb2)
    clear hb2
    go_wp2
    go_ret2
    exact ⟨by unfold R_LeastWithSum; rw [HV.out]; rfl, HB2.out⟩
  · have HV := Lib.hid (show V_LeastWithSum s b p = none by unfold V_LeastWithSum; rw [hn]; rfl)
    have hnot := of_decide_eq_false hn
    by_cases h0 : s < 0
    · clear hn hnot
      go_enter Try.func50, Try.ntmps50
      go_wp2
      go_ret2
      exact ⟨by unfold R_LeastWithSum; rw [HV.out]; rfl, Below.refl _ _⟩
    · by_cases h1 : 2000 < s
      · clear hn hnot
        go_enter Try.func50, Try.ntmps50
        go_wp2
        go_ret2
        exact ⟨by unfold R_LeastWithSum; rw [HV.out]; rfl, Below.refl _ _⟩
      · by_cases hb : Bas b
        · have a2 : decide (Bas b) = true := decide_eq_true hb
          have a3 : decide (Pow p 8) = false := decide_eq_false (fun h => hnot ⟨by omega, hb, h⟩)
          clear hn hnot hb
          go_enter Try.func50, Try.ntmps50
          go_wp2_with (first | (go_at_call 55; refine (isBase_any _ _).mono ?_; rintro e w1 ⟨rfl, rfl⟩) | (go_at_call 56; refine (isPower_any _ _ _).mono ?_; rintro e w1 ⟨rfl, rfl⟩))
          go_ret2
          exact ⟨by unfold R_LeastWithSum; rw [HV.out]; rfl, Below.refl _ _⟩
        · have a2 : decide (Bas b) = false := decide_eq_false hb
          clear hn hnot hb
          go_enter Try.func50, Try.ntmps50
          go_wp2_with (go_at_call 55; refine (isBase_any _ _).mono ?_; rintro e w1 ⟨rfl, rfl⟩)
          go_ret2
          exact ⟨by unfold R_LeastWithSum; rw [HV.out]; rfl, Below.refl _ _⟩

end Go.Proofs.Ytejehmplebjnmaa
