/-
  The model's powers, power sums, and where numbers fall.
-/
import Derived.Test.YtnniiobiedfmoaaUB
import Derived.Test.YtnniiobiedfmoaaA
namespace Go.Proofs.Ytnniiobiedfmoaa
open Go.RowKit
set_option linter.unusedVariables false
set_option linter.unusedSimpArgs false

theorem pwOf_any (x p : Nat) (w : World) (hx : x ≤ 15) (hp : p ≤ 8) :
    Calls Try.prog 72 #[.int .i64 (x : Int), .int .i64 (p : Int)] w fun e w' => e = .returned (.int .i64 ((x ^ p : Nat) : Int)) ∧ w = w' := by
  obtain ⟨z, hz⟩ : ∃ z, z = x ^ p := ⟨_, rfl⟩
  have HZ := Lib.hid hz
  rw [← hz]
  clear hz
  go_enter Try.func72, Try.ntmps72
  go_wp2
  go_loop [1, 5] (fun c o => ∃ r k t : Nat, r + k = p ∧ x ^ k = t ∧ c = .int .i64 (r : Int) ∧ o = .int .i64 (t : Int)) (fun c _ => (intOf c).toNat)
  case atStart => exact ⟨p, 0, 1, rfl, rfl, rfl, rfl⟩
  case round =>
    obtain ⟨r, k, t, hk, ht, rfl, rfl⟩ := hrel
    have HT := Lib.hid ht
    clear ht
    by_cases hlt : 0 < r
    · have hs : x ^ (k + 1) ≤ 2562890625 := pow_le8 hx (by omega)
      obtain ⟨s, hs2⟩ : ∃ s, s = t * x := ⟨_, rfl⟩
      have HS := Lib.hid (show x ^ (k + 1) = s by rw [Nat.pow_succ, HT.out, hs2])
      have hts : (t : Int) * (x : Int) = (s : Int) := by rw [hs2]; push_cast; rfl
      have hsb : s ≤ 2562890625 := by rw [← HS.out]; exact hs
      clear hs hs2
      go_wp2
      go_round
      case rel => exact ⟨r - 1, k + 1, s, by omega, HS.out, by go_num, by first | rfl | rw [hts]⟩
      case measure => simp [intOf]; omega
    · obtain rfl : r = 0 := by omega
      have HE := Lib.hid (show t = z by rw [HZ.out, ← HT.out]; congr 1; omega)
      go_wp2
      go_ret
      exact ⟨by rw [HE.out]; rfl, rfl⟩

theorem lim_step (x r t : Nat) : lim x (r + 1) t = if 1000000000000000000 / x < t then 1000000000000000000 else lim x r (t * x) := rfl
theorem lim_mul {x t : Nat} (hx : 1 ≤ x) (h : t ≤ 1000000000000000000 / x) : t * x ≤ 1000000000000000000 := by
  have := Nat.mul_le_mul_right x h
  have h2 := Nat.div_mul_le_self 1000000000000000000 x
  omega

theorem pwLimited_any (x p : Nat) (w : World) (hx : 2 ≤ x) (hx' : x ≤ 16) (hp : p ≤ 100) :
    Calls Try.prog 85 #[.int .i64 (x : Int), .int .i64 (p : Int)] w fun e w' => ∃ t : Nat, t ≤ 1000000000000000000 ∧ lim x p 1 = t ∧ e = .returned (.int .i64 (t : Int)) ∧ w = w' := by
  have hz : ((x : Int) == 0) = false := beq_no (by omega)
  go_enter Try.func85, Try.ntmps85
  go_wp2
  go_loop [1, 5] (fun c o => ∃ r t : Nat, r ≤ p ∧ t ≤ 1000000000000000000 ∧ lim x r t = lim x p 1 ∧ c = .int .i64 (r : Int) ∧ o = .int .i64 (t : Int)) (fun c _ => (intOf c).toNat)
  case atStart => exact ⟨p, 1, Nat.le_refl _, by omega, rfl, rfl, rfl⟩
  case round =>
    obtain ⟨r, t, hr, ht, hl, rfl, rfl⟩ := hrel
    have HL := Lib.hid hl
    clear hl
    by_cases hlt : 0 < r
    · obtain ⟨q, hq⟩ : ∃ q, q + 1 = r := ⟨r - 1, by omega⟩
      subst hq
      obtain ⟨d, hd⟩ : ∃ d : Nat, d = 1000000000000000000 / x := ⟨_, rfl⟩
      have hdi : (1000000000000000000 : Int) / (x : Int) = (d : Int) := by rw [hd]; rfl
      have hd9 : d ≤ 1000000000000000000 := by rw [hd]; exact Nat.div_le_self _ _
      have HD := Lib.hid hd
      clear hd
      by_cases hgt : d < t
      · have HE := Lib.hid (show lim x p 1 = 1000000000000000000 by rw [← HL.out, lim_step, ← HD.out, if_pos hgt])
        have hgi : (d : Int) < (t : Int) := by omega
        go_wp2
        go_ret
        exact ⟨1000000000000000000, by omega, HE.out, rfl, rfl⟩
      · have hgi : ¬ (d : Int) < (t : Int) := by omega
        have HS := Lib.hid (show lim x q (t * x) = lim x p 1 by rw [← HL.out, lim_step, ← HD.out, if_neg hgt])
        have hb := lim_mul (x := x) (t := t) (by omega) (by rw [← HD.out]; omega)
        obtain ⟨s, hs⟩ : ∃ s, s = t * x := ⟨_, rfl⟩
        have hts : (t : Int) * (x : Int) = (s : Int) := by rw [hs]; push_cast; rfl
        rw [← hs] at hb HS
        clear hs
        go_wp2
        go_round
        case rel => exact ⟨q, s, by omega, hb, HS.out, by go_num, by first | rfl | rw [hts]⟩
        case measure => (simp [intOf]; try omega)
    · obtain rfl : r = 0 := by omega
      have HE := Lib.hid (show lim x p 1 = t by rw [← HL.out]; rfl)
      go_wp2
      go_ret
      exact ⟨t, ht, HE.out, rfl, rfl⟩

theorem fsp_step (b p n last k : Nat) : fsp b p (n + 1) last k = fsp b p n (last + 1) (if lim b (last - 1) 1 ≤ last * (b - 1) ^ p then last + 1 else k) := rfl

theorem pwFalls_any (b p : Nat) (w : World) (hb : 2 ≤ b) (hb' : b ≤ 16) (hp : 1 ≤ p) (hp' : p ≤ 8) :
    Calls Try.prog 59 #[.int .i64 (b : Int), .int .i64 (p : Int)] w fun e w' => e = .returned (.int .i64 ((ff b p : Nat) : Int)) ∧ w = w' := by
  have HF := Lib.hid (ff_spec hb hb' hp hp').2.2.2.2.2
  obtain ⟨u, hu⟩ : ∃ u, u = (b - 1) ^ p := ⟨_, rfl⟩
  have hub : u ≤ 2562890625 := by rw [hu]; exact pow_le8 (by omega) hp'
  have HU := Lib.hid hu
  have hb1 : (b : Int) - 1 = ((b - 1 : Nat) : Int) := by omega
  have HB1 := Lib.hid hb1
  have HPW := Lib.hid (show ∀ w' : World, Calls Try.prog 72 #[.int .i64 ((b : Int) - 1), .int .i64 (p : Int)] w' fun e w'' => e = .returned (.int .i64 (u : Int)) ∧ w'' = w' from fun w' => by
    rw [HB1.out]; exact (pwOf_any (b - 1) p w' (by omega) hp').mono (fun e w'' h => ⟨by rw [h.1, HU.out], h.2.symm⟩))
  obtain ⟨z, hz⟩ : ∃ z, z = ff b p := ⟨_, rfl⟩
  rw [← hz] at HF ⊢
  clear hz hu hb1
  go_enter Try.func59, Try.ntmps59
  go_wp2
  go_loop [5, 6] (fun kk c => ∃ m last k : Nat, m + last = 41 ∧ 1 ≤ last ∧ k ≤ 41 ∧ fsp b p m last k = z ∧ c = .int .i64 (last : Int) ∧ kk = .int .i64 (k : Int)) (fun _ c => 41 - (intOf c).toNat)
  case atStart => exact ⟨40, 1, 1, rfl, by omega, by omega, HF.out, rfl, rfl⟩
  case round =>
    obtain ⟨m, last, k, hm, hl1, hk, hf, rfl, rfl⟩ := hrel
    have HFF := Lib.hid hf
    clear hf
    by_cases hlt : last ≤ 40
    · obtain ⟨q, hq⟩ : ∃ q, q + 1 = m := ⟨m - 1, by omega⟩
      subst hq
      have hl0 : (last : Int) - 1 = ((last - 1 : Nat) : Int) := by omega
      have HL0 := Lib.hid hl0
      obtain ⟨s, hs⟩ : ∃ s, s = last * u := ⟨_, rfl⟩
      have hts : (last : Int) * (u : Int) = (s : Int) := by rw [hs]; push_cast; rfl
      have hsb : s ≤ 102515625000 := by rw [hs]; exact Nat.le_trans (Nat.mul_le_mul hlt hub) (by omega)
      have HST := Lib.hid (fsp_step b p q last k)
      rw [← HU.out, ← hs] at HST
      clear hl0 hs
      go_wp2_with (first | (go_at_call 72; refine (HPW.out _).mono ?_; rintro e w1 ⟨rfl, rfl⟩) | (go_at_call 85; rw [HL0.out]; refine (pwLimited_any b (last - 1) _ hb hb' (by omega)).mono ?_; rintro e w1 ⟨t, ht, hlim, rfl, rfl⟩; have HLIM := Lib.hid hlim; clear hlim))
      all_goals
        rw [HLIM.out] at HST
      · have HG := Lib.hid (show t ≤ s by omega)
        go_round
        case rel => exact ⟨q, last + 1, last + 1, by omega, by omega, by omega, by rw [← HFF.out, HST.out, if_pos HG.out], by go_num, by go_num⟩
        case measure => simp [intOf]; omega
      · have HG := Lib.hid (show ¬ t ≤ s by omega)
        go_round
        case rel => exact ⟨q, last + 1, k, by omega, by omega, by omega, by rw [← HFF.out, HST.out, if_neg HG.out], by go_num, rfl⟩
        case measure => simp [intOf]; omega
    · obtain rfl : m = 0 := by omega
      have HE := Lib.hid (show k = z from HFF.out)
      go_wp2
      go_ret
      exact ⟨by rw [HE.out]; rfl, rfl⟩

theorem pwGreatest_any (b p : Nat) (w : World) (hb : 2 ≤ b) (hb' : b ≤ 16) (hp : 1 ≤ p) (hp' : p ≤ 8) :
    Calls Try.prog 60 #[.int .i64 (b : Int), .int .i64 (p : Int)] w fun e w' => e = .returned (.int .i64 ((gs b p : Nat) : Int)) ∧ w = w' := by
  have h1 := (ff_spec hb hb' hp hp').1
  have h2 := (ff_spec hb hb' hp hp').2.1
  obtain ⟨u, hu⟩ : ∃ u, u = (b - 1) ^ p := ⟨_, rfl⟩
  have hub : u ≤ 2562890625 := by rw [hu]; exact pow_le8 (by omega) hp'
  have HU := Lib.hid hu
  have hb1 : (b : Int) - 1 = ((b - 1 : Nat) : Int) := by omega
  have HB1 := Lib.hid hb1
  have HPW := Lib.hid (show ∀ w' : World, Calls Try.prog 72 #[.int .i64 ((b : Int) - 1), .int .i64 (p : Int)] w' fun e w'' => e = .returned (.int .i64 (u : Int)) ∧ w'' = w' from fun w' => by
    rw [HB1.out]; exact (pwOf_any (b - 1) p w' (by omega) hp').mono (fun e w'' h => ⟨by rw [h.1, HU.out], h.2.symm⟩))
  have HFP := Lib.hid (show ∀ w' : World, Calls Try.prog 59 #[.int .i64 (b : Int), .int .i64 (p : Int)] w' fun e w'' => e = .returned (.int .i64 ((ff b p : Nat) : Int)) ∧ w'' = w' from fun w' => (pwFalls_any b p w' hb hb' hp hp').mono (fun e w'' h => ⟨h.1, h.2.symm⟩))
  obtain ⟨z, hz⟩ : ∃ z, z = ff b p := ⟨_, rfl⟩
  rw [← hz] at HFP h1 h2
  obtain ⟨s, hs⟩ : ∃ s, s = (z - 1) * u := ⟨_, rfl⟩
  have HG := Lib.hid (show gs b p = s by unfold gs; rw [← hz, ← hu, hs])
  have hts : ((z : Int) - 1) * (u : Int) = (s : Int) := by rw [hs, show (z : Int) - 1 = ((z - 1 : Nat) : Int) by omega]; push_cast; rfl
  have hsb : s ≤ 102515625000 := by rw [hs]; exact Nat.le_trans (Nat.mul_le_mul (show z - 1 ≤ 40 by omega) hub) (by omega)
  clear hz hu hb1 hs
  go_enter Try.func60, Try.ntmps60
  go_wp2_with (first | (go_at_call 72; refine (HPW.out _).mono ?_; rintro e w1 ⟨rfl, rfl⟩) | (go_at_call 59; refine (HFP.out _).mono ?_; rintro e w1 ⟨rfl, rfl⟩))
  go_ret
  exact ⟨by rw [HG.out]; first | rfl | rw [hts], rfl⟩

theorem pwSum_any (n b p : Nat) (w : World) (hn : n ≤ 1000000000000) (hb : 2 ≤ b) (hb' : b ≤ 16) (hp' : p ≤ 8) :
    Calls Try.prog 62 #[.int .i64 (n : Int), .int .i64 (b : Int), .int .i64 (p : Int)] w fun e w' => e = .returned (.int .i64 ((ps b p n : Nat) : Int)) ∧ w = w' := by
  have hz : ((b : Int) == 0) = false := beq_no (by omega)
  have hbd := ps_le8 hb hb' hp' hn
  obtain ⟨z, hzz⟩ : ∃ z, z = ps b p n := ⟨_, rfl⟩
  have HZ := Lib.hid hzz
  rw [← hzz] at hbd ⊢
  clear hzz
  go_enter Try.func62, Try.ntmps62
  go_wp2
  go_loop [0, 7] (fun c s => ∃ m t : Nat, m ≤ n ∧ ps b p m + t = z ∧ c = .int .i64 (m : Int) ∧ s = .int .i64 (t : Int)) (fun c _ => (intOf c).toNat)
  case atStart => exact ⟨n, 0, Nat.le_refl _, by rw [HZ.out]; rfl, rfl, rfl⟩
  case round =>
    obtain ⟨m, t, hm, hs, rfl, rfl⟩ := hrel
    have HS := Lib.hid hs
    clear hs
    by_cases hlt : 0 < m
    · have HST := Lib.hid (ps_step (b := b) (n := m) p hb hlt)
      have hd := Nat.div_lt_self hlt (show 1 < b by omega)
      have hr := Nat.mod_lt m (show b > 0 by omega)
      obtain ⟨r, hr2⟩ : ∃ r, r = m % b := ⟨_, rfl⟩
      obtain ⟨q, hq⟩ : ∃ q, q = m / b := ⟨_, rfl⟩
      have HR := Lib.hid (show (m : Int) % (b : Int) = (r : Int) by rw [hr2]; exact (Int.natCast_emod m b).symm)
      have HQ := (show (m : Int) / (b : Int) = (q : Int) by rw [hq]; exact (Int.natCast_ediv m b).symm)
      rw [← hr2] at hr HST
      rw [← hq] at hd HST
      obtain ⟨u, hu⟩ : ∃ u, u = r ^ p := ⟨_, rfl⟩
      have hub : u ≤ z := by rw [hu]; have h1 := HST.out; have h2 := HS.out; omega
      have hub2 : t + u ≤ z := by rw [hu]; have h1 := HST.out; have h2 := HS.out; omega
      have HPW := Lib.hid (show ∀ w' : World, Calls Try.prog 72 #[.int .i64 ((m : Int) % (b : Int)), .int .i64 (p : Int)] w' fun e w'' => e = .returned (.int .i64 (u : Int)) ∧ w'' = w' from fun w' => by
        rw [HR.out]; exact (pwOf_any r p w' (by omega) hp').mono (fun e w'' h => ⟨by rw [h.1, hu], h.2.symm⟩))
      have HN := Lib.hid (show ps b p q + (t + u) = z by rw [hu]; have h1 := HST.out; have h2 := HS.out; omega)
      clear hu hr2 hq
      go_wp2_with (go_at_call 72; refine (HPW.out _).mono ?_; rintro e w1 ⟨rfl, rfl⟩)
      go_round
      case rel => exact ⟨q, t + u, by omega, HN.out, by first | rfl | rw [HQ], by go_num⟩
      case measure => (simp [intOf]; try omega)
    · obtain rfl : m = 0 := by omega
      have HE := Lib.hid (show t = z by have := HS.out; rw [ps_zero] at this; omega)
      go_wp2
      go_ret
      exact ⟨by rw [HE.out]; rfl, rfl⟩

end Go.Proofs.Ytnniiobiedfmoaa
