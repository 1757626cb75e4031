/-
  The model's powers, power sums, and where numbers fall.
-/
import Derived.Test.YtjfcbelbpgmokaaUB
import Derived.Test.YtjfcbelbpgmokaaA
namespace Go.Proofs.Ytjfcbelbpgmokaa
open Go.RowKit
set_option linter.unusedVariables false
set_option linter.unusedSimpArgs false

theorem pwOf_any (x p : Nat) (w : World) (hx : x ≤ 15) (hp : p ≤ 8) :
    Calls Try.prog 59 #[.int .i64 (x : Int), .int .i64 (p : Int)] w fun e w' => e = .returned (.int .i64 ((x ^ p : Nat) : Int)) ∧ w = w' := by
  obtain ⟨z, hz⟩ : ∃ z, z = x ^ p := ⟨_, rfl⟩
  have HZ := Lib.hid hz
  rw [← hz]
  clear hz
  go_enter Try.func59, Try.ntmps59
  go_wp2
  go_loop [1, 5] (fun c o => ∃ r k t : Nat, r + k = p ∧ x ^ k = t ∧ c = .int .i64 (r : Int) ∧ o = .int .i64 (t : Int)) (fun c _ => (intOf c).toNat)
  case atStart => exact ⟨p, 0, 1, rfl, rfl, rfl, rfl⟩
  case round =>
    obtain ⟨r, k, t, hk, ht, rfl, rfl⟩ := hrel
    have HT := Lib.hid ht
    clear ht
    by_cases hlt : 0 < r
    · have hs : x ^ (k + 1) ≤ 2562890625 := pow_le8 hx (by omega)
      obtain ⟨s, hs2⟩ : ∃ s, s = t * x := ⟨_, rfl⟩
      have HS := Lib.hid (show x ^ (k + 1) = s by rw [Nat.pow_succ, HT.out, hs2])
      have hts : (t : Int) * (x : Int) = (s : Int) := by rw [hs2]; push_cast; rfl
      have hsb : s ≤ 2562890625 := by rw [← HS.out]; exact hs
      clear hs hs2
      go_wp2
      go_round
      case rel => exact ⟨r - 1, k + 1, s, by omega, HS.out, by go_num, by first | rfl | rw [hts]⟩
      case measure => simp [intOf]; omega
    · obtain rfl : r = 0 := by omega
      have HE := Lib.hid (show t = z by rw [HZ.out, ← HT.out]; congr 1; omega)
      go_wp2
      go_ret
      exact ⟨by rw [HE.out]; rfl, rfl⟩

theorem lim_step (x r t : Nat) : lim x (r + 1) t = if 1000000000000000000 / x < t then 1000000000000000000 else lim x r (t * x) := rfl
theorem lim_mul {x t : Nat} (hx : 1 ≤ x) (h : t ≤ 1000000000000000000 / x) : t * x ≤ 1000000000000000000 := by
  have := Nat.mul_le_mul_right x h
  have h2 := Nat.div_mul_le_self 1000000000000000000 x
  omega

theorem fsp_step (b p n last k : Nat) : fsp b p (n + 1) last k = fsp b p n (last + 1) (if lim b (last - 1) 1 ≤ last * (b - 1) ^ p then last + 1 else k) := rfl

theorem pwSum_any (n b p : Nat) (w : World) (hn : n ≤ 1000000000000) (hb : 2 ≤ b) (hb' : b ≤ 16) (hp' : p ≤ 8) :
    Calls Try.prog 54 #[.int .i64 (n : Int), .int .i64 (b : Int), .int .i64 (p : Int)] w fun e w' => e = .returned (.int .i64 ((ps b p n : Nat) : Int)) ∧ w = w' := by
  have hz : ((b : Int) == 0) = false := beq_no (by omega)
  have hbd := ps_le8 hb hb' hp' hn
  obtain ⟨z, hzz⟩ : ∃ z, z = ps b p n := ⟨_, rfl⟩
  have HZ := Lib.hid hzz
  rw [← hzz] at hbd ⊢
  clear hzz
  go_enter Try.func54, Try.ntmps54
  go_wp2
  go_loop [0, 7] (fun c s => ∃ m t : Nat, m ≤ n ∧ ps b p m + t = z ∧ c = .int .i64 (m : Int) ∧ s = .int .i64 (t : Int)) (fun c _ => (intOf c).toNat)
  case atStart => exact ⟨n, 0, Nat.le_refl _, by rw [HZ.out]; rfl, rfl, rfl⟩
  case round =>
    obtain ⟨m, t, hm, hs, rfl, rfl⟩ := hrel
    have HS := Lib.hid hs
    clear hs
    by_cases hlt : 0 < m
    · have HST := Lib.hid (ps_step (b := b) (n := m) p hb hlt)
      have hd := Nat.div_lt_self hlt (show 1 < b by omega)
      have hr := Nat.mod_lt m (show b > 0 by omega)
      obtain ⟨r, hr2⟩ : ∃ r, r = m % b := ⟨_, rfl⟩
      obtain ⟨q, hq⟩ : ∃ q, q = m / b := ⟨_, rfl⟩
      have HR := Lib.hid (show (m : Int) % (b : Int) = (r : Int) by rw [hr2]; exact (Int.natCast_emod m b).symm)
      have HQ := (show (m : Int) / (b : Int) = (q : Int) by rw [hq]; exact (Int.natCast_ediv m b).symm)
      rw [← hr2] at hr HST
      rw [← hq] at hd HST
      obtain ⟨u, hu⟩ : ∃ u, u = r ^ p := ⟨_, rfl⟩
      have hub : u ≤ z := by rw [hu]; have h1 := HST.out; have h2 := HS.out; omega
      have hub2 : t + u ≤ z := by rw [hu]; have h1 := HST.out; have h2 := HS.out; omega
      have HPW := Lib.hid (show ∀ w' : World, Calls Try.prog 59 #[.int .i64 ((m : Int) % (b : Int)), .int .i64 (p : Int)] w' fun e w'' => e = .returned (.int .i64 (u : Int)) ∧ w'' = w' from fun w' => by
        rw [HR.out]; exact (pwOf_any r p w' (by omega) hp').mono (fun e w'' h => ⟨by rw [h.1, hu], h.2.symm⟩))
      have HN := Lib.hid (show ps b p q + (t + u) = z by rw [hu]; have h1 := HST.out; have h2 := HS.out; omega)
      clear hu hr2 hq
      go_wp2_with (go_at_call 59; refine (HPW.out _).mono ?_; rintro e w1 ⟨rfl, rfl⟩)
      go_round
      case rel => exact ⟨q, t + u, by omega, HN.out, by first | rfl | rw [HQ], by go_num⟩
      case measure => (simp [intOf]; try omega)
    · obtain rfl : m = 0 := by omega
      have HE := Lib.hid (show t = z by have := HS.out; rw [ps_zero] at this; omega)
      go_wp2
      go_ret
      exact ⟨by rw [HE.out]; rfl, rfl⟩

end Go.Proofs.Ytjfcbelbpgmokaa
