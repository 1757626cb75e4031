/-
  What the law of divisors asks; the greatest common divisor.
-/
import Derived.Test.Ytlpmfapjgmhbhaa8Q
import Derived.Test.Ytlpmfapjgmhbhaa0V
import Derived.Test.Ytlpmfapjgmhbhaa0P
import Derived.Test.Ytlpmfapjgmhbhaa0C
import Derived.Test.Ytlpmfapjgmhbhaa0D
namespace Go.Proofs.Ytlpmfapjgmhbhaa
open Go.RowKit
set_option linter.unusedVariables false
set_option linter.unusedSimpArgs false
set_option maxRecDepth 100000

theorem pdL_pos : ∀ l : List Int, (∀ x ∈ l, 2 ≤ x) → 1 ≤ pdL l
  | [], _ => by simp [pdL]
  | x :: t, h => by
    have h1 := pdL_pos t (fun y hy => h y (by simp [hy]))
    have h2 := h x (by simp)
    have := Int.mul_le_mul h2 h1 (by omega) (by omega)
    rw [pdL]
    omega
/-- All that the law asks of the factors. -/
structure FacFacts (n : Int) (l : List Int) : Prop where
  len : l.length ≤ 40
  one : ∀ k, k < l.length → OK_PrimeFactors (l.getD k 0) = true ∧ LF_PrimeFactors (l.getD k 0) = [l.getD k 0] ∧ 2 ≤ l.getD k 0 ∧ l.getD k 0 ≤ 1000000000
  rise : ∀ k, k + 1 < l.length → l.getD k 0 ≤ l.getD (k + 1) 0
  bd : ∀ k, k ≤ l.length → 1 ≤ pdL (l.take k) ∧ pdL (l.take k) ≤ n
  step : ∀ k, k < l.length → pdL (l.take (k + 1)) = pdL (l.take k) * l.getD k 0
  all : pdL (l.take l.length) = n
theorem fac_facts {n : Int} (hn : Dv n) : FacFacts n (fac n) := by
  have hn0 : 0 < n := by have := hn.1; omega
  have hn1 := hn.2
  have hp := fac_prod hn0
  have hr := fac_rise hn0
  have hm : ∀ x ∈ fac n, fac x = [x] ∧ 2 ≤ x := fun x hx => fac_prime hn0 hx
  have hl := (fac_bd hn0 hn1).1
  obtain ⟨l, hl2⟩ : ∃ l, l = fac n := ⟨_, rfl⟩
  rw [← hl2] at hp hr hm hl ⊢
  have hbd : ∀ k, k ≤ l.length → 1 ≤ pdL (l.take k) ∧ pdL (l.take k) ≤ n := fun k hk => by
    have h1 := pdL_pos (l.take k) (fun x hx => (hm x (List.mem_of_mem_take hx)).2)
    have h2 := pdL_pos (l.drop k) (fun x hx => (hm x (List.mem_of_mem_drop hx)).2)
    have h3 : pdL (l.take k) * pdL (l.drop k) = n := by rw [← pdL_app, List.take_append_drop, hp]
    have := Int.mul_le_mul_of_nonneg_left h2 (show 0 ≤ pdL (l.take k) by omega)
    omega
  have hst : ∀ k, k < l.length → pdL (l.take (k + 1)) = pdL (l.take k) * l.getD k 0 := fun k hk => by
    have e : l.take (k + 1) = l.take k ++ [l[k]] := by rw [List.take_add_one, List.getElem?_eq_getElem hk]; rfl
    rw [e, pdL_app, getD_lt hk]
    simp [pdL]
  refine ⟨by omega, fun k hk => ?_, fun k hk => ?_, hbd, hst, by rw [List.take_length, hp]⟩
  · have h1 := hm l[k] (List.getElem_mem hk)
    have h2 := hbd (k + 1) (by omega)
    have h3 := hbd k (by omega)
    rw [hst k hk] at h2
    rw [getD_lt hk] at h2 ⊢
    have := Int.mul_le_mul_of_nonneg_right h3.1 (show 0 ≤ l[k] by omega)
    have hd : Dv l[k] := ⟨by omega, by omega⟩
    exact ⟨decide_eq_true hd, by unfold LF_PrimeFactors; rw [if_pos hd, h1.1], h1.2, hd.2⟩
  · rw [getD_lt hk, getD_lt (by omega)]
    exact List.pairwise_iff_getElem.1 hr k (k + 1) (by omega) hk (by omega)
theorem smT_bd {f : Int → Int} {B : Int} (hB : 0 ≤ B) : ∀ k : Nat, (∀ e : Nat, 1 ≤ e → e ≤ k → 0 ≤ f (e : Int) ∧ f (e : Int) ≤ B) → 0 ≤ smT f k ∧ smT f k ≤ k * B
  | 0, _ => by simp [smT]
  | k + 1, h => by
    have ih := smT_bd hB k (fun e a b => h e a (by omega))
    have h1 := h (k + 1) (by omega) (by omega)
    have e : ((k + 1 : Nat) : Int) * B = k * B + B := by rw [Int.natCast_add, Int.add_mul]; simp
    rw [smT, e]
    omega
theorem cop_gcd {n m : Int} (hn : 0 < n) (hm : 0 < m) (h : Nat.gcd n.toNat m.toNat = 1) : Cop n m := fun e he h1 h2 => by
  have d1 : e.toNat ∣ n.toNat := by
    have h6 := Int.dvd_of_emod_eq_zero h1
    rw [show n = ((n.toNat : Nat) : Int) by omega, show e = ((e.toNat : Nat) : Int) by omega] at h6
    exact Int.natCast_dvd_natCast.1 h6
  have d2 : e.toNat ∣ m.toNat := by
    have h6 := Int.dvd_of_emod_eq_zero h2
    rw [show m = ((m.toNat : Nat) : Int) by omega, show e = ((e.toNat : Nat) : Int) by omega] at h6
    exact Int.natCast_dvd_natCast.1 h6
  have := Nat.le_of_dvd (by omega) (Nat.dvd_gcd d1 d2)
  omega
theorem ct_bd {n : Int} (hn : 0 < n) (hn' : n ≤ 1000000000) : 0 ≤ ctN n ∧ ctN n ≤ 1000000000000000000 := by
  obtain ⟨l1, l2, l3, l4, l5⟩ := lists_bd (pp_two hn)
  rw [pp_val hn] at l4
  unfold ctN
  omega
theorem qGcd_any (a0 b0 : Nat) (w : World) (ha : a0 ≤ 1000000000) (hb : b0 ≤ 1000000000) :
    Calls Try.prog 46 #[.int .i64 (a0 : Int), .int .i64 (b0 : Int)] w fun e w' => e = .returned (.int .i64 (Nat.gcd a0 b0 : Int)) ∧ w' = w := by
  obtain ⟨G, hG⟩ : ∃ G, G = Nat.gcd a0 b0 := ⟨_, rfl⟩
  have HG := Lib.hid hG
  rw [← hG]
  clear hG
  go_enter Try.func46, Try.ntmps46
  go_wp2
  go_loopw [0, 1] (fun a b wr => ∃ A B : Nat, a = .int .i64 (A : Int) ∧ b = .int .i64 (B : Int) ∧ A ≤ 1000000000 ∧ B ≤ 1000000000 ∧ G = Nat.gcd A B ∧ wr = w) (fun _ b _ => (intOf b).toNat)
  case atStart => exact ⟨a0, b0, rfl, rfl, ha, hb, HG.out, rfl⟩
  case round =>
    obtain ⟨A, B, rfl, rfl, hA, hB, hg, rfl⟩ := hrel
    have HGG := Lib.hid hg
    clear hg
    by_cases h0 : 0 < B
    · have hi : (0 : Int) < (B : Int) := by omega
      have hml := Nat.mod_lt A h0
      have hme : (A : Int) % (B : Int) = ((A % B : Nat) : Int) := rfl
      go_wp2
      go_roundw
      case rel => exact ⟨B, A % B, rfl, by first | rfl | go_num, hB, by omega, by rw [HGG.out, Nat.gcd_comm A B, Nat.gcd_rec B A, Nat.gcd_comm], by first | rfl | trivial⟩
      case measure => simp [intOf]; omega
    · obtain rfl : B = 0 := by omega
      have hGA : G = A := by rw [HGG.out, Nat.gcd_zero_right]
      subst hGA
      go_wp2
      go_ret
      exact ⟨rfl, rfl⟩

end Go.Proofs.Ytlpmfapjgmhbhaa
