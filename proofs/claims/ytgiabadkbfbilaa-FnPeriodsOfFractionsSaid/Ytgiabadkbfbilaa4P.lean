/-
  Periods of fractions: what the law asks, plain; the greatest common divisor that the law reckons.
-/
import Derived.Test.Ytgiabadkbfbilaa9E
import Derived.Test.Ytgiabadkbfbilaa05
namespace Go.Proofs.Ytgiabadkbfbilaa
open Go.RowKit
set_option linter.unusedVariables false
set_option linter.unusedSimpArgs false
set_option maxRecDepth 100000

theorem dig_again {a n b i : Nat} (hb : 0 < b) (hn : 0 < n) (ha : a < n) (hi : pB a n b ≤ i) : it (mb b n) (i + pA a n b) a = it (mb b n) i a := by
  obtain ⟨e1, e2⟩ := period_all hb hn ha
  have h := (late_back (mb_into (b := b) hn) ha).1
  rw [e1, e2] at h
  obtain ⟨c, rfl⟩ : ∃ c, i = pB a n b + c := ⟨i - pB a n b, by omega⟩
  rw [show pB a n b + c + pA a n b = c + (pB a n b + pA a n b) by omega, it_add, h, ← it_add, Nat.add_comm c]
theorem fdg_get {a n b k i : Nat} (h : i < k) : (fdg a n b k).getD i 0 = ((it (mb b n) i a * b / n : Nat) : Int) := by
  unfold fdg lst
  rw [List.getD_eq_getElem?_getD]
  simp [h]
theorem rpt_get {a n b j : Nat} (h : j < pA a n b) : (rpt a n b).getD j 0 = ((it (mb b n) (pB a n b + j) a * b / n : Nat) : Int) := by
  unfold rpt
  rw [List.getD_eq_getElem?_getD, List.getElem?_drop, ← List.getD_eq_getElem?_getD]
  exact fdg_get (by omega)
theorem per_coprime {a n b : Nat} (hn : 0 < n) (hg : Nat.gcd b n = 1) (ha : Nat.gcd a n = 1) : pB a n b = 0 ∧ pA a n b = ordN b n := by
  unfold pB pA
  have h : ¬ 1 < Nat.gcd n b := by rw [Nat.gcd_comm, hg]; omega
  rw [ha, Nat.div_one, rdC_end h, rdR_end h]
  exact ⟨rfl, rfl⟩
theorem mb_less {b n x : Nat} : x * (b % n) % n = mb b n x := by unfold mb; rw [Nat.mul_mod_mod]
theorem dig_lt {n b x : Nat} (hn : 0 < n) (hb : 0 < b) (hx : x < n) : x * b / n < b := by
  rw [Nat.div_lt_iff_lt_mul hn, Nat.mul_comm b n]
  exact Nat.mul_lt_mul_of_lt_of_le hx (Nat.le_refl b) hb

theorem qGcd_any (a b : Nat) (w : World) (ha : a ≤ 1000000000000000000) (hb : b ≤ 1000000000000000000) :
    Calls Try.prog 53 #[.int .i64 (a : Int), .int .i64 (b : Int)] w fun e w' => e = .returned (.int .i64 ((Nat.gcd a b : Nat) : Int)) ∧ Below w.heap.size w w' := by
  go_enter Try.func53, Try.ntmps53
  go_wp2
  go_loopw [0, 1] (fun x y wr => ∃ (c d : Nat), x = .int .i64 (c : Int) ∧ y = .int .i64 (d : Int) ∧ c ≤ 1000000000000000000 ∧ d ≤ 1000000000000000000 ∧ Nat.gcd c d = Nat.gcd a b ∧ Below w.heap.size w wr) (fun _ y _ => (intOf y).toNat)
  case atStart => exact ⟨a, b, rfl, rfl, ha, hb, rfl, Below.refl _ _⟩
  case round =>
    obtain ⟨c, d, rfl, rfl, hc, hd, hg, hb⟩ := hrel
    have HG := Lib.hid hg
    have HB := Lib.hid hb
    clear hg hb
    by_cases h0 : d = 0
    · have hz : ¬ (0 : Int) < (d : Int) := by omega
      have HE := Lib.hid (show c = Nat.gcd a b by rw [← HG.out, h0, Nat.gcd_zero_right])
      clear h0
      go_wp2
      go_ret
      exact ⟨by rw [← HE.out]; rfl, HB.out⟩
    · have hz : (0 : Int) < (d : Int) := by omega
      have hz2 : ((d : Int) == 0) = false := beq_no (by omega)
      have hlt := Nat.mod_lt c (show d > 0 by omega)
      have HG2 := Lib.hid (show Nat.gcd d (c % d) = Nat.gcd a b by rw [Nat.gcd_comm d, ← Nat.gcd_rec, Nat.gcd_comm, HG.out])
      obtain ⟨r, hr⟩ : ∃ r, r = c % d := ⟨_, rfl⟩
      have HR := Lib.hid (show (c : Int) % (d : Int) = (r : Int) by omega)
      rw [← hr] at hlt HG2
      clear hr h0
      go_wp2
      go_roundw
      case rel => exact ⟨d, r, rfl, by rw [HR.out], hd, by omega, HG2.out, HB.out⟩
      case measure => simp [intOf, HR.out]; omega

theorem sl_lies {w : World} {v : Value} {xs : List Int} (h : Sl w v xs) (h0 : 0 < xs.length) : ∃ b o cap, v = .slice (some ⟨b, o, none⟩) xs.length cap ∧ b < w.heap.size ∧ ∀ j, j < xs.length → w.cell? ⟨b, o + j, none⟩ = some (.int .i64 (xs.getD j 0)) := by
  obtain ⟨a, cap, rfl, hx⟩ := h
  rcases hx with hx | ⟨b, off, rfl, hbl, hc⟩
  · rw [hx] at h0; simp at h0
  · refine ⟨b, off, cap, rfl, hbl, fun j hj => ?_⟩
    rw [hc j hj, List.getD_eq_getElem?_getD, List.getElem?_eq_getElem hj]
    rfl
theorem ord_at {n b : Nat} (hb : 2 ≤ b) (hb' : b ≤ 16) (hn : 0 < n) (hn2 : n ≤ 2000) : ROrd (n : Int) (b : Int) = if Nat.gcd b n = 1 then some ((ordN b n : Nat) : Int) else none := by
  unfold ROrd
  by_cases h : Nat.gcd b n = 1
  · rw [if_pos h, if_pos ⟨⟨by omega, by omega⟩, ⟨by omega, by omega⟩, by simpa using h⟩]
    rfl
  · rw [if_neg h, if_neg (fun c => h (by simpa using c.2.2))]
theorem per_at {a n b : Nat} (hb : 2 ≤ b) (hb' : b ≤ 16) (hn : 0 < n) (hn2 : n ≤ 2000) (ha : a < n) : RPer (a : Int) (n : Int) (b : Int) = some (((pB a n b : Nat) : Int), ((pA a n b : Nat) : Int)) := by
  unfold RPer
  rw [if_pos ⟨⟨by omega, by omega⟩, ⟨by omega, by omega⟩, by omega, by omega⟩]
  rfl
end Go.Proofs.Ytgiabadkbfbilaa
