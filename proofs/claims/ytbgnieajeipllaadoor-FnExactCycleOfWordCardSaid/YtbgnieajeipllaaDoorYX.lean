/-
  The fraction of a word: powers, greatest common divisors, the program's and the model's answers.
-/
import Derived.Test.YtbgnieajeipllaaDoorYW
namespace Go.Proofs.YtbgnieajeipllaaDoor
open Go.RowKit
set_option linter.unusedVariables false
set_option linter.unusedSimpArgs false
set_option maxRecDepth 100000

theorem pw_bd (x p : Nat) (hx : x ≤ 3) (hp : p ≤ 20) : x ^ p ≤ 3486784401 := Nat.le_trans (Nat.pow_le_pow_left hx p) (Nat.le_trans (Nat.pow_le_pow_right (by omega) hp) (by decide))

theorem pwOf_w (x p : Nat) (w : World) (hx : x ≤ 3) (hp : p ≤ 20) :
    Calls Tryd.prog 14 #[.int .i64 (x : Int), .int .i64 (p : Int)] w fun e w' => e = .returned (.int .i64 ((x ^ p : Nat) : Int)) ∧ w = w' := by
  obtain ⟨z, hz⟩ : ∃ z, z = x ^ p := ⟨_, rfl⟩
  have HZ := Lib.hid hz
  rw [← hz]
  clear hz
  go_enter Tryd.func14, Tryd.ntmps14
  go_wp2
  go_loop [1, 5] (fun c o => ∃ r k t : Nat, r + k = p ∧ x ^ k = t ∧ c = .int .i64 (r : Int) ∧ o = .int .i64 (t : Int)) (fun c _ => (intOf c).toNat)
  case atStart => exact ⟨p, 0, 1, rfl, rfl, rfl, rfl⟩
  case round =>
    obtain ⟨r, k, t, hk, ht, rfl, rfl⟩ := hrel
    have HT := Lib.hid ht
    clear ht
    by_cases hlt : 0 < r
    · have hs : x ^ (k + 1) ≤ 3486784401 := pw_bd x (k + 1) hx (by omega)
      obtain ⟨s, hs2⟩ : ∃ s, s = t * x := ⟨_, rfl⟩
      have HS := Lib.hid (show x ^ (k + 1) = s by rw [Nat.pow_succ, HT.out, hs2])
      have hts : (t : Int) * (x : Int) = (s : Int) := by rw [hs2]; push_cast; rfl
      have hsb : s ≤ 3486784401 := by rw [← HS.out]; exact hs
      clear hs hs2
      go_wp2
      go_round
      case rel => exact ⟨r - 1, k + 1, s, by omega, HS.out, by go_num, by first | rfl | rw [hts]⟩
      case measure => simp [intOf]; omega
    · obtain rfl : r = 0 := by omega
      have HE := Lib.hid (show t = z by rw [HZ.out, ← HT.out]; congr 1; omega)
      go_wp2
      go_ret
      exact ⟨by rw [HE.out]; rfl, rfl⟩

theorem mpGcd_w : ∀ (N b a : Nat) (w : World), b ≤ N → a ≤ 1000000000000000000 → b ≤ 1000000000000000000 →
    Calls Tryd.prog 15 #[.int .i64 (a : Int), .int .i64 (b : Int)] w fun e w' => e = .returned (.int .i64 ((Nat.gcd a b : Nat) : Int)) ∧ w = w' := by
  intro N
  induction N with
  | zero =>
    intro b a w hb ha hb2
    obtain rfl : b = 0 := by omega
    have HG := Lib.hid (Nat.gcd_zero_right a)
    go_enter Tryd.func15, Tryd.ntmps15
    go_wp2
    go_ret
    exact ⟨by rw [HG.out]; rfl, rfl⟩
  | succ N ih =>
    intro b a w hb ha hb2
    by_cases h0 : b = 0
    · have HG := Lib.hid (show Nat.gcd a b = a by rw [h0]; exact Nat.gcd_zero_right a)
      have hz : ((b : Int) == 0) = true := beq_yes (by omega)
      clear h0
      go_enter Tryd.func15, Tryd.ntmps15
      go_wp2
      go_ret
      exact ⟨by rw [HG.out]; rfl, rfl⟩
    · have hz : ((b : Int) == 0) = false := beq_no (by omega)
      have hlt := Nat.mod_lt a (show b > 0 by omega)
      have HG := Lib.hid (show Nat.gcd b (a % b) = Nat.gcd a b by rw [Nat.gcd_comm b, ← Nat.gcd_rec, Nat.gcd_comm])
      have IH := Lib.hid ih
      obtain ⟨r, hr⟩ : ∃ r, r = a % b := ⟨_, rfl⟩
      have HR := Lib.hid (show (a : Int) % (b : Int) = (r : Int) by omega)
      rw [← hr] at hlt HG
      clear hr ih h0
      go_enter Tryd.func15, Tryd.ntmps15
      go_wp2_with (go_at_call 15; rw [HR.out]; refine (IH.out r b _ (by omega) (by omega) (by omega)).mono ?_; rw [HG.out]; rintro e w2 ⟨rfl, rfl⟩)
      go_ret
      exact ⟨rfl, rfl⟩

theorem gcd_w (a b : Nat) (w : World) (ha : a ≤ 1000000000000000000) (hb : b ≤ 1000000000000000000) :
    Calls Tryd.prog 23 #[.int .i64 (a : Int), .int .i64 (b : Int)] w fun e w' => e = .returned (.int .i64 ((Nat.gcd a b : Nat) : Int)) ∧ Below w.heap.size w w' := by
  go_enter Tryd.func23, Tryd.ntmps23
  go_wp2
  go_loopw [0, 1] (fun x y wr => ∃ (c d : Nat), x = .int .i64 (c : Int) ∧ y = .int .i64 (d : Int) ∧ c ≤ 1000000000000000000 ∧ d ≤ 1000000000000000000 ∧ Nat.gcd c d = Nat.gcd a b ∧ Below w.heap.size w wr) (fun _ y _ => (intOf y).toNat)
  case atStart => exact ⟨a, b, rfl, rfl, ha, hb, rfl, Below.refl _ _⟩
  case round =>
    obtain ⟨c, d, rfl, rfl, hc, hd, hg, hb⟩ := hrel
    have HG := Lib.hid hg
    have HB := Lib.hid hb
    clear hg hb
    by_cases h0 : d = 0
    · have hz : ¬ (0 : Int) < (d : Int) := by omega
      have HE := Lib.hid (show c = Nat.gcd a b by rw [← HG.out, h0, Nat.gcd_zero_right])
      clear h0
      go_wp2
      go_ret
      exact ⟨by rw [← HE.out]; rfl, HB.out⟩
    · have hz : (0 : Int) < (d : Int) := by omega
      have hz2 : ((d : Int) == 0) = false := beq_no (by omega)
      have hlt := Nat.mod_lt c (show d > 0 by omega)
      have HG2 := Lib.hid (show Nat.gcd d (c % d) = Nat.gcd a b by rw [Nat.gcd_comm d, ← Nat.gcd_rec, Nat.gcd_comm, HG.out])
      obtain ⟨r, hr⟩ : ∃ r, r = c % d := ⟨_, rfl⟩
      have HR := Lib.hid (show (c : Int) % (d : Int) = (r : Int) by omega)
      rw [← hr] at hlt HG2
      clear hr h0
      go_wp2
      go_region
      all_goals
        go_wp2
        go_roundw
        case rel => exact ⟨d, r, rfl, by rw [HR.out], hd, by omega, HG2.out, HB.out.drew⟩
        case measure => simp [intOf, HR.out]; omega

theorem quo_pos (a g : Nat) : (a : Int).tdiv (g : Int) = ((a / g : Nat) : Int) := by
  rw [Int.tdiv_eq_ediv_of_nonneg (by omega)]; rfl
theorem quo_le (a g : Nat) (ha : a ≤ 1000000000000000000) : a / g ≤ 1000000000000000000 := Nat.le_trans (Nat.div_le_self a g) ha

theorem lowest_pos (a b : Nat) (w : World) (ha : a ≤ 1000000000000000000) (hb : b ≤ 1000000000000000000) (hb0 : 0 < b) :
    Calls Tryd.prog 17 #[.int .i64 (a : Int), .int .i64 (b : Int)] w fun e w' => e = .returned (.tuple #[.int .i64 ((a / Nat.gcd a b : Nat) : Int), .int .i64 ((b / Nat.gcd a b : Nat) : Int)]) ∧ Below w.heap.size w w' := by
  have HG := Lib.hid (fun w' => gcd_w a b w' ha hb)
  have hg0 : 0 < Nat.gcd a b := Nat.gcd_pos_of_pos_right a hb0
  have hgb : Nat.gcd a b ≤ 1000000000000000000 := Nat.le_trans (Nat.gcd_le_right a hb0) hb
  obtain ⟨g, hg⟩ : ∃ g, g = Nat.gcd a b := ⟨_, rfl⟩
  rw [← hg] at HG hg0 hgb ⊢
  clear hg
  have hq1 := quo_pos a g
  have hq2 := quo_pos b g
  have hl1 := quo_le a g ha
  have hl2 := quo_le b g hb
  obtain ⟨x, hx⟩ : ∃ x, x = a / g := ⟨_, rfl⟩
  obtain ⟨y, hy⟩ : ∃ y, y = b / g := ⟨_, rfl⟩
  rw [← hx] at hq1 hl1 ⊢
  rw [← hy] at hq2 hl2 ⊢
  clear hx hy
  have hmax : max (b : Int) (-(b : Int)) = (b : Int) := by omega
  have hlt : decide ((b : Int) < 0) = false := decide_eq_false (by omega)
  have hgz : ((g : Int) == 0) = false := beq_no (by omega)
  have hgn : ¬ (g : Int) = 0 := by omega
  go_enter Tryd.func17, Tryd.ntmps17
  go_wp2_with (go_at_call 23; refine (HG.out _).mono ?_; rintro e w1 ⟨rfl, hb⟩; have HB := Lib.hid hb; clear hb)
  go_region
  all_goals
    go_wp2
    go_ret2
    exact ⟨by first | rfl | go_num, by first | exact HB.out | exact HB.out.drew⟩

theorem lowest_neg (a b : Nat) (w : World) (ha : a ≤ 1000000000000000000) (hb : b ≤ 1000000000000000000) (hb0 : 0 < b) :
    Calls Tryd.prog 17 #[.int .i64 (a : Int), .int .i64 (-(b : Int))] w fun e w' => e = .returned (.tuple #[.int .i64 (-((a / Nat.gcd a b : Nat) : Int)), .int .i64 ((b / Nat.gcd a b : Nat) : Int)]) ∧ Below w.heap.size w w' := by
  have HG := Lib.hid (fun w' => gcd_w a b w' ha hb)
  have hg0 : 0 < Nat.gcd a b := Nat.gcd_pos_of_pos_right a hb0
  have hgb : Nat.gcd a b ≤ 1000000000000000000 := Nat.le_trans (Nat.gcd_le_right a hb0) hb
  obtain ⟨g, hg⟩ : ∃ g, g = Nat.gcd a b := ⟨_, rfl⟩
  rw [← hg] at HG hg0 hgb ⊢
  clear hg
  have hq1 : (a : Int).tdiv (-(g : Int)) = -((a / g : Nat) : Int) := by rw [Int.tdiv_neg, quo_pos]
  have hq2 : (-(b : Int)).tdiv (-(g : Int)) = ((b / g : Nat) : Int) := by rw [Int.tdiv_neg, Int.neg_tdiv, quo_pos]; omega
  have hl1 := quo_le a g ha
  have hl2 := quo_le b g hb
  obtain ⟨x, hx⟩ : ∃ x, x = a / g := ⟨_, rfl⟩
  obtain ⟨y, hy⟩ : ∃ y, y = b / g := ⟨_, rfl⟩
  rw [← hx] at hq1 hl1 ⊢
  rw [← hy] at hq2 hl2 ⊢
  clear hx hy
  have hmax : max (-(b : Int)) (b : Int) = (b : Int) := by omega
  have hlt : decide (-(b : Int) < 0) = true := decide_eq_true (by omega)
  have hlt2 : (0 : Int) < (b : Int) := by omega
  have hgz : (-(g : Int) == 0) = false := beq_no (by omega)
  have hgn : ¬ -(g : Int) = 0 := by omega
  have hgn2 : ¬ (g : Int) = 0 := by omega
  go_enter Tryd.func17, Tryd.ntmps17
  go_wp2_with (go_at_call 23; refine (HG.out _).mono ?_; rintro e w1 ⟨rfl, hb⟩; have HB := Lib.hid hb; clear hb)
  go_region
  all_goals
    go_wp2
    go_ret2
    exact ⟨by first | rfl | go_num, by first | exact HB.out | exact HB.out.drew⟩

theorem ones_take {l : List UInt8} {j : Nat} (h : j < l.length) : ones (l.take (j + 1)) = ones (l.take j) + (if l[j] = 49 then 1 else 0) := by
  rw [List.take_add_one, List.getElem?_eq_getElem h]
  unfold ones
  rw [List.count_append]
  simp only [Option.toList_some, List.count_singleton]
  by_cases e : l[j] = 49
  · simp [e]
  · have : (l[j] == 49) = false := by simpa using e
    simp [e]

theorem stOnes_any (s : ByteArray) (w : World) (hs : s.size ≤ 1000) :
    Calls Tryd.prog 13 #[.string s] w fun e w' => e = .returned (.int .i64 (ones s.data.toList : Nat)) ∧ w = w' := by
  have hsl : s.data.toList.length = s.size := by simp
  have HSL := Lib.hid hsl
  clear hsl
  obtain ⟨T, hT⟩ : ∃ T, T = ones s.data.toList := ⟨_, rfl⟩
  have HT := Lib.hid hT
  rw [← hT]
  clear hT
  go_enter Tryd.func13, Tryd.ntmps13
  go_wp2
  go_loop [3, 4] (fun o i => ∃ j t : Nat, j ≤ s.size ∧ i = .int .i64 (j : Int) ∧ o = .int .i64 (t : Int) ∧ Hid (t = ones (s.data.toList.take j)) ∧ t ≤ j) (fun _ i => s.size - (intOf i).toNat)
  case atStart => exact ⟨0, 0, Nat.zero_le _, rfl, rfl, Lib.hid rfl, Nat.le_refl _⟩
  case round =>
    obtain ⟨j, t, hj, rfl, rfl, HO, ht⟩ := hrel
    by_cases hlt : j < s.size
    · have hi := fun w => run_byte s j hlt w
      have HN := Lib.hid (ones_take (l := s.data.toList) (j := j) (by rw [HSL.out]; exact hlt))
      obtain ⟨c, hc⟩ : ∃ c, c = s.data.toList[j]'(by rw [HSL.out]; exact hlt) := ⟨_, rfl⟩
      rw [← hc] at hi HN
      clear hc
      by_cases h49 : c = 49
      · have hb : ((c.toNat : Int) == 49) = true := by rw [byte_eq 49 49 rfl]; exact decide_eq_true h49
        have HN2 := Lib.hid (show ones (s.data.toList.take (j + 1)) = t + 1 by rw [HN.out, if_pos h49, HO.out])
        clear h49
        go_wp2
        go_round
        case rel => exact ⟨j + 1, t + 1, by omega, by go_num, by go_num, Lib.hid HN2.out.symm, by omega⟩
        case measure => simp [intOf]; omega
      · have hb : ((c.toNat : Int) == 49) = false := by rw [byte_eq 49 49 rfl]; exact decide_eq_false h49
        have HN2 := Lib.hid (show ones (s.data.toList.take (j + 1)) = t by rw [HN.out, if_neg h49, HO.out]; rfl)
        clear h49
        go_wp2
        go_round
        case rel => exact ⟨j + 1, t, by omega, by go_num, rfl, Lib.hid HN2.out.symm, by omega⟩
        case measure => simp [intOf]; omega
    · obtain rfl : j = s.size := by omega
      have HE := Lib.hid (show t = T by rw [HO.out, HT.out, List.take_of_length_le (by rw [HSL.out]; exact Nat.le_refl _)])
      go_wp2
      go_ret
      exact ⟨by rw [HE.out]; rfl, rfl⟩


theorem l1Most_w (a b : Int) (w : World) : Calls Tryd.prog 22 #[.int .i64 a, .int .i64 b] w fun e w' => e = .returned (.int .i64 (max a b)) ∧ w = w' := by
  by_cases h : b < a
  · have hm : max a b = a := by omega
    rw [hm]
    go_enter Tryd.func22, Tryd.ntmps22
    go_wp2
    go_ret
    exact ⟨rfl, rfl⟩
  · have hm : max a b = b := by omega
    rw [hm]
    go_enter Tryd.func22, Tryd.ntmps22
    go_wp2
    go_ret
    exact ⟨rfl, rfl⟩

theorem l1Abs_pos (a : Int) (w : World) (h : 0 ≤ a) (h2 : a ≤ 1000000000000000000) : Calls Tryd.prog 16 #[.int .i64 a] w fun e w' => e = .returned (.int .i64 a) ∧ w = w' := by
  have hm : max a (-a) = a := by omega
  go_enter Tryd.func16, Tryd.ntmps16
  go_wp2_with (go_at_call 22; refine (l1Most_w _ _ _).mono ?_; rw [hm]; rintro e w1 ⟨rfl, rfl⟩)
  go_ret
  exact ⟨rfl, rfl⟩
theorem l1Abs_neg (a : Int) (w : World) (h : 0 ≤ a) (h2 : a ≤ 1000000000000000000) : Calls Tryd.prog 16 #[.int .i64 (-a)] w fun e w' => e = .returned (.int .i64 a) ∧ w = w' := by
  have hm : max (-a) a = a := by omega
  go_enter Tryd.func16, Tryd.ntmps16
  go_wp2_with (go_at_call 22; refine (l1Most_w _ _ _).mono ?_; rw [hm]; rintro e w1 ⟨rfl, rfl⟩)
  go_ret
  exact ⟨rfl, rfl⟩

end Go.Proofs.YtbgnieajeipllaaDoor
