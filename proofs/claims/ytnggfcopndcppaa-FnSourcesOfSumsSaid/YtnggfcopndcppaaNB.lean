/-
  The model's pairs, counts of sums of pairs.
-/
import Derived.Test.YtnggfcopndcppaaNA
import Derived.Test.YtnggfcopndcppaaTE
import Derived.Test.YtnggfcopndcppaaT
import Derived.Test.YtnggfcopndcppaaA
import Derived.Test.YtnggfcopndcppaaE
namespace Go.Proofs.Ytnggfcopndcppaa
open Go.RowKit
set_option linter.unusedVariables false
set_option linter.unusedSimpArgs false
set_option maxRecDepth 100000

theorem l1Least_i (a b : Int) (w : World) : Calls Try.prog 71 #[.int .i64 a, .int .i64 b] w fun e w' => e = .returned (.int .i64 (min a b)) ∧ w = w' := by
  by_cases h : a < b
  · have hm := Lib.hid (show min a b = a by omega)
    go_enter Try.func71, Try.ntmps71
    go_wp2
    go_ret
    exact ⟨ret_int hm.out.symm, rfl⟩
  · have hm := Lib.hid (show min a b = b by omega)
    go_enter Try.func71, Try.ntmps71
    go_wp2
    go_ret
    exact ⟨ret_int hm.out.symm, rfl⟩

theorem l1Most_i (a b : Int) (w : World) : Calls Try.prog 88 #[.int .i64 a, .int .i64 b] w fun e w' => e = .returned (.int .i64 (max a b)) ∧ w = w' := by
  by_cases h : b < a
  · have hm := Lib.hid (show max a b = a by omega)
    go_enter Try.func88, Try.ntmps88
    go_wp2
    go_ret
    exact ⟨ret_int hm.out.symm, rfl⟩
  · have hm := Lib.hid (show max a b = b by omega)
    go_enter Try.func88, Try.ntmps88
    go_wp2
    go_ret
    exact ⟨ret_int hm.out.symm, rfl⟩

theorem rvPair_any (s b least : Int) (w : World) (hb : 2 ≤ b) (hb' : b ≤ 16) (hs : 0 ≤ s) (hs' : s ≤ 2 * b - 2) (hl : 0 ≤ least) (hl' : least ≤ 1) :
    Calls Try.prog 104 #[.int .i64 s, .int .i64 b, .int .i64 least] w fun e w' => e = .returned (.int .i64 (prW b least s)) ∧ w = w' := by
  have HP := Lib.hid (show max 0 (min b (min (b - 1) s + 1) - max least (s - (b - 1))) = prW b least s by unfold prW; split <;> omega)
  go_enter Try.func104, Try.ntmps104
  go_wp2
  go_loop [7, 8] (fun c x => ∃ (y z : Int), c = .int .i64 z ∧ x = .int .i64 y ∧ least ≤ y ∧ y ≤ b ∧ 0 ≤ z ∧ z ≤ 16 ∧ z ≤ y ∧ Hid (z = max 0 (min y (min (b - 1) s + 1) - max least (s - (b - 1))))) (fun _ x => (16 - intOf x).toNat)
  case atStart => exact ⟨least, 0, rfl, rfl, by omega, by omega, by omega, by omega, by omega, Lib.hid (by omega)⟩
  case round =>
    obtain ⟨y, z, rfl, rfl, y0, y1, z0, z1, z2, HZ⟩ := hrel
    by_cases hlt : y < b
    · by_cases hin : 0 ≤ s - y ∧ s - y ≤ b - 1
      · have HN := Lib.hid (show z + 1 = max 0 (min (y + 1) (min (b - 1) s + 1) - max least (s - (b - 1))) by have := HZ.out; omega)
        obtain ⟨i0, i1⟩ := hin
        go_wp2_with (go_at_call 82; refine (l1In_yes _ _ _ _ i0 i1).mono ?_; rintro e w1 ⟨rfl, rfl⟩)
        go_round
        case rel => exact ⟨y + 1, z + 1, by go_num, by go_num, by omega, by omega, by omega, by omega, by omega, HN⟩
        case measure => simp [intOf]; omega
      · have HN := Lib.hid (show z = max 0 (min (y + 1) (min (b - 1) s + 1) - max least (s - (b - 1))) by have := HZ.out; omega)
        have hno : s - y < 0 ∨ b - 1 < s - y := by omega
        clear hin
        go_wp2_with (go_at_call 82; refine (l1In_no _ _ _ _ hno).mono ?_; rintro e w1 ⟨rfl, rfl⟩)
        go_round
        case rel => exact ⟨y + 1, z, rfl, by go_num, by omega, by omega, by omega, by omega, by omega, HN⟩
        case measure => simp [intOf]; omega
    · obtain rfl : y = b := by omega
      go_wp2
      go_ret
      exact ⟨ret_int (by rw [← HP.out]; exact HZ.out), rfl⟩

theorem cnt_pair {b l : Int} {w : Nat} {H : List Int} (i : Nat) (h : i < H.length) (hw : w - 2 * i = (w - 2 * (i + 1)) + 2) : cntH b (w - 2 * i) l (H.drop i) = prW b l H[i] * cntH b (w - 2 * (i + 1)) 0 (H.drop (i + 1)) := by
  rw [hw, List.drop_eq_getElem_cons h]; rfl

theorem pow_step16 {b : Int} (hb : 2 ≤ b) (hb' : b ≤ 16) {i : Nat} (hi : i ≤ 6) : b ^ i ≤ 16777216 := by
  have h : i = 0 ∨ i = 1 ∨ i = 2 ∨ i = 3 ∨ i = 4 ∨ i = 5 ∨ i = 6 := by omega
  have hc : b = 2 ∨ b = 3 ∨ b = 4 ∨ b = 5 ∨ b = 6 ∨ b = 7 ∨ b = 8 ∨ b = 9 ∨ b = 10 ∨ b = 11 ∨ b = 12 ∨ b = 13 ∨ b = 14 ∨ b = 15 ∨ b = 16 := by omega
  rcases h with rfl | rfl | rfl | rfl | rfl | rfl | rfl <;> rcases hc with rfl | rfl | rfl | rfl | rfl | rfl | rfl | rfl | rfl | rfl | rfl | rfl | rfl | rfl | rfl <;> decide

theorem rvCount_any (g c : Nat) (b : Int) (W : Nat) (H : List Int) (B : Nat) (w : World) (h : Rd w B (.slice (some ⟨g, 0, none⟩) W c) (fl W H)) (hH : RH b W H) (hW : 1 ≤ W) (hW' : W ≤ 12) (hb : 2 ≤ b) (hb' : b ≤ 16) :
    Calls Try.prog 86 #[.slice (some ⟨g, 0, none⟩) W c, .int .i64 b] w fun e w' => e = .returned (.int .i64 (cntH b W 1 H)) ∧ w = w' := by
  have HR := Lib.hid h.at.2.2.2.2.1
  have hlen := hH.len
  have HA := Lib.hid hH.all
  obtain ⟨K, hK⟩ : ∃ K, K = W / 2 := ⟨_, rfl⟩
  have hK1 : 2 * K ≤ W := by omega
  have hK2 : W ≤ 2 * K + 1 := by omega
  have hlen2 : H.length = W - K := by omega
  have hW2 : ((W : Int) / 2) = (K : Int) := by omega
  clear hK hlen
  obtain ⟨C, hC⟩ : ∃ C, C = cntH b W 1 H := ⟨_, rfl⟩
  have HC := Lib.hid hC
  rw [← hC]
  clear h hC
  go_enter Try.func86, Try.ntmps86
  go_wp2
  go_loop [6, 7] (fun x y => ∃ (i : Nat) (z : Int), y = .int .i64 (i : Int) ∧ x = .int .i64 z ∧ i ≤ K ∧ 0 ≤ z ∧ Hid (z ≤ b ^ i) ∧ z ≤ 16777216 ∧ Hid (z * cntH b (W - 2 * i) (if i = 0 then 1 else 0) (H.drop i) = C)) (fun _ y => (12 - intOf y).toNat)
  case atStart => exact ⟨0, 1, rfl, rfl, by omega, by omega, Lib.hid (by simp), by omega, Lib.hid (by rw [HC.out, Int.one_mul]; rfl)⟩
  case round =>
    obtain ⟨i, z, rfl, rfl, hi, z0, HB, z1, HZ⟩ := hrel
    by_cases hlt : i < K
    · have hih : i < H.length := by omega
      have hcell := HR.out i (by rw [fl_len]; omega)
      obtain ⟨s, hs⟩ : ∃ s, s = H[i] := ⟨_, rfl⟩
      rw [fl_at, show min i (W - 1 - i) = i by omega, List.getD_eq_getElem?_getD, List.getElem?_eq_getElem hih, Option.getD_some, ← hs] at hcell
      obtain ⟨s0, s1⟩ := HA.out s (by rw [hs]; exact List.getElem_mem hih)
      obtain ⟨l, hl⟩ : ∃ l : Int, l = if i = 0 then 1 else 0 := ⟨_, rfl⟩
      have l0 : 0 ≤ l := by rw [hl]; split <;> omega
      have l1 : l ≤ 1 := by rw [hl]; split <;> omega
      obtain ⟨p, hp⟩ : ∃ p, p = prW b l s := ⟨_, rfl⟩
      have p0 : 0 ≤ p := by rw [hp]; exact prW_nn _ _ _
      have p1 : p ≤ b := by rw [hp]; exact prW_le b l s hb l0
      obtain ⟨q, hq⟩ : ∃ q, z * p = q := ⟨_, rfl⟩
      have q0 : 0 ≤ q := by rw [← hq]; exact Int.mul_nonneg z0 p0
      have HQ := Lib.hid (show q ≤ b ^ (i + 1) by rw [← hq, Int.pow_succ]; exact Int.mul_le_mul HB.out p1 p0 (Int.pow_nonneg (by omega)))
      have q1 : q ≤ 16777216 := Int.le_trans HQ.out (pow_step16 hb hb' (by omega))
      have HN := Lib.hid (show q * cntH b (W - 2 * (i + 1)) (if i + 1 = 0 then 1 else 0) (H.drop (i + 1)) = C by
        have h1 := HZ.out
        rw [← hl, cnt_pair i hih (by omega), ← hs, ← hp, ← Int.mul_assoc, hq] at h1
        rw [if_neg (by omega)]; exact h1)
      have HP := Lib.hid hp
      have HLL := Lib.hid hl
      clear hp hs
      by_cases hz : i = 0
      · subst hz
        have hl1 : l = 1 := hl
        subst hl1
        clear hl
        go_wp2_with (go_at_call 104; go_loud (refine (rvPair_any s b 1 _ hb hb' s0 s1 (by omega) (by omega)).mono ?_; rw [← HP.out]; rintro e w1 ⟨rfl, rfl⟩))
        go_round
        case rel => exact ⟨1, q, rfl, by go_num, by omega, q0, HQ, q1, HN⟩
        case measure => simp [intOf]
      · have hl0 : l = 0 := by rw [hl, if_neg hz]
        subst hl0
        have hbe : ((i : Int) == 0) = false := beq_no (by omega)
        clear hl
        go_wp2_with (go_at_call 104; go_loud (refine (rvPair_any s b 0 _ hb hb' s0 s1 (by omega) (by omega)).mono ?_; rw [← HP.out]; rintro e w1 ⟨rfl, rfl⟩))
        go_round
        case rel => exact ⟨i + 1, q, by go_num, by go_num, by omega, q0, HQ, q1, HN⟩
        case measure => simp [intOf]; omega
    · obtain rfl : i = K := by omega
      by_cases hodd : W = 2 * i + 1
      · have hih : i < H.length := by omega
        have hw1 : W - 2 * i = 1 := by omega
        have hm1 : (W : Int) % 2 = 1 := by omega
        have hcell := HR.out i (by rw [fl_len]; omega)
        obtain ⟨s, hs⟩ : ∃ s, s = H[i] := ⟨_, rfl⟩
        rw [fl_at, show min i (W - 1 - i) = i by omega, List.getD_eq_getElem?_getD, List.getElem?_eq_getElem hih, Option.getD_some, ← hs] at hcell
        obtain ⟨s0, s1⟩ := HA.out s (by rw [hs]; exact List.getElem_mem hih)
        have HE := Lib.hid (show z * (if s % 2 = 0 ∧ (if i = 0 then (1:Int) else 0) ≤ s / 2 then 1 else 0) = C by
          have h1 := HZ.out
          rw [hw1, List.drop_eq_getElem_cons hih, ← hs] at h1
          exact h1)
        have hi2 : 2 * i < W := by omega
        clear hs hw1 hodd
        by_cases hs2 : s % 2 = 1
        · have HF := Lib.hid (show C = 0 by rw [← HE.out, if_neg (by omega), Int.mul_zero])
          go_wp2
          go_ret
          exact ⟨ret_int HF.out.symm, rfl⟩
        · have hs3 : s % 2 = 0 := by omega
          by_cases hw : W = 1
          · obtain rfl : i = 0 := by omega
            subst hw
            by_cases hz : s = 0
            · subst hz
              have HF := Lib.hid (show C = 0 by rw [← HE.out, if_neg (by simp), Int.mul_zero])
              go_wp2
              go_ret
              exact ⟨ret_int HF.out.symm, rfl⟩
            · have hbe : (s == 0) = false := beq_no hz
              have HF := Lib.hid (show C = z by rw [← HE.out, if_pos ⟨hs3, by simp; omega⟩, Int.mul_one])
              go_wp2
              go_ret
              exact ⟨ret_int HF.out.symm, rfl⟩
          · have hbe : ((W : Int) == 1) = false := beq_no (by omega)
            have hi0 : ¬ i = 0 := by omega
            have HF := Lib.hid (show C = z by rw [← HE.out, if_pos ⟨hs3, by rw [if_neg (by omega)]; omega⟩, Int.mul_one])
            go_wp2
            go_ret
            exact ⟨ret_int HF.out.symm, rfl⟩
      · have hm1 : (W : Int) % 2 = 0 := by omega
        have HF := Lib.hid (show C = z by
          have h1 := HZ.out
          rw [show W - 2 * i = 0 by omega] at h1
          rw [← h1]; simp [cntH])
        clear hodd
        go_wp2
        go_ret
        exact ⟨ret_int HF.out.symm, rfl⟩

end Go.Proofs.Ytnggfcopndcppaa
