/-
  The number of a word: the program's and the model's answers.
-/
import Derived.Test.YtbgnieajeipllaaDoorYU
namespace Go.Proofs.YtbgnieajeipllaaDoor
open Go.RowKit
set_option linter.unusedVariables false
set_option linter.unusedSimpArgs false
set_option maxRecDepth 100000

theorem nw_step {l : List UInt8} {j : Nat} (n : Int) (h : j < l.length) : nw (l.drop j) j n = nw (l.drop (j + 1)) (j + 1) (if let1 (shN j n) = l[j] then n else n + 2 ^ j) := by
  rw [List.drop_eq_getElem_cons h]; rfl
theorem nw_done {l : List UInt8} {j : Nat} (n : Int) (h : l.length ≤ j) : nw (l.drop j) j n = n := by
  rw [List.drop_eq_nil_of_le h]; rfl
theorem let1_iff {x : Int} {c : UInt8} (hc : isL c = true) : (let1 x = c) ↔ ((x % 2 = 1) ↔ c = 49) := by
  have hc2 : c = 48 ∨ c = 49 := by simpa [isL] using hc
  unfold let1
  by_cases hx : x % 2 = 0
  · rw [if_pos hx]
    rcases hc2 with rfl | rfl
    · simp; omega
    · simp; omega
  · rw [if_neg hx]
    rcases hc2 with rfl | rfl
    · simp; omega
    · simp; omega

theorem shN_up {k : Nat} {n : Int} (hk : k ≤ 21) (h : 1 ≤ n) (h2 : n ≤ 2097152) : 1 ≤ shN k n ∧ shN k n ≤ 10485765000 := by
  obtain ⟨a, b⟩ := shN_grow k n h
  obtain ⟨c, _, e, _⟩ := p32 k hk
  refine ⟨a, ?_⟩
  have h3 : (3 : Int) ^ k * (n + 1) ≤ (5000 * 2 ^ k) * 2097153 := Int.mul_le_mul c (by omega) (by omega) (by omega)
  have h4 : (2 : Int) ^ k * (shN k n + 1) ≤ 2 ^ k * 10485765000 := by
    have : (5000 * (2:Int) ^ k) * 2097153 = 2 ^ k * 10485765000 := by grind
    omega
  have h5 : shN k n + 1 ≤ 10485765000 := Int.le_of_mul_le_mul_left h4 (by omega)
  omega
theorem shs_up {n : Int} (h : 1 ≤ n) (h2 : n ≤ 2097152) : ∀ k : Nat, k ≤ 21 → shs k n = some (shL k n)
  | 0, _ => rfl
  | k + 1, hk => by
    have := shN_up (k := k) (by omega) h h2
    rw [shs_more, if_pos ⟨this.1, by omega⟩, shs_up h h2 k (by omega), shL_more]; rfl

theorem shortStep_w (n : Int) (w : World) (h0 : 1 ≤ n) (h1 : n ≤ 100000000000) :
    Calls Tryd.prog 21 #[.int .i64 n] w fun e w' => e = .returned (.int .i64 (sho n)) ∧ w = w' := shortStep_any n w (by omega) (by omega)

theorem numberOfWord_any (s : ByteArray) (w : World) (hs : s.size ≤ 20) (hA : s.data.toList.all isL = true) :
    Calls Tryd.prog 12 #[.string s] w fun e w' => e = .returned (.int .i64 (nw s.data.toList 0 1)) ∧ w = w' := by
  obtain ⟨l, hl⟩ : ∃ l, l = s.data.toList := ⟨_, rfl⟩
  have HLL := Lib.hid (show l.length = s.size by rw [hl, ba_size])
  have HL := Lib.hid hl
  have HAL := Lib.hid (show ∀ j (h : j < l.length), isL l[j] = true from fun j h => List.all_eq_true.1 (by rw [← hl] at hA; exact hA) _ (List.getElem_mem h))
  rw [← hl]
  obtain ⟨R, hR⟩ : ∃ R, R = nw l 0 1 := ⟨_, rfl⟩
  have HR := Lib.hid hR
  rw [← hR]
  clear hl hA hR
  go_enter Tryd.func12, Tryd.ntmps12
  go_wp2
  go_loop [3, 4, 5, 6, 11] (fun a b p q i => ∃ (j : Nat) (n B P Q : Int), j ≤ s.size ∧ i = .int .i64 (j : Int) ∧ a = .int .i64 n ∧ b = .int .i64 B ∧ p = .int .i64 P ∧ q = .int .i64 Q ∧ Hid (B = shN j n) ∧ Hid (P = 2 ^ j) ∧ Hid (Q = p3 j n) ∧ 1 ≤ n ∧ Hid (n ≤ P) ∧ Hid (nw (l.drop j) j n = R)) (fun _ _ _ _ i => s.size - (intOf i).toNat)
  case atStart => exact ⟨0, 1, 1, 1, 1, Nat.zero_le _, rfl, rfl, rfl, rfl, rfl, Lib.hid rfl, Lib.hid rfl, Lib.hid rfl, by omega, Lib.hid (Int.le_refl _), Lib.hid (by rw [HR.out]; rfl)⟩
  case round =>
    obtain ⟨j, n, B, P, Q, hj, rfl, rfl, rfl, rfl, rfl, HB, HP, HQ, hn, HNP, HE⟩ := hrel
    by_cases hlt : j < s.size
    · have hjl : j < l.length := by rw [HLL.out]; exact hlt
      have hi := fun w => run_byte s j hlt w
      have HC := Lib.hid (show s.data.toList[j]'(by rw [ba_size]; exact hlt) = l[j]'hjl by simp only [HL.out])
      rw [HC.out] at hi
      have HST := Lib.hid (nw_step n hjl)
      have HIL := Lib.hid (HAL.out j hjl)
      obtain ⟨c, hc⟩ : ∃ c, c = l[j]'hjl := ⟨_, rfl⟩
      rw [← hc] at hi HST HIL
      clear HC hc
      obtain ⟨pb1, pb2⟩ := p2_20 j (by omega)
      have hP0 : 1 ≤ P ∧ P ≤ 1048576 := by rw [HP.out]; omega
      have hnP : n ≤ P := HNP.out
      have hQ0 : 1 ≤ Q ∧ Q ≤ 10460353203 := by
        have h1 := p3_bd j n
        have h2 := (p32 j (by omega)).2.2.2
        rw [HQ.out]; omega
      have hB0 : 1 ≤ B ∧ B ≤ 5242885000 := by rw [HB.out]; exact shN_bd (by omega) hn (by omega)
      have hBo : Q % 2 = 1 := by rw [HQ.out]; exact p3_odd j n
      have h49 := byte_eq (c := c) 49 49 rfl
      have HLI := Lib.hid (let1_iff (x := B) HIL.out)
      have HP2 := Lib.hid (show P * 2 = 2 ^ (j + 1) by rw [HP.out, Int.pow_succ])
      by_cases e49 : c = 49
      · have hb : ((c.toNat : Int) == 49) = true := by rw [h49]; exact decide_eq_true e49
        have HC48 := Lib.hid (show let1 B = c ↔ B % 2 = 1 by rw [HLI.out]; exact ⟨fun h => h.2 e49, fun h => ⟨fun _ => e49, fun _ => h⟩⟩)
        by_cases hB : B % 2 = 1
        · have hbe : (B % 2 == 1) = true := beq_yes hB
          have HNX := Lib.hid (show nw (l.drop (j + 1)) (j + 1) n = R by rw [← HE.out, HST.out, if_pos (by rw [← HB.out]; exact HC48.out.2 hB)])
          have HQ3 := Lib.hid (show Q * 3 = p3 (j + 1) n by rw [p3_more, ← HB.out, if_neg (by omega), HQ.out])
          have HB3 := Lib.hid (show sho B = shN (j + 1) n by rw [shN_more, HB.out])
          clear h49 e49 pb1 pb2
          go_wp2_with (go_at_call 21; refine (shortStep_w _ _ (by omega) (by omega)).mono ?_; rintro e w1 ⟨rfl, rfl⟩)
          go_round
          case rel => exact ⟨j + 1, n, sho B, P * 2, Q * 3, by omega, by go_num, rfl, rfl, by go_num, by go_num, HB3, HP2, HQ3, hn, Lib.hid (by omega), HNX⟩
          case measure => simp [intOf]; omega
        · have hbe : (B % 2 == 1) = false := beq_no hB
          have HN2 := Lib.hid (shift1 j n)
          have HNX := Lib.hid (show nw (l.drop (j + 1)) (j + 1) (n + P) = R by rw [← HE.out, HST.out, if_neg (by rw [← HB.out]; exact fun h => hB (HC48.out.1 h)), HP.out])
          have HB3 := Lib.hid (show sho (B + Q) = shN (j + 1) (n + P) by rw [shN_more, HP.out, HN2.out.2.1, ← HB.out, ← HQ.out])
          have HQ3 := Lib.hid (show Q * 3 = p3 (j + 1) (n + P) by
            rw [p3_more, HP.out, HN2.out.2.2, HN2.out.2.1, ← HB.out, ← HQ.out, if_neg (by omega)])
          clear h49 e49 pb1 pb2
          go_wp2_with (go_at_call 21; refine (shortStep_w _ _ (by omega) (by omega)).mono ?_; rintro e w1 ⟨rfl, rfl⟩)
          go_round
          case rel => exact ⟨j + 1, n + P, sho (B + Q), P * 2, Q * 3, by omega, by go_num, by go_num, rfl, by go_num, by go_num, HB3, HP2, HQ3, by omega, Lib.hid (by omega), HNX⟩
          case measure => simp [intOf]; omega
      · have hb : ((c.toNat : Int) == 49) = false := by rw [h49]; exact decide_eq_false e49
        have HC48 := Lib.hid (show let1 B = c ↔ ¬ B % 2 = 1 by rw [HLI.out]; exact ⟨fun h hb => e49 (h.1 hb), fun h => ⟨fun hb => absurd hb h, fun h2 => absurd h2 e49⟩⟩)
        by_cases hB : B % 2 = 1
        · have hbe : (B % 2 == 1) = true := beq_yes hB
          have HN2 := Lib.hid (shift1 j n)
          have HNX := Lib.hid (show nw (l.drop (j + 1)) (j + 1) (n + P) = R by rw [← HE.out, HST.out, if_neg (by rw [← HB.out]; exact fun h => HC48.out.1 h hB), HP.out])
          have HB3 := Lib.hid (show sho (B + Q) = shN (j + 1) (n + P) by rw [shN_more, HP.out, HN2.out.2.1, ← HB.out, ← HQ.out])
          have HQ3 := Lib.hid (show Q = p3 (j + 1) (n + P) by
            rw [p3_more, HP.out, HN2.out.2.2, HN2.out.2.1, ← HB.out, ← HQ.out, if_pos (by omega), Int.mul_one])
          clear h49 e49 pb1 pb2
          go_wp2_with (go_at_call 21; refine (shortStep_w _ _ (by omega) (by omega)).mono ?_; rintro e w1 ⟨rfl, rfl⟩)
          go_round
          case rel => exact ⟨j + 1, n + P, sho (B + Q), P * 2, Q, by omega, by go_num, by go_num, rfl, by go_num, rfl, HB3, HP2, HQ3, by omega, Lib.hid (by omega), HNX⟩
          case measure => simp [intOf]; omega
        · have hbe : (B % 2 == 1) = false := beq_no hB
          have HNX := Lib.hid (show nw (l.drop (j + 1)) (j + 1) n = R by rw [← HE.out, HST.out, if_pos (by rw [← HB.out]; exact HC48.out.2 hB)])
          have HQ3 := Lib.hid (show Q = p3 (j + 1) n by rw [p3_more, ← HB.out, if_pos (by omega), HQ.out, Int.mul_one])
          have HB3 := Lib.hid (show sho B = shN (j + 1) n by rw [shN_more, HB.out])
          clear h49 e49 pb1 pb2
          go_wp2_with (go_at_call 21; refine (shortStep_w _ _ (by omega) (by omega)).mono ?_; rintro e w1 ⟨rfl, rfl⟩)
          go_round
          case rel => exact ⟨j + 1, n, sho B, P * 2, Q, by omega, by go_num, rfl, rfl, by go_num, rfl, HB3, HP2, HQ3, hn, Lib.hid (by omega), HNX⟩
          case measure => simp [intOf]; omega
    · have HD := Lib.hid (show n = R by rw [← HE.out, nw_done n (by rw [HLL.out]; omega)])
      go_wp2
      go_ret
      exact ⟨by rw [HD.out]; rfl, rfl⟩

end Go.Proofs.YtbgnieajeipllaaDoor
