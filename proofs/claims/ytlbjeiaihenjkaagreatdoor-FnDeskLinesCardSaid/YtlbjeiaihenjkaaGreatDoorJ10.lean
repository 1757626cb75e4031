/-
  Joint text of YV, YW, YP: what each proves stands ahead of it.
-/
import Derived.Test.YtlbjeiaihenjkaaGreatDoorJ09
import Derived.Test.YtlbjeiaihenjkaaGreatDoorJ08
/- from YV: The number of a word: the program's and the model's answers.  -/
namespace Go.Proofs.YtlbjeiaihenjkaaGreatDoor
open Go.RowKit
set_option linter.unusedVariables false
set_option linter.unusedSimpArgs false
set_option maxRecDepth 100000

theorem nw_step {l : List UInt8} {j : Nat} (n : Int) (h : j < l.length) : nw (l.drop j) j n = nw (l.drop (j + 1)) (j + 1) (if let1 (shN j n) = l[j] then n else n + 2 ^ j) := by
  rw [List.drop_eq_getElem_cons h]; rfl
theorem nw_done {l : List UInt8} {j : Nat} (n : Int) (h : l.length ≤ j) : nw (l.drop j) j n = n := by
  rw [List.drop_eq_nil_of_le h]; rfl
theorem let1_iff {x : Int} {c : UInt8} (hc : isL c = true) : (let1 x = c) ↔ ((x % 2 = 1) ↔ c = 49) := by
  have hc2 : c = 48 ∨ c = 49 := by simpa [isL] using hc
  unfold let1
  by_cases hx : x % 2 = 0
  · rw [if_pos hx]
    rcases hc2 with rfl | rfl
    · simp; omega
    · simp; omega
  · rw [if_neg hx]
    rcases hc2 with rfl | rfl
    · simp; omega
    · simp; omega

theorem shN_up {k : Nat} {n : Int} (hk : k ≤ 21) (h : 1 ≤ n) (h2 : n ≤ 2097152) : 1 ≤ shN k n ∧ shN k n ≤ 10485765000 := by
  obtain ⟨a, b⟩ := shN_grow k n h
  obtain ⟨c, _, e, _⟩ := p32 k hk
  refine ⟨a, ?_⟩
  have h3 : (3 : Int) ^ k * (n + 1) ≤ (5000 * 2 ^ k) * 2097153 := Int.mul_le_mul c (by omega) (by omega) (by omega)
  have h4 : (2 : Int) ^ k * (shN k n + 1) ≤ 2 ^ k * 10485765000 := by
    have : (5000 * (2:Int) ^ k) * 2097153 = 2 ^ k * 10485765000 := by grind
    omega
  have h5 : shN k n + 1 ≤ 10485765000 := Int.le_of_mul_le_mul_left h4 (by omega)
  omega
theorem shs_up {n : Int} (h : 1 ≤ n) (h2 : n ≤ 2097152) : ∀ k : Nat, k ≤ 21 → shs k n = some (shL k n)
  | 0, _ => rfl
  | k + 1, hk => by
    have := shN_up (k := k) (by omega) h h2
    rw [shs_more, if_pos ⟨this.1, by omega⟩, shs_up h h2 k (by omega), shL_more]; rfl

theorem shortStep_w (n : Int) (w : World) (h0 : 1 ≤ n) (h1 : n ≤ 100000000000) :
    Calls Tryz.prog 173 #[.int .i64 n] w fun e w' => e = .returned (.int .i64 (sho n)) ∧ w = w' := shortStep_any n w (by omega) (by omega)

theorem numberOfWord_any (s : ByteArray) (w : World) (hs : s.size ≤ 20) (hA : s.data.toList.all isL = true) :
    Calls Tryz.prog 241 #[.string s] w fun e w' => e = .returned (.int .i64 (nw s.data.toList 0 1)) ∧ w = w' := by
  obtain ⟨l, hl⟩ : ∃ l, l = s.data.toList := ⟨_, rfl⟩
  have HLL := Lib.hid (show l.length = s.size by rw [hl, ba_size])
  have HL := Lib.hid hl
  have HAL := Lib.hid (show ∀ j (h : j < l.length), isL l[j] = true from fun j h => List.all_eq_true.1 (by rw [← hl] at hA; exact hA) _ (List.getElem_mem h))
  rw [← hl]
  obtain ⟨R, hR⟩ : ∃ R, R = nw l 0 1 := ⟨_, rfl⟩
  have HR := Lib.hid hR
  rw [← hR]
  clear hl hA hR
  go_enter Tryz.func241, Tryz.ntmps241
  go_wp2
  go_loop [3, 4, 5, 6, 11] (fun a b p q i => ∃ (j : Nat) (n B P Q : Int), j ≤ s.size ∧ i = .int .i64 (j : Int) ∧ a = .int .i64 n ∧ b = .int .i64 B ∧ p = .int .i64 P ∧ q = .int .i64 Q ∧ Hid (B = shN j n) ∧ Hid (P = 2 ^ j) ∧ Hid (Q = p3 j n) ∧ 1 ≤ n ∧ Hid (n ≤ P) ∧ Hid (nw (l.drop j) j n = R)) (fun _ _ _ _ i => s.size - (intOf i).toNat)
  case atStart => exact ⟨0, 1, 1, 1, 1, Nat.zero_le _, rfl, rfl, rfl, rfl, rfl, Lib.hid rfl, Lib.hid rfl, Lib.hid rfl, by omega, Lib.hid (Int.le_refl _), Lib.hid (by rw [HR.out]; rfl)⟩
  case round =>
    obtain ⟨j, n, B, P, Q, hj, rfl, rfl, rfl, rfl, rfl, HB, HP, HQ, hn, HNP, HE⟩ := hrel
    by_cases hlt : j < s.size
    · have hjl : j < l.length := by rw [HLL.out]; exact hlt
      have hi := fun w => run_byteY s j hlt w
      have HC := Lib.hid (show s.data.toList[j]'(by rw [ba_size]; exact hlt) = l[j]'hjl by simp only [HL.out])
      rw [HC.out] at hi
      have HST := Lib.hid (nw_step n hjl)
      have HIL := Lib.hid (HAL.out j hjl)
      obtain ⟨c, hc⟩ : ∃ c, c = l[j]'hjl := ⟨_, rfl⟩
      rw [← hc] at hi HST HIL
      clear HC hc
      obtain ⟨pb1, pb2⟩ := p2_20 j (by omega)
      have hP0 : 1 ≤ P ∧ P ≤ 1048576 := by rw [HP.out]; omega
      have hnP : n ≤ P := HNP.out
      have hQ0 : 1 ≤ Q ∧ Q ≤ 10460353203 := by
        have h1 := p3_bd j n
        have h2 := (p32 j (by omega)).2.2.2
        rw [HQ.out]; omega
      have hB0 : 1 ≤ B ∧ B ≤ 5242885000 := by rw [HB.out]; exact shN_bd (by omega) hn (by omega)
      have hBo : Q % 2 = 1 := by rw [HQ.out]; exact p3_odd j n
      have h49 := byte_eq (c := c) 49 49 rfl
      have HLI := Lib.hid (let1_iff (x := B) HIL.out)
      have HP2 := Lib.hid (show P * 2 = 2 ^ (j + 1) by rw [HP.out, Int.pow_succ])
      by_cases e49 : c = 49
      · have hb : ((c.toNat : Int) == 49) = true := by rw [h49]; exact decide_eq_true e49
        have HC48 := Lib.hid (show let1 B = c ↔ B % 2 = 1 by rw [HLI.out]; exact ⟨fun h => h.2 e49, fun h => ⟨fun _ => e49, fun _ => h⟩⟩)
        by_cases hB : B % 2 = 1
        · have hbe : (B % 2 == 1) = true := beq_yes hB
          have HNX := Lib.hid (show nw (l.drop (j + 1)) (j + 1) n = R by rw [← HE.out, HST.out, if_pos (by rw [← HB.out]; exact HC48.out.2 hB)])
          have HQ3 := Lib.hid (show Q * 3 = p3 (j + 1) n by rw [p3_more, ← HB.out, if_neg (by omega), HQ.out])
          have HB3 := Lib.hid (show sho B = shN (j + 1) n by rw [shN_more, HB.out])
          clear h49 e49 pb1 pb2
          go_wp2_with (go_at_call 173; refine (shortStep_w _ _ (by omega) (by omega)).mono ?_; rintro e w1 ⟨rfl, rfl⟩)
          go_round
          case rel => exact ⟨j + 1, n, sho B, P * 2, Q * 3, by omega, by go_num, rfl, rfl, by go_num, by go_num, HB3, HP2, HQ3, hn, Lib.hid (by omega), HNX⟩
          case measure => simp [intOf]; omega
        · have hbe : (B % 2 == 1) = false := beq_no hB
          have HN2 := Lib.hid (shift1 j n)
          have HNX := Lib.hid (show nw (l.drop (j + 1)) (j + 1) (n + P) = R by rw [← HE.out, HST.out, if_neg (by rw [← HB.out]; exact fun h => hB (HC48.out.1 h)), HP.out])
          have HB3 := Lib.hid (show sho (B + Q) = shN (j + 1) (n + P) by rw [shN_more, HP.out, HN2.out.2.1, ← HB.out, ← HQ.out])
          have HQ3 := Lib.hid (show Q * 3 = p3 (j + 1) (n + P) by
            rw [p3_more, HP.out, HN2.out.2.2, HN2.out.2.1, ← HB.out, ← HQ.out, if_neg (by omega)])
          clear h49 e49 pb1 pb2
          go_wp2_with (go_at_call 173; refine (shortStep_w _ _ (by omega) (by omega)).mono ?_; rintro e w1 ⟨rfl, rfl⟩)
          go_round
          case rel => exact ⟨j + 1, n + P, sho (B + Q), P * 2, Q * 3, by omega, by go_num, by go_num, rfl, by go_num, by go_num, HB3, HP2, HQ3, by omega, Lib.hid (by omega), HNX⟩
          case measure => simp [intOf]; omega
      · have hb : ((c.toNat : Int) == 49) = false := by rw [h49]; exact decide_eq_false e49
        have HC48 := Lib.hid (show let1 B = c ↔ ¬ B % 2 = 1 by rw [HLI.out]; exact ⟨fun h hb => e49 (h.1 hb), fun h => ⟨fun hb => absurd hb h, fun h2 => absurd h2 e49⟩⟩)
        by_cases hB : B % 2 = 1
        · have hbe : (B % 2 == 1) = true := beq_yes hB
          have HN2 := Lib.hid (shift1 j n)
          have HNX := Lib.hid (show nw (l.drop (j + 1)) (j + 1) (n + P) = R by rw [← HE.out, HST.out, if_neg (by rw [← HB.out]; exact fun h => HC48.out.1 h hB), HP.out])
          have HB3 := Lib.hid (show sho (B + Q) = shN (j + 1) (n + P) by rw [shN_more, HP.out, HN2.out.2.1, ← HB.out, ← HQ.out])
          have HQ3 := Lib.hid (show Q = p3 (j + 1) (n + P) by
            rw [p3_more, HP.out, HN2.out.2.2, HN2.out.2.1, ← HB.out, ← HQ.out, if_pos (by omega), Int.mul_one])
          clear h49 e49 pb1 pb2
          go_wp2_with (go_at_call 173; refine (shortStep_w _ _ (by omega) (by omega)).mono ?_; rintro e w1 ⟨rfl, rfl⟩)
          go_round
          case rel => exact ⟨j + 1, n + P, sho (B + Q), P * 2, Q, by omega, by go_num, by go_num, rfl, by go_num, rfl, HB3, HP2, HQ3, by omega, Lib.hid (by omega), HNX⟩
          case measure => simp [intOf]; omega
        · have hbe : (B % 2 == 1) = false := beq_no hB
          have HNX := Lib.hid (show nw (l.drop (j + 1)) (j + 1) n = R by rw [← HE.out, HST.out, if_pos (by rw [← HB.out]; exact HC48.out.2 hB)])
          have HQ3 := Lib.hid (show Q = p3 (j + 1) n by rw [p3_more, ← HB.out, if_pos (by omega), HQ.out, Int.mul_one])
          have HB3 := Lib.hid (show sho B = shN (j + 1) n by rw [shN_more, HB.out])
          clear h49 e49 pb1 pb2
          go_wp2_with (go_at_call 173; refine (shortStep_w _ _ (by omega) (by omega)).mono ?_; rintro e w1 ⟨rfl, rfl⟩)
          go_round
          case rel => exact ⟨j + 1, n, sho B, P * 2, Q, by omega, by go_num, rfl, rfl, by go_num, rfl, HB3, HP2, HQ3, hn, Lib.hid (by omega), HNX⟩
          case measure => simp [intOf]; omega
    · have HD := Lib.hid (show n = R by rw [← HE.out, nw_done n (by rw [HLL.out]; omega)])
      go_wp2
      go_ret
      exact ⟨by rw [HD.out]; rfl, rfl⟩

end Go.Proofs.YtlbjeiaihenjkaaGreatDoor

/- from YW: The number of a word: the model's search, the answers.  -/
namespace Go.Proofs.YtlbjeiaihenjkaaGreatDoor
open Go.RowKit
set_option linter.unusedVariables false
set_option linter.unusedSimpArgs false
set_option maxRecDepth 100000

theorem ba_mk (l : List UInt8) : (⟨l.toArray⟩ : ByteArray).toList = l := by rw [ba_toList]

theorem stOf_any (s : ByteArray) (w : World) (hs : s.size ≤ 20) (hA : s.data.toList.all isL = true) :
    Calls Tryz.prog 162 #[.string s] w fun e w' => e = .returned (.int .i64 (nw s.data.toList 0 1)) ∧ Below w.heap.size w w' := by
  obtain ⟨l, hl⟩ : ∃ l, l = s.data.toList := ⟨_, rfl⟩
  have HLL := Lib.hid (show l.length = s.size by rw [hl, ba_size])
  have HL := Lib.hid hl
  have HAL := Lib.hid (show ∀ j (h : j < l.length), isL l[j] = true from fun j h => List.all_eq_true.1 (by rw [← hl] at hA; exact hA) _ (List.getElem_mem h))
  rw [← hl]
  obtain ⟨R, hR⟩ : ∃ R, R = nw l 0 1 := ⟨_, rfl⟩
  have HR := Lib.hid hR
  rw [← hR]
  clear hl hA hR
  go_enter Tryz.func162, Tryz.ntmps162
  go_wp2
  go_loopw [3, 4, 5] (fun a p i wr => ∃ (j : Nat) (n P : Int), j ≤ s.size ∧ i = .int .i64 ((j + 1 : Nat) : Int) ∧ a = .int .i64 n ∧ p = .int .i64 P ∧ Hid (P = 2 ^ j) ∧ 1 ≤ n ∧ Hid (n ≤ P) ∧ Hid (lts (shL j n) = l.take j) ∧ Hid (nw (l.drop j) j n = R) ∧ Below w.heap.size w wr) (fun _ _ i _ => s.size + 1 - (intOf i).toNat)
  case atStart => exact ⟨0, 1, 1, Nat.zero_le _, rfl, rfl, rfl, Lib.hid rfl, by omega, Lib.hid (Int.le_refl _), Lib.hid rfl, Lib.hid (by rw [HR.out]; rfl), Below.refl _ _⟩
  case round =>
    rename World => wa
    obtain ⟨j, n, P, hj, rfl, rfl, rfl, HP, hn, HNP, HW, HE, hbl⟩ := hrel
    have HBL := Lib.hid hbl
    clear hbl
    by_cases hlt : j < s.size
    · have hjl : j < l.length := by rw [HLL.out]; exact hlt
      have HST := Lib.hid (nw_step n hjl)
      have HIL := Lib.hid (HAL.out j hjl)
      have HTK := Lib.hid (show l.take (j + 1) = l.take j ++ [l[j]'hjl] by rw [List.take_add_one, List.getElem?_eq_getElem hjl]; rfl)
      obtain ⟨c, hc⟩ : ∃ c, c = l[j]'hjl := ⟨_, rfl⟩
      rw [← hc] at HST HIL HTK
      clear hc
      obtain ⟨pb1, pb2⟩ := p2_20 j (by omega)
      have hP0 : 1 ≤ P ∧ P ≤ 1048576 := by rw [HP.out]; omega
      have hnP : n ≤ P := HNP.out
      have HP2 := Lib.hid (show P * 2 = 2 ^ (j + 1) by rw [HP.out, Int.pow_succ])
      have hsl : ∀ w : World, (Instr.slice 9 (.string s) none (some (.int .i64 ((j : Int) + 1))) none).run Tryz.prog w = .ok (.string (s.extract 0 (j + 1))) w := fun w => run_to s (j + 1) (by omega) w
      obtain ⟨v, hv⟩ : ∃ v, v = s.extract 0 (j + 1) := ⟨_, rfl⟩
      have HV := Lib.hid (show v.toList = l.take j ++ [c] by rw [hv, ba_toList, ba_take, ← HL.out, HTK.out])
      rw [← hv] at hsl
      have hP2k : n + P ≤ 2097152 := by omega
      obtain ⟨S, hS⟩ : ∃ S, S = n + P := ⟨_, rfl⟩
      have HSS := Lib.hid hS
      have hS1 : 1 ≤ S ∧ S ≤ 2097152 := by omega
      have HSP := Lib.hid (show S = n + 2 ^ j by rw [hS, HP.out])
      have hS2 : n + P = S := hS.symm
      have HW1 := Lib.hid (fun w' => stWord_any n (j + 1) (some (shL (j + 1) n)) w' ⟨hn, by omega⟩ (by omega) (shs_all hn (by omega) (j + 1) (by omega)).symm)
      have hj1 : (((j + 1 : Nat)) : Int) = (j : Int) + 1 := by omega
      obtain ⟨g1, hg1⟩ : ∃ g1 : ByteArray, g1 = ⟨(wrdL (some (shL (j + 1) n))).toArray⟩ := ⟨_, rfl⟩
      have HG1 := Lib.hid (show g1.toList = lts (shL (j + 1) n) by rw [hg1, ba_mk]; rfl)
      obtain ⟨z1, hz1⟩ : ∃ z1, z1 = wrdN (some (shL (j + 1) n)) (shN (j + 1) n) := ⟨_, rfl⟩
      have HW1' := Lib.hid (show ∀ w' : World, Calls Tryz.prog 160 #[.int .i64 n, .int .i64 ((j : Int) + 1)] w' fun e w'' => e = .returned (.tuple #[.string g1, .int .i64 z1, .bool true]) ∧ Below w'.heap.size w' w'' by
        rw [hg1, hz1]; exact HW1.out)
      clear hv hP2k hS HW1 hg1 hz1 pb1 pb2 hj1
      have hcell0 : (wa.alloc (.cells #[.int .i64 n, .int .i64 S] 3)).cell? ⟨wa.heap.size, 0, none⟩ = some (.int .i64 n) := by simp [go_sem]
      have hcell1 : (wa.alloc (.cells #[.int .i64 n, .int .i64 S] 3)).cell? ⟨wa.heap.size, 1, none⟩ = some (.int .i64 S) := by simp [go_sem]
      have HC0 := Lib.hid hcell0
      have HC1 := Lib.hid hcell1
      clear hcell0 hcell1
      go_wp2
      by_cases hfit : let1 (shN j n) = c
      · have hbq : (g1.toList == v.toList) = true := by rw [HG1.out, HV.out, word_yes HW.out hfit]; exact beq_self_eq_true _
        have HNX := Lib.hid (show nw (l.drop (j + 1)) (j + 1) n = R by rw [← HE.out, HST.out, if_pos hfit])
        have HWX := Lib.hid (show lts (shL (j + 1) n) = l.take (j + 1) by rw [HTK.out]; exact word_yes HW.out hfit)
        clear hfit
        refine wp_loop_rounds 1 ?_
        rw [rounds_succ]
        have c0 := HC0.out
        go_wp2_with (go_at_call 160; refine (HW1'.out _).mono ?_; rintro e w1 ⟨rfl, hb⟩; have HB1 := Lib.hid (Below.step (HBL.out.alloc HBL.out.size _) (HBL.out.alloc HBL.out.size _).size hb); clear hb)
        go_roundw
        case rel => exact ⟨j + 1, n, P * 2, by omega, by go_num, rfl, by go_num, HP2, hn, Lib.hid (by omega), HWX, HNX, HB1.out⟩
        case measure => simp [intOf]; omega
      · have hbq : (g1.toList == v.toList) = false := by rw [HG1.out, HV.out]; exact beq_eq_false_iff_ne.2 (word_no HW.out hfit)
        have HWX := Lib.hid (show lts (shL (j + 1) S) = l.take (j + 1) by rw [HTK.out, HSP.out]; exact word_next HW.out HIL.out hfit)
        have HNX := Lib.hid (show nw (l.drop (j + 1)) (j + 1) S = R by rw [← HE.out, HST.out, if_neg hfit, HSP.out])
        have HW2 := Lib.hid (fun w' => stWord_any S (j + 1) (some (shL (j + 1) S)) w' ⟨hS1.1, by omega⟩ (by omega) (shs_up hS1.1 hS1.2 (j + 1) (by omega)).symm)
        obtain ⟨g2, hg2⟩ : ∃ g2 : ByteArray, g2 = ⟨(wrdL (some (shL (j + 1) S))).toArray⟩ := ⟨_, rfl⟩
        have HG2 := Lib.hid (show g2.toList = lts (shL (j + 1) S) by rw [hg2, ba_mk]; rfl)
        obtain ⟨z2, hz2⟩ : ∃ z2, z2 = wrdN (some (shL (j + 1) S)) (shN (j + 1) S) := ⟨_, rfl⟩
        have HW2' := Lib.hid (show ∀ w' : World, Calls Tryz.prog 160 #[.int .i64 S, .int .i64 ((j : Int) + 1)] w' fun e w'' => e = .returned (.tuple #[.string g2, .int .i64 z2, .bool true]) ∧ Below w'.heap.size w' w'' by
          rw [hg2, hz2]; exact HW2.out)
        have hbq2 : (g2.toList == v.toList) = true := by rw [HG2.out, HV.out, HWX.out, HTK.out]; exact beq_self_eq_true _
        have HSN := Lib.hid (show S ≤ P * 2 by rw [HSS.out]; omega)
        clear hfit HW2 hg2 hz2
        refine wp_loop_rounds 2 ?_
        rw [rounds_succ]
        have c0 := HC0.out
        go_wp2_with (go_at_call 160; refine (HW1'.out _).mono ?_; rintro e w1 ⟨rfl, hb⟩; have c1 := Below.keeps_cellY hb HC1.out; have HB1 := Lib.hid (Below.step (HBL.out.alloc HBL.out.size _) (HBL.out.alloc HBL.out.size _).size hb); clear hb)
        rw [rounds_succ]
        go_wp2_with (go_at_call 160; refine (HW2'.out _).mono ?_; rintro e w2 ⟨rfl, hb⟩; have HB2 := Lib.hid (Below.step HB1.out HB1.out.size hb); clear hb)
        go_roundw
        case rel => exact ⟨j + 1, S, P * 2, by omega, by go_num, rfl, by go_num, HP2, hS1.1, Lib.hid HSN.out, HWX, HNX, HB2.out⟩
        case measure => simp [intOf]; omega
    · have HD := Lib.hid (show n = R by rw [← HE.out, nw_done n (by rw [HLL.out]; omega)])
      go_wp2
      go_ret
      exact ⟨by rw [HD.out]; rfl, HBL.out⟩

def RNumberOfWord (s : ByteArray) : Option Int := if okW s = true then some (nw s.data.toList 0 1) else none

theorem spec_NumberOfWord (s : ByteArray) (w : World) :
    Calls Tryz.prog 109 #[.string s] w fun e w' => e = .returned (optRes (RNumberOfWord s)) ∧ Below w.heap.size w w' := by
  by_cases h : okW s = true
  · have HO := Lib.hid h
    have HR := Lib.hid (show RNumberOfWord s = some (nw s.data.toList 0 1) from if_pos h)
    have h2 : s.size ≤ 20 ∧ s.data.toList.all isL = true := by
      unfold okW at h
      rw [Bool.and_eq_true, decide_eq_true_eq] at h
      exact h
    have HA := Lib.hid h2
    clear h h2
    go_enter Tryz.func109, Tryz.ntmps109
    go_wp2_with (first | (go_at_call 161; refine (stLetters_any _ _).mono ?_; rw [HO.out]; rintro e w1 ⟨rfl, rfl⟩) | (go_at_call 162; refine (stOf_any _ _ HA.out.1 HA.out.2).mono ?_; rintro e w1 ⟨rfl, hb⟩; have HB := Lib.hid hb; clear hb))
    go_ret2
    exact ⟨by rw [HR.out]; rfl, HB.out⟩
  · have HO := Lib.hid (show okW s = false by simpa using h)
    have HR := Lib.hid (show RNumberOfWord s = none from if_neg h)
    clear h
    go_enter Tryz.func109, Tryz.ntmps109
    go_wp2_with (go_at_call 161; refine (stLetters_any _ _).mono ?_; rw [HO.out]; rintro e w1 ⟨rfl, rfl⟩)
    go_ret2
    exact ⟨by rw [HR.out]; rfl, Below.refl _ _⟩

theorem impl_NumberOfWord (s : ByteArray) (w : World) :
    Calls Tryz.prog 186 #[.string s] w fun e w' => e = .returned (optRes (RNumberOfWord s)) ∧ Below w.heap.size w w' := by
  by_cases h : okW s = true
  · have HO := Lib.hid h
    have HR := Lib.hid (show RNumberOfWord s = some (nw s.data.toList 0 1) from if_pos h)
    have h2 : s.size ≤ 20 ∧ s.data.toList.all isL = true := by
      unfold okW at h
      rw [Bool.and_eq_true, decide_eq_true_eq] at h
      exact h
    have HA := Lib.hid h2
    clear h h2
    go_enter Tryz.func186, Tryz.ntmps186
    go_wp2_with (first | (go_at_call 240; refine (isParityWord_any _ _).mono ?_; rw [HO.out]; rintro e w1 ⟨rfl, hb⟩; have HB := Lib.hid hb; clear hb) | (go_at_call 241; refine (numberOfWord_any _ _ HA.out.1 HA.out.2).mono ?_; rintro e w1 ⟨rfl, rfl⟩))
    go_ret2
    exact ⟨by rw [HR.out]; rfl, HB.out⟩
  · have HO := Lib.hid (show okW s = false by simpa using h)
    have HR := Lib.hid (show RNumberOfWord s = none from if_neg h)
    clear h
    go_enter Tryz.func186, Tryz.ntmps186
    go_wp2_with (go_at_call 240; refine (isParityWord_any _ _).mono ?_; rw [HO.out]; rintro e w1 ⟨rfl, hb⟩; have HB := Lib.hid hb; clear hb)
    go_ret2
    exact ⟨by rw [HR.out]; rfl, HB.out⟩

end Go.Proofs.YtlbjeiaihenjkaaGreatDoor

/- from YP: Words of parities and how many letters 1 they have: the program's answers.  -/
namespace Go.Proofs.YtlbjeiaihenjkaaGreatDoor
open Go.RowKit
set_option linter.unusedVariables false
set_option linter.unusedSimpArgs false
set_option maxRecDepth 100000

def code (x : Int) : Int := if x % 2 = 0 then 48 else 49
theorem code_let (x : Int) : UInt8.ofNat (code x).toNat = let1 x := by unfold code let1; split <;> rfl
theorem codes_str (l zs : List Int) (h : zs = l.map code) : strOfNums zs = ⟨(lts l).toArray⟩ := by
  subst h
  unfold strOfNums
  congr 2
  rw [List.map_map]
  unfold lts
  exact List.map_congr_left (fun x _ => code_let x)

theorem set_code (l zs : List Int) (j : Nat) (h : j < l.length) (hz : zs.length = l.length) (ht : zs.take j = (l.take j).map code) : (zs.set j (code l[j])).take (j + 1) = (l.take (j + 1)).map code := by
  rw [take_snoc' l j h, List.map_append, ← ht, take_snoc' (zs.set j (code l[j])) j (by rw [List.length_set]; omega), List.take_set_of_le (Nat.le_refl _)]
  simp

theorem impl_ParityWord (n k : Int) (w : World) :
    Calls Tryz.prog 191 #[.int .i64 n, .int .i64 k] w fun e w' => e = .returned (resW (RWd n k)) ∧ Below w.heap.size w w' := by
  by_cases hn : Nst n
  · have a1 : decide (Nst n) = true := decide_eq_true hn
    by_cases hk : 0 ≤ k ∧ k ≤ 20
    · have A2 := Lib.hid (wl_yes hk.1 hk.2)
      have A1 := Lib.hid (asked_yesY hn hk.1 hk.2)
      obtain ⟨c, rfl⟩ : ∃ c : Nat, k = (c : Int) := ⟨k.toNat, by omega⟩
      have hc : c ≤ 20 := by omega
      obtain ⟨X, hX⟩ : ∃ X, shs c n = X := ⟨_, rfl⟩
      have HR := Lib.hid (show RWd n (c : Int) = X.map lts by rw [RWd_yes A1.out rfl, hX])
      have HW := Lib.hid (fun w' => short_impl hn (by omega) hX (k := (c : Int)) rfl w')
      cases X with
      | none =>
        clear hX hk hn
        go_enter Tryz.func191, Tryz.ntmps191
        go_wp2_with (first | (go_at_call 216; refine (isStart_any _ _).mono ?_; rintro e w1 ⟨rfl, rfl⟩) | (go_at_call 247; refine (isWordLength_any _ _).mono ?_; rw [A2.out]; rintro e w1 ⟨rfl, rfl⟩) | (go_at_call 248; refine (HW.out _).mono ?_; rintro e w1 ⟨v, rfl, hr, hb⟩; have HB := Lib.hid hb; clear hr hb))
        go_ret2
        exact ⟨by rw [HR.out]; rfl, HB.out⟩
      | some l =>
        have hll := (shs_len _ _ _ hX).1
        have HNL := Lib.hid (shs_len _ _ _ hX).2
        have HLL := Lib.hid hll
        clear hX hk hn
        go_enter Tryz.func191, Tryz.ntmps191
        go_wp2_with (first | (go_at_call 216; refine (isStart_any _ _).mono ?_; rintro e w1 ⟨rfl, rfl⟩) | (go_at_call 247; refine (isWordLength_any _ _).mono ?_; rw [A2.out]; rintro e w1 ⟨rfl, rfl⟩))
        refine (HW.out _).mono ?_
        rintro e w1 ⟨v, rfl, hr, hb⟩
        have HB := Lib.hid hb
        obtain ⟨a5, c5, rfl, hgs⟩ : ∃ a cap, v = .slice a l.length cap ∧ (∀ j, j < l.length → ∃ g, a = some ⟨g, 0, none⟩ ∧ g < w1.heap.size) := by
          rcases hr.cases with ⟨hv, hx⟩ | ⟨g, cap, hu, _, hg, _⟩
          · simp only [Option.getD_some] at hx
            subst hx
            exact ⟨none, 0, hv, fun j hj => by simp at hj⟩
          · exact ⟨_, cap, hu, fun j _ => ⟨g, rfl, hg⟩⟩
        have HGS := Lib.hid hgs
        have HRL := Lib.hid hr
        clear hr hb hgs
        rw [hll] at HGS HRL ⊢
        clear hll
        go_wp2_with (at_make; refine wpList_mkG rfl _ _ 43 5 (.int .u8 0) 1 Tryz.underlying43 infoByteY (by decide) rfl rfl .i64 .i64 _ _ c rfl rfl rfl rfl (by omega) ?_; intro w2 hr2 hg2 hb2; have R2 := Lib.hid hr2; have B2 := Lib.hid (Below.step HB.out HB.out.size hb2); have RL2 := Lib.hid (HRL.out.keep hb2); have HBM := Lib.hid hb2; clear hr2 hg2 hb2)
        go_loopw [31] (fun i wr => ∃ (j : Nat) (zs : List Int), j ≤ c ∧ i = .int .i64 j ∧ Hid (zs.length = c) ∧ Hid (zs.take j = (l.take j).map code) ∧ Rg 5 wr w1.heap.size (.slice (some ⟨w1.heap.size, 0, none⟩) c c) (zs.map (Value.int .u8)) ∧ Below w.heap.size w wr ∧ Below w1.heap.size w1 wr) (fun i _ => c - (intOf i).toNat)
        case atStart => exact ⟨0, List.replicate c 0, Nat.zero_le _, rfl, Lib.hid (by simp), Lib.hid (by simp), by simpa using R2.out, B2.out, HBM.out⟩
        case round =>
          obtain ⟨j, zs, hj, rfl, HZL, HZT, hrz, hbl, hb1⟩ := hrel
          have RZ := Lib.hid hrz
          have HB2 := Lib.hid hbl
          have HB1 := Lib.hid hb1
          clear hrz hbl hb1
          by_cases hlt : j < c
          · obtain ⟨g5, rfl, hg5⟩ := HGS.out j hlt
            have hjl : j < l.length := by rw [HLL.out]; exact hlt
            have hcell : wr.cell? ⟨g5, j, none⟩ = some (.int .i64 (l[j]'hjl)) := by
              rw [HB1.out.cell (p := ⟨g5, j, none⟩) hg5]
              exact HRL.out.at.2.2.2.2.1 j hjl
            have hjz : j < (zs.map (Value.int .u8)).length := by rw [List.length_map, HZL.out]; exact hlt
            have hcz := RZ.out.at.2.2.2.2.2.1 j hjz
            have hfz := RZ.out.at.2.2.2.2.2.2 j
            have HSC := Lib.hid (set_code l zs j hjl (by rw [HZL.out, HLL.out]) HZT.out)
            have hx0 := (HNL.out _ (List.getElem_mem hjl)).1
            obtain ⟨x, hx⟩ : ∃ x, x = l[j]'hjl := ⟨_, rfl⟩
            rw [← hx] at hcell HSC hx0
            obtain ⟨z, hz⟩ : ∃ z, z = (zs.map (Value.int .u8))[j]'hjz := ⟨_, rfl⟩
            rw [← hz] at hcz
            clear hx hz
            by_cases hpar : x % 2 = 0
            · have hcd : code x = 48 := if_pos hpar
              have htm : x.tmod 2 = 0 := by rw [Int.tmod_eq_emod_of_nonneg (by omega)]; exact hpar
              have HST := Lib.hid (RZ.out.set j (.int .u8 48))
              rw [hcd] at HSC
              clear hcd
              go_wp2
              go_roundw
              case rel => exact ⟨j + 1, zs.set j 48, by omega, by go_num, Lib.hid (by rw [List.length_set, HZL.out]), HSC, by rw [List.map_set]; exact HST.out.1, HB2.out.trans (grown_below HST.out.2 HB2.out.size HB.out.size), HB1.out.trans (grown_below HST.out.2 HB1.out.size (Nat.le_refl _))⟩
              case measure => simp [intOf]; omega
            · have hcd : code x = 49 := if_neg hpar
              have htm : x.tmod 2 = 1 := by rw [Int.tmod_eq_emod_of_nonneg (by omega)]; omega
              have HST := Lib.hid (RZ.out.set j (.int .u8 49))
              rw [hcd] at HSC
              clear hcd hpar
              go_wp2
              go_roundw
              case rel => exact ⟨j + 1, zs.set j 49, by omega, by go_num, Lib.hid (by rw [List.length_set, HZL.out]), HSC, by rw [List.map_set]; exact HST.out.1, HB2.out.trans (grown_below HST.out.2 HB2.out.size HB.out.size), HB1.out.trans (grown_below HST.out.2 HB1.out.size (Nat.le_refl _))⟩
              case measure => simp [intOf]; omega
          · obtain rfl : j = c := by omega
            have HZE := Lib.hid (show zs = l.map code by
              have h := HZT.out
              rwa [List.take_of_length_le (by rw [HZL.out]; exact Nat.le_refl _), List.take_of_length_le (by rw [HLL.out]; exact Nat.le_refl _)] at h)
            have hcv := run_convert_bytes_arg (P := Tryz.prog) wr 43 5 Tryz.underlying43 Tryz.underlying5 w1.heap.size 0 j j zs HZL.out (fun i hi => by
              have h := RZ.out.at.2.2.2.2.2.1 i (by rw [List.length_map, HZL.out]; exact hi)
              rw [Nat.zero_add, h]
              simp [show i < zs.length by rw [HZL.out]; exact hi]) 9 Tryz.underlying9
            rw [codes_str l zs HZE.out] at hcv
            go_wp2
            go_ret2
            exact ⟨by rw [HR.out]; rfl, HB2.out⟩
    · have A2 := Lib.hid (wl_no hk)
      have HR := Lib.hid (RWd_no (asked_no2 (n := n) hk))
      clear hn hk
      go_enter Tryz.func191, Tryz.ntmps191
      go_wp2_with (first | (go_at_call 216; refine (isStart_any _ _).mono ?_; rintro e w1 ⟨rfl, rfl⟩) | (go_at_call 247; refine (isWordLength_any _ _).mono ?_; rw [A2.out]; rintro e w1 ⟨rfl, rfl⟩))
      go_ret2
      exact ⟨by rw [HR.out]; rfl, Below.refl _ _⟩
  · have a1 : decide (Nst n) = false := decide_eq_false hn
    have HR := Lib.hid (RWd_no (asked_no1 (k := k) hn))
    clear hn
    go_enter Tryz.func191, Tryz.ntmps191
    go_wp2_with (go_at_call 216; refine (isStart_any _ _).mono ?_; rintro e w1 ⟨rfl, rfl⟩)
    go_ret2
    exact ⟨by rw [HR.out]; rfl, Below.refl _ _⟩

end Go.Proofs.YtlbjeiaihenjkaaGreatDoor
