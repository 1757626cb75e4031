/-
  The fraction of a word: the answers.
-/
import Derived.Test.YtbgnieajeipllaaDoorYX
namespace Go.Proofs.YtbgnieajeipllaaDoor
open Go.RowKit
set_option linter.unusedVariables false
set_option linter.unusedSimpArgs false
set_option maxRecDepth 100000

def cyA (l : List UInt8) : Nat := (cM l 0).toNat
def cyD (l : List UInt8) : Int := 2 ^ l.length - 3 ^ (ones l)
def cyB (l : List UInt8) : Nat := (cyD l).natAbs
def cyX (l : List UInt8) : Nat := cyA l / Nat.gcd (cyA l) (cyB l)
def cyY (l : List UInt8) : Nat := cyB l / Nat.gcd (cyA l) (cyB l)
def cyN (l : List UInt8) : Int := if cyD l < 0 then -(cyX l : Int) else (cyX l : Int)
def okC (s : ByteArray) : Bool := okW s && decide (s.size ≠ 0)
def resC (s : ByteArray) : Value := if okC s = true then .tuple #[.int .i64 (cyN s.data.toList), .int .i64 (cyY s.data.toList), .bool true] else .tuple #[.int .i64 0, .int .i64 0, .bool false]

theorem pow20 : ∀ k : Nat, k ≤ 20 → (2:Int) ^ k ≤ 4 ^ k ∧ (4:Int) ^ k ≤ 1099511627776 ∧ (1:Int) ≤ 4 ^ k ∧ (3:Int) ^ k ≤ 3486784401 ∧ (1:Int) ≤ 3 ^ k := by
  have h : (List.range 21).all (fun k => decide ((2:Int) ^ k ≤ 4 ^ k ∧ (4:Int) ^ k ≤ 1099511627776 ∧ (1:Int) ≤ 4 ^ k ∧ (3:Int) ^ k ≤ 3486784401 ∧ (1:Int) ≤ 3 ^ k)) = true := by decide +kernel
  intro k hk
  simpa using List.all_eq_true.1 h k (List.mem_range.2 (by omega))
theorem n2_20 (k : Nat) (h : k ≤ 20) : 2 ^ k ≤ 1048576 := Nat.le_trans (Nat.pow_le_pow_right (by omega) h) (by decide)
theorem n3_20 (k : Nat) (h : k ≤ 20) : 3 ^ k ≤ 3486784401 := Nat.le_trans (Nat.pow_le_pow_right (by omega) h) (by decide)
theorem cyA_bd {l : List UInt8} (h : l.length ≤ 20) : (cyA l : Int) = cM l 0 ∧ cyA l ≤ 73123168801259520 := by
  have := cM_bd l 0 (by omega)
  unfold cyA
  omega
theorem cyB_bd {l : List UInt8} (h : l.length ≤ 20) (h0 : 0 < l.length) : 0 < cyB l ∧ cyB l ≤ 3486784401 ∧ (cyD l < 0 → cyD l = -(cyB l : Int)) ∧ (¬ cyD l < 0 → cyD l = (cyB l : Int)) := by
  have h1 := two_three l.length (ones l) h0
  have h2 := ones_le l
  obtain ⟨_, _, _, a, b⟩ := pow20 (ones l) (by omega)
  obtain ⟨c, d⟩ := p2_20 l.length h
  have h3 : cyD l ≠ 0 := h1
  have h4 : cyD l = 2 ^ l.length - 3 ^ (ones l) := rfl
  unfold cyB
  omega

theorem cS_step {l : List UInt8} {j : Nat} (s : Int) (h : j < l.length) : cS (l.drop j) j s = cS (l.drop (j + 1)) (j + 1) (if l[j] = 49 then 3 * s + 2 ^ j else s) := by
  rw [List.drop_eq_getElem_cons h]; rfl
theorem cM_step {l : List UInt8} {j : Nat} (h : j < l.length) : cM (l.drop j) j = (if l[j] = 49 then 2 ^ j * 3 ^ (ones (l.drop (j + 1))) else 0) + cM (l.drop (j + 1)) (j + 1) := by
  rw [List.drop_eq_getElem_cons h]; rfl
theorem ones_step {l : List UInt8} {j : Nat} (h : j < l.length) : ones (l.drop j) = ones (l.drop (j + 1)) + (if l[j] = 49 then 1 else 0) := by
  rw [List.drop_eq_getElem_cons h, ones_cons]

theorem lowest_any (l : List UInt8) (w : World) (h : l.length ≤ 20) (h0 : 0 < l.length) :
    Calls Tryd.prog 17 #[.int .i64 (cM l 0), .int .i64 (cyD l)] w fun e w' => e = .returned (.tuple #[.int .i64 (cyN l), .int .i64 (cyY l)]) ∧ Below w.heap.size w w' := by
  obtain ⟨a1, a2⟩ := cyA_bd h
  obtain ⟨b1, b2, b3, b4⟩ := cyB_bd h h0
  by_cases hd : cyD l < 0
  · rw [← a1, b3 hd, show cyN l = -(cyX l : Int) from if_pos hd]
    exact lowest_neg (cyA l) (cyB l) w (by omega) (by omega) b1
  · rw [← a1, b4 hd, show cyN l = (cyX l : Int) from if_neg hd]
    exact lowest_pos (cyA l) (cyB l) w (by omega) (by omega) b1

theorem okC_yes {s : ByteArray} (h : okW s = true) (h0 : ¬ s.size = 0) : okC s = true := by simp [okC, h, h0]
theorem okC_no1 {s : ByteArray} (h : okW s = false) : okC s = false := by simp [okC, h]
theorem okC_no2 {s : ByteArray} (h0 : s.size = 0) : okC s = false := by simp [okC, h0]

theorem impl_CycleOfWord (s : ByteArray) (w : World) :
    Calls Tryd.prog 8 #[.string s] w fun e w' => e = .returned (resC s) ∧ Below w.heap.size w w' := by
  by_cases hok : okW s = true
  · have HO := Lib.hid hok
    by_cases h0 : s.size = 0
    · have hb : s.toList.isEmpty = true := by rw [ba_empty]; exact decide_eq_true h0
      have HR := Lib.hid (show resC s = .tuple #[.int .i64 0, .int .i64 0, .bool false] from if_neg (by rw [okC_no2 h0]; simp))
      clear h0 hok
      go_enter Tryd.func8, Tryd.ntmps8
      go_wp2_with (go_at_call 11; refine (isParityWord_any _ _).mono ?_; rw [HO.out]; rintro e w1 ⟨rfl, hb⟩; have HB := Lib.hid hb; clear hb)
      go_ret3
      exact ⟨by rw [HR.out]; rfl, HB.out⟩
    · have hb : s.toList.isEmpty = false := by rw [ba_empty]; exact decide_eq_false h0
      obtain ⟨l, hl⟩ : ∃ l, l = s.data.toList := ⟨_, rfl⟩
      have HR := Lib.hid (show resC s = .tuple #[.int .i64 (cyN l), .int .i64 (cyY l), .bool true] by rw [resC, if_pos (okC_yes hok h0), hl])
      have hsz : s.size ≤ 20 := by
        unfold okW at hok
        rw [Bool.and_eq_true, decide_eq_true_eq] at hok
        exact hok.1
      have hll : l.length = s.size := by rw [hl, ba_size]
      have HLL := Lib.hid hll
      have HL := Lib.hid hl
      have HLO := Lib.hid (fun w' => lowest_any l w' (by omega) (by omega))
      obtain ⟨S, hS⟩ : ∃ S, S = cM l 0 := ⟨_, rfl⟩
      have HS := Lib.hid (show cS l 0 0 = S by rw [cS_cM, Int.zero_mul, Int.zero_add, hS])
      have HD := Lib.hid (show cyD l = 2 ^ l.length - 3 ^ (ones l) from rfl)
      obtain ⟨D, hD⟩ : ∃ D, D = cyD l := ⟨_, rfl⟩
      rw [← hS, ← hD] at HLO
      rw [← hD] at HD
      obtain ⟨N, hN⟩ : ∃ N, N = cyN l := ⟨_, rfl⟩
      obtain ⟨Y, hY⟩ : ∃ Y : Int, Y = (cyY l : Int) := ⟨_, rfl⟩
      rw [← hN, ← hY] at HLO HR
      clear hl hll hS hD hN hY h0 hok
      go_enter Tryd.func8, Tryd.ntmps8
      go_wp2_with (go_at_call 11; refine (isParityWord_any _ _).mono ?_; rw [HO.out]; rintro e w1 ⟨rfl, hb⟩; have HB := Lib.hid hb; clear hb)
      go_loop [5, 6, 7, 20] (fun a p q i => ∃ (j : Nat) (x P Q F : Int), j ≤ s.size ∧ i = .int .i64 (j : Int) ∧ a = .int .i64 x ∧ p = .int .i64 P ∧ q = .int .i64 Q ∧ Hid (P = 2 ^ j) ∧ Hid (Q = 3 ^ (ones (l.take j))) ∧ Hid (F = 4 ^ j) ∧ 0 ≤ x ∧ Hid (x ≤ F) ∧ Hid (cS (l.drop j) j x = S)) (fun _ _ _ i => s.size - (intOf i).toNat)
      case atStart => exact ⟨0, 0, 1, 1, 1, Nat.zero_le _, rfl, rfl, rfl, rfl, Lib.hid rfl, Lib.hid rfl, Lib.hid rfl, by omega, Lib.hid (by omega), Lib.hid HS.out⟩
      case round =>
        obtain ⟨j, x, P, Q, F, hj, rfl, rfl, rfl, rfl, HP, HQ, HF, hx, HXF, HE⟩ := hrel
        by_cases hlt : j < s.size
        · have hjl : j < l.length := by rw [HLL.out]; exact hlt
          have hi := fun w => run_byte s j hlt w
          have HC := Lib.hid (show s.data.toList[j]'(by rw [ba_size]; exact hlt) = l[j]'hjl by simp only [HL.out])
          rw [HC.out] at hi
          have HST := Lib.hid (cS_step x hjl)
          have HON := Lib.hid (ones_take hjl)
          obtain ⟨c, hc⟩ : ∃ c, c = l[j]'hjl := ⟨_, rfl⟩
          rw [← hc] at hi HST HON
          clear HC hc
          obtain ⟨f1, f2, f3, _, _⟩ := pow20 j (by omega)
          obtain ⟨pb1, pb2⟩ := p2_20 j (by omega)
          have hP0 : 1 ≤ P ∧ P ≤ 1048576 := by rw [HP.out]; omega
          have hF0 : P ≤ F ∧ F ≤ 1099511627776 := by rw [HP.out, HF.out]; omega
          have hxF : x ≤ F := HXF.out
          have hQ0 : 1 ≤ Q ∧ Q ≤ 3486784401 := by
            have h1 := ones_le (l.take j)
            have h2 : (l.take j).length ≤ j := by simp; omega
            obtain ⟨_, _, _, h3, h4⟩ := pow20 (ones (l.take j)) (by omega)
            rw [HQ.out]; omega
          have HP2 := Lib.hid (show P * 2 = 2 ^ (j + 1) by rw [HP.out, Int.pow_succ])
          have HF2 := Lib.hid (show F * 4 = 4 ^ (j + 1) by rw [HF.out, Int.pow_succ])
          have h49 := byte_eq (c := c) 49 49 rfl
          by_cases e49 : c = 49
          · have hb : ((c.toNat : Int) == 49) = true := by rw [h49]; exact decide_eq_true e49
            have HNX := Lib.hid (show cS (l.drop (j + 1)) (j + 1) (3 * x + P) = S by rw [← HE.out, HST.out, if_pos e49, HP.out])
            have HQ3 := Lib.hid (show Q * 3 = 3 ^ (ones (l.take (j + 1))) by rw [HON.out, if_pos e49, Int.pow_succ, HQ.out])
            clear h49 e49 pb1 pb2 f1 f2 f3
            go_wp2
            go_round
            case rel => exact ⟨j + 1, 3 * x + P, P * 2, Q * 3, F * 4, by omega, by go_num, by go_num, by go_num, by go_num, HP2, HQ3, HF2, by omega, Lib.hid (by omega), HNX⟩
            case measure => simp [intOf]; omega
          · have hb : ((c.toNat : Int) == 49) = false := by rw [h49]; exact decide_eq_false e49
            have HNX := Lib.hid (show cS (l.drop (j + 1)) (j + 1) x = S by rw [← HE.out, HST.out, if_neg e49])
            have HQ3 := Lib.hid (show Q = 3 ^ (ones (l.take (j + 1))) by rw [HON.out, if_neg e49, Nat.add_zero, HQ.out])
            clear h49 e49 pb1 pb2 f1 f2 f3
            go_wp2
            go_round
            case rel => exact ⟨j + 1, x, P * 2, Q, F * 4, by omega, by go_num, rfl, by go_num, rfl, HP2, HQ3, HF2, hx, Lib.hid (by omega), HNX⟩
            case measure => simp [intOf]; omega
        · obtain rfl : j = s.size := by omega
          have HX := Lib.hid (show x = S by
            rw [← HE.out, List.drop_eq_nil_of_le (by rw [HLL.out]; exact Nat.le_refl _)]; rfl)
          have HQL := Lib.hid (show P - Q = D by rw [HP.out, HQ.out, HD.out, HLL.out, List.take_of_length_le (by rw [HLL.out]; exact Nat.le_refl _)])
          have hP0 : 1 ≤ P ∧ P ≤ 1048576 := by
            obtain ⟨a, b⟩ := p2_20 s.size hsz
            rw [HP.out]; omega
          have hQ0 : 1 ≤ Q ∧ Q ≤ 3486784401 := by
            have h1 := ones_le (l.take s.size)
            have h2 : (l.take s.size).length ≤ s.size := by simp; omega
            obtain ⟨_, _, _, h3, h4⟩ := pow20 (ones (l.take s.size)) (by omega)
            rw [HQ.out]; omega
          rw [HX.out]
          go_wp2_with (go_at_call 17; rw [HQL.out]; refine (HLO.out _).mono ?_; rintro e w2 ⟨rfl, hb⟩; have HB2 := Lib.hid (Below.step HB.out HB.out.size hb); clear hb)
          go_ret3
          exact ⟨by rw [HR.out]; rfl, HB2.out⟩
  · have HO := Lib.hid (show okW s = false by simpa using hok)
    have HR := Lib.hid (show resC s = .tuple #[.int .i64 0, .int .i64 0, .bool false] from if_neg (by rw [okC_no1 HO.out]; simp))
    clear hok
    go_enter Tryd.func8, Tryd.ntmps8
    go_wp2_with (go_at_call 11; refine (isParityWord_any _ _).mono ?_; rw [HO.out]; rintro e w1 ⟨rfl, hb⟩; have HB := Lib.hid hb; clear hb)
    go_ret3
    exact ⟨by rw [HR.out]; rfl, HB.out⟩

set_option maxHeartbeats 1000000 in
theorem spec_CycleOfWord (s : ByteArray) (w : World) :
    Calls Tryd.prog 7 #[.string s] w fun e w' => e = .returned (resC s) ∧ Below w.heap.size w w' := by
  by_cases hok : okW s = true
  · have HO := Lib.hid hok
    by_cases h0 : s.size = 0
    · have hb : s.toList.isEmpty = true := by rw [ba_empty]; exact decide_eq_true h0
      have HR := Lib.hid (show resC s = .tuple #[.int .i64 0, .int .i64 0, .bool false] from if_neg (by rw [okC_no2 h0]; simp))
      clear h0 hok
      go_enter Tryd.func7, Tryd.ntmps7
      go_wp2_with (go_at_call 9; refine (stLetters_any _ _).mono ?_; rw [HO.out]; rintro e w1 ⟨rfl, rfl⟩)
      go_ret3
      exact ⟨by rw [HR.out]; rfl, Below.refl _ _⟩
    · have hb : s.toList.isEmpty = false := by rw [ba_empty]; exact decide_eq_false h0
      obtain ⟨l, hl⟩ : ∃ l, l = s.data.toList := ⟨_, rfl⟩
      have HR := Lib.hid (show resC s = .tuple #[.int .i64 (cyN l), .int .i64 (cyY l), .bool true] by rw [resC, if_pos (okC_yes hok h0), hl])
      have hsz : s.size ≤ 20 := by
        unfold okW at hok
        rw [Bool.and_eq_true, decide_eq_true_eq] at hok
        exact hok.1
      have hll : l.length = s.size := by rw [hl, ba_size]
      have HLL := Lib.hid hll
      have HL := Lib.hid hl
      obtain ⟨a1, a2⟩ := cyA_bd (l := l) (by omega)
      obtain ⟨b1, b2, b3, b4⟩ := cyB_bd (l := l) (by omega) (by omega)
      have HA1 := Lib.hid a1
      have HCM := Lib.hid (show ∀ j : Nat, j ≤ l.length → 0 ≤ cM (l.drop j) j from fun j hj => (cM_bd (l.drop j) j (by simp; omega)).1)
      have HD := Lib.hid (show cyD l = 2 ^ l.length - 3 ^ (ones l) from rfl)
      have HGCD := Lib.hid (fun w' => mpGcd_w (cyB l) (cyB l) (cyA l) w' (Nat.le_refl _) (by omega) (by omega))
      have HN := Lib.hid (show cyN l = if cyD l < 0 then -(cyX l : Int) else (cyX l : Int) from rfl)
      have hx1 : cyX l ≤ 73123168801259520 := Nat.le_trans (Nat.div_le_self _ _) a2
      have hy1 : cyY l ≤ 3486784401 := Nat.le_trans (Nat.div_le_self _ _) b2
      have hg0 : 0 < Nat.gcd (cyA l) (cyB l) := Nat.gcd_pos_of_pos_right _ b1
      have hgb : Nat.gcd (cyA l) (cyB l) ≤ 3486784401 := Nat.le_trans (Nat.gcd_le_right _ b1) b2
      have hq1 : (cyA l : Int).tdiv (Nat.gcd (cyA l) (cyB l) : Nat) = (cyX l : Int) := quo_pos _ _
      have hq1n : (-(cyA l : Int)).tdiv (Nat.gcd (cyA l) (cyB l) : Nat) = -(cyX l : Int) := by rw [Int.neg_tdiv, hq1]
      have hq2 : (cyB l : Int).tdiv (Nat.gcd (cyA l) (cyB l) : Nat) = (cyY l : Int) := quo_pos _ _
      obtain ⟨N, hN⟩ : ∃ N, N = cyN l := ⟨_, rfl⟩
      obtain ⟨X, hX⟩ : ∃ X, X = cyX l := ⟨_, rfl⟩
      obtain ⟨Y, hY⟩ : ∃ Y, Y = cyY l := ⟨_, rfl⟩
      obtain ⟨A, hA⟩ : ∃ A, A = cyA l := ⟨_, rfl⟩
      obtain ⟨B, hB⟩ : ∃ B, B = cyB l := ⟨_, rfl⟩
      obtain ⟨D, hD⟩ : ∃ D, D = cyD l := ⟨_, rfl⟩
      obtain ⟨G, hG⟩ : ∃ G, G = Nat.gcd (cyA l) (cyB l) := ⟨_, rfl⟩
      rw [← hG] at hg0 hgb hq1 hq1n hq2 HGCD
      rw [← hA] at a1 a2 hq1 hq1n HGCD HA1
      rw [← hB] at b1 b2 b3 b4 hq2 HGCD
      rw [← hD] at b3 b4 HD HN
      rw [← hX] at hx1 hq1 hq1n HN
      rw [← hY] at hy1 hq2 HR
      rw [← hN] at HN HR
      clear hl hll hG hA hB hD hX hY hN h0 hok a1
      have HB3 := Lib.hid b3
      have HB4 := Lib.hid b4
      have hgz : ((G : Int) == 0) = false := beq_no (by omega)
      have hgn : ¬ (G : Int) = 0 := by omega
      have HO1 := Lib.hid (ones_le l)
      clear b3 b4
      go_enter Tryd.func7, Tryd.ntmps7
      go_wp2_with (first | (go_at_call 9; refine (stLetters_any _ _).mono ?_; rw [HO.out]; rintro e w1 ⟨rfl, rfl⟩) | (go_at_call 13; refine (stOnes_any _ _ (by omega)).mono ?_; rw [← HL.out]; rintro e w1 ⟨rfl, rfl⟩))
      go_loop [5, 6, 7] (fun a b i => ∃ (j t : Nat) (x : Int), j ≤ s.size ∧ i = .int .i64 (j : Int) ∧ a = .int .i64 x ∧ b = .int .i64 (t : Int) ∧ Hid (t = ones (l.drop j)) ∧ Hid (x + cM (l.drop j) j = (A : Int)) ∧ 0 ≤ x) (fun _ _ i => s.size - (intOf i).toNat)
      case atStart => exact ⟨0, ones l, 0, Nat.zero_le _, rfl, rfl, rfl, Lib.hid rfl, Lib.hid (by rw [HA1.out]; exact Int.zero_add _), by omega⟩
      case round =>
        obtain ⟨j, t, x, hj, rfl, rfl, rfl, HT, HE, hx⟩ := hrel
        by_cases hlt : j < s.size
        · have hjl : j < l.length := by rw [HLL.out]; exact hlt
          have hi := fun w => run_byte s j hlt w
          have HC := Lib.hid (show s.data.toList[j]'(by rw [ba_size]; exact hlt) = l[j]'hjl by simp only [HL.out])
          rw [HC.out] at hi
          have HST := Lib.hid (cM_step hjl)
          have HON := Lib.hid (ones_step hjl)
          have HNN := Lib.hid (HCM.out (j + 1) (by omega))
          have hot : ones (l.drop (j + 1)) ≤ 19 := by
            have h1 := ones_le (l.drop (j + 1))
            have h2 := HLL.out
            rw [List.length_drop] at h1; omega
          obtain ⟨c, hc⟩ : ∃ c, c = l[j]'hjl := ⟨_, rfl⟩
          rw [← hc] at hi HST HON
          clear HC hc
          have h49 := byte_eq (c := c) 49 49 rfl
          by_cases e49 : c = 49
          · have hb : ((c.toNat : Int) == 49) = true := by rw [h49]; exact decide_eq_true e49
            obtain ⟨v, hv⟩ : ∃ v, v = ones (l.drop (j + 1)) := ⟨_, rfl⟩
            have HV := Lib.hid hv
            have htv : t = v + 1 := by rw [HT.out, HON.out, if_pos e49, hv]
            rw [← hv] at hot
            have HP := Lib.hid (show ∀ w' : World, Calls Tryd.prog 14 #[.int .i64 2, .int .i64 (j : Int)] w' (fun e w'' => e = .returned (.int .i64 ((2 ^ j : Nat) : Int)) ∧ w' = w'') from fun w' => pwOf_w 2 j w' (by omega) (by omega))
            have HQ := Lib.hid (show ∀ w' : World, Calls Tryd.prog 14 #[.int .i64 3, .int .i64 (v : Int)] w' (fun e w'' => e = .returned (.int .i64 ((3 ^ v : Nat) : Int)) ∧ w' = w'') from fun w' => pwOf_w 3 v w' (by omega) (by omega))
            obtain ⟨P, hP⟩ : ∃ P, P = 2 ^ j := ⟨_, rfl⟩
            obtain ⟨Q, hQ⟩ : ∃ Q, Q = 3 ^ v := ⟨_, rfl⟩
            rw [← hP] at HP
            rw [← hQ] at HQ
            obtain ⟨M, hM⟩ : ∃ M : Int, M = (P : Int) * (Q : Int) := ⟨_, rfl⟩
            have HME := Lib.hid (show x + M + cM (l.drop (j + 1)) (j + 1) = (A : Int) by
              rw [← HE.out, HST.out, if_pos e49, hM, hP, hQ, ← hv]
              push_cast
              rw [Int.add_assoc])
            have hMA : 0 ≤ M ∧ x + M ≤ (A : Int) := by
              refine ⟨?_, ?_⟩
              · rw [hM]; exact Int.mul_nonneg (by omega) (by omega)
              · have h1 := HME.out; have h2 := HNN.out; omega
            have hmul : (P : Int) * (Q : Int) = M := hM.symm
            have hPb : P ≤ 1048576 := by rw [hP]; exact n2_20 j (by omega)
            have hQb : Q ≤ 3486784401 := by rw [hQ]; exact n3_20 v (by omega)
            subst htv
            clear h49 e49 hv hP hQ hM
            go_wp2_with (first | (go_at_call 14; (with_reducible refine (HP.out _).mono ?_); rintro e w1 ⟨rfl, rfl⟩) | (go_at_call 14; (with_reducible refine (HQ.out _).mono ?_); rintro e w1 ⟨rfl, rfl⟩))
            go_round
            case rel => exact ⟨j + 1, v, x + M, by omega, by go_num, by go_num, by go_num, Lib.hid HV.out, HME, by omega⟩
            case measure => simp [intOf]; omega
          · have hb : ((c.toNat : Int) == 49) = false := by rw [h49]; exact decide_eq_false e49
            have HT2 := Lib.hid (show t = ones (l.drop (j + 1)) by rw [HT.out, HON.out, if_neg e49, Nat.add_zero])
            have HME := Lib.hid (show x + cM (l.drop (j + 1)) (j + 1) = (A : Int) by rw [← HE.out, HST.out, if_neg e49, Int.zero_add])
            clear h49 e49
            go_wp2
            go_round
            case rel => exact ⟨j + 1, t, x, by omega, by go_num, rfl, rfl, HT2, HME, hx⟩
            case measure => simp [intOf]; omega
        · obtain rfl : j = s.size := by omega
          have HX := Lib.hid (show x = (A : Int) by
            have := HE.out
            rw [List.drop_eq_nil_of_le (by rw [HLL.out]; exact Nat.le_refl _)] at this
            simpa [cM] using this)
          have HP := Lib.hid (show ∀ w' : World, Calls Tryd.prog 14 #[.int .i64 2, .int .i64 (s.size : Int)] w' (fun e w'' => e = .returned (.int .i64 ((2 ^ s.size : Nat) : Int)) ∧ w' = w'') from fun w' => pwOf_w 2 s.size w' (by omega) hsz)
          have HQ := Lib.hid (show ∀ w' : World, Calls Tryd.prog 14 #[.int .i64 3, .int .i64 (ones l : Int)] w' (fun e w'' => e = .returned (.int .i64 ((3 ^ ones l : Nat) : Int)) ∧ w' = w'') from fun w' => pwOf_w 3 (ones l) w' (by omega) (by have := HO1.out; rw [HLL.out] at this; omega))
          obtain ⟨P, hP⟩ : ∃ P, P = 2 ^ s.size := ⟨_, rfl⟩
          obtain ⟨Q, hQ⟩ : ∃ Q, Q = 3 ^ ones l := ⟨_, rfl⟩
          rw [← hP] at HP
          rw [← hQ] at HQ
          have hPQ : (P : Int) - (Q : Int) = D := by
            rw [HD.out, HLL.out, hP, hQ]; push_cast; rfl
          have hPb : P ≤ 1048576 := by rw [hP]; exact n2_20 s.size hsz
          have hQb : Q ≤ 3486784401 := by rw [hQ]; exact n3_20 (ones l) (by have := HO1.out; rw [HLL.out] at this; omega)
          rw [HX.out]
          clear hP hQ
          by_cases hd : D < 0
          · have hDB := HB3.out hd
            have hND : -D = (B : Int) := by omega
            have HNN := Lib.hid (show N = -(X : Int) by rw [HN.out, if_pos hd])
            have hdd : decide (D < 0) = true := decide_eq_true hd
            clear hDB
            go_wp2_with (first | (go_at_call 13; refine (stOnes_any _ _ (by omega)).mono ?_; rw [← HL.out]; rintro e w1 ⟨rfl, rfl⟩) | (go_at_call 14; (with_reducible refine (HP.out _).mono ?_); rintro e w1 ⟨rfl, rfl⟩) | (go_at_call 14; (with_reducible refine (HQ.out _).mono ?_); rintro e w1 ⟨rfl, rfl⟩) | (go_at_call 16; refine (l1Abs_neg _ _ (by omega) (by omega)).mono ?_; rintro e w1 ⟨rfl, rfl⟩) | (go_at_call 15; refine (HGCD.out _).mono ?_; rintro e w1 ⟨rfl, rfl⟩))
            go_region
            all_goals
              go_wp2
              go_ret3
              exact ⟨by rw [HR.out, HNN.out]; rfl, by first | exact Below.refl _ _ | exact (Below.refl _ _).drew⟩
          · have hDB := HB4.out (by omega)
            have HNN := Lib.hid (show N = (X : Int) by rw [HN.out, if_neg (by omega)])
            have hdd : decide (D < 0) = false := decide_eq_false hd
            go_wp2_with (first | (go_at_call 13; refine (stOnes_any _ _ (by omega)).mono ?_; rw [← HL.out]; rintro e w1 ⟨rfl, rfl⟩) | (go_at_call 14; (with_reducible refine (HP.out _).mono ?_); rintro e w1 ⟨rfl, rfl⟩) | (go_at_call 14; (with_reducible refine (HQ.out _).mono ?_); rintro e w1 ⟨rfl, rfl⟩) | (go_at_call 16; refine (l1Abs_pos _ _ (by omega) (by omega)).mono ?_; rintro e w1 ⟨rfl, rfl⟩) | (go_at_call 15; refine (HGCD.out _).mono ?_; rintro e w1 ⟨rfl, rfl⟩))
            go_region
            all_goals
              go_wp2
              go_ret3
              exact ⟨by rw [HR.out, HNN.out]; rfl, by first | exact Below.refl _ _ | exact (Below.refl _ _).drew⟩
  · have HO := Lib.hid (show okW s = false by simpa using hok)
    have HR := Lib.hid (show resC s = .tuple #[.int .i64 0, .int .i64 0, .bool false] from if_neg (by rw [okC_no1 HO.out]; simp))
    clear hok
    go_enter Tryd.func7, Tryd.ntmps7
    go_wp2_with (go_at_call 9; refine (stLetters_any _ _).mono ?_; rw [HO.out]; rintro e w1 ⟨rfl, rfl⟩)
    go_ret3
    exact ⟨by rw [HR.out]; rfl, Below.refl _ _⟩

theorem resC_shape (s : ByteArray) : ∃ (x y : Int) (b : Bool), resC s = .tuple #[.int .i64 x, .int .i64 y, .bool b] := by
  unfold resC
  split
  · exact ⟨_, _, _, rfl⟩
  · exact ⟨_, _, _, rfl⟩

theorem law_CycleOfWord {W : World} (s : ByteArray) (hz : s.size ≤ maxLen) :
    Calls Tryd.prog 4 #[.string s] W fun e w' => e = .returned (.bool true) ∧ Below W.heap.size W w' := by
  unfold maxLen at hz
  have H1 := Lib.hid (fun w' => spec_CycleOfWord s w')
  have H2 := Lib.hid (fun w' => impl_CycleOfWord s w')
  obtain ⟨x, y, b, hv⟩ := resC_shape s
  rw [hv] at H1 H2
  clear hv
  by_cases hl : s.size ≤ 1048576
  · go_enter Tryd.func4, Tryd.ntmps4
    go_wp2_with (first | (go_at_call 7; refine (H1.out _).mono ?_; rintro e w1 ⟨rfl, hbl⟩; have HB1 := Lib.hid hbl; clear hbl) | (go_at_call 8; refine (H2.out _).mono ?_; rintro e w2 ⟨rfl, hbl⟩; have HB2 := Lib.hid hbl; clear hbl))
    go_ret
    exact ⟨by simp, Below.step HB1.out HB1.out.size HB2.out⟩
  · go_enter Tryd.func4, Tryd.ntmps4
    go_wp2
    go_ret
    exact ⟨rfl, Below.refl _ _⟩

end Go.Proofs.YtbgnieajeipllaaDoor
