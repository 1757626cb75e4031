/-
  CountRearranged: choose and the model's count.
-/
import Derived.Test.YtecnalkjlilgmabCM
import Derived.Test.YtecnalkjlilgmabDR
namespace Go.Proofs.Ytecnalkjlilgmab
open Go.RowKit
set_option linter.unusedVariables false
set_option linter.unusedSimpArgs false

theorem choose_any (n k : Nat) (w : World) (hk : k ≤ n) (hn : n ≤ 40) :
    Calls Try.prog 54 #[.int .i64 (n : Int), .int .i64 (k : Int)] w fun e w' => e = .returned (.int .i64 ((bin n k : Nat) : Int)) ∧ w = w' := by
  go_enter Try.func54, Try.ntmps54
  go_wp2
  go_loop [5, 8] (fun v i => ∃ j : Nat, j ≤ k ∧ i = .int .i64 j ∧ v = .int .i64 ((bin n j : Nat) : Int)) (fun _ i => k - (intOf i).toNat)
  case atStart => exact ⟨0, Nat.zero_le _, rfl, by rw [bin_zero]; rfl⟩
  case round =>
    obtain ⟨j, hj, rfl, rfl⟩ := hrel
    by_cases hlt : j < k
    · obtain ⟨b0, b1⟩ := choose_bd n j hn (by omega)
      have HS := Lib.hid (choose_step n j (by omega))
      go_wp2
      go_round
      case rel => exact ⟨j + 1, by omega, by go_num, by rw [HS.out]⟩
      case measure => simp [intOf]; omega
    · obtain rfl : j = k := by omega
      go_wp2
      go_ret
      exact ⟨rfl, rfl⟩

/-- Natural numbers as the cells hold them. -/
def ints (cs : List Nat) : List Int := cs.map fun (c : Nat) => (c : Int)
theorem ints_len (cs : List Nat) : (ints cs).length = cs.length := by simp [ints]
theorem ints_at (cs : List Nat) (k : Nat) (h : k < (ints cs).length) : (ints cs)[k] = ((cs[k]'(by simpa [ints] using h) : Nat) : Int) := by simp [ints]

theorem dgWays_any (v : Value) (cs : List Nat) (B : Nat) (w : World) (h : Rd w B v (ints cs)) (hsum : cs.sum ≤ 40) (hM : wP cs 0 ≤ 100000000000000) (hl : cs.length ≤ 1000) :
    Calls Try.prog 38 #[v] w fun e w' => e = .returned (.int .i64 ((wP cs 0 : Nat) : Int)) ∧ w = w' := by
  rcases h.cases with ⟨rfl, hx⟩ | ⟨g, cap, rfl, _, _, _, _, hc, _⟩
  · have : cs = [] := by simpa [ints] using hx
    subst this
    go_enter Try.func38, Try.ntmps38
    go_wp2
    refine wp_loop_rounds 1 ?_
    rw [rounds_succ]
    go_wp2
    go_ret
    exact ⟨rfl, rfl⟩
  · have HC := Lib.hid hc
    have HL := Lib.hid (ints_len cs)
    clear hc h
    rw [HL.out]
    obtain ⟨M, hMd⟩ : ∃ M, M = wP cs 0 := ⟨_, rfl⟩
    have HM := Lib.hid hMd
    rw [← hMd] at hM ⊢
    clear hMd
    go_enter Try.func38, Try.ntmps38
    go_wp2
    go_loop [3, 4, 10] (fun v n i => ∃ k W : Nat, k ≤ cs.length ∧ i = .int .i64 k ∧ n = .int .i64 ((cs.take k).sum : Nat) ∧ v = .int .i64 (W : Nat) ∧ W * wP (cs.drop k) (cs.take k).sum = M) (fun _ _ i => cs.length - (intOf i).toNat)
    case atStart => exact ⟨0, 1, Nat.zero_le _, rfl, rfl, rfl, by rw [HM.out]; simp⟩
    case round =>
      obtain ⟨k, W, hk, rfl, rfl, rfl, hw⟩ := hrel
      have HW := Lib.hid hw
      clear hw
      obtain ⟨s, hs⟩ : ∃ s, s = (cs.take k).sum := ⟨_, rfl⟩
      have hsle : s ≤ 40 := by rw [hs]; exact Nat.le_trans (nsum_take_le cs k) hsum
      have HS := Lib.hid hs
      rw [← hs]
      clear hs
      by_cases hlt : k < cs.length
      · obtain ⟨c, hcd⟩ : ∃ c, c = cs[k] := ⟨_, rfl⟩
        have hcell : w.cell? ⟨g, k, none⟩ = some (.int .i64 (c : Int)) := by rw [HC.out k (by rw [HL.out]; exact hlt), ints_at, hcd]
        have HT := Lib.hid (show (cs.take (k + 1)).sum = s + c by rw [nsum_take cs k hlt, ← HS.out, hcd])
        have hsc : s + c ≤ 40 := by rw [← HT.out]; exact Nat.le_trans (nsum_take_le cs (k + 1)) hsum
        have HP := Lib.hid (show W * bin (s + c) c * wP (cs.drop (k + 1)) (s + c) = M by have := HW.out; rw [← HS.out, wP_step cs k s hlt, ← hcd, ← Nat.mul_assoc] at this; exact this)
        have HB := Lib.hid (show W * bin (s + c) c ≤ M by
          have h1 := wP_pos (cs.drop (k + 1)) (s + c)
          have h2 := HP.out
          rw [← h2]
          exact Nat.le_mul_of_pos_right _ h1)
        clear hcd
        go_wp2
        go_loop [3, 4, 7] (fun v n i => ∃ j V : Nat, j ≤ c ∧ i = .int .i64 ((j : Int) + 1) ∧ n = .int .i64 ((s : Int) + (j : Int)) ∧ v = .int .i64 (V : Int) ∧ V = W * bin (s + j) j) (fun _ _ i => (c + 1) - (intOf i).toNat)
        case atStart => exact ⟨0, W, Nat.zero_le _, by simp, by simp, rfl, by rw [bin_zero, Nat.mul_one]⟩
        case round =>
          obtain ⟨j, V, hj, rfl, rfl, rfl, hV⟩ := hrel
          have HV := Lib.hid hV
          clear hV
          by_cases hjc : j < c
          · have hbm := bin_mono s c j (by omega)
            have hq := ways_bd W s j M (Nat.le_trans (Nat.mul_le_mul_left W hbm) HB.out) hM (by omega)
            have hst := ways_step W s j
            rw [← HV.out] at hq hst
            obtain ⟨q0, q1⟩ := hq
            have HST := Lib.hid hst
            clear hbm hst
            go_wp2
            go_round
            case rel => exact ⟨j + 1, W * bin (s + (j + 1)) (j + 1), by omega, by go_num, by go_num, by rw [HST.out], rfl⟩
            case measure => simp [intOf]; omega
          · obtain rfl : j = c := by omega
            go_wp2
            go_round
            case rel => exact ⟨k + 1, V, by omega, by go_num, by rw [HT.out]; go_num, rfl, by rw [HT.out, HV.out]; exact HP.out⟩
            case measure => simp [intOf]; omega
      · obtain rfl : k = cs.length := by omega
        go_wp2
        go_ret
        have hfin : W = M := by have := HW.out; rw [List.drop_length] at this; simpa [wP] using this
        exact ⟨by rw [hfin]; rfl, rfl⟩

end Go.Proofs.Ytecnalkjlilgmab
