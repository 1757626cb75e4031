/-
  Functions that only read a slice of integers.
-/
import Derived.Test.YtgiabadkbfbilaaW
namespace Go.Proofs.Ytgiabadkbfbilaa
open Go.RowKit
set_option linter.unusedVariables false
set_option linter.unusedSimpArgs false

theorem dgSum_any (v : Value) (xs : List Int) (B : Nat) (w : World) (h : Rd w B v xs) (hb : ∀ x ∈ xs, 0 ≤ x ∧ x ≤ 1000000) (hl : xs.length ≤ 1000000) :
    Calls Try.prog 144 #[v] w fun e w' => e = .returned (.int .i64 xs.sum) ∧ w = w' := by
  rcases h.cases with ⟨rfl, rfl⟩ | ⟨g, cap, rfl, _, _, _, _, hc, _⟩
  · go_enter Try.func144, Try.ntmps144
    go_wp2
    refine wp_loop_rounds 1 ?_
    rw [rounds_succ]
    go_wp2
    go_ret
    exact ⟨rfl, rfl⟩
  · have hc' := Lib.hid hc
    have hb' := Lib.hid hb
    clear hc hb h
    go_enter Try.func144, Try.ntmps144
    go_wp2
    go_loop [3, 8] (fun s i => ∃ k : Nat, k ≤ xs.length ∧ i = .int .i64 k ∧ s = .int .i64 (xs.take k).sum) (fun _ i => xs.length - (intOf i).toNat)
    case atStart => exact ⟨0, Nat.zero_le _, rfl, rfl⟩
    case round =>
      obtain ⟨k, hk, rfl, rfl⟩ := hrel
      obtain ⟨b1, b2⟩ := sum_take_bd xs 1000000 k hb'.out (by omega) hk
      by_cases hlt : k < xs.length
      · obtain ⟨x1, x2⟩ := hb'.out _ (List.getElem_mem hlt)
        have hcell := hc'.out k hlt
        have hs := Lib.hid (sum_snoc xs k hlt)
        go_wp2
        go_round
        case rel => exact ⟨k + 1, by omega, by go_num, by rw [hs.out]⟩
        case measure => simp [intOf]; omega
      · obtain rfl : k = xs.length := by omega
        go_wp2
        go_ret
        exact ⟨ret_int (by simp), rfl⟩

theorem dgProduct_any (v : Value) (xs : List Int) (B : Nat) (w : World) (h : Rd w B v xs) (hl : xs.length ≤ 1000000) :
    Calls Try.prog 146 #[v] w fun e w' => e = .returned (.int .i64 (prodW xs 1)) ∧ w = w' := by
  rcases h.cases with ⟨rfl, rfl⟩ | ⟨g, cap, rfl, _, _, _, _, hc, _⟩
  · go_enter Try.func146, Try.ntmps146
    go_wp2
    refine wp_loop_rounds 1 ?_
    rw [rounds_succ]
    go_wp2
    go_ret
    exact ⟨rfl, rfl⟩
  · have hc' := Lib.hid hc
    clear hc h
    go_enter Try.func146, Try.ntmps146
    go_wp2
    go_loop [3, 8] (fun s i => ∃ (k : Nat) (n : Int), k ≤ xs.length ∧ i = .int .i64 k ∧ s = .int .i64 n ∧ prodW (xs.drop k) n = prodW xs 1) (fun _ i => xs.length - (intOf i).toNat)
    case atStart => exact ⟨0, 1, Nat.zero_le _, rfl, rfl, rfl⟩
    case round =>
      obtain ⟨k, n, hk, rfl, rfl, hp⟩ := hrel
      have hp' := Lib.hid hp
      clear hp
      by_cases hlt : k < xs.length
      · have hcell := hc'.out k hlt
        have hs := Lib.hid (prodW_step xs k n hlt)
        go_wp2
        go_round
        case rel => exact ⟨k + 1, wrap64 (n * xs[k]), by omega, by go_num, by first | rfl | go_num, by rw [← hs.out]; exact hp'.out⟩
        case measure => simp [intOf]; omega
      · obtain rfl : k = xs.length := by omega
        go_wp2
        go_ret
        exact ⟨ret_int (by have := hp'.out; simpa [prodW] using this), rfl⟩

theorem dgFrom_any (v : Value) (xs : List Int) (b : Int) (B : Nat) (w : World) (h : Rd w B v xs) (hd : ∀ x ∈ xs, 0 ≤ x ∧ x ≤ 1000000) (hb : 2 ≤ b) (hb' : b ≤ 16) (hl : xs.length ≤ 1000000) :
    Calls Try.prog 105 #[v, .int .i64 b] w fun e w' => e = .returned (optRes (numF b xs 0)) ∧ w = w' := by
  rcases h.cases with ⟨rfl, rfl⟩ | ⟨g, cap, rfl, _, _, _, _, hc, _⟩
  · go_enter Try.func105, Try.ntmps105
    go_wp2
    refine wp_loop_rounds 1 ?_
    rw [rounds_succ]
    go_wp2
    go_ret2
    exact ⟨rfl, rfl⟩
  · have hc' := Lib.hid hc
    have hd' := Lib.hid hd
    clear hc h hd
    go_enter Try.func105, Try.ntmps105
    go_wp2
    go_loop [6, 11] (fun s i => ∃ (k : Nat) (n : Int), k ≤ xs.length ∧ i = .int .i64 k ∧ s = .int .i64 n ∧ 0 ≤ n ∧ n ≤ 1000000000000 ∧ numF b (xs.drop k) n = numF b xs 0) (fun _ i => xs.length - (intOf i).toNat)
    case atStart => exact ⟨0, 0, Nat.zero_le _, rfl, rfl, by omega, by omega, rfl⟩
    case round =>
      obtain ⟨k, n, hk, rfl, rfl, n0, n1, hp⟩ := hrel
      have hp' := Lib.hid hp
      clear hp
      obtain ⟨m0, m1⟩ := mul_le16 n b n0 n1 hb hb'
      by_cases hlt : k < xs.length
      · have hcell := hc'.out k hlt
        obtain ⟨x1, x2⟩ := hd'.out _ (List.getElem_mem hlt)
        have hs := Lib.hid (numF_step b xs k n hlt)
        by_cases hgt : 1000000000000 < n * b + xs[k]
        · go_wp2
          go_ret2
          refine ⟨?_, rfl⟩
          rw [← hp'.out, hs.out, if_pos hgt]
          rfl
        · go_wp2
          go_round
          case rel => exact ⟨k + 1, n * b + xs[k], by omega, by go_num, by first | rfl | go_num, by omega, by omega, by rw [← hp'.out, hs.out, if_neg hgt]⟩
          case measure => simp [intOf]; omega
      · obtain rfl : k = xs.length := by omega
        go_wp2
        go_ret2
        refine ⟨?_, rfl⟩
        rw [← hp'.out]
        simp [numF, optRes]

theorem number_any (v : Value) (xs : List Int) (b : Int) (B : Nat) (w : World) (h : Rd w B v xs) (hd : ∀ x ∈ xs, 0 ≤ x ∧ x ≤ 1000000) (hb : 2 ≤ b) (hb' : b ≤ 16) (hl : xs.length ≤ 1000000) :
    Calls Try.prog 148 #[.int .i64 b, v] w fun e w' => e = .returned (optRes (numF b xs 0)) ∧ w = w' := by
  rcases h.cases with ⟨rfl, rfl⟩ | ⟨g, cap, rfl, _, _, _, _, hc, _⟩
  · go_enter Try.func148, Try.ntmps148
    go_wp2
    refine wp_loop_rounds 1 ?_
    rw [rounds_succ]
    go_wp2
    go_ret2
    exact ⟨rfl, rfl⟩
  · have hc' := Lib.hid hc
    have hd' := Lib.hid hd
    clear hc h hd
    go_enter Try.func148, Try.ntmps148
    go_wp2
    go_loop [6, 11] (fun s i => ∃ (k : Nat) (n : Int), k ≤ xs.length ∧ i = .int .i64 k ∧ s = .int .i64 n ∧ 0 ≤ n ∧ n ≤ 1000000000000 ∧ numF b (xs.drop k) n = numF b xs 0) (fun _ i => xs.length - (intOf i).toNat)
    case atStart => exact ⟨0, 0, Nat.zero_le _, rfl, rfl, by omega, by omega, rfl⟩
    case round =>
      obtain ⟨k, n, hk, rfl, rfl, n0, n1, hp⟩ := hrel
      have hp' := Lib.hid hp
      clear hp
      obtain ⟨m0, m1⟩ := mul_le16 n b n0 n1 hb hb'
      by_cases hlt : k < xs.length
      · have hcell := hc'.out k hlt
        obtain ⟨x1, x2⟩ := hd'.out _ (List.getElem_mem hlt)
        have hs := Lib.hid (numF_step b xs k n hlt)
        by_cases hgt : 1000000000000 < n * b + xs[k]
        · go_wp2
          go_ret2
          refine ⟨?_, rfl⟩
          rw [← hp'.out, hs.out, if_pos hgt]
          rfl
        · go_wp2
          go_round
          case rel => exact ⟨k + 1, n * b + xs[k], by omega, by go_num, by first | rfl | go_num, by omega, by omega, by rw [← hp'.out, hs.out, if_neg hgt]⟩
          case measure => simp [intOf]; omega
      · obtain rfl : k = xs.length := by omega
        go_wp2
        go_ret2
        refine ⟨?_, rfl⟩
        rw [← hp'.out]
        simp [numF, optRes]

end Go.Proofs.Ytgiabadkbfbilaa
