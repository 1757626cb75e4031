/-
  The law of happy numbers counted (written by wip/tools/gen_3w.py).
-/
import Derived.Test.Ytjfcbelbpgmokaa3H
import Derived.Test.YtjfcbelbpgmokaaUQ
import Derived.Test.YtjfcbelbpgmokaaUF
import Derived.Test.Ytjfcbelbpgmokaa0H
import Derived.Test.Ytjfcbelbpgmokaa0D
import Derived.Test.Ytjfcbelbpgmokaa0J
namespace Go.Proofs.Ytjfcbelbpgmokaa
open Go.RowKit
set_option linter.unusedVariables false
set_option linter.unusedSimpArgs false
set_option maxRecDepth 100000

theorem draw_CountHappy (v : Value) (xs : List Int) (w : World) (h : Sb w v xs) (hs : xs.length ≤ 1048576) :
    Calls Try.prog 5 #[v] w fun e w' => ∃ z y : Int, e = .returned (.tuple #[.int .i64 z, .int .i64 y]) ∧ Below w.heap.size w w' := by
  have HC := Lib.hid (Cu.start h hs)
  obtain ⟨a, cap, rfl⟩ := h.len
  have HB := Lib.hid (alloc_below w (.cells #[.slice a xs.length cap, .int .i64 0, .int .u64 0] 40))
  clear h
  go_enter Try.func5, Try.ntmps5
  go_wp2_with fail
  refine (among_at w.heap.size _ xs _ [0, 1, 2, 3, 5, 9, 12, 13, -1] _ HC.out (by omega) (by simp) (by simp) (World.size_alloc _ _).symm rfl rfl).mono ?_
  rintro e w1 ⟨z, rfl, hc, hg⟩
  have C1 := Lib.hid hc
  have HB1 := Lib.hid (HB.out.trans (grown_below hg (by simp) (Nat.le_refl _)))
  clear hc hg
  go_wp2_with fail
  refine (among_at w.heap.size _ xs _ [10, 10, 2, 3, 5, 8, 11, 1] _ C1.out (by omega) (by simp) (by simp) rfl rfl rfl).mono ?_
  rintro e w2 ⟨y, rfl, hc, hg⟩
  have HB2 := Lib.hid (HB1.out.trans (grown_below hg HB1.out.size (Nat.le_refl _)))
  clear hc hg
  go_wp2
  go_ret2
  exact ⟨_, _, rfl, HB2.out⟩
theorem draw_HappyUpTo (v : Value) (xs : List Int) (w : World) (h : Sb w v xs) (hs : xs.length ≤ 1048576) :
    Calls Try.prog 14 #[v] w fun e w' => ∃ z y : Int, e = .returned (.tuple #[.int .i64 z, .int .i64 y]) ∧ Below w.heap.size w w' := by
  have HC := Lib.hid (Cu.start h hs)
  obtain ⟨a, cap, rfl⟩ := h.len
  have HB := Lib.hid (alloc_below w (.cells #[.slice a xs.length cap, .int .i64 0, .int .u64 0] 40))
  clear h
  go_enter Try.func14, Try.ntmps14
  go_wp2_with fail
  refine (among_at w.heap.size _ xs _ [0, 1, 10, 100, 500, 2000, 2001, -1] _ HC.out (by omega) (by simp) (by simp) (World.size_alloc _ _).symm rfl rfl).mono ?_
  rintro e w1 ⟨z, rfl, hc, hg⟩
  have C1 := Lib.hid hc
  have HB1 := Lib.hid (HB.out.trans (grown_below hg (by simp) (Nat.le_refl _)))
  clear hc hg
  go_wp2_with (go_at_call 29; refine (base_any w.heap.size _ xs _ _ C1.out (by omega)).mono ?_; rintro e w2 ⟨y, rfl, hc, hg⟩; have HB2 := Lib.hid (HB1.out.trans (grown_below hg HB1.out.size (Nat.le_refl _))); clear hc hg)
  go_ret2
  exact ⟨_, _, rfl, HB2.out⟩
theorem draw_IsHappy (v : Value) (xs : List Int) (w : World) (h : Sb w v xs) (hs : xs.length ≤ 1048576) :
    Calls Try.prog 16 #[v] w fun e w' => ∃ z y : Int, e = .returned (.tuple #[.int .i64 z, .int .i64 y]) ∧ Below w.heap.size w w' := by
  have HD := Lib.hid (draw_DigitsOf v xs w h hs)
  clear h
  go_enter Try.func16, Try.ntmps16
  go_wp2_with fail
  refine HD.out.mono ?_
  rintro e w1 ⟨z, y, rfl, hb⟩
  have HB := Lib.hid hb
  clear hb
  go_wp2
  go_ret2
  exact ⟨_, _, rfl, HB.out⟩

theorem rSame_any (v u : Value) (xs : List Int) (w : World) (hv : Sl w v xs) (hu : Sl w u xs) (hl : xs.length ≤ 2000000) :
    Calls Try.prog 10 #[v, u] w fun e w' => e = .returned (.bool true) ∧ Below w.heap.size w w' := by
  obtain ⟨a, cap, rfl, hx⟩ := hv
  obtain ⟨c, cap2, rfl, hy⟩ := hu
  have HX := Lib.hid hx
  have HY := Lib.hid hy
  clear hx hy
  go_enter Try.func10, Try.ntmps10
  go_wp2
  go_loopw [13] (fun i wr => ∃ k : Nat, k ≤ xs.length ∧ i = .int .i64 k ∧ Below w.heap.size w wr) (fun i _ => xs.length - (intOf i).toNat)
  case atStart => exact ⟨0, Nat.zero_le _, rfl, Below.refl _ _⟩
  case round =>
    obtain ⟨k, hk, rfl, hb⟩ := hrel
    have HB := Lib.hid hb
    clear hb
    by_cases hlt : k < xs.length
    · rcases HX.out with hx | ⟨b, off, rfl, hbl, hc⟩
      · rw [hx] at hlt; simp at hlt
      rcases HY.out with hy | ⟨b2, off2, rfl, hbl2, hc2⟩
      · rw [hy] at hlt; simp at hlt
      have hcell : wr.cell? ⟨b, off + k, none⟩ = some (.int .i64 xs[k]) := (HB.out.cell (p := ⟨b, off + k, none⟩) hbl).trans (hc k hlt)
      have hcell2 : wr.cell? ⟨b2, off2 + k, none⟩ = some (.int .i64 xs[k]) := (HB.out.cell (p := ⟨b2, off2 + k, none⟩) hbl2).trans (hc2 k hlt)
      obtain ⟨x, hx⟩ : ∃ x, x = xs[k] := ⟨_, rfl⟩
      rw [← hx] at hcell hcell2
      clear hc hc2 hx
      go_wp2
      go_region
      all_goals
        go_wp2
        go_roundw
        case rel => exact ⟨k + 1, by omega, by go_num, HB.out.drew⟩
        case measure => simp [intOf]; omega
    · obtain rfl : k = xs.length := by omega
      go_wp2
      go_ret
      exact ⟨rfl, HB.out⟩
theorem rd_liesW {w : World} {B : Nat} {v : Value} {xs : List Int} (hr : Rd w B v xs) : ∃ a cap, v = .slice a xs.length cap ∧ xs.length ≤ cap ∧ (xs.length = 0 ∨ ∃ g, a = some ⟨g, 0, none⟩ ∧ g < w.heap.size ∧ ∀ (j : Nat) x, xs[j]? = some x → w.cell? ⟨g, j, none⟩ = some (.int .i64 x)) := by
  rcases hr.cases with ⟨rfl, rfl⟩ | ⟨g, cap, rfl, _⟩
  · exact ⟨none, 0, rfl, Nat.le_refl _, .inl rfl⟩
  · refine ⟨_, _, rfl, hr.at.2.2.2.1, .inr ⟨g, rfl, hr.at.2.2.1, fun j x hx => ?_⟩⟩
    obtain ⟨h1, h2⟩ := List.getElem?_eq_some_iff.1 hx
    rw [hr.at.2.2.2.2.1 j h1, h2]
theorem sum_bdW : ∀ (xs : List Int), (∀ x ∈ xs, 0 ≤ x ∧ x ≤ 1000000000000) → 0 ≤ xs.sum ∧ xs.sum ≤ 1000000000000 * xs.length
  | [], _ => by simp
  | x :: xs, h => by
    have h1 := h x (by simp)
    have h2 := sum_bdW xs (fun y hy => h y (by simp [hy]))
    simp
    omega
theorem rSum_big (v : Value) (xs : List Int) (B : Nat) (w : World) (h : Rd w B v xs) (hx : ∀ x ∈ xs, 0 ≤ x ∧ x ≤ 1000000000000) (hl : xs.length ≤ 1000) :
    Calls Try.prog 12 #[v] w fun e w' => e = .returned (.int .i64 xs.sum) ∧ w = w' := by
  rcases h.cases with ⟨rfl, rfl⟩ | ⟨g, cap, rfl, _, _, _, _, hc, _⟩
  · go_enter Try.func12, Try.ntmps12
    go_wp2
    refine wp_loop_rounds 1 ?_
    rw [rounds_succ]
    go_wp2
    go_ret
    exact ⟨rfl, rfl⟩
  · have hc' := Lib.hid hc
    have HX := Lib.hid hx
    clear hc h hx
    go_enter Try.func12, Try.ntmps12
    go_wp2
    go_loop [3, 8] (fun s i => ∃ k : Nat, k ≤ xs.length ∧ i = .int .i64 k ∧ s = .int .i64 (xs.take k).sum) (fun _ i => xs.length - (intOf i).toNat)
    case atStart => exact ⟨0, Nat.zero_le _, rfl, by simp⟩
    case round =>
      obtain ⟨k, hk, rfl, rfl⟩ := hrel
      have hsb := sum_bdW (xs.take k) (fun x hx => HX.out x (List.mem_of_mem_take hx))
      have hlk : (xs.take k).length ≤ 1000 := by rw [List.length_take]; omega
      by_cases hlt : k < xs.length
      · have hcell := hc'.out k hlt
        have hxk := HX.out _ (List.getElem_mem hlt)
        have HS := Lib.hid (show (xs.take (k + 1)).sum = (xs.take k).sum + xs[k] by rw [take_snoc' xs k hlt, List.sum_append]; simp)
        obtain ⟨S, hS⟩ : ∃ S, S = (xs.take k).sum := ⟨_, rfl⟩
        rw [← hS] at HS hsb ⊢
        have s0 := hsb.1
        have s1 : S ≤ 1000000000000000 := by have := hsb.2; omega
        clear hsb hS hlk
        go_wp2
        go_round
        case rel => exact ⟨k + 1, by omega, by go_num, by rw [HS.out]⟩
        case measure => simp [intOf]; omega
      · obtain rfl : k = xs.length := by omega
        rw [List.take_length]
        go_wp2
        go_ret
        exact ⟨rfl, rfl⟩
theorem rRising_any (v : Value) (xs : List Int) (B : Nat) (w : World) (h : Rd w B v xs) (hx : xs.Pairwise (· < ·)) (hl : xs.length ≤ 2000000) :
    Calls Try.prog 18 #[v] w fun e w' => e = .returned (.bool true) ∧ Below w.heap.size w w' := by
  obtain ⟨a, cap, rfl, hcap, hlies⟩ := rd_liesW h
  have HX := Lib.hid (List.pairwise_iff_getElem.1 hx)
  have HL := Lib.hid hlies
  obtain ⟨N, hN⟩ : ∃ N, N = xs.length := ⟨_, rfl⟩
  have HN := Lib.hid hN
  rw [← hN] at hcap hl ⊢
  clear h hx hlies hN
  go_enter Try.func18, Try.ntmps18
  go_wp2
  go_loopw [3] (fun i wr => ∃ k : Nat, k ≤ N ∧ i = .int .i64 ((k : Int) + 1) ∧ Below w.heap.size w wr) (fun i _ => N + 1 - (intOf i).toNat)
  case atStart => exact ⟨0, Nat.zero_le _, by go_num, Below.refl _ _⟩
  case round =>
    obtain ⟨k, hk, rfl, hb⟩ := hrel
    have HB := Lib.hid hb
    clear hb
    by_cases hlt : k + 1 < N
    · have hlt2 : (k : Int) + 1 < (N : Int) := by omega
      rcases HL.out with h0 | ⟨g, rfl, hg, hc⟩
      · exfalso; have := HN.out; omega
      have k1 : k < xs.length := by have := HN.out; omega
      have k2 : k + 1 < xs.length := by have := HN.out; omega
      have z0 := (HB.out.cell (p := ⟨g, k, none⟩) hg).trans (hc k _ (List.getElem?_eq_getElem k1))
      have z1 := (HB.out.cell (p := ⟨g, k + 1, none⟩) hg).trans (hc (k + 1) _ (List.getElem?_eq_getElem k2))
      have hr := HX.out k (k + 1) k1 k2 (by omega)
      obtain ⟨x, hx⟩ : ∃ x, x = xs[k] := ⟨_, rfl⟩
      obtain ⟨y, hy⟩ : ∃ y, y = xs[k + 1] := ⟨_, rfl⟩
      rw [← hx] at z0 hr
      rw [← hy] at z1 hr
      have hnl : ¬ y ≤ x := by omega
      have hw1 : wrap64 ((k : Int) + 1 - 1) = (k : Int) := by unfold wrap64; omega
      have hw2 : IntKind.i64.wrap ((k : Int) + 1 - 1) = (k : Int) := by rw [IntWalk.i64_in _ (by omega)]; omega
      clear hc hx hy k1 k2
      go_wp2
      go_region
      all_goals
        go_wp2
        go_roundw
        case rel => exact ⟨k + 1, by omega, by go_num, HB.out.drew⟩
        case measure => simp [intOf]; omega
    · have hlt2 : ¬ (k : Int) + 1 < (N : Int) := by omega
      go_wp2
      go_ret
      exact ⟨rfl, HB.out⟩

theorem hapTo_rise (b k : Nat) : (hapTo b k).Pairwise (· < ·) := by
  unfold hapTo
  refine List.Pairwise.map _ (fun a c (h : a < c) => ?_) ((List.pairwise_lt_range (n := k)).filter _)
  omega
theorem LF_rise (m b : Int) : (LF_HappyUpTo m b).Pairwise (· < ·) := by
  unfold LF_HappyUpTo
  split
  · exact hapTo_rise _ _
  · exact List.Pairwise.nil
theorem LFU_len (m b : Int) : (LF_HappyUpTo m b).length ≤ 2001 := by
  unfold LF_HappyUpTo
  split
  · rename_i h
    have := (of_decide_eq_true h).1
    unfold hapTo
    rw [List.length_map]
    have h2 := List.length_filter_le (hap b.toNat) (List.range (m.toNat + 1))
    rw [List.length_range] at h2
    omega
  · simp

set_option maxHeartbeats 20000000 in
theorem law_HappyCounted {W : World} (v0 : Value) (xs0 : List Int) (hs0 : Sb W v0 xs0) (v1 : Value) (xs1 : List Int) (hs1 : Sb W v1 xs1) :
    Calls Try.prog 3 #[v0, v1] W fun e w' => e = .returned (.bool true) ∧ Below W.heap.size W w' := by
  obtain ⟨a0, k0, rfl⟩ := hs0.len
  obtain ⟨a1, k1, rfl⟩ := hs1.len
  have HS0 := Lib.hid hs0
  have HS1 := Lib.hid hs1
  have HB := Lib.hid (big_any a0 a1 xs0.length xs1.length k0 k1 W)
  clear hs0 hs1
  by_cases hbig : 1048576 < xs0.length ∨ 1048576 < xs0.length + xs1.length
  · rw [decide_eq_true hbig] at HB
    go_enter Try.func3, Try.ntmps3
    go_wp2_with (go_at_call 4; refine HB.out.mono ?_; rintro e w ⟨rfl, rfl⟩)
    go_ret
    exact ⟨rfl, Below.refl _ _⟩
  rw [decide_eq_false hbig] at HB
  have hl0 : xs0.length ≤ 1048576 := by omega
  have hl1 : xs1.length ≤ 1048576 := by omega
  have HL1 := Lib.hid hl1
  clear hbig
  go_enter Try.func3, Try.ntmps3
  go_wp2_with fail
  refine HB.out.mono ?_
  rintro e w ⟨rfl, rfl⟩
  go_wp2_with fail
  refine (draw_CountHappy _ xs0 _ HS0.out hl0).mono ?_
  rintro e w1 ⟨k, b, rfl, hb⟩
  have BE1 := Lib.hid hb
  clear hb hl0 hl1
  have HI1 := Lib.hid (fun w => impl_CountHappy k b w)
  have HT1 := Lib.hid (fun w => spec_CountHappy k b w)
  have HI2 := Lib.hid (fun w => impl_SumsSpread k b w)
  have HT2 := Lib.hid (fun w => spec_SumsSpread k b w)
  rcases oks_cases k b with ⟨hok, K, B, rfl, rfl, hK, hB, hB2⟩ | hno
  · skip
    have hqq := qq_le hB2 hK
    have eL : LF_SumsSpread (K : Int) (B : Int) = lst (nS K B) (sp B K) := by unfold LF_SumsSpread; rw [if_pos hok]; rfl
    have eC : V_CountHappy (K : Int) (B : Int) = ((hc B K (nS K B) : Nat) : Int) := by unfold V_CountHappy; rw [if_pos hok]; rfl
    rw [eL, hok] at HI2 HT2
    simp only [R_CountHappy] at HI1 HT1
    rw [eC, hok] at HI1 HT1
    have HNS := Lib.hid (show K * ((B - 1) * (B - 1)) < nS K B by unfold nS; omega)
    have hpow : B ^ K ≤ 1000000000000 := by
      have h2 := Nat.pow_le_pow_left hB2 K
      have h3 := Nat.pow_le_pow_right (show 0 < 10 by omega) hK
      have h4 : 10 ^ 12 = 1000000000000 := by decide
      omega
    have HPO := Lib.hid hpow
    have HAL := Lib.hid (spread_all hB HNS.out)
    have HCT := Lib.hid (happy_count hB (by omega) hpow HNS.out)
    have HSB := Lib.hid (fun s => sp_bd hB hB2 hK s)
    have HHL := Lib.hid (fun j => hc_le (M := 1000000000000) (b := B) (k := K) (fun s => sp_bd hB hB2 hK s) j)
    obtain ⟨N, hN⟩ : ∃ N, N = nS K B := ⟨_, rfl⟩
    have hN1 : N ≤ 973 := by rw [hN]; unfold nS; omega
    have HLL := Lib.hid (show (lst N (sp B K)).length = N from lst_len _ _)
    have hq1 : (K : Int) * ((B : Int) - 1) = ((K * (B - 1) : Nat) : Int) := by rw [Int.natCast_mul]; congr 1; omega
    have hq2 : ((K * (B - 1) : Nat) : Int) * ((B : Int) - 1) = ((K * (B - 1) * (B - 1) : Nat) : Int) := by rw [Int.natCast_mul (K * (B - 1)) (B - 1)]; congr 1; omega
    have hq3 : K * (B - 1) * (B - 1) + 1 = N := by rw [hN, nS, Nat.mul_assoc]
    have hq4 : K * (B - 1) ≤ 108 := by have := Nat.mul_le_mul hK (show B - 1 ≤ 9 by omega); omega
    obtain ⟨Q1, hQ1⟩ : ∃ Q1, Q1 = K * (B - 1) := ⟨_, rfl⟩
    rw [← hQ1] at hq1 hq2 hq3 hq4
    obtain ⟨Q2, hQ2⟩ : ∃ Q2, Q2 = Q1 * (B - 1) := ⟨_, rfl⟩
    rw [← hQ2] at hq2 hq3
    rw [← hN] at HI1 HT1 HI2 HT2 HAL HCT
    have HQ := Lib.hid (And.intro hq1 (And.intro hq2 (And.intro hq3 hq4)))
    have HOKS := Lib.hid hok
    clear eL eC hN hQ1 hQ2 hqq hq1 hq2 hq3 hq4 hok hpow HNS
    go_wp2_with fail
    refine (HI1.out _).mono ?_
    rintro e w2 ⟨rfl, hb⟩
    have BE2 := Lib.hid (BE1.out.trans (hb.mono BE1.out.size))
    clear hb
    go_wp2_with fail
    refine (HT1.out _).mono ?_
    rintro e w3 ⟨rfl, hb⟩
    have BE3 := Lib.hid (BE2.out.trans (hb.mono BE2.out.size))
    clear hb
    go_wp2_with fail
    refine (HI2.out _).mono ?_
    rintro e w4 ⟨uD, rfl, hr, hb⟩
    have BE4 := Lib.hid (BE3.out.trans (hb.mono BE3.out.size))
    have R1 := Lib.hid hr
    clear hr hb
    go_wp2_with fail
    refine (HT2.out _).mono ?_
    rintro e w5 ⟨uE, rfl, hr, hb⟩
    have R2 := Lib.hid (R1.out.keep hb)
    have BE5 := Lib.hid (BE4.out.trans (hb.mono BE4.out.size))
    have R3 := Lib.hid hr
    clear hr hb
    go_wp2_with fail
    refine (rSame_any _ _ (lst N (sp B K)) _ R2.out.sl R3.out.sl (by rw [HLL.out]; omega)).mono ?_
    rintro e w6 ⟨rfl, hb⟩
    have R4 := Lib.hid (R2.out.keep hb)
    have R5 := Lib.hid (R3.out.keep hb)
    have BE6 := Lib.hid (BE5.out.trans (hb.mono BE5.out.size))
    clear hb
    obtain ⟨ga, gc, hga, hgc, hlies⟩ := rd_liesW R4.out
    rw [HLL.out] at hga hgc
    have HLI := Lib.hid hlies
    have HGA := Lib.hid hga
    clear hlies hga
    rw [HGA.out]
    go_wp2
    go_loopw [15, 17] (fun al i wr => ∃ j : Nat, j ≤ K ∧ i = .int .i64 (j : Int) ∧ al = .int .i64 ((B ^ j : Nat) : Int) ∧ w6 = wr) (fun _ i _ => K - (intOf i).toNat)
    case atStart => exact ⟨0, Nat.zero_le _, rfl, by rw [Nat.pow_zero]; rfl, rfl⟩
    case round =>
      obtain ⟨j, hj, rfl, rfl, rfl⟩ := hrel
      by_cases hlt : j < K
      · have hp : B ^ (j + 1) ≤ 1000000000000 := Nat.le_trans (Nat.pow_le_pow_right (by omega) (by omega)) HPO.out
        have HPS := Lib.hid (show ((B ^ (j + 1) : Nat) : Int) = ((B ^ j : Nat) : Int) * (B : Int) by rw [Nat.pow_succ, Int.natCast_mul])
        have m1 : ((B ^ j : Nat) : Int) * (B : Int) ≤ 1000000000000 := by rw [← HPS.out]; omega
        obtain ⟨X, hX⟩ : ∃ X, X = B ^ j := ⟨_, rfl⟩
        rw [← hX] at HPS m1 ⊢
        have m0 : 0 ≤ (X : Int) * (B : Int) := Int.mul_nonneg (by omega) (by omega)
        clear hp hX
        go_wp2
        go_roundw
        case rel => exact ⟨j + 1, by omega, by go_num, by rw [HPS.out], by first | rfl | trivial⟩
        case measure => simp [intOf]; omega
      · obtain rfl : j = K := by omega
        obtain ⟨AL, hAL⟩ : ∃ AL, AL = B ^ j := ⟨_, rfl⟩
        have HAE := Lib.hid hAL
        rw [← hAL] at HPO HAL HCT ⊢
        have hal := HPO.out
        clear hAL
        go_wp2
        go_loopw [16, 107] (fun hp i wr => ∃ s : Nat, s ≤ N ∧ i = .int .i64 (s : Int) ∧ hp = .int .i64 ((hc B j s : Nat) : Int) ∧ Below w6.heap.size w6 wr) (fun _ i _ => N - (intOf i).toNat)
        case atStart => exact ⟨0, Nat.zero_le _, rfl, rfl, Below.refl _ _⟩
        case round =>
          obtain ⟨s, hs, rfl, rfl, hb⟩ := hrel
          have KB := Lib.hid hb
          clear hb
          have hhc : hc B j s ≤ 973000000000000 := by
            have h1 := HHL.out s
            have h2 : s * 1000000000000 ≤ 973 * 1000000000000 := Nat.mul_le_mul_right _ (by omega)
            omega
          by_cases hlt : s < N
          · have hgs : (lst N (sp B j))[s]? = some ((sp B j s : Nat) : Int) := by simp [lst, hlt]
            rcases HLI.out with h0 | ⟨g, rfl, hg, hcell⟩
            · exfalso; have := HLL.out; omega
            have z0 := (KB.out.cell (p := ⟨g, s, none⟩) hg).trans (hcell s _ hgs)
            have hsb := HSB.out s
            have HHP := Lib.hid (fun w => impl_IsHappy (s : Int) (B : Int) w)
            have eQ : OKH (s : Int) (B : Int) = true := okh_yes (by omega) hB (by omega)
            have eW : V_IsHappy (s : Int) (B : Int) = hap B s := by unfold V_IsHappy; rw [eQ]; simp
            simp only [R_IsHappy] at HHP
            rw [eW, eQ] at HHP
            have HST := Lib.hid (show hc B j (s + 1) = hc B j s + (if hap B s = true then sp B j s else 0) from rfl)
            obtain ⟨SV, hSV⟩ : ∃ SV, SV = sp B j s := ⟨_, rfl⟩
            obtain ⟨HV, hHV⟩ : ∃ HV, HV = hc B j s := ⟨_, rfl⟩
            rw [← hSV] at z0 HST hsb
            rw [← hHV] at HST hhc ⊢
            have HLT := Lib.hid hlt
            clear hcell hgs eQ eW hSV hHV
            go_wp2_with fail
            refine (HHP.out _).mono ?_
            rintro e u5 ⟨rfl, hb⟩
            have KB2 := Lib.hid (KB.out.trans (hb.mono KB.out.size))
            clear hb z0
            cases hhp : hap B s
            · have HS2 := Lib.hid (show hc B j (s + 1) = HV by rw [HST.out, hhp]; simp)
              clear hhp
              go_wp2
              go_roundw
              case rel => exact ⟨s + 1, by have := HLT.out; omega, by go_num, by rw [HS2.out], KB2.out⟩
              case measure => simp [intOf]; omega
            · have HS2 := Lib.hid (show hc B j (s + 1) = HV + SV by rw [HST.out, hhp]; simp)
              clear hhp
              go_wp2
              go_roundw
              case rel => exact ⟨s + 1, by have := HLT.out; omega, by go_num, by rw [HS2.out]; go_num, KB2.out⟩
              case measure => simp [intOf]; omega
          · obtain rfl : s = N := by omega
            have BEX := Lib.hid (BE6.out.trans (KB.out.mono BE6.out.size))
            have RX := Lib.hid ((R4.out).keep KB.out)
            have HRS := Lib.hid (rSum_big uD (lst s (sp B j)) _ _ RX.out (fun x hx => by
              unfold lst at hx
              obtain ⟨i, _, rfl⟩ := List.mem_map.1 hx
              have := HSB.out i
              omega) (by rw [HLL.out]; omega))
            rw [lst_sum, HAL.out, HGA.out] at HRS
            obtain ⟨CN, hCN⟩ : ∃ CN, CN = hc B j s := ⟨_, rfl⟩
            rw [← hCN] at HCT hhc ⊢
            clear hCN
            obtain ⟨hq1, hq2, hq3, hq4⟩ := HQ.out
            have BE100 := BEX
            go_wp2_with fail
            refine (HRS.out).mono ?_
            rintro e w100x5 ⟨rfl, rfl⟩
            by_cases hall : AL ≤ 2001
            · have HHU := Lib.hid (fun w => impl_HappyUpTo ((AL : Int) - 1) (B : Int) w)
              have hAp : 1 ≤ AL := by rw [HAE.out]; exact Nat.pow_pos (by omega)
              have eO : OKU ((AL : Int) - 1) (B : Int) = true := decide_eq_true ⟨⟨by omega, by omega⟩, by omega, by omega⟩
              have eF : LF_HappyUpTo ((AL : Int) - 1) (B : Int) = hapTo B AL := by
                unfold LF_HappyUpTo
                rw [if_pos eO]
                have e1 : ((AL : Int) - 1).toNat + 1 = AL := by omega
                rw [e1]
                rfl
              rw [eF, eO] at HHU
              have hal2 : (AL : Int) ≤ 2001 := by omega
              clear eO eF
              go_wp2_with fail
              refine (HHU.out _).mono ?_
              rintro e w101 ⟨uH, rfl, hr, hb⟩
              obtain ⟨ha, hcp, hshape, _⟩ := rd_liesW hr
              rw [HCT.out] at hshape
              subst hshape
              have BE101 := Lib.hid (BE100.out.trans (hb.mono BE100.out.size))
              clear hr hb
              as_aux_lemma =>
                go_wp2_with fail
                refine (draw_HappyUpTo _ xs1 _ (HS1.out.keep BE101.out) HL1.out).mono ?_
                rintro e y1 ⟨mo, b2, rfl, hb⟩
                have BE102 := Lib.hid (BE101.out.trans (hb.mono BE101.out.size))
                clear hb
                have HU1 := Lib.hid (fun w => impl_HappyUpTo mo b2 w)
                have HU2 := Lib.hid (fun w => spec_HappyUpTo mo b2 w)
                have HRI := Lib.hid (LF_rise mo b2)
                have HLN := Lib.hid (LFU_len mo b2)
                obtain ⟨LU, hLU⟩ : ∃ LU, LU = LF_HappyUpTo mo b2 := ⟨_, rfl⟩
                rw [← hLU] at HU1 HU2 HRI HLN
                obtain ⟨qu, hqu⟩ : ∃ qu, qu = OKU mo b2 := ⟨_, rfl⟩
                rw [← hqu] at HU1 HU2
                clear hLU hqu
                go_wp2_with fail
                refine (HU1.out _).mono ?_
                rintro e w103 ⟨uP, rfl, hr, hb⟩
                have BE103 := Lib.hid (BE102.out.trans (hb.mono BE102.out.size))
                have R7 := Lib.hid hr
                clear hr hb
                go_wp2_with fail
                refine (HU2.out _).mono ?_
                rintro e w104 ⟨uQ, rfl, hr, hb⟩
                have R8 := Lib.hid (R7.out.keep hb)
                have BE104 := Lib.hid (BE103.out.trans (hb.mono BE103.out.size))
                have R9 := Lib.hid hr
                clear hr hb
                go_wp2_with fail
                refine (draw_IsHappy _ xs1 _ (HS1.out.keep BE104.out) HL1.out).mono ?_
                rintro e y2 ⟨n, c, rfl, hb⟩
                have R10 := Lib.hid (R8.out.keep hb)
                have R11 := Lib.hid (R9.out.keep hb)
                have BE105 := Lib.hid (BE104.out.trans (hb.mono BE104.out.size))
                clear hb
                have HH1 := Lib.hid (fun w => impl_IsHappy n c w)
                have HH2 := Lib.hid (fun w => spec_IsHappy n c w)
                go_wp2_with fail
                refine (HH1.out _).mono ?_
                rintro e w106 ⟨rfl, hb⟩
                have R12 := Lib.hid (R10.out.keep hb)
                have R13 := Lib.hid (R11.out.keep hb)
                have BE106 := Lib.hid (BE105.out.trans (hb.mono BE105.out.size))
                clear hb
                go_wp2_with fail
                refine (HH2.out _).mono ?_
                rintro e w107 ⟨rfl, hb⟩
                have R14 := Lib.hid (R12.out.keep hb)
                have R15 := Lib.hid (R13.out.keep hb)
                have BE107 := Lib.hid (BE106.out.trans (hb.mono BE106.out.size))
                clear hb
                go_wp2_with fail
                refine (rSame_any _ _ LU _ R14.out.sl R15.out.sl (by have := HLN.out; omega)).mono ?_
                rintro e w108 ⟨rfl, hb⟩
                have R16 := Lib.hid (R14.out.keep hb)
                have R17 := Lib.hid (R15.out.keep hb)
                have BE108 := Lib.hid (BE107.out.trans (hb.mono BE107.out.size))
                clear hb
                go_wp2_with fail
                refine (rRising_any _ LU _ _ R16.out HRI.out (by have := HLN.out; omega)).mono ?_
                rintro e w109 ⟨rfl, hb⟩
                have R18 := Lib.hid (R16.out.keep hb)
                have R19 := Lib.hid (R17.out.keep hb)
                have BE109 := Lib.hid (BE108.out.trans (hb.mono BE108.out.size))
                clear hb
                rcases okh_cases n c with ⟨hok, M, C, rfl, rfl, hM, hC, hC2⟩ | hno
                · rw [hok]
                  have eV : V_IsHappy (M : Int) (C : Int) = hap C M := by unfold V_IsHappy; rw [hok]; simp
                  rw [eV]
                  have HPW := Lib.hid (fun w => impl_PowerSum (M : Int) (C : Int) 2 w)
                  have eO : OK3 (M : Int) (C : Int) 2 8 = true := OK3_yes ⟨by omega, by omega⟩ ⟨by omega, by omega⟩ ⟨by omega, by omega⟩
                  have eP : V_PowerSum (M : Int) (C : Int) 2 = ((ps C 2 M : Nat) : Int) := by unfold V_PowerSum; rw [if_pos eO]; rfl
                  have hps : ps C 2 M ≤ 1000000000000 := by have := ps_le4 (p := 2) hC hC2 (by omega) hM; omega
                  have HHS := Lib.hid (hap_step hC hC2 hM)
                  obtain ⟨sq, hsq⟩ : ∃ sq, sq = ps C 2 M := ⟨_, rfl⟩
                  simp only [R_PowerSum] at HPW
                  rw [eP, eO] at HPW
                  rw [← hsq] at HPW hps HHS
                  have HHQ := Lib.hid (fun w => impl_IsHappy (sq : Int) (C : Int) w)
                  have eQ : OKH (sq : Int) (C : Int) = true := okh_yes hps hC hC2
                  have eW : V_IsHappy (sq : Int) (C : Int) = hap C M := by unfold V_IsHappy; rw [eQ]; simpa using HHS.out
                  simp only [R_IsHappy] at HHQ
                  rw [eW, eQ] at HHQ
                  obtain ⟨hv, hhv⟩ : ∃ hv, hv = hap C M := ⟨_, rfl⟩
                  rw [← hhv] at HHQ ⊢
                  clear eV eO eP eQ eW hsq hhv hok
                  go_wp2_with fail
                  refine (HPW.out _).mono ?_
                  rintro e w110 ⟨rfl, hb⟩
                  have BE110 := Lib.hid (BE109.out.trans (hb.mono BE109.out.size))
                  clear hb
                  go_wp2_with fail
                  refine (HHQ.out _).mono ?_
                  rintro e w111 ⟨rfl, hb⟩
                  have BE111 := Lib.hid (BE110.out.trans (hb.mono BE110.out.size))
                  clear hb
                  go_wp2
                  go_ret
                  exact ⟨rfl, BE111.out⟩
                · rw [hno]
                  go_wp2
                  go_ret
                  exact ⟨rfl, BE109.out⟩
            · have hal2 : ¬ (AL : Int) ≤ 2001 := by omega
              as_aux_lemma =>
                go_wp2_with fail
                refine (draw_HappyUpTo _ xs1 _ (HS1.out.keep BE100.out) HL1.out).mono ?_
                rintro e y1 ⟨mo, b2, rfl, hb⟩
                have BE101 := Lib.hid (BE100.out.trans (hb.mono BE100.out.size))
                clear hb
                have HU1 := Lib.hid (fun w => impl_HappyUpTo mo b2 w)
                have HU2 := Lib.hid (fun w => spec_HappyUpTo mo b2 w)
                have HRI := Lib.hid (LF_rise mo b2)
                have HLN := Lib.hid (LFU_len mo b2)
                obtain ⟨LU, hLU⟩ : ∃ LU, LU = LF_HappyUpTo mo b2 := ⟨_, rfl⟩
                rw [← hLU] at HU1 HU2 HRI HLN
                obtain ⟨qu, hqu⟩ : ∃ qu, qu = OKU mo b2 := ⟨_, rfl⟩
                rw [← hqu] at HU1 HU2
                clear hLU hqu
                go_wp2_with fail
                refine (HU1.out _).mono ?_
                rintro e w102 ⟨uP, rfl, hr, hb⟩
                have BE102 := Lib.hid (BE101.out.trans (hb.mono BE101.out.size))
                have R7 := Lib.hid hr
                clear hr hb
                go_wp2_with fail
                refine (HU2.out _).mono ?_
                rintro e w103 ⟨uQ, rfl, hr, hb⟩
                have R8 := Lib.hid (R7.out.keep hb)
                have BE103 := Lib.hid (BE102.out.trans (hb.mono BE102.out.size))
                have R9 := Lib.hid hr
                clear hr hb
                go_wp2_with fail
                refine (draw_IsHappy _ xs1 _ (HS1.out.keep BE103.out) HL1.out).mono ?_
                rintro e y2 ⟨n, c, rfl, hb⟩
                have R10 := Lib.hid (R8.out.keep hb)
                have R11 := Lib.hid (R9.out.keep hb)
                have BE104 := Lib.hid (BE103.out.trans (hb.mono BE103.out.size))
                clear hb
                have HH1 := Lib.hid (fun w => impl_IsHappy n c w)
                have HH2 := Lib.hid (fun w => spec_IsHappy n c w)
                go_wp2_with fail
                refine (HH1.out _).mono ?_
                rintro e w105 ⟨rfl, hb⟩
                have R12 := Lib.hid (R10.out.keep hb)
                have R13 := Lib.hid (R11.out.keep hb)
                have BE105 := Lib.hid (BE104.out.trans (hb.mono BE104.out.size))
                clear hb
                go_wp2_with fail
                refine (HH2.out _).mono ?_
                rintro e w106 ⟨rfl, hb⟩
                have R14 := Lib.hid (R12.out.keep hb)
                have R15 := Lib.hid (R13.out.keep hb)
                have BE106 := Lib.hid (BE105.out.trans (hb.mono BE105.out.size))
                clear hb
                go_wp2_with fail
                refine (rSame_any _ _ LU _ R14.out.sl R15.out.sl (by have := HLN.out; omega)).mono ?_
                rintro e w107 ⟨rfl, hb⟩
                have R16 := Lib.hid (R14.out.keep hb)
                have R17 := Lib.hid (R15.out.keep hb)
                have BE107 := Lib.hid (BE106.out.trans (hb.mono BE106.out.size))
                clear hb
                go_wp2_with fail
                refine (rRising_any _ LU _ _ R16.out HRI.out (by have := HLN.out; omega)).mono ?_
                rintro e w108 ⟨rfl, hb⟩
                have R18 := Lib.hid (R16.out.keep hb)
                have R19 := Lib.hid (R17.out.keep hb)
                have BE108 := Lib.hid (BE107.out.trans (hb.mono BE107.out.size))
                clear hb
                rcases okh_cases n c with ⟨hok, M, C, rfl, rfl, hM, hC, hC2⟩ | hno
                · rw [hok]
                  have eV : V_IsHappy (M : Int) (C : Int) = hap C M := by unfold V_IsHappy; rw [hok]; simp
                  rw [eV]
                  have HPW := Lib.hid (fun w => impl_PowerSum (M : Int) (C : Int) 2 w)
                  have eO : OK3 (M : Int) (C : Int) 2 8 = true := OK3_yes ⟨by omega, by omega⟩ ⟨by omega, by omega⟩ ⟨by omega, by omega⟩
                  have eP : V_PowerSum (M : Int) (C : Int) 2 = ((ps C 2 M : Nat) : Int) := by unfold V_PowerSum; rw [if_pos eO]; rfl
                  have hps : ps C 2 M ≤ 1000000000000 := by have := ps_le4 (p := 2) hC hC2 (by omega) hM; omega
                  have HHS := Lib.hid (hap_step hC hC2 hM)
                  obtain ⟨sq, hsq⟩ : ∃ sq, sq = ps C 2 M := ⟨_, rfl⟩
                  simp only [R_PowerSum] at HPW
                  rw [eP, eO] at HPW
                  rw [← hsq] at HPW hps HHS
                  have HHQ := Lib.hid (fun w => impl_IsHappy (sq : Int) (C : Int) w)
                  have eQ : OKH (sq : Int) (C : Int) = true := okh_yes hps hC hC2
                  have eW : V_IsHappy (sq : Int) (C : Int) = hap C M := by unfold V_IsHappy; rw [eQ]; simpa using HHS.out
                  simp only [R_IsHappy] at HHQ
                  rw [eW, eQ] at HHQ
                  obtain ⟨hv, hhv⟩ : ∃ hv, hv = hap C M := ⟨_, rfl⟩
                  rw [← hhv] at HHQ ⊢
                  clear eV eO eP eQ eW hsq hhv hok
                  go_wp2_with fail
                  refine (HPW.out _).mono ?_
                  rintro e w109 ⟨rfl, hb⟩
                  have BE109 := Lib.hid (BE108.out.trans (hb.mono BE108.out.size))
                  clear hb
                  go_wp2_with fail
                  refine (HHQ.out _).mono ?_
                  rintro e w110 ⟨rfl, hb⟩
                  have BE110 := Lib.hid (BE109.out.trans (hb.mono BE109.out.size))
                  clear hb
                  go_wp2
                  go_ret
                  exact ⟨rfl, BE110.out⟩
                · rw [hno]
                  go_wp2
                  go_ret
                  exact ⟨rfl, BE108.out⟩
  · skip
    have eL : LF_SumsSpread k b = [] := by unfold LF_SumsSpread; rw [hno]; simp
    rw [eL, hno] at HI2 HT2
    simp only [R_CountHappy] at HI1 HT1
    rw [hno] at HI1 HT1
    clear eL hno
    go_wp2_with fail
    refine (HI1.out _).mono ?_
    rintro e w2 ⟨rfl, hb⟩
    have BE2 := Lib.hid (BE1.out.trans (hb.mono BE1.out.size))
    clear hb
    go_wp2_with fail
    refine (HT1.out _).mono ?_
    rintro e w3 ⟨rfl, hb⟩
    have BE3 := Lib.hid (BE2.out.trans (hb.mono BE2.out.size))
    clear hb
    go_wp2_with fail
    refine (HI2.out _).mono ?_
    rintro e w4 ⟨uD, rfl, hr, hb⟩
    have BE4 := Lib.hid (BE3.out.trans (hb.mono BE3.out.size))
    have R1 := Lib.hid hr
    clear hr hb
    go_wp2_with fail
    refine (HT2.out _).mono ?_
    rintro e w5 ⟨uE, rfl, hr, hb⟩
    have R2 := Lib.hid (R1.out.keep hb)
    have BE5 := Lib.hid (BE4.out.trans (hb.mono BE4.out.size))
    have R3 := Lib.hid hr
    clear hr hb
    go_wp2_with fail
    refine (rSame_any _ _ [] _ R2.out.sl R3.out.sl (by simp)).mono ?_
    rintro e w6 ⟨rfl, hb⟩
    have R4 := Lib.hid (R2.out.keep hb)
    have R5 := Lib.hid (R3.out.keep hb)
    have BE6 := Lib.hid (BE5.out.trans (hb.mono BE5.out.size))
    clear hb
    as_aux_lemma =>
      go_wp2_with fail
      refine (draw_HappyUpTo _ xs1 _ (HS1.out.keep BE6.out) HL1.out).mono ?_
      rintro e y1 ⟨mo, b2, rfl, hb⟩
      have BE7 := Lib.hid (BE6.out.trans (hb.mono BE6.out.size))
      clear hb
      have HU1 := Lib.hid (fun w => impl_HappyUpTo mo b2 w)
      have HU2 := Lib.hid (fun w => spec_HappyUpTo mo b2 w)
      have HRI := Lib.hid (LF_rise mo b2)
      have HLN := Lib.hid (LFU_len mo b2)
      obtain ⟨LU, hLU⟩ : ∃ LU, LU = LF_HappyUpTo mo b2 := ⟨_, rfl⟩
      rw [← hLU] at HU1 HU2 HRI HLN
      obtain ⟨qu, hqu⟩ : ∃ qu, qu = OKU mo b2 := ⟨_, rfl⟩
      rw [← hqu] at HU1 HU2
      clear hLU hqu
      go_wp2_with fail
      refine (HU1.out _).mono ?_
      rintro e w8 ⟨uP, rfl, hr, hb⟩
      have BE8 := Lib.hid (BE7.out.trans (hb.mono BE7.out.size))
      have R6 := Lib.hid hr
      clear hr hb
      go_wp2_with fail
      refine (HU2.out _).mono ?_
      rintro e w9 ⟨uQ, rfl, hr, hb⟩
      have R7 := Lib.hid (R6.out.keep hb)
      have BE9 := Lib.hid (BE8.out.trans (hb.mono BE8.out.size))
      have R8 := Lib.hid hr
      clear hr hb
      go_wp2_with fail
      refine (draw_IsHappy _ xs1 _ (HS1.out.keep BE9.out) HL1.out).mono ?_
      rintro e y2 ⟨n, c, rfl, hb⟩
      have R9 := Lib.hid (R7.out.keep hb)
      have R10 := Lib.hid (R8.out.keep hb)
      have BE10 := Lib.hid (BE9.out.trans (hb.mono BE9.out.size))
      clear hb
      have HH1 := Lib.hid (fun w => impl_IsHappy n c w)
      have HH2 := Lib.hid (fun w => spec_IsHappy n c w)
      go_wp2_with fail
      refine (HH1.out _).mono ?_
      rintro e w11 ⟨rfl, hb⟩
      have R11 := Lib.hid (R9.out.keep hb)
      have R12 := Lib.hid (R10.out.keep hb)
      have BE11 := Lib.hid (BE10.out.trans (hb.mono BE10.out.size))
      clear hb
      go_wp2_with fail
      refine (HH2.out _).mono ?_
      rintro e w12 ⟨rfl, hb⟩
      have R13 := Lib.hid (R11.out.keep hb)
      have R14 := Lib.hid (R12.out.keep hb)
      have BE12 := Lib.hid (BE11.out.trans (hb.mono BE11.out.size))
      clear hb
      go_wp2_with fail
      refine (rSame_any _ _ LU _ R13.out.sl R14.out.sl (by have := HLN.out; omega)).mono ?_
      rintro e w13 ⟨rfl, hb⟩
      have R15 := Lib.hid (R13.out.keep hb)
      have R16 := Lib.hid (R14.out.keep hb)
      have BE13 := Lib.hid (BE12.out.trans (hb.mono BE12.out.size))
      clear hb
      go_wp2_with fail
      refine (rRising_any _ LU _ _ R15.out HRI.out (by have := HLN.out; omega)).mono ?_
      rintro e w14 ⟨rfl, hb⟩
      have R17 := Lib.hid (R15.out.keep hb)
      have R18 := Lib.hid (R16.out.keep hb)
      have BE14 := Lib.hid (BE13.out.trans (hb.mono BE13.out.size))
      clear hb
      rcases okh_cases n c with ⟨hok, M, C, rfl, rfl, hM, hC, hC2⟩ | hno
      · rw [hok]
        have eV : V_IsHappy (M : Int) (C : Int) = hap C M := by unfold V_IsHappy; rw [hok]; simp
        rw [eV]
        have HPW := Lib.hid (fun w => impl_PowerSum (M : Int) (C : Int) 2 w)
        have eO : OK3 (M : Int) (C : Int) 2 8 = true := OK3_yes ⟨by omega, by omega⟩ ⟨by omega, by omega⟩ ⟨by omega, by omega⟩
        have eP : V_PowerSum (M : Int) (C : Int) 2 = ((ps C 2 M : Nat) : Int) := by unfold V_PowerSum; rw [if_pos eO]; rfl
        have hps : ps C 2 M ≤ 1000000000000 := by have := ps_le4 (p := 2) hC hC2 (by omega) hM; omega
        have HHS := Lib.hid (hap_step hC hC2 hM)
        obtain ⟨sq, hsq⟩ : ∃ sq, sq = ps C 2 M := ⟨_, rfl⟩
        simp only [R_PowerSum] at HPW
        rw [eP, eO] at HPW
        rw [← hsq] at HPW hps HHS
        have HHQ := Lib.hid (fun w => impl_IsHappy (sq : Int) (C : Int) w)
        have eQ : OKH (sq : Int) (C : Int) = true := okh_yes hps hC hC2
        have eW : V_IsHappy (sq : Int) (C : Int) = hap C M := by unfold V_IsHappy; rw [eQ]; simpa using HHS.out
        simp only [R_IsHappy] at HHQ
        rw [eW, eQ] at HHQ
        obtain ⟨hv, hhv⟩ : ∃ hv, hv = hap C M := ⟨_, rfl⟩
        rw [← hhv] at HHQ ⊢
        clear eV eO eP eQ eW hsq hhv hok
        go_wp2_with fail
        refine (HPW.out _).mono ?_
        rintro e w15 ⟨rfl, hb⟩
        have BE15 := Lib.hid (BE14.out.trans (hb.mono BE14.out.size))
        clear hb
        go_wp2_with fail
        refine (HHQ.out _).mono ?_
        rintro e w16 ⟨rfl, hb⟩
        have BE16 := Lib.hid (BE15.out.trans (hb.mono BE15.out.size))
        clear hb
        go_wp2
        go_ret
        exact ⟨rfl, BE16.out⟩
      · rw [hno]
        go_wp2
        go_ret
        exact ⟨rfl, BE14.out⟩

end Go.Proofs.Ytjfcbelbpgmokaa
