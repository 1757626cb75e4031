/-
  Smooth numbers, roots by remainders, numbers divided by their digit sums and products: the program's and the model's leaves.
-/
import Derived.Test.YtdlohdjejmpmcaaWC
namespace Go.Proofs.Ytdlohdjejmpmcaa
open Go.RowKit
set_option linter.unusedVariables false
set_option linter.unusedSimpArgs false
set_option maxRecDepth 100000

theorem dvo_bd {d n : Int} (hd : 2 ≤ d) (hn : 0 < n) (h : n % d = 0) (hb : n ≤ 1000000000000) : 0 < n / d ∧ n / d ≤ 1000000000000 ∧ n / d < n :=
  ⟨div_pos0 hd hn h, by have := (div_less hd hn).2; omega, (div_less hd hn).2⟩

theorem rootByRemainder_any (n b : Int) (w : World) (h0 : 0 ≤ n) (h1 : n ≤ 1000000000000) (hb : 2 ≤ b) (hb' : b ≤ 16) :
    Calls Try.prog 87 #[.int .i64 b, .int .i64 n] w fun e w' => e = .returned (.int .i64 (rbr b n)) ∧ Below w.heap.size w w' := by
  by_cases hz : n = 0
  · have HS := Lib.hid (show rbr b n = 0 from if_pos hz)
    go_enter Try.func87, Try.ntmps87
    go_wp2
    go_ret
    exact ⟨by rw [HS.out]; rfl, Below.refl _ _⟩
  · have HS := Lib.hid (show rbr b n = (n - 1) % (b - 1) + 1 from if_neg hz)
    have hm : 0 ≤ (n - 1) % (b - 1) ∧ (n - 1) % (b - 1) < b - 1 := ⟨Int.emod_nonneg _ (by omega), Int.emod_lt_of_pos _ (by omega)⟩
    go_enter Try.func87, Try.ntmps87
    go_wp2
    go_ret
    exact ⟨by rw [HS.out]; first | rfl | go_num, Below.refl _ _⟩

theorem hsh_pos {b n s : Int} (h : s = sd b n) (hn : 0 < n) : hsh b n = decide (n % s = 0) := by
  rw [hsh, ← h, decide_eq_true hn, Bool.true_and]
theorem hsh_no {b n : Int} (hn : ¬ 0 < n) : hsh b n = false := by
  rw [hsh, decide_eq_false hn, Bool.false_and]

theorem isHarshad_any (n b : Int) (w : World) (h0 : 0 ≤ n) (h1 : n ≤ 1000000000000) (hb : 2 ≤ b) (hb' : b ≤ 16) :
    Calls Try.prog 93 #[.int .i64 b, .int .i64 n] w fun e w' => e = .returned (.bool (hsh b n)) ∧ Below w.heap.size w w' := by
  by_cases hn : 0 < n
  · obtain ⟨s, hs⟩ : ∃ s, s = sd b n := ⟨_, rfl⟩
    have s0 : 0 < s := by rw [hs]; exact sd_pos b n hb hn
    have s1 : s ≤ 600 := by rw [hs]; exact (sd_bd b n hb hb' h0 h1).2.2.1
    have HS := Lib.hid (hsh_pos hs hn)
    have HD := Lib.hid (show (dgs b n).sum = s from hs.symm)
    clear hs
    go_enter Try.func93, Try.ntmps93
    go_wp2_with (go_at_call 59; refine (digitSum_any _ _ _ h0 h1 hb hb').mono ?_; rw [HD.out]; rintro e w1 ⟨rfl, hbl⟩; have HB := Lib.hid hbl; clear hbl)
    go_ret
    exact ⟨by rw [HS.out]; simp [Bool.beq_eq_decide_eq], HB.out⟩
  · have HS := Lib.hid (hsh_no (b := b) hn)
    go_enter Try.func93, Try.ntmps93
    go_wp2
    go_ret
    exact ⟨by rw [HS.out]; rfl, Below.refl _ _⟩

theorem prHarshad_any (n b : Int) (w : World) (h0 : 0 ≤ n) (h1 : n ≤ 1000000000000) (hb : 2 ≤ b) (hb' : b ≤ 16) :
    Calls Try.prog 91 #[.int .i64 n, .int .i64 b] w fun e w' => e = .returned (.bool (hsh b n)) ∧ Below w.heap.size w w' := by
  by_cases hn : 0 < n
  · obtain ⟨s, hs⟩ : ∃ s, s = sd b n := ⟨_, rfl⟩
    have s0 : 0 < s := by rw [hs]; exact sd_pos b n hb hn
    have s1 : s ≤ 600 := by rw [hs]; exact (sd_bd b n hb hb' h0 h1).2.2.1
    have HS := Lib.hid (hsh_pos hs hn)
    have HD := Lib.hid (show (dgs b n).sum = s from hs.symm)
    have hall := Lib.hid (dgs_all b n hb h0)
    have hlen1 := Lib.hid (dgs_len40 b n hb h0 h1)
    clear hs
    go_enter Try.func91, Try.ntmps91
    go_wp2_with (first | (go_at_call 57; refine (dgOf_s _ _ _ h0 h1 hb hb').mono ?_; rintro e w1 ⟨g, cap, rfl, hrd, hb1⟩; have HRd := Lib.hid hrd; have HB := Lib.hid hb1; clear hb1 hrd) | (go_at_call 60; refine (dgSum_any _ _ _ _ HRd.out (fun x hx => by have := hall.out x hx; omega) (by have := hlen1.out; omega)).mono ?_; rw [HD.out]; rintro e w2 ⟨rfl, rfl⟩))
    go_ret
    exact ⟨by rw [HS.out]; simp [Bool.beq_eq_decide_eq], HB.out⟩
  · have HS := Lib.hid (hsh_no (b := b) hn)
    go_enter Try.func91, Try.ntmps91
    go_wp2
    go_ret
    exact ⟨by rw [HS.out]; rfl, Below.refl _ _⟩

theorem zuk_pos {b n p : Int} (h : p = pd b n) (hn : 0 < p) : zuk b n = decide (n % p = 0) := by
  rw [zuk, ← h, decide_eq_true hn, Bool.true_and]
theorem zuk_no {b n p : Int} (h : p = pd b n) (hn : ¬ 0 < p) : zuk b n = false := by
  rw [zuk, ← h, decide_eq_false hn, Bool.false_and]

theorem isZuckerman_any (n b : Int) (w : World) (h0 : 0 ≤ n) (h1 : n ≤ 1000000000000) (hb : 2 ≤ b) (hb' : b ≤ 16) :
    Calls Try.prog 94 #[.int .i64 b, .int .i64 n] w fun e w' => e = .returned (.bool (zuk b n)) ∧ Below w.heap.size w w' := by
  obtain ⟨p, hs⟩ : ∃ p, p = pd b n := ⟨_, rfl⟩
  have hp := pd_lt b n hb hb' h0 h1
  rw [← hs] at hp
  obtain ⟨p0, p1, _⟩ := hp
  have HD := Lib.hid (show prodW (dgs b n) 1 = p from hs.symm)
  by_cases hn : 0 < p
  · have HS := Lib.hid (zuk_pos hs hn)
    clear hs
    go_enter Try.func94, Try.ntmps94
    go_wp2_with (go_at_call 61; refine (digitProduct_any _ _ _ h0 h1 hb hb').mono ?_; rw [HD.out]; rintro e w1 ⟨rfl, hbl⟩; have HB := Lib.hid hbl; clear hbl)
    go_ret
    exact ⟨by rw [HS.out]; simp [Bool.beq_eq_decide_eq], HB.out⟩
  · have HS := Lib.hid (zuk_no hs hn)
    clear hs
    go_enter Try.func94, Try.ntmps94
    go_wp2_with (go_at_call 61; refine (digitProduct_any _ _ _ h0 h1 hb hb').mono ?_; rw [HD.out]; rintro e w1 ⟨rfl, hbl⟩; have HB := Lib.hid hbl; clear hbl)
    go_ret
    exact ⟨by rw [HS.out]; rfl, HB.out⟩

theorem nextHarshad_any (n b : Int) (w : World) (h0 : 0 ≤ n) (h1 : n ≤ 1000000000000) (hb : 2 ≤ b) (hb' : b ≤ 16) :
    Calls Try.prog 90 #[.int .i64 b, .int .i64 n] w fun e w' => e = .returned (optRes (nexH b (n + 1))) ∧ Below w.heap.size w w' := by
  go_enter Try.func90, Try.ntmps90
  go_wp2
  go_loopw [6] (fun c wr => ∃ m : Int, c = .int .i64 m ∧ 0 ≤ m ∧ m ≤ 1000000000001 ∧ Hid (nexH b m = nexH b (n + 1)) ∧ Below w.heap.size w wr) (fun c _ => (1000000000001 - intOf c).toNat)
  case atStart => exact ⟨n + 1, rfl, by omega, by omega, Lib.hid rfl, Below.refl _ _⟩
  case round =>
    obtain ⟨m, rfl, m0, m1, HN, hbl⟩ := hrel
    have HB := Lib.hid hbl
    clear hbl
    by_cases hm : m ≤ 1000000000000
    · obtain ⟨q, hq⟩ : ∃ q, q = hsh b m := ⟨_, rfl⟩
      have HQ := Lib.hid hq
      cases q with
      | true =>
        have HE := Lib.hid (nexH_yes hm hq.symm)
        clear hq
        go_wp2_with (go_at_call 93; refine (isHarshad_any _ _ _ m0 hm hb hb').mono ?_; rw [← HQ.out]; rintro e w1 ⟨rfl, hbl⟩; have HB1 := Lib.hid (Below.step HB.out HB.out.size hbl); clear hbl)
        go_ret2
        exact ⟨by rw [← HN.out, HE.out]; rfl, HB1.out⟩
      | false =>
        have HE := Lib.hid (nexH_no hm hq.symm)
        clear hq
        go_wp2_with (go_at_call 93; refine (isHarshad_any _ _ _ m0 hm hb hb').mono ?_; rw [← HQ.out]; rintro e w1 ⟨rfl, hbl⟩; have HB1 := Lib.hid (Below.step HB.out HB.out.size hbl); clear hbl)
        go_roundw
        case rel => exact ⟨m + 1, by go_num, by omega, by omega, Lib.hid (by rw [← HE.out, HN.out]), HB1.out⟩
        case measure => simp [intOf]; omega
    · have HE := Lib.hid (nexH_end (b := b) hm)
      go_wp2
      go_ret2
      exact ⟨by rw [← HN.out, HE.out]; rfl, HB.out⟩

end Go.Proofs.Ytdlohdjejmpmcaa
