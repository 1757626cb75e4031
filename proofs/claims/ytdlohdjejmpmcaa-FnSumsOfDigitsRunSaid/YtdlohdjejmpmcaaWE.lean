/-
  Answers of stage 6 (written by wip/tools/gen_we.py).
-/
import Derived.Test.YtdlohdjejmpmcaaWD
import Derived.Test.YtdlohdjejmpmcaaK
namespace Go.Proofs.Ytdlohdjejmpmcaa
open Go.RowKit
set_option linter.unusedVariables false
set_option linter.unusedSimpArgs false
set_option maxRecDepth 100000

def RPersistenceOf (b n : Int) : Int := ((pru b n).length : Int) - 1
def RSumPersistence (b n : Int) : Int := ((sru b n).length : Int) - 1
def RProductRoot (b n : Int) : Int := lastD (pru b n)
def RRootByRemainder (b n : Int) : Int := rbr b n
def RNextHarshad (b n : Int) : Option Int := nexH b (n + 1)

theorem tell_sumPersistence (n b : Int) (w : World) :
    Calls Try.prog 58 #[.int .i64 n, .int .i64 b, .func (Fn.func 86) #[] #[]] w fun e w' => e = .returned (optRes (askI RSumPersistence n b)) ∧ Below w.heap.size w w' := by
  by_cases hn : Num n
  · have a1 : decide (Num n) = true := decide_eq_true hn
    by_cases hB : Bas b
    · have a2 : decide (Bas b) = true := decide_eq_true hB
      have hR := Lib.hid (show askI RSumPersistence n b = some (RSumPersistence b n) from if_pos ⟨hn, hB⟩)
      obtain ⟨n0, n1⟩ := hn
      obtain ⟨b0, b1⟩ := hB
      go_enter Try.func58, Try.ntmps58
      go_wp2_with (first | (go_at_call 97; refine (isNumber_any _ _).mono ?_; rintro e w1 ⟨rfl, rfl⟩) | (go_at_call 69; refine (isBase_any _ _).mono ?_; rintro e w1 ⟨rfl, rfl⟩) | (go_at_call 86; refine (sumPersistence_any _ _ _ n0 n1 b0 b1).mono ?_; rintro e w1 ⟨rfl, hbl⟩; have HB := Lib.hid hbl; clear hbl))
      go_ret2
      exact ⟨by rw [hR.out]; rfl, HB.out⟩
    · have a2 : decide (Bas b) = false := decide_eq_false hB
      have hR := Lib.hid (show askI RSumPersistence n b = none from if_neg (fun h => hB h.2))
      clear hn hB
      go_enter Try.func58, Try.ntmps58
      go_wp2_with (first | (go_at_call 97; refine (isNumber_any _ _).mono ?_; rintro e w1 ⟨rfl, rfl⟩) | (go_at_call 69; refine (isBase_any _ _).mono ?_; rintro e w1 ⟨rfl, rfl⟩))
      go_ret2
      exact ⟨by rw [hR.out]; rfl, Below.refl _ _⟩
  · have a1 : decide (Num n) = false := decide_eq_false hn
    have hR := Lib.hid (show askI RSumPersistence n b = none from if_neg (fun h => hn h.1))
    clear hn
    go_enter Try.func58, Try.ntmps58
    go_wp2_with (first | (go_at_call 97; refine (isNumber_any _ _).mono ?_; rintro e w1 ⟨rfl, rfl⟩) | (go_at_call 69; refine (isBase_any _ _).mono ?_; rintro e w1 ⟨rfl, rfl⟩))
    go_ret2
    exact ⟨by rw [hR.out]; rfl, Below.refl _ _⟩

theorem impl_SumPersistence (n b : Int) (w : World) :
    Calls Try.prog 34 #[.int .i64 n, .int .i64 b] w fun e w' => e = .returned (optRes (askI RSumPersistence n b)) ∧ Below w.heap.size w w' := by
  go_enter Try.func34, Try.ntmps34
  go_wp2_with (go_at_call 58; refine (tell_sumPersistence _ _ _).mono ?_; rintro e w1 ⟨rfl, hbl⟩; have HB := Lib.hid hbl; clear hbl)
  go_ret2
  exact ⟨rfl, HB.out⟩

theorem spec_SumPersistence (n b : Int) (w : World) :
    Calls Try.prog 35 #[.int .i64 n, .int .i64 b] w fun e w' => e = .returned (optRes (askI RSumPersistence n b)) ∧ Below w.heap.size w w' := by
  by_cases hq : Num n ∧ Bas b
  · have a1 : decide (Num n ∧ Bas b) = true := decide_eq_true hq
    have hR := Lib.hid (show askI RSumPersistence n b = some (RSumPersistence b n) from if_pos hq)
    obtain ⟨⟨n0, n1⟩, b0, b1⟩ := hq
    have hall := Lib.hid (dgs_all b n b0 n0)
    have hlen := Lib.hid (dgs_len40 b n b0 n0 n1)
    have hlenr := sru_len b n b0 b1 n0 n1
    have hposr := ru_pos b (sd b) n
    change 1 ≤ (sru b n).length at hposr
    go_enter Try.func35, Try.ntmps35
    go_wp2_with (first | (go_at_call 56; refine (dgAsked_any _ _ _).mono ?_; rintro e w1 ⟨rfl, rfl⟩) | (go_at_call 57; refine (dgOf_s _ _ _ n0 n1 b0 b1).mono ?_; rintro e w1 ⟨g, cap, rfl, hr, hbl⟩; have HB := Lib.hid hbl; have HR := Lib.hid hr; clear hbl hr) | (go_at_call 85; refine (prRun_s _ _ _ n0 n1 b0 b1).mono ?_; rintro e w1 ⟨g, cap, rfl, hr, hbl⟩; have HB := Lib.hid hbl; have HR := Lib.hid hr; clear hbl hr))
    go_ret2
    exact ⟨by rw [hR.out]; first | rfl | (simp [optRes, RPersistenceOf, RSumPersistence]), HB.out⟩
  · have a1 : decide (Num n ∧ Bas b) = false := decide_eq_false hq
    have hR := Lib.hid (show askI RSumPersistence n b = none from if_neg hq)
    clear hq
    go_enter Try.func35, Try.ntmps35
    go_wp2_with (go_at_call 56; refine (dgAsked_any _ _ _).mono ?_; rintro e w1 ⟨rfl, rfl⟩)
    go_ret2
    exact ⟨by rw [hR.out]; rfl, Below.refl _ _⟩

theorem tell_rootByRemainder (n b : Int) (w : World) :
    Calls Try.prog 58 #[.int .i64 n, .int .i64 b, .func (Fn.func 87) #[] #[]] w fun e w' => e = .returned (optRes (askI RRootByRemainder n b)) ∧ Below w.heap.size w w' := by
  by_cases hn : Num n
  · have a1 : decide (Num n) = true := decide_eq_true hn
    by_cases hB : Bas b
    · have a2 : decide (Bas b) = true := decide_eq_true hB
      have hR := Lib.hid (show askI RRootByRemainder n b = some (RRootByRemainder b n) from if_pos ⟨hn, hB⟩)
      obtain ⟨n0, n1⟩ := hn
      obtain ⟨b0, b1⟩ := hB
      go_enter Try.func58, Try.ntmps58
      go_wp2_with (first | (go_at_call 97; refine (isNumber_any _ _).mono ?_; rintro e w1 ⟨rfl, rfl⟩) | (go_at_call 69; refine (isBase_any _ _).mono ?_; rintro e w1 ⟨rfl, rfl⟩) | (go_at_call 87; refine (rootByRemainder_any _ _ _ n0 n1 b0 b1).mono ?_; rintro e w1 ⟨rfl, hbl⟩; have HB := Lib.hid hbl; clear hbl))
      go_ret2
      exact ⟨by rw [hR.out]; rfl, HB.out⟩
    · have a2 : decide (Bas b) = false := decide_eq_false hB
      have hR := Lib.hid (show askI RRootByRemainder n b = none from if_neg (fun h => hB h.2))
      clear hn hB
      go_enter Try.func58, Try.ntmps58
      go_wp2_with (first | (go_at_call 97; refine (isNumber_any _ _).mono ?_; rintro e w1 ⟨rfl, rfl⟩) | (go_at_call 69; refine (isBase_any _ _).mono ?_; rintro e w1 ⟨rfl, rfl⟩))
      go_ret2
      exact ⟨by rw [hR.out]; rfl, Below.refl _ _⟩
  · have a1 : decide (Num n) = false := decide_eq_false hn
    have hR := Lib.hid (show askI RRootByRemainder n b = none from if_neg (fun h => hn h.1))
    clear hn
    go_enter Try.func58, Try.ntmps58
    go_wp2_with (first | (go_at_call 97; refine (isNumber_any _ _).mono ?_; rintro e w1 ⟨rfl, rfl⟩) | (go_at_call 69; refine (isBase_any _ _).mono ?_; rintro e w1 ⟨rfl, rfl⟩))
    go_ret2
    exact ⟨by rw [hR.out]; rfl, Below.refl _ _⟩

theorem impl_RootByRemainder (n b : Int) (w : World) :
    Calls Try.prog 36 #[.int .i64 n, .int .i64 b] w fun e w' => e = .returned (optRes (askI RRootByRemainder n b)) ∧ Below w.heap.size w w' := by
  go_enter Try.func36, Try.ntmps36
  go_wp2_with (go_at_call 58; refine (tell_rootByRemainder _ _ _).mono ?_; rintro e w1 ⟨rfl, hbl⟩; have HB := Lib.hid hbl; clear hbl)
  go_ret2
  exact ⟨rfl, HB.out⟩

theorem spec_RootByRemainder (n b : Int) (w : World) :
    Calls Try.prog 37 #[.int .i64 n, .int .i64 b] w fun e w' => e = .returned (optRes (askI RRootByRemainder n b)) ∧ Below w.heap.size w w' := by
  by_cases hq : Num n ∧ Bas b
  · have a1 : decide (Num n ∧ Bas b) = true := decide_eq_true hq
    have hR := Lib.hid (show askI RRootByRemainder n b = some (rbr b n) from if_pos hq)
    obtain ⟨⟨n0, n1⟩, b0, b1⟩ := hq
    by_cases hz : n = 0
    · have HS := Lib.hid (show rbr b n = 0 from if_pos hz)
      have hbe : (n == (0 : Int)) = true := beq_yes hz
      clear hz
      go_enter Try.func37, Try.ntmps37
      go_wp2_with (go_at_call 56; refine (dgAsked_any _ _ _).mono ?_; rintro e w1 ⟨rfl, rfl⟩)
      go_ret2
      exact ⟨by rw [hR.out, HS.out]; rfl, Below.refl _ _⟩
    · have HS := Lib.hid (show rbr b n = (n - 1) % (b - 1) + 1 from if_neg hz)
      have hm : 0 ≤ (n - 1) % (b - 1) ∧ (n - 1) % (b - 1) < b - 1 := ⟨Int.emod_nonneg _ (by omega), Int.emod_lt_of_pos _ (by omega)⟩
      go_enter Try.func37, Try.ntmps37
      go_wp2_with (go_at_call 56; refine (dgAsked_any _ _ _).mono ?_; rintro e w1 ⟨rfl, rfl⟩)
      go_ret2
      exact ⟨by rw [hR.out, HS.out]; first | rfl | go_num, Below.refl _ _⟩
  · have a1 : decide (Num n ∧ Bas b) = false := decide_eq_false hq
    have hR := Lib.hid (show askI RRootByRemainder n b = none from if_neg hq)
    clear hq
    go_enter Try.func37, Try.ntmps37
    go_wp2_with (go_at_call 56; refine (dgAsked_any _ _ _).mono ?_; rintro e w1 ⟨rfl, rfl⟩)
    go_ret2
    exact ⟨by rw [hR.out]; rfl, Below.refl _ _⟩

theorem tell_nextHarshad (n b : Int) (w : World) :
    Calls Try.prog 89 #[.int .i64 n, .int .i64 b, .func (Fn.func 90) #[] #[]] w fun e w' => e = .returned (optRes (askF RNextHarshad n b)) ∧ Below w.heap.size w w' := by
  by_cases hn : Num n
  · have a1 : decide (Num n) = true := decide_eq_true hn
    by_cases hB : Bas b
    · have a2 : decide (Bas b) = true := decide_eq_true hB
      have hR := Lib.hid (show askF RNextHarshad n b = RNextHarshad b n from if_pos ⟨hn, hB⟩)
      obtain ⟨n0, n1⟩ := hn
      obtain ⟨b0, b1⟩ := hB
      go_enter Try.func89, Try.ntmps89
      go_wp2_with (first | (go_at_call 97; refine (isNumber_any _ _).mono ?_; rintro e w1 ⟨rfl, rfl⟩) | (go_at_call 69; refine (isBase_any _ _).mono ?_; rintro e w1 ⟨rfl, rfl⟩) | (go_at_call 90; refine (nextHarshad_any _ _ _ n0 n1 b0 b1).mono ?_; rintro e w1 ⟨rfl, hbl⟩; have HB := Lib.hid hbl; clear hbl))
      go_ret2
      exact ⟨by rw [hR.out]; rfl, HB.out⟩
    · have a2 : decide (Bas b) = false := decide_eq_false hB
      have hR := Lib.hid (show askF RNextHarshad n b = none from if_neg (fun h => hB h.2))
      clear hn hB
      go_enter Try.func89, Try.ntmps89
      go_wp2_with (first | (go_at_call 97; refine (isNumber_any _ _).mono ?_; rintro e w1 ⟨rfl, rfl⟩) | (go_at_call 69; refine (isBase_any _ _).mono ?_; rintro e w1 ⟨rfl, rfl⟩))
      go_ret2
      exact ⟨by rw [hR.out]; rfl, Below.refl _ _⟩
  · have a1 : decide (Num n) = false := decide_eq_false hn
    have hR := Lib.hid (show askF RNextHarshad n b = none from if_neg (fun h => hn h.1))
    clear hn
    go_enter Try.func89, Try.ntmps89
    go_wp2_with (first | (go_at_call 97; refine (isNumber_any _ _).mono ?_; rintro e w1 ⟨rfl, rfl⟩) | (go_at_call 69; refine (isBase_any _ _).mono ?_; rintro e w1 ⟨rfl, rfl⟩))
    go_ret2
    exact ⟨by rw [hR.out]; rfl, Below.refl _ _⟩

theorem impl_NextHarshad (n b : Int) (w : World) :
    Calls Try.prog 43 #[.int .i64 n, .int .i64 b] w fun e w' => e = .returned (optRes (askF RNextHarshad n b)) ∧ Below w.heap.size w w' := by
  go_enter Try.func43, Try.ntmps43
  go_wp2_with (go_at_call 89; refine (tell_nextHarshad _ _ _).mono ?_; rintro e w1 ⟨rfl, hbl⟩; have HB := Lib.hid hbl; clear hbl)
  go_ret2
  exact ⟨rfl, HB.out⟩

theorem spec_NextHarshad (n b : Int) (w : World) :
    Calls Try.prog 44 #[.int .i64 n, .int .i64 b] w fun e w' => e = .returned (optRes (askF RNextHarshad n b)) ∧ Below w.heap.size w w' := by
  by_cases hq : Num n ∧ Bas b
  · have a1 : decide (Num n ∧ Bas b) = true := decide_eq_true hq
    have hR := Lib.hid (show askF RNextHarshad n b = nexH b (n + 1) from if_pos hq)
    obtain ⟨⟨n0, n1⟩, hb, hb'⟩ := hq
    go_enter Try.func44, Try.ntmps44
    go_wp2_with (go_at_call 56; refine (dgAsked_any _ _ _).mono ?_; rintro e w1 ⟨rfl, rfl⟩)
    go_loopw [0] (fun c wr => ∃ m : Int, c = .int .i64 m ∧ 0 ≤ m ∧ m ≤ 1000000000001 ∧ Hid (nexH b m = nexH b (n + 1)) ∧ Below w.heap.size w wr) (fun c _ => (1000000000001 - intOf c).toNat)
    case atStart => exact ⟨n + 1, rfl, by omega, by omega, Lib.hid rfl, Below.refl _ _⟩
    case round =>
      obtain ⟨m, rfl, m0, m1, HN, hbl⟩ := hrel
      have HB := Lib.hid hbl
      clear hbl
      by_cases hm : m ≤ 1000000000000
      · obtain ⟨q, hq⟩ : ∃ q, q = hsh b m := ⟨_, rfl⟩
        have HQ := Lib.hid hq
        cases q with
        | true =>
          have HE := Lib.hid (nexH_yes hm hq.symm)
          clear hq
          go_wp2_with (go_at_call 91; refine (prHarshad_any _ _ _ m0 hm hb hb').mono ?_; rw [← HQ.out]; rintro e w1 ⟨rfl, hbl⟩; have HB1 := Lib.hid (Below.step HB.out HB.out.size hbl); clear hbl)
          go_ret2
          exact ⟨by rw [hR.out, ← HN.out, HE.out]; rfl, HB1.out⟩
        | false =>
          have HE := Lib.hid (nexH_no hm hq.symm)
          clear hq
          go_wp2_with (go_at_call 91; refine (prHarshad_any _ _ _ m0 hm hb hb').mono ?_; rw [← HQ.out]; rintro e w1 ⟨rfl, hbl⟩; have HB1 := Lib.hid (Below.step HB.out HB.out.size hbl); clear hbl)
          go_roundw
          case rel => exact ⟨m + 1, by go_num, by omega, by omega, Lib.hid (by rw [← HE.out, HN.out]), HB1.out⟩
          case measure => simp [intOf]; omega
      · have HE := Lib.hid (nexH_end (b := b) hm)
        go_wp2
        go_ret2
        exact ⟨by rw [hR.out, ← HN.out, HE.out]; rfl, HB.out⟩
  · have a1 : decide (Num n ∧ Bas b) = false := decide_eq_false hq
    have hR := Lib.hid (show askF RNextHarshad n b = none from if_neg hq)
    clear hq
    go_enter Try.func44, Try.ntmps44
    go_wp2_with (go_at_call 56; refine (dgAsked_any _ _ _).mono ?_; rintro e w1 ⟨rfl, rfl⟩)
    go_ret2
    exact ⟨by rw [hR.out]; rfl, Below.refl _ _⟩

end Go.Proofs.Ytdlohdjejmpmcaa
