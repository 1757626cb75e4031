/-
  Numbers that are the product of their digit sum and their digit product (written by wip/tools/gen_wh.py).
-/
import Derived.Test.YtdlohdjejmpmcaaWC
import Derived.Test.YtdlohdjejmpmcaaA
import Derived.Test.YtdlohdjejmpmcaaK
namespace Go.Proofs.Ytdlohdjejmpmcaa
open Go.RowKit
set_option linter.unusedVariables false
set_option linter.unusedSimpArgs false
set_option maxRecDepth 100000

theorem productOf_any (v : Value) (xs : List Int) (B : Nat) (w : World) (h : Rd w B v xs) (hl : xs.length ≤ 1000000) :
    Calls Try.prog 95 #[v] w fun e w' => e = .returned (.int .i64 (prodW xs 1)) ∧ w = w' := by
  rcases h.cases with ⟨rfl, rfl⟩ | ⟨g, cap, rfl, _, _, _, _, hc, _⟩
  · go_enter Try.func95, Try.ntmps95
    go_wp2
    refine wp_loop_rounds 1 ?_
    rw [rounds_succ]
    go_wp2
    go_ret
    exact ⟨rfl, rfl⟩
  · have hc' := Lib.hid hc
    clear hc h
    go_enter Try.func95, Try.ntmps95
    go_wp2
    go_loop [3, 8] (fun s i => ∃ (k : Nat) (n : Int), k ≤ xs.length ∧ i = .int .i64 k ∧ s = .int .i64 n ∧ prodW (xs.drop k) n = prodW xs 1) (fun _ i => xs.length - (intOf i).toNat)
    case atStart => exact ⟨0, 1, Nat.zero_le _, rfl, rfl, rfl⟩
    case round =>
      obtain ⟨k, n, hk, rfl, rfl, hp⟩ := hrel
      have hp' := Lib.hid hp
      clear hp
      by_cases hlt : k < xs.length
      · have hcell := hc'.out k hlt
        have hs := Lib.hid (prodW_step xs k n hlt)
        go_wp2
        go_round
        case rel => exact ⟨k + 1, wrap64 (n * xs[k]), by omega, by go_num, by first | rfl | go_num, by rw [← hs.out]; exact hp'.out⟩
        case measure => simp [intOf]; omega
      · obtain rfl : k = xs.length := by omega
        go_wp2
        go_ret
        exact ⟨ret_int (by have := hp'.out; simpa [prodW] using this), rfl⟩


theorem prodW_sum (b n : Int) : prodW (dgs b n ++ [(dgs b n).sum]) 1 = wrap64 (pd b n * sd b n) := by
  rw [prodW_snoc]; rfl

/-- What SumProductNumbers answers. -/
def SPok (b m : Int) : Prop := Bas b ∧ 0 ≤ m ∧ m ≤ 20000
instance (b m : Int) : Decidable (SPok b m) := by unfold SPok Bas; exact inferInstance
def okSP (b m : Int) : Bool := decide (SPok b m)
def LSP (b m : Int) : List Int := if SPok b m then spn b m.toNat else []
theorem LSP_len (b m : Int) : (LSP b m).length ≤ 2000000 := by
  unfold LSP; split
  · rename_i h; have := spn_len b m.toNat; have := h.2.2; omega
  · simp


theorem impl_SumProductNumbers (b m : Int) (w : World) :
    Calls Try.prog 50 #[.int .i64 b, .int .i64 m] w fun e w' => ∃ v, e = .returned (.tuple #[v, .bool (okSP b m)]) ∧ Rd w' w.heap.size v (LSP b m) ∧ Below w.heap.size w w' := by
  by_cases hB : Bas b
  · have a2 : decide (Bas b) = true := decide_eq_true hB
    by_cases hm : 0 ≤ m ∧ m ≤ 20000
    · have hL := Lib.hid (show LSP b m = spn b m.toNat from if_pos ⟨hB, hm⟩)
      have hD := Lib.hid (show okSP b m = true from decide_eq_true ⟨hB, hm⟩)
      obtain ⟨h0, h1⟩ := hm
      obtain ⟨hb, hb'⟩ := hB
      go_enter Try.func50, Try.ntmps50
      go_wp2_with (go_at_call 69; refine (isBase_any _ _).mono ?_; rintro e w1 ⟨rfl, rfl⟩)
      go_loopw [6, 7] (fun o i wr => ∃ (k : Nat) (u : Value), u = o ∧ i = .int .i64 ((k : Int) + 1) ∧ (k : Int) ≤ m ∧ Rd wr w.heap.size u (spn b k) ∧ Below w.heap.size w wr) (fun _ i _ => (m + 1 - intOf i).toNat)
      case atStart => exact ⟨0, _, rfl, rfl, by omega, Rd.nil _ _, Below.refl _ _⟩
      case round =>
        obtain ⟨k, u, rfl, rfl, hk, hr, hbl⟩ := hrel
        have HR := Lib.hid hr
        have HB := Lib.hid hbl
        clear hr hbl
        have hsl := spn_len b k
        by_cases hlt : (k : Int) + 1 ≤ m
        · have k0 : 0 ≤ (k : Int) + 1 := by omega
          have hall := Lib.hid (dgs_all b (k + 1) hb k0)
          have hlen := Lib.hid (dgs_len40 b (k + 1) hb k0 (by omega))
          obtain ⟨s, hs⟩ : ∃ s, s = sd b ((k : Int) + 1) := ⟨_, rfl⟩
          obtain ⟨p, hp⟩ : ∃ p, p = pd b ((k : Int) + 1) := ⟨_, rfl⟩
          obtain ⟨t, ht0⟩ : ∃ t, t = s * p := ⟨_, rfl⟩
          obtain ⟨s0, _, s1, _⟩ := sd_bd b ((k : Int) + 1) hb hb' k0 (by omega)
          obtain ⟨p0, p1, _⟩ := pd_lt b ((k : Int) + 1) hb hb' k0 (by omega)
          rw [← hs] at s0 s1
          rw [← hp] at p0 p1
          have t0 : 0 ≤ t := by rw [ht0]; exact Int.mul_nonneg s0 p0
          have t1 : t ≤ 12060000 := by rw [ht0]; exact Int.le_trans (Int.mul_le_mul s1 (show p ≤ 20100 by omega) p0 (by omega)) (by omega)
          have hT : wrap64 (pd b ((k : Int) + 1) * sd b ((k : Int) + 1)) = t := by rw [← hs, ← hp, Int.mul_comm, ← ht0, wrap_id (by omega) (by omega)]
          have HP := Lib.hid (show prodW (dgs b ((k : Int) + 1) ++ [s]) 1 = t by rw [hs]; exact (prodW_sum b (k + 1)).trans hT)
          have HSD := Lib.hid (show (dgs b ((k : Int) + 1)).sum = s from hs.symm)
          have HPD := Lib.hid (show prodW (dgs b ((k : Int) + 1)) 1 = p from hp.symm)
          have hST : spt b ((k : Int) + 1) = decide ((k : Int) + 1 = t) := by rw [spt, hT]
          have hmul : s * p = t := ht0.symm
          clear hs hp ht0 hT
          have hsz := HB.out.size
          obtain ⟨q, hq⟩ : ∃ q, q = spt b ((k : Int) + 1) := ⟨_, rfl⟩
          have hq2 : q = decide ((k : Int) + 1 = t) := hq.trans hST
          clear hST
          cases q with
          | true =>
            have HS := Lib.hid (show spn b (k + 1) = spn b k ++ [(k : Int) + 1] by rw [spn, if_pos hq.symm])
            have ht : ((k : Int) + 1 == t) = true := beq_yes (of_decide_eq_true hq2.symm)
            clear hq hq2
            go_wp2_with (first | (go_at_call 55; refine (digits_any _ _ _ k0 (by omega) hb hb').mono ?_; rintro e w1 ⟨g, cap, rfl, hr, hb1⟩; have HRd := Lib.hid hr; have HA := Lib.hid (Rd.apart (fun k hk => (HR.out.lt k hk).2) hr); have HR1 := Lib.hid (HR.out.keep hb1); have HB1 := Lib.hid (Below.step HB.out HB.out.size hb1); have hsz1 := HB1.out.size; have hsz3 := hb1.size; clear hb1 hr) | (go_at_call 96; refine (sumOf_any _ _ _ _ HRd.out (fun x hx => by have := hall.out x hx; omega) (by have := hlen.out; omega)).mono ?_; rw [HSD.out]; rintro e w2 ⟨rfl, rfl⟩) | (go_at_call 95; refine (productOf_any _ _ _ _ HRe.out (by have := hlen.out; simp; omega)).mono ?_; rw [HP.out]; rintro e w3 ⟨rfl, rfl⟩) | (at_builtin; go_loud (refine wpList_appR rfl _ _ rfl wr.heap.size wr.heap.size _ _ (dgs b ((k : Int) + 1)) [s] rfl rfl (HRd.out.alloc _) (Rd.litB _ _ _ (by omega)) (by have := hlen.out; simp; omega) (by simp; omega) ?_; intro v1 w4 hr1 hg1 hb2; have HRe := Lib.hid hr1; have HR2 := Lib.hid ((HR1.out.alloc _).grown hg1 HA.out); have HB2 := Lib.hid ((HB1.out.alloc (by omega) _).trans (hb2.mono (by omega))); have hsz2 := HB2.out.size; clear hr1 hg1 hb2)) | (at_builtin; go_loud (refine wpList_appR rfl _ _ rfl w.heap.size w.heap.size _ _ (spn b k) [(k : Int) + 1] rfl rfl (HR2.out.alloc _) (Rd.litB _ _ _ (by omega)) (by simp; omega) (by simp; omega) ?_; intro v5 w5 hr1 hg1 hb2; have HR3 := Lib.hid hr1; have HB3 := Lib.hid ((HB2.out.alloc (by omega) _).trans hb2); clear hr1 hg1 hb2)))
            go_roundw
            case rel => exact ⟨k + 1, _, rfl, by go_num, by omega, by rw [HS.out]; exact HR3.out, HB3.out⟩
            case measure => (simp [intOf]; try omega)
          | false =>
            have HS := Lib.hid (show spn b (k + 1) = spn b k by rw [spn, if_neg (by rw [← hq]; simp)])
            have ht : ((k : Int) + 1 == t) = false := beq_no (of_decide_eq_false hq2.symm)
            clear hq hq2
            go_wp2_with (first | (go_at_call 55; refine (digits_any _ _ _ k0 (by omega) hb hb').mono ?_; rintro e w1 ⟨g, cap, rfl, hr, hb1⟩; have HRd := Lib.hid hr; have HA := Lib.hid (Rd.apart (fun k hk => (HR.out.lt k hk).2) hr); have HR1 := Lib.hid (HR.out.keep hb1); have HB1 := Lib.hid (Below.step HB.out HB.out.size hb1); have hsz1 := HB1.out.size; have hsz3 := hb1.size; clear hb1 hr) | (go_at_call 96; refine (sumOf_any _ _ _ _ HRd.out (fun x hx => by have := hall.out x hx; omega) (by have := hlen.out; omega)).mono ?_; rw [HSD.out]; rintro e w2 ⟨rfl, rfl⟩) | (go_at_call 95; refine (productOf_any _ _ _ _ HRe.out (by have := hlen.out; simp; omega)).mono ?_; rw [HP.out]; rintro e w3 ⟨rfl, rfl⟩) | (at_builtin; go_loud (refine wpList_appR rfl _ _ rfl wr.heap.size wr.heap.size _ _ (dgs b ((k : Int) + 1)) [s] rfl rfl (HRd.out.alloc _) (Rd.litB _ _ _ (by omega)) (by have := hlen.out; simp; omega) (by simp; omega) ?_; intro v1 w4 hr1 hg1 hb2; have HRe := Lib.hid hr1; have HR2 := Lib.hid ((HR1.out.alloc _).grown hg1 HA.out); have HB2 := Lib.hid ((HB1.out.alloc (by omega) _).trans (hb2.mono (by omega))); have hsz2 := HB2.out.size; clear hr1 hg1 hb2)))
            go_roundw
            case rel => exact ⟨k + 1, _, rfl, by go_num, by omega, by rw [HS.out]; exact HR2.out, HB2.out⟩
            case measure => (simp [intOf]; try omega)
        · have HK := Lib.hid (show m.toNat = k by omega)
          go_wp2
          go_ret2
          exact ⟨_, by rw [hD.out]; rfl, by rw [hL.out, HK.out]; exact HR.out, HB.out⟩
    · have hL := Lib.hid (show LSP b m = [] from if_neg (fun h => hm h.2))
      have hD := Lib.hid (show okSP b m = false from decide_eq_false (fun h => hm h.2))
      clear hB
      by_cases hm0 : 0 ≤ m
      · have hm1 : 20000 < m := by omega
        clear hm
        go_enter Try.func50, Try.ntmps50
        go_wp2_with (go_at_call 69; refine (isBase_any _ _).mono ?_; rintro e w1 ⟨rfl, rfl⟩)
        go_ret2
        exact ⟨_, by rw [hD.out]; rfl, by rw [hL.out]; exact Rd.nil _ _, Below.refl _ _⟩
      · have hm1 : m < 0 := by omega
        clear hm hm0
        go_enter Try.func50, Try.ntmps50
        go_wp2_with (go_at_call 69; refine (isBase_any _ _).mono ?_; rintro e w1 ⟨rfl, rfl⟩)
        go_ret2
        exact ⟨_, by rw [hD.out]; rfl, by rw [hL.out]; exact Rd.nil _ _, Below.refl _ _⟩
  · have a2 : decide (Bas b) = false := decide_eq_false hB
    have hL := Lib.hid (show LSP b m = [] from if_neg (fun h => hB h.1))
    have hD := Lib.hid (show okSP b m = false from decide_eq_false (fun h => hB h.1))
    clear hB
    go_enter Try.func50, Try.ntmps50
    go_wp2_with (go_at_call 69; refine (isBase_any _ _).mono ?_; rintro e w1 ⟨rfl, rfl⟩)
    go_ret2
    exact ⟨_, by rw [hD.out]; rfl, by rw [hL.out]; exact Rd.nil _ _, Below.refl _ _⟩

theorem spec_SumProductNumbers (b m : Int) (w : World) :
    Calls Try.prog 51 #[.int .i64 b, .int .i64 m] w fun e w' => ∃ v, e = .returned (.tuple #[v, .bool (okSP b m)]) ∧ Rd w' w.heap.size v (LSP b m) ∧ Below w.heap.size w w' := by
  by_cases hB : Bas b
  · have a2 : decide (Bas b) = true := decide_eq_true hB
    by_cases hm : 0 ≤ m ∧ m ≤ 20000
    · have hL := Lib.hid (show LSP b m = spn b m.toNat from if_pos ⟨hB, hm⟩)
      have hD := Lib.hid (show okSP b m = true from decide_eq_true ⟨hB, hm⟩)
      obtain ⟨h0, h1⟩ := hm
      obtain ⟨hb, hb'⟩ := hB
      go_enter Try.func51, Try.ntmps51
      go_wp2_with (first | (go_at_call 75; refine (dgBase_any _ _).mono ?_; rintro e w1 ⟨rfl, rfl⟩) | (go_at_call 82; refine (l1In_yes _ _ _ _ h0 h1).mono ?_; rintro e w1 ⟨rfl, rfl⟩))
      go_loopw [6, 7] (fun o i wr => ∃ (k : Nat) (u : Value), u = o ∧ i = .int .i64 ((k : Int) + 1) ∧ (k : Int) ≤ m ∧ Rd wr w.heap.size u (spn b k) ∧ Below w.heap.size w wr) (fun _ i _ => (m + 1 - intOf i).toNat)
      case atStart => exact ⟨0, _, rfl, rfl, by omega, Rd.nil _ _, Below.refl _ _⟩
      case round =>
        obtain ⟨k, u, rfl, rfl, hk, hr, hbl⟩ := hrel
        have HR := Lib.hid hr
        have HB := Lib.hid hbl
        clear hr hbl
        have hsl := spn_len b k
        by_cases hlt : (k : Int) + 1 ≤ m
        · have k0 : 0 ≤ (k : Int) + 1 := by omega
          have hall := Lib.hid (dgs_all b (k + 1) hb k0)
          have hlen := Lib.hid (dgs_len40 b (k + 1) hb k0 (by omega))
          obtain ⟨s, hs⟩ : ∃ s, s = sd b ((k : Int) + 1) := ⟨_, rfl⟩
          obtain ⟨p, hp⟩ : ∃ p, p = pd b ((k : Int) + 1) := ⟨_, rfl⟩
          obtain ⟨t, ht0⟩ : ∃ t, t = s * p := ⟨_, rfl⟩
          obtain ⟨s0, _, s1, _⟩ := sd_bd b ((k : Int) + 1) hb hb' k0 (by omega)
          obtain ⟨p0, p1, _⟩ := pd_lt b ((k : Int) + 1) hb hb' k0 (by omega)
          rw [← hs] at s0 s1
          rw [← hp] at p0 p1
          have t0 : 0 ≤ t := by rw [ht0]; exact Int.mul_nonneg s0 p0
          have t1 : t ≤ 12060000 := by rw [ht0]; exact Int.le_trans (Int.mul_le_mul s1 (show p ≤ 20100 by omega) p0 (by omega)) (by omega)
          have hT : wrap64 (pd b ((k : Int) + 1) * sd b ((k : Int) + 1)) = t := by rw [← hs, ← hp, Int.mul_comm, ← ht0, wrap_id (by omega) (by omega)]
          have HP := Lib.hid (show prodW (dgs b ((k : Int) + 1) ++ [s]) 1 = t by rw [hs]; exact (prodW_sum b (k + 1)).trans hT)
          have HSD := Lib.hid (show (dgs b ((k : Int) + 1)).sum = s from hs.symm)
          have HPD := Lib.hid (show prodW (dgs b ((k : Int) + 1)) 1 = p from hp.symm)
          have hST : spt b ((k : Int) + 1) = decide ((k : Int) + 1 = t) := by rw [spt, hT]
          have hmul : s * p = t := ht0.symm
          clear hs hp ht0 hT
          have hsz := HB.out.size
          obtain ⟨q, hq⟩ : ∃ q, q = spt b ((k : Int) + 1) := ⟨_, rfl⟩
          have hq2 : q = decide ((k : Int) + 1 = t) := hq.trans hST
          clear hST
          cases q with
          | true =>
            have HS := Lib.hid (show spn b (k + 1) = spn b k ++ [(k : Int) + 1] by rw [spn, if_pos hq.symm])
            have ht : (t == (k : Int) + 1) = true := beq_yes (of_decide_eq_true hq2.symm).symm
            clear hq hq2
            go_wp2_with (first | (go_at_call 57; refine (dgOf_s _ _ _ k0 (by omega) hb hb').mono ?_; rintro e w1 ⟨g, cap, rfl, hr, hb1⟩; have HRd := Lib.hid hr; have HR1 := Lib.hid (HR.out.keep hb1); have HB1 := Lib.hid (Below.step HB.out HB.out.size hb1); have hsz1 := HB1.out.size; have hsz3 := hb1.size; clear hb1 hr) | (go_at_call 60; refine (dgSum_any _ _ _ _ HRd.out (fun x hx => by have := hall.out x hx; omega) (by have := hlen.out; omega)).mono ?_; rw [HSD.out]; rintro e w2 ⟨rfl, rfl⟩) | (go_at_call 62; refine (dgProduct_any _ _ _ _ HRd.out (by have := hlen.out; omega)).mono ?_; rw [HPD.out]; rintro e w3 ⟨rfl, rfl⟩) | (at_builtin; go_loud (refine wpList_appR rfl _ _ rfl w.heap.size w.heap.size _ _ (spn b k) [(k : Int) + 1] rfl rfl (HR1.out.alloc _) (Rd.litB _ _ _ (by omega)) (by simp; omega) (by simp; omega) ?_; intro v5 w5 hr1 hg1 hb2; have HR3 := Lib.hid hr1; have HB3 := Lib.hid ((HB1.out.alloc (by omega) _).trans hb2); clear hr1 hg1 hb2)))
            go_roundw
            case rel => exact ⟨k + 1, _, rfl, by go_num, by omega, by rw [HS.out]; exact HR3.out, HB3.out⟩
            case measure => (simp [intOf]; try omega)
          | false =>
            have HS := Lib.hid (show spn b (k + 1) = spn b k by rw [spn, if_neg (by rw [← hq]; simp)])
            have ht : (t == (k : Int) + 1) = false := beq_no (fun h => of_decide_eq_false hq2.symm h.symm)
            clear hq hq2
            go_wp2_with (first | (go_at_call 57; refine (dgOf_s _ _ _ k0 (by omega) hb hb').mono ?_; rintro e w1 ⟨g, cap, rfl, hr, hb1⟩; have HRd := Lib.hid hr; have HR1 := Lib.hid (HR.out.keep hb1); have HB1 := Lib.hid (Below.step HB.out HB.out.size hb1); have hsz1 := HB1.out.size; have hsz3 := hb1.size; clear hb1 hr) | (go_at_call 60; refine (dgSum_any _ _ _ _ HRd.out (fun x hx => by have := hall.out x hx; omega) (by have := hlen.out; omega)).mono ?_; rw [HSD.out]; rintro e w2 ⟨rfl, rfl⟩) | (go_at_call 62; refine (dgProduct_any _ _ _ _ HRd.out (by have := hlen.out; omega)).mono ?_; rw [HPD.out]; rintro e w3 ⟨rfl, rfl⟩))
            go_roundw
            case rel => exact ⟨k + 1, _, rfl, by go_num, by omega, by rw [HS.out]; exact HR1.out, HB1.out⟩
            case measure => (simp [intOf]; try omega)
        · have HK := Lib.hid (show m.toNat = k by omega)
          go_wp2
          go_ret2
          exact ⟨_, by rw [hD.out]; rfl, by rw [hL.out, HK.out]; exact HR.out, HB.out⟩
    · have hL := Lib.hid (show LSP b m = [] from if_neg (fun h => hm h.2))
      have hD := Lib.hid (show okSP b m = false from decide_eq_false (fun h => hm h.2))
      clear hB
      by_cases hm0 : 0 ≤ m
      · have hm1 : 20000 < m := by omega
        clear hm
        go_enter Try.func51, Try.ntmps51
        go_wp2_with (first | (go_at_call 75; refine (dgBase_any _ _).mono ?_; rintro e w1 ⟨rfl, rfl⟩) | (go_at_call 82; refine (l1In_no _ _ _ _ (by omega)).mono ?_; rintro e w1 ⟨rfl, rfl⟩))
        go_ret2
        exact ⟨_, by rw [hD.out]; rfl, by rw [hL.out]; exact Rd.nil _ _, Below.refl _ _⟩
      · have hm1 : m < 0 := by omega
        clear hm hm0
        go_enter Try.func51, Try.ntmps51
        go_wp2_with (first | (go_at_call 75; refine (dgBase_any _ _).mono ?_; rintro e w1 ⟨rfl, rfl⟩) | (go_at_call 82; refine (l1In_no _ _ _ _ (by omega)).mono ?_; rintro e w1 ⟨rfl, rfl⟩))
        go_ret2
        exact ⟨_, by rw [hD.out]; rfl, by rw [hL.out]; exact Rd.nil _ _, Below.refl _ _⟩
  · have a2 : decide (Bas b) = false := decide_eq_false hB
    have hL := Lib.hid (show LSP b m = [] from if_neg (fun h => hB h.1))
    have hD := Lib.hid (show okSP b m = false from decide_eq_false (fun h => hB h.1))
    clear hB
    go_enter Try.func51, Try.ntmps51
    go_wp2_with (go_at_call 75; refine (dgBase_any _ _).mono ?_; rintro e w1 ⟨rfl, rfl⟩)
    go_ret2
    exact ⟨_, by rw [hD.out]; rfl, by rw [hL.out]; exact Rd.nil _ _, Below.refl _ _⟩

end Go.Proofs.Ytdlohdjejmpmcaa
