/-
  The law of digits that tell numbers (written by wip/tools/gen_1l.py).
-/
import Derived.Test.Ytdlohdjejmpmcaa1A
import Derived.Test.Ytdlohdjejmpmcaa1D
import Derived.Test.YtdlohdjejmpmcaaG
import Derived.Test.YtdlohdjejmpmcaaG3
import Derived.Test.YtdlohdjejmpmcaaG5
import Derived.Test.YtdlohdjejmpmcaaN
import Derived.Test.YtdlohdjejmpmcaaPN
namespace Go.Proofs.Ytdlohdjejmpmcaa
open Go.RowKit
set_option linter.unusedVariables false
set_option linter.unusedSimpArgs false
set_option maxRecDepth 100000

theorem idx_ltrA : ∀ d : Fin 16, idx (ltr d.val) = (d.val : Int) := by decide
theorem txt_idx {b : Int} (hb : b ≤ 16) : ∀ (ds : List Int), (∀ x ∈ ds, 0 ≤ x ∧ x ≤ b - 1) → (txt ds).map idx = ds
  | [], _ => rfl
  | d :: ds, h => by
    have hd := h d (by simp)
    have e := idx_ltrA ⟨d.toNat, by omega⟩
    have ih := txt_idx hb ds (fun x hx => h x (by simp [hx]))
    unfold txt at ih ⊢
    simp only [List.map_cons]
    rw [ih, e]
    congr 1
    show ((d.toNat : Nat) : Int) = d
    omega
theorem idx_txt {b : Int} (hb : b ≤ 16) : ∀ (cs : List UInt8), (∀ x ∈ cs.map idx, 0 ≤ x ∧ x ≤ b - 1) → txt (cs.map idx) = cs
  | [], _ => rfl
  | c :: cs, h => by
    have hc := h (idx c) (by simp)
    have ih := idx_txt hb cs (fun x hx => h x (by simp [hx]))
    unfold txt at ih ⊢
    simp only [List.map_cons]
    rw [ih]
    congr 1
    rcases idx_spec L16 c with ⟨e1, _⟩ | ⟨t, ht, e1, e2, _⟩
    · exfalso; have : idx c = -1 := e1; omega
    · have : idx c = (t : Int) := e1
      rw [this, ← e2, L16_at]
      simp
theorem dgs_numA {b n : Int} (hb : 2 ≤ b) (h0 : 0 ≤ n) (h1 : n ≤ 1000000000000) : numF b (dgs b n) 0 = some n := by
  have hd := dgs_all b n hb h0
  rw [numF_val b hb _ 0 (fun x hx => (hd x hx).1) (by omega) (by omega), val_dgs b hb n.toNat n (Nat.le_refl _) h0, if_pos h1]
theorem revD_lastA (b : Int) (hb : 2 ≤ b) : ∀ (k : Nat) (n : Int), n.toNat ≤ k → 0 < n → ∃ x, (revD b n).getLast? = some x ∧ x ≠ 0
  | 0, n, hk, h0 => by omega
  | k + 1, n, hk, h0 => by
    by_cases h : b ≤ n
    · have h2 := div_lt b n hb h
      have h3 := div_pos b n hb h
      obtain ⟨x, e, hx⟩ := revD_lastA b hb k (n / b) (by omega) (by omega)
      refine ⟨x, ?_, hx⟩
      rw [revD_big b n hb h, List.getLast?_cons, e]
      rfl
    · rw [revD_small b n h]
      exact ⟨n, rfl, by omega⟩
theorem dgs_areA {b n : Int} (hb : 2 ≤ b) (h0 : 0 ≤ n) : areD b (dgs b n) = true := by
  have h1 := dgs_pos b n
  have h2 : allIn 0 (b - 1) (dgs b n) = true := (allIn_iff _ _ _).2 (dgs_all b n hb h0)
  unfold areD
  rw [h2, decide_eq_true (show (dgs b n).length ≠ 0 by omega)]
  by_cases hz : n = 0
  · subst hz
    have : dgs b 0 = [0] := by rw [dgs, revD_zero b hb]; rfl
    rw [this]; rfl
  · obtain ⟨x, e, hx⟩ := revD_lastA b hb n.toNat n (Nat.le_refl _) (by omega)
    have : (dgs b n).headD 0 = x := by
      rw [dgs, List.headD_eq_head?_getD, List.head?_reverse, e]; rfl
    rw [this, decide_eq_true hx]
    simp

theorem rd_liesA {w : World} {B : Nat} {v : Value} {xs : List Int} (hr : Rd w B v xs) : ∃ a cap, v = .slice a xs.length cap ∧ xs.length ≤ cap ∧ (xs.length = 0 ∨ ∃ g, a = some ⟨g, 0, none⟩ ∧ g < w.heap.size ∧ ∀ (j : Nat) x, xs[j]? = some x → w.cell? ⟨g, j, none⟩ = some (.int .i64 x)) := by
  rcases hr.cases with ⟨rfl, rfl⟩ | ⟨g, cap, rfl, _⟩
  · exact ⟨none, 0, rfl, Nat.le_refl _, .inl rfl⟩
  · refine ⟨_, _, rfl, hr.at.2.2.2.1, .inr ⟨g, rfl, hr.at.2.2.1, fun j x hx => ?_⟩⟩
    obtain ⟨h1, h2⟩ := List.getElem?_eq_some_iff.1 hx
    rw [hr.at.2.2.2.2.1 j h1, h2]
theorem cntF_bdA : ∀ (xs ys : List Int) (m : Int), (∀ y ∈ ys, 0 ≤ y ∧ y ≤ m) → 0 ≤ m → ∀ y ∈ cntF xs ys, 0 ≤ y ∧ y ≤ m + xs.length
  | [], ys, m, h, hm, y, hy => by have := h y hy; simp; omega
  | d :: ds, ys, m, h, hm, y, hy => by
    have := cntF_bdA ds (bump ys d) (m + 1) (bump_bd ys d m h hm) (by omega) y hy
    simp
    omega
theorem cnt_bdA {b : Int} {xs : List Int} (hl : xs.length ≤ 40) : ∀ y ∈ cnt b xs, 0 ≤ y ∧ y ≤ 1000 := fun y hy => by
  have := cntF_bdA xs (List.replicate b.toNat 0) 0 (fun y hy => by rw [List.eq_of_mem_replicate hy]; omega) (by omega) y hy
  omega

/-- What the law asks of a number's digits. -/
structure Dgt (n b : Int) : Prop where
  num : RNumberOf b (dgs b n) = some n
  are : RAreDigits b (dgs b n) = true ∧ okArg b (dgs b n) = true
  read : RParse b (txt (dgs b n)) = some n
  cnts : (cnt b (dgs b n)).sum = (dgs b n).length
  mod : (n - dr b n).tmod (b - 1) = 0
  root : 0 ≤ dr b n ∧ dr b n < b ∧ (0 < n → dr b n ≠ 0) ∧ dr b n ≤ n
  len : (dgs b n).length ≤ 40
  txtl : (txt (dgs b n)).length = (dgs b n).length
theorem dgt_of {n b : Int} (hN : Num n) (hB : Bas b) : Dgt n b := by
  have hd := dgs_all b n hB.1 hN.1
  have hl := dgs_len40 b n hB.1 hN.1 hN.2
  have ha := dgs_areA hB.1 hN.1 (b := b) (n := n)
  have hn := dgs_numA hB.1 hN.1 hN.2 (b := b) (n := n)
  have hok : okArg b (dgs b n) = true := by unfold okArg; rw [decide_eq_true hB, decide_eq_true hl]; rfl
  obtain ⟨r0, r1, _, r3⟩ := dr_facts b hB.1 n.toNat n (Nat.le_refl _) hN.1
  have tl : (txt (dgs b n)).length = (dgs b n).length := by unfold txt; rw [List.length_map]
  refine ⟨?_, ⟨by unfold RAreDigits; rw [hok, ha]; rfl, hok⟩, ?_, cnt_sum (by have := hB.1; omega) hd, ?_, ⟨r0, r1, r3, ?_⟩, hl, tl⟩
  · unfold RNumberOf; rw [if_pos ⟨hB, hl, ha⟩]; exact hn
  · unfold RParse
    rw [txt_idx hB.2 _ hd, if_pos ⟨hB, by rw [tl]; exact hl, ha⟩]
    exact hn
  · have hm := dr_mod hB.1 hN.1 (b := b) (n := n)
    have hle : 0 ≤ n - dr b n := by
      by_cases h : b ≤ n
      · omega
      · rw [dr_end b n h]; omega
    rw [Int.tmod_eq_emod_of_nonneg hle]
    exact hm
  · by_cases h : b ≤ n
    · omega
    · rw [dr_end b n h]; exact Int.le_refl _
/-- A text that is read is the text of what is read. -/
theorem read_back {b m : Int} {cs : List UInt8} (h : RParse b cs = some m) : Num m ∧ Bas b ∧ txt (dgs b m) = cs := by
  unfold RParse at h
  by_cases hc : Bas b ∧ cs.length ≤ 40 ∧ areD b (cs.map idx) = true
  · rw [if_pos hc] at h
    obtain ⟨h1, h2, h3⟩ := num_digits hc.1.1 hc.2.2 h
    exact ⟨⟨h2, h3⟩, hc.1, by rw [h1]; exact idx_txt hc.1.2 cs (areD_all hc.2.2)⟩
  · rw [if_neg hc] at h
    cases h
theorem num_are {b m : Int} {xs : List Int} (h : RNumberOf b xs = some m) : RAreDigits b xs = true ∧ okArg b xs = true := by
  unfold RNumberOf at h
  by_cases hc : Bas b ∧ xs.length ≤ 40 ∧ areD b xs = true
  · have hok : okArg b xs = true := by unfold okArg; rw [decide_eq_true hc.1, decide_eq_true hc.2.1]; rfl
    exact ⟨by unfold RAreDigits; rw [hok, hc.2.2]; rfl, hok⟩
  · rw [if_neg hc] at h
    cases h

theorem rSame_any (v u : Value) (xs : List Int) (w : World) (hv : Sl w v xs) (hu : Sl w u xs) (hl : xs.length ≤ 2000000) :
    Calls Try.prog 20 #[v, u] w fun e w' => e = .returned (.bool true) ∧ Below w.heap.size w w' := by
  obtain ⟨a, cap, rfl, hx⟩ := hv
  obtain ⟨c, cap2, rfl, hy⟩ := hu
  have HX := Lib.hid hx
  have HY := Lib.hid hy
  clear hx hy
  go_enter Try.func20, Try.ntmps20
  go_wp2
  go_loopw [13] (fun i wr => ∃ k : Nat, k ≤ xs.length ∧ i = .int .i64 k ∧ Below w.heap.size w wr) (fun i _ => xs.length - (intOf i).toNat)
  case atStart => exact ⟨0, Nat.zero_le _, rfl, Below.refl _ _⟩
  case round =>
    obtain ⟨k, hk, rfl, hb⟩ := hrel
    have HB := Lib.hid hb
    clear hb
    by_cases hlt : k < xs.length
    · rcases HX.out with hx | ⟨b, off, rfl, hbl, hc⟩
      · rw [hx] at hlt; simp at hlt
      rcases HY.out with hy | ⟨b2, off2, rfl, hbl2, hc2⟩
      · rw [hy] at hlt; simp at hlt
      have hcell : wr.cell? ⟨b, off + k, none⟩ = some (.int .i64 xs[k]) := (HB.out.cell (p := ⟨b, off + k, none⟩) hbl).trans (hc k hlt)
      have hcell2 : wr.cell? ⟨b2, off2 + k, none⟩ = some (.int .i64 xs[k]) := (HB.out.cell (p := ⟨b2, off2 + k, none⟩) hbl2).trans (hc2 k hlt)
      obtain ⟨x, hx⟩ : ∃ x, x = xs[k] := ⟨_, rfl⟩
      rw [← hx] at hcell hcell2
      clear hc hc2 hx
      go_wp2
      go_region
      all_goals
        go_wp2
        go_roundw
        case rel => exact ⟨k + 1, by omega, by go_num, HB.out.drew⟩
        case measure => simp [intOf]; omega
    · obtain rfl : k = xs.length := by omega
      go_wp2
      go_ret
      exact ⟨rfl, HB.out⟩
theorem sum_bdA : ∀ (xs : List Int), (∀ x ∈ xs, 0 ≤ x ∧ x ≤ 1000) → 0 ≤ xs.sum ∧ xs.sum ≤ 1000 * xs.length
  | [], _ => by simp
  | x :: xs, h => by
    have h1 := h x (by simp)
    have h2 := sum_bdA xs (fun y hy => h y (by simp [hy]))
    simp
    omega
theorem rSum_any (v : Value) (xs : List Int) (B : Nat) (w : World) (h : Rd w B v xs) (hx : ∀ x ∈ xs, 0 ≤ x ∧ x ≤ 1000) (hl : xs.length ≤ 1000) :
    Calls Try.prog 25 #[v] w fun e w' => e = .returned (.int .i64 xs.sum) ∧ w = w' := by
  rcases h.cases with ⟨rfl, rfl⟩ | ⟨g, cap, rfl, _, _, _, _, hc, _⟩
  · go_enter Try.func25, Try.ntmps25
    go_wp2
    refine wp_loop_rounds 1 ?_
    rw [rounds_succ]
    go_wp2
    go_ret
    exact ⟨rfl, rfl⟩
  · have hc' := Lib.hid hc
    have HX := Lib.hid hx
    clear hc h hx
    go_enter Try.func25, Try.ntmps25
    go_wp2
    go_loop [3, 8] (fun s i => ∃ k : Nat, k ≤ xs.length ∧ i = .int .i64 k ∧ s = .int .i64 (xs.take k).sum) (fun _ i => xs.length - (intOf i).toNat)
    case atStart => exact ⟨0, Nat.zero_le _, rfl, by simp⟩
    case round =>
      obtain ⟨k, hk, rfl, rfl⟩ := hrel
      have hsb := sum_bdA (xs.take k) (fun x hx => HX.out x (List.mem_of_mem_take hx))
      have hlk : (xs.take k).length ≤ 1000 := by rw [List.length_take]; omega
      by_cases hlt : k < xs.length
      · have hcell := hc'.out k hlt
        have hxk := HX.out _ (List.getElem_mem hlt)
        have HS := Lib.hid (show (xs.take (k + 1)).sum = (xs.take k).sum + xs[k] by rw [take_snoc' xs k hlt, List.sum_append]; simp)
        obtain ⟨S, hS⟩ : ∃ S, S = (xs.take k).sum := ⟨_, rfl⟩
        rw [← hS] at HS hsb ⊢
        have s0 := hsb.1
        have s1 : S ≤ 1000000 := by have := hsb.2; omega
        clear hsb hS hlk
        go_wp2
        go_round
        case rel => exact ⟨k + 1, by omega, by go_num, by rw [HS.out]⟩
        case measure => simp [intOf]; omega
      · obtain rfl : k = xs.length := by omega
        rw [List.take_length]
        go_wp2
        go_ret
        exact ⟨rfl, rfl⟩

set_option maxHeartbeats 20000000 in
theorem law_DigitsTellNumbers {W : World} (v0 : Value) (xs0 : List Int) (hs0 : Sb W v0 xs0) (v1 : Value) (xs1 : List Int) (hs1 : Sb W v1 xs1) :
    Calls Try.prog 3 #[v0, v1] W fun e w' => e = .returned (.bool true) ∧ Below W.heap.size W w' := by
  obtain ⟨a0, k0, rfl⟩ := hs0.len
  obtain ⟨a1, k1, rfl⟩ := hs1.len
  have HS0 := Lib.hid hs0
  have HS1 := Lib.hid hs1
  have HB := Lib.hid (big_any a0 a1 xs0.length xs1.length k0 k1 W)
  clear hs0 hs1
  by_cases hbig : 1048576 < xs0.length ∨ 1048576 < xs0.length + xs1.length
  · rw [decide_eq_true hbig] at HB
    go_enter Try.func3, Try.ntmps3
    go_wp2_with (go_at_call 6; refine HB.out.mono ?_; rintro e w ⟨rfl, rfl⟩)
    go_ret
    exact ⟨rfl, Below.refl _ _⟩
  rw [decide_eq_false hbig] at HB
  have hl0 : xs0.length ≤ 1048576 := by omega
  have hl1 : xs1.length ≤ 1048576 := by omega
  have HL1 := Lib.hid hl1
  clear hbig
  go_enter Try.func3, Try.ntmps3
  go_wp2_with fail
  refine HB.out.mono ?_
  rintro e w ⟨rfl, rfl⟩
  go_wp2_with fail
  refine (draw_DigitsOf _ xs0 _ HS0.out hl0).mono ?_
  rintro e w1 ⟨n, b, rfl, hb⟩
  have BE1 := Lib.hid hb
  clear hb hl0 hl1
  have HI1 := Lib.hid (fun w => impl_DigitsOf n b w)
  have HT1 := Lib.hid (fun w => spec_DigitsOf n b w)
  have HI2 := Lib.hid (fun w => impl_DigitSum n b w)
  have HT2 := Lib.hid (fun w => spec_DigitSum n b w)
  have HI3 := Lib.hid (fun w => impl_DigitProduct n b w)
  have HT3 := Lib.hid (fun w => spec_DigitProduct n b w)
  have HI4 := Lib.hid (fun w => impl_DigitCounts n b w)
  have HT4 := Lib.hid (fun w => spec_DigitCounts n b w)
  have HI5 := Lib.hid (fun w => impl_DigitalRoot n b w)
  have HT5 := Lib.hid (fun w => spec_DigitalRoot n b w)
  have HI6 := Lib.hid (fun w => impl_NumberText n b w)
  have HT6 := Lib.hid (fun w => spec_NumberText n b w)
  by_cases hq : Num n ∧ Bas b
  · have HG := Lib.hid (dgt_of hq.1 hq.2)
    have HLD := Lib.hid (show (dgs b n).length ≤ 40 from HG.out.len)
    have HLC := Lib.hid (show (cnt b (dgs b n)).length ≤ 16 by rw [cnt_len]; have := hq.2.2; omega)
    have e1 : askL dgs n b = dgs b n := if_pos hq
    have e2 : askI RDigitSum n b = some (dgs b n).sum := if_pos hq
    have e3 : askI RDigitProduct n b = some (prodW (dgs b n) 1) := if_pos hq
    have e4 : askL LDigitCounts n b = cnt b (dgs b n) := if_pos hq
    have e5 : askI RDigitalRoot n b = some (dr b n) := if_pos hq
    have e6 : RText n b = txt (dgs b n) := if_pos hq
    have e7 : okq n b = true := okq_yes hq
    rw [e1, e7] at HI1 HT1
    rw [e2] at HI2 HT2
    rw [e3] at HI3 HT3
    rw [e4, e7] at HI4 HT4
    rw [e5] at HI5 HT5
    rw [e6, e7] at HI6 HT6
    simp only [optRes] at HI2 HT2 HI3 HT3 HI5 HT5
    have HA1 := Lib.hid (fun (w : World) u B (h : Rd w B u (dgs b n)) => impl_NumberOf u (dgs b n) b B w h (by have := HLD.out; omega))
    have HA2 := Lib.hid (fun (w : World) u B (h : Rd w B u (dgs b n)) => impl_AreDigits u (dgs b n) b B w h (by have := HLD.out; omega))
    rw [HG.out.num] at HA1
    rw [HG.out.are.1, HG.out.are.2] at HA2
    have HA3 := Lib.hid (fun w => impl_CountDigits n b w)
    have e8 : askI RCountDigits n b = some ((dgs b n).length : Int) := if_pos hq
    rw [e8] at HA3
    have HA4 := Lib.hid (fun w => impl_ParseNumber ⟨(txt (dgs b n)).toArray⟩ b w (by rw [ba_szA, HG.out.txtl]; have := HLD.out; omega))
    have e9 : (⟨(txt (dgs b n)).toArray⟩ : ByteArray).data.toList = txt (dgs b n) := by simp
    rw [e9, HG.out.read] at HA4
    simp only [optRes] at HA1 HA3 HA4
    have HMD := Lib.hid HG.out.mod
    have HRT := Lib.hid HG.out.root
    have HCS := Lib.hid HG.out.cnts
    have HTL := Lib.hid HG.out.txtl
    have HDA := Lib.hid (show ∀ x ∈ dgs b n, 0 ≤ x ∧ x ≤ 1000 from fun x hx => by have := dgs_all b n hq.2.1 hq.1.1 x hx; have := hq.2.2; omega)
    have HCA := Lib.hid (show ∀ x ∈ cnt b (dgs b n), 0 ≤ x ∧ x ≤ 1000 from cnt_bdA HLD.out)
    obtain ⟨D, hD⟩ : ∃ D, D = dgs b n := ⟨_, rfl⟩
    obtain ⟨C, hC⟩ : ∃ C, C = cnt b (dgs b n) := ⟨_, rfl⟩
    rw [← hC] at HI4 HT4 HLC HCS HCA
    obtain ⟨TX, hTX⟩ : ∃ TX, TX = txt (dgs b n) := ⟨_, rfl⟩
    rw [← hTX] at HI6 HT6 HA4 HTL
    rw [← hD] at HI1 HT1 HI2 HT2 HI3 HT3 HA1 HA2 HA3 HLD HCS HTL HDA
    obtain ⟨P, hP⟩ : ∃ P, P = prodW D 1 := ⟨_, rfl⟩
    have HPP := Lib.hid hP
    rw [← hP] at HI3 HT3
    obtain ⟨SM, hSM⟩ : ∃ SM, SM = D.sum := ⟨_, rfl⟩
    have HSM := Lib.hid hSM
    rw [← hSM] at HI2 HT2
    obtain ⟨RR, hRR⟩ : ∃ RR, RR = dr b n := ⟨_, rfl⟩
    rw [← hRR] at HI5 HT5 HMD HRT
    skip
    obtain ⟨⟨n0, n1⟩, hb0, hb1⟩ := hq
    clear e1 e2 e3 e4 e5 e6 e7 e8 e9 hD hC hTX hP hSM hRR HG
    go_wp2_with fail
    refine (HI1.out _).mono ?_
    rintro e w2 ⟨uD, rfl, hr, hb⟩
    have BE2 := Lib.hid (BE1.out.trans (hb.mono BE1.out.size))
    have R1 := Lib.hid hr
    clear hr hb
    go_wp2_with fail
    refine (HT1.out _).mono ?_
    rintro e w3 ⟨uE, rfl, hr, hb⟩
    have R2 := Lib.hid (R1.out.keep hb)
    have BE3 := Lib.hid (BE2.out.trans (hb.mono BE2.out.size))
    have R3 := Lib.hid hr
    clear hr hb
    go_wp2_with fail
    refine (HI2.out _).mono ?_
    rintro e w4 ⟨rfl, hb⟩
    have R4 := Lib.hid (R2.out.keep hb)
    have R5 := Lib.hid (R3.out.keep hb)
    have BE4 := Lib.hid (BE3.out.trans (hb.mono BE3.out.size))
    clear hb
    go_wp2_with fail
    refine (HT2.out _).mono ?_
    rintro e w5 ⟨rfl, hb⟩
    have R6 := Lib.hid (R4.out.keep hb)
    have R7 := Lib.hid (R5.out.keep hb)
    have BE5 := Lib.hid (BE4.out.trans (hb.mono BE4.out.size))
    clear hb
    go_wp2_with fail
    refine (HI3.out _).mono ?_
    rintro e w6 ⟨rfl, hb⟩
    have R8 := Lib.hid (R6.out.keep hb)
    have R9 := Lib.hid (R7.out.keep hb)
    have BE6 := Lib.hid (BE5.out.trans (hb.mono BE5.out.size))
    clear hb
    go_wp2_with fail
    refine (HT3.out _).mono ?_
    rintro e w7 ⟨rfl, hb⟩
    have R10 := Lib.hid (R8.out.keep hb)
    have R11 := Lib.hid (R9.out.keep hb)
    have BE7 := Lib.hid (BE6.out.trans (hb.mono BE6.out.size))
    clear hb
    go_wp2_with fail
    refine (HI4.out _).mono ?_
    rintro e w8 ⟨uC, rfl, hr, hb⟩
    have R12 := Lib.hid (R10.out.keep hb)
    have R13 := Lib.hid (R11.out.keep hb)
    have BE8 := Lib.hid (BE7.out.trans (hb.mono BE7.out.size))
    have R14 := Lib.hid hr
    clear hr hb
    go_wp2_with fail
    refine (HT4.out _).mono ?_
    rintro e w9 ⟨uF, rfl, hr, hb⟩
    have R15 := Lib.hid (R12.out.keep hb)
    have R16 := Lib.hid (R13.out.keep hb)
    have R17 := Lib.hid (R14.out.keep hb)
    have BE9 := Lib.hid (BE8.out.trans (hb.mono BE8.out.size))
    have R18 := Lib.hid hr
    clear hr hb
    go_wp2_with fail
    refine (HI5.out _).mono ?_
    rintro e w10 ⟨rfl, hb⟩
    have R19 := Lib.hid (R15.out.keep hb)
    have R20 := Lib.hid (R16.out.keep hb)
    have R21 := Lib.hid (R17.out.keep hb)
    have R22 := Lib.hid (R18.out.keep hb)
    have BE10 := Lib.hid (BE9.out.trans (hb.mono BE9.out.size))
    clear hb
    go_wp2_with fail
    refine (HT5.out _).mono ?_
    rintro e w11 ⟨rfl, hb⟩
    have R23 := Lib.hid (R19.out.keep hb)
    have R24 := Lib.hid (R20.out.keep hb)
    have R25 := Lib.hid (R21.out.keep hb)
    have R26 := Lib.hid (R22.out.keep hb)
    have BE11 := Lib.hid (BE10.out.trans (hb.mono BE10.out.size))
    clear hb
    go_wp2_with fail
    refine (HI6.out _).mono ?_
    rintro e w12 ⟨rfl, hb⟩
    have R27 := Lib.hid (R23.out.keep hb)
    have R28 := Lib.hid (R24.out.keep hb)
    have R29 := Lib.hid (R25.out.keep hb)
    have R30 := Lib.hid (R26.out.keep hb)
    have BE12 := Lib.hid (BE11.out.trans (hb.mono BE11.out.size))
    clear hb
    go_wp2_with fail
    refine (HT6.out _).mono ?_
    rintro e w13 ⟨rfl, hb⟩
    have R31 := Lib.hid (R27.out.keep hb)
    have R32 := Lib.hid (R28.out.keep hb)
    have R33 := Lib.hid (R29.out.keep hb)
    have R34 := Lib.hid (R30.out.keep hb)
    have BE13 := Lib.hid (BE12.out.trans (hb.mono BE12.out.size))
    clear hb
    go_wp2_with fail
    refine (rSame_any _ _ D _ R31.out.sl R32.out.sl (by have := HLD.out; simp at this ⊢; omega)).mono ?_
    rintro e w14 ⟨rfl, hb⟩
    have R35 := Lib.hid (R31.out.keep hb)
    have R36 := Lib.hid (R32.out.keep hb)
    have R37 := Lib.hid (R33.out.keep hb)
    have R38 := Lib.hid (R34.out.keep hb)
    have BE14 := Lib.hid (BE13.out.trans (hb.mono BE13.out.size))
    clear hb
    go_wp2_with fail
    refine (rSame_any _ _ C _ R37.out.sl R38.out.sl (by have := HLC.out; omega)).mono ?_
    rintro e w15 ⟨rfl, hb⟩
    have R39 := Lib.hid (R35.out.keep hb)
    have R40 := Lib.hid (R36.out.keep hb)
    have R41 := Lib.hid (R37.out.keep hb)
    have R42 := Lib.hid (R38.out.keep hb)
    have BE15 := Lib.hid (BE14.out.trans (hb.mono BE14.out.size))
    clear hb
    go_wp2_with fail
    refine (HA1.out _ _ _ R39.out).mono ?_
    rintro e w15x42 ⟨rfl, rfl⟩
    go_wp2_with fail
    refine (HA2.out _ _ _ R39.out).mono ?_
    rintro e w15x43 ⟨rfl, rfl⟩
    go_wp2_with fail
    refine (HA3.out _).mono ?_
    rintro e w16 ⟨rfl, hb⟩
    have R45 := Lib.hid (R39.out.keep hb)
    have R46 := Lib.hid (R40.out.keep hb)
    have R47 := Lib.hid (R41.out.keep hb)
    have R48 := Lib.hid (R42.out.keep hb)
    have BE16 := Lib.hid (BE15.out.trans (hb.mono BE15.out.size))
    clear hb
    go_wp2_with fail
    refine (HA4.out _).mono ?_
    rintro e w17 ⟨rfl, hb⟩
    have R49 := Lib.hid (R45.out.keep hb)
    have R50 := Lib.hid (R46.out.keep hb)
    have R51 := Lib.hid (R47.out.keep hb)
    have R52 := Lib.hid (R48.out.keep hb)
    have BE17 := Lib.hid (BE16.out.trans (hb.mono BE16.out.size))
    clear hb
    obtain ⟨ga, gc, hga, hgc, hlies⟩ := rd_liesA R49.out
    have HLI := Lib.hid hlies
    have HGA := Lib.hid hga
    clear hlies hga
    obtain ⟨N, hN⟩ : ∃ N, N = D.length := ⟨_, rfl⟩
    have HN := Lib.hid hN
    rw [← hN] at hgc
    have hN40 : N ≤ 40 := by rw [hN]; exact HLD.out
    clear hN
    rw [HGA.out, ← HN.out]
    go_wp2
    go_loopw [39, 252] (fun al i wr => ∃ (k : Nat) (m : Int), k ≤ N ∧ i = .int .i64 (k : Int) ∧ al = .int .i64 m ∧ prodW (D.drop k) m = P ∧ wr = w17) (fun _ i _ => N - (intOf i).toNat)
    case atStart => exact ⟨0, 1, Nat.zero_le _, rfl, rfl, by rw [List.drop_zero]; exact HPP.out.symm, rfl⟩
    case round =>
      obtain ⟨k, m, hk, rfl, rfl, hp, rfl⟩ := hrel
      have HPD := Lib.hid hp
      clear hp
      by_cases hlt : k < N
      · have hlt2 : k < D.length := by rw [← HN.out]; exact hlt
        have HST := Lib.hid (prodW_step D k m hlt2)
        rcases HLI.out with h0 | ⟨g, rfl, hg, hcell⟩
        · exfalso; have := HN.out; omega
        have z0 := hcell k D[k] (List.getElem?_eq_getElem hlt2)
        obtain ⟨d, hd⟩ : ∃ d, d = D[k] := ⟨_, rfl⟩
        rw [← hd] at z0 HST
        clear hcell hd hlt2
        go_wp2
        go_roundw
        case rel => exact ⟨k + 1, wrap64 (m * d), by omega, by go_num, by first | rfl | go_num, by rw [← HST.out]; exact HPD.out, by first | rfl | trivial⟩
        case measure => simp [intOf]; omega
      · obtain rfl : k = N := by omega
        have hmP : m = P := by have := HPD.out; rw [List.drop_of_length_le (by rw [← HN.out]; exact Nat.le_refl _)] at this; simpa [prodW] using this
        subst hmP
        obtain ⟨r0, r1, r2, r3⟩ := HRT.out
        have t1 := HMD.out
        have t2 : ¬ b - 1 = 0 := by omega
        have hsz := ba_szA TX
        have htl : TX.length = k := by rw [HTL.out, HN.out]
        skip
        have hcs : C.sum = (k : Int) := by rw [HCS.out, HN.out]
        have HRC := Lib.hid (rSum_any uC C _ _ R51.out HCA.out (by have := HLC.out; omega))
        have HRD := Lib.hid (rSum_any uD D _ _ R49.out HDA.out (by have := HLD.out; omega))
        rw [hcs] at HRC
        rw [← HSM.out] at HRD
        rw [HGA.out, ← HN.out] at HRD
        clear hcs
        go_wp2_with fail
        refine (HRC.out).mono ?_
        rintro e w17x52 ⟨rfl, rfl⟩
        go_wp2_with fail
        refine (HRD.out).mono ?_
        rintro e w17x53 ⟨rfl, rfl⟩
        by_cases hpos : 0 < n
        · have r5 : (RR == 0) = false := beq_no (r2 hpos)
          clear r2
          as_aux_lemma =>
            go_wp2_with fail
            refine (draw_NumberOf _ xs1 _ (HS1.out.keep BE17.out) HL1.out).mono ?_
            rintro e y1 ⟨us, ds, z, rfl, hr, hdl, hb⟩
            have BE18 := Lib.hid (BE17.out.trans (hb.mono BE17.out.size))
            have RS := Lib.hid hr
            have HDL := Lib.hid hdl
            clear hr hb hdl
            have HNI := Lib.hid (fun (w : World) B (h : Rd w B us ds) => impl_NumberOf us ds z B w h (by have := HDL.out; omega))
            have HNS := Lib.hid (fun (w : World) B (h : Rd w B us ds) => spec_NumberOf us ds z B w h (by have := HDL.out; omega))
            have HAI := Lib.hid (fun (w : World) B (h : Rd w B us ds) => impl_AreDigits us ds z B w h (by have := HDL.out; omega))
            have HAS := Lib.hid (fun (w : World) B (h : Rd w B us ds) => spec_AreDigits us ds z B w h (by have := HDL.out; omega))
            have HNA := Lib.hid (fun m (h : RNumberOf z ds = some m) => num_are h)
            obtain ⟨rn, hrn⟩ : ∃ rn, rn = RNumberOf z ds := ⟨_, rfl⟩
            obtain ⟨ra, hra⟩ : ∃ ra, ra = RAreDigits z ds := ⟨_, rfl⟩
            obtain ⟨ro, hro⟩ : ∃ ro, ro = okArg z ds := ⟨_, rfl⟩
            rw [← hrn] at HNI HNS HNA
            rw [← hra, ← hro] at HAI HAS HNA
            clear hrn hra hro
            cases rn with
            | none =>
              simp only [optRes] at HNI HNS
              go_wp2_with fail
              refine (HNI.out _ _ RS.out).mono ?_
              rintro e w18x54 ⟨rfl, rfl⟩
              go_wp2_with fail
              refine (HNS.out _ _ RS.out).mono ?_
              rintro e w18x55 ⟨rfl, rfl⟩
              go_wp2_with fail
              refine (HAI.out _ _ RS.out).mono ?_
              rintro e w18x56 ⟨rfl, rfl⟩
              go_wp2_with fail
              refine (HAS.out _ _ RS.out).mono ?_
              rintro e w18x57 ⟨rfl, rfl⟩
              go_wp2_with fail
              refine (draw_ParseNumber _ xs1 _ (HS1.out.keep BE18.out) HL1.out).mono ?_
              rintro e y2 ⟨S, z2, rfl, hSl, hb⟩
              have BE19 := Lib.hid (BE18.out.trans (hb.mono BE18.out.size))
              clear hb
              have HPI := Lib.hid (fun w => impl_ParseNumber ⟨S.toArray⟩ z2 w (by rw [ba_szA]; omega))
              have HPS := Lib.hid (fun w => spec_ParseNumber ⟨S.toArray⟩ z2 w (by rw [ba_szA]; omega))
              have eS : (⟨S.toArray⟩ : ByteArray).data.toList = S := by simp
              rw [eS] at HPI HPS
              have HRB := Lib.hid (fun m (h : RParse z2 S = some m) => read_back h)
              obtain ⟨rp, hrp⟩ : ∃ rp, rp = RParse z2 S := ⟨_, rfl⟩
              rw [← hrp] at HPI HPS HRB
              clear hrp eS
              cases rp with
              | none =>
                simp only [optRes] at HPI HPS
                go_wp2_with fail
                refine (HPI.out _).mono ?_
                rintro e w20 ⟨rfl, hb⟩
                have BE20 := Lib.hid (BE19.out.trans (hb.mono BE19.out.size))
                clear hb
                go_wp2_with fail
                refine (HPS.out _).mono ?_
                rintro e w21 ⟨rfl, hb⟩
                have BE21 := Lib.hid (BE20.out.trans (hb.mono BE20.out.size))
                clear hb
                go_wp2
                go_ret
                exact ⟨rfl, BE21.out⟩
              | some r =>
                simp only [optRes] at HPI HPS
                go_wp2_with fail
                refine (HPI.out _).mono ?_
                rintro e w20 ⟨rfl, hb⟩
                have BE20 := Lib.hid (BE19.out.trans (hb.mono BE19.out.size))
                clear hb
                go_wp2_with fail
                refine (HPS.out _).mono ?_
                rintro e w21 ⟨rfl, hb⟩
                have BE21 := Lib.hid (BE20.out.trans (hb.mono BE20.out.size))
                clear hb
                obtain ⟨hr1, hr2, hr3⟩ := HRB.out r rfl
                have HTX := Lib.hid (fun w => impl_NumberText r z2 w)
                have et : RText r z2 = S := by unfold RText; rw [if_pos ⟨hr1, hr2⟩]; exact hr3
                rw [et, okq_yes ⟨hr1, hr2⟩] at HTX
                clear et hr1 hr2 hr3
                go_wp2_with fail
                refine (HTX.out _).mono ?_
                rintro e w22 ⟨rfl, hb⟩
                have BE22 := Lib.hid (BE21.out.trans (hb.mono BE21.out.size))
                clear hb
                go_wp2
                go_ret
                exact ⟨rfl, BE22.out⟩
            | some m =>
              obtain ⟨hm1, hm2⟩ := HNA.out m rfl
              subst hm1 hm2
              simp only [optRes] at HNI HNS
              go_wp2_with fail
              refine (HNI.out _ _ RS.out).mono ?_
              rintro e w18x54 ⟨rfl, rfl⟩
              go_wp2_with fail
              refine (HNS.out _ _ RS.out).mono ?_
              rintro e w18x55 ⟨rfl, rfl⟩
              go_wp2_with fail
              refine (HAI.out _ _ RS.out).mono ?_
              rintro e w18x56 ⟨rfl, rfl⟩
              go_wp2_with fail
              refine (HAS.out _ _ RS.out).mono ?_
              rintro e w18x57 ⟨rfl, rfl⟩
              go_wp2_with fail
              refine (draw_ParseNumber _ xs1 _ (HS1.out.keep BE18.out) HL1.out).mono ?_
              rintro e y2 ⟨S, z2, rfl, hSl, hb⟩
              have BE19 := Lib.hid (BE18.out.trans (hb.mono BE18.out.size))
              clear hb
              have HPI := Lib.hid (fun w => impl_ParseNumber ⟨S.toArray⟩ z2 w (by rw [ba_szA]; omega))
              have HPS := Lib.hid (fun w => spec_ParseNumber ⟨S.toArray⟩ z2 w (by rw [ba_szA]; omega))
              have eS : (⟨S.toArray⟩ : ByteArray).data.toList = S := by simp
              rw [eS] at HPI HPS
              have HRB := Lib.hid (fun m (h : RParse z2 S = some m) => read_back h)
              obtain ⟨rp, hrp⟩ : ∃ rp, rp = RParse z2 S := ⟨_, rfl⟩
              rw [← hrp] at HPI HPS HRB
              clear hrp eS
              cases rp with
              | none =>
                simp only [optRes] at HPI HPS
                go_wp2_with fail
                refine (HPI.out _).mono ?_
                rintro e w20 ⟨rfl, hb⟩
                have BE20 := Lib.hid (BE19.out.trans (hb.mono BE19.out.size))
                clear hb
                go_wp2_with fail
                refine (HPS.out _).mono ?_
                rintro e w21 ⟨rfl, hb⟩
                have BE21 := Lib.hid (BE20.out.trans (hb.mono BE20.out.size))
                clear hb
                go_wp2
                go_ret
                exact ⟨rfl, BE21.out⟩
              | some r =>
                simp only [optRes] at HPI HPS
                go_wp2_with fail
                refine (HPI.out _).mono ?_
                rintro e w20 ⟨rfl, hb⟩
                have BE20 := Lib.hid (BE19.out.trans (hb.mono BE19.out.size))
                clear hb
                go_wp2_with fail
                refine (HPS.out _).mono ?_
                rintro e w21 ⟨rfl, hb⟩
                have BE21 := Lib.hid (BE20.out.trans (hb.mono BE20.out.size))
                clear hb
                obtain ⟨hr1, hr2, hr3⟩ := HRB.out r rfl
                have HTX := Lib.hid (fun w => impl_NumberText r z2 w)
                have et : RText r z2 = S := by unfold RText; rw [if_pos ⟨hr1, hr2⟩]; exact hr3
                rw [et, okq_yes ⟨hr1, hr2⟩] at HTX
                clear et hr1 hr2 hr3
                go_wp2_with fail
                refine (HTX.out _).mono ?_
                rintro e w22 ⟨rfl, hb⟩
                have BE22 := Lib.hid (BE21.out.trans (hb.mono BE21.out.size))
                clear hb
                go_wp2
                go_ret
                exact ⟨rfl, BE22.out⟩
        · obtain rfl : n = 0 := by omega
          clear r2
          obtain rfl : RR = 0 := by omega
          as_aux_lemma =>
            go_wp2_with fail
            refine (draw_NumberOf _ xs1 _ (HS1.out.keep BE17.out) HL1.out).mono ?_
            rintro e y1 ⟨us, ds, z, rfl, hr, hdl, hb⟩
            have BE18 := Lib.hid (BE17.out.trans (hb.mono BE17.out.size))
            have RS := Lib.hid hr
            have HDL := Lib.hid hdl
            clear hr hb hdl
            have HNI := Lib.hid (fun (w : World) B (h : Rd w B us ds) => impl_NumberOf us ds z B w h (by have := HDL.out; omega))
            have HNS := Lib.hid (fun (w : World) B (h : Rd w B us ds) => spec_NumberOf us ds z B w h (by have := HDL.out; omega))
            have HAI := Lib.hid (fun (w : World) B (h : Rd w B us ds) => impl_AreDigits us ds z B w h (by have := HDL.out; omega))
            have HAS := Lib.hid (fun (w : World) B (h : Rd w B us ds) => spec_AreDigits us ds z B w h (by have := HDL.out; omega))
            have HNA := Lib.hid (fun m (h : RNumberOf z ds = some m) => num_are h)
            obtain ⟨rn, hrn⟩ : ∃ rn, rn = RNumberOf z ds := ⟨_, rfl⟩
            obtain ⟨ra, hra⟩ : ∃ ra, ra = RAreDigits z ds := ⟨_, rfl⟩
            obtain ⟨ro, hro⟩ : ∃ ro, ro = okArg z ds := ⟨_, rfl⟩
            rw [← hrn] at HNI HNS HNA
            rw [← hra, ← hro] at HAI HAS HNA
            clear hrn hra hro
            cases rn with
            | none =>
              simp only [optRes] at HNI HNS
              go_wp2_with fail
              refine (HNI.out _ _ RS.out).mono ?_
              rintro e w18x54 ⟨rfl, rfl⟩
              go_wp2_with fail
              refine (HNS.out _ _ RS.out).mono ?_
              rintro e w18x55 ⟨rfl, rfl⟩
              go_wp2_with fail
              refine (HAI.out _ _ RS.out).mono ?_
              rintro e w18x56 ⟨rfl, rfl⟩
              go_wp2_with fail
              refine (HAS.out _ _ RS.out).mono ?_
              rintro e w18x57 ⟨rfl, rfl⟩
              go_wp2_with fail
              refine (draw_ParseNumber _ xs1 _ (HS1.out.keep BE18.out) HL1.out).mono ?_
              rintro e y2 ⟨S, z2, rfl, hSl, hb⟩
              have BE19 := Lib.hid (BE18.out.trans (hb.mono BE18.out.size))
              clear hb
              have HPI := Lib.hid (fun w => impl_ParseNumber ⟨S.toArray⟩ z2 w (by rw [ba_szA]; omega))
              have HPS := Lib.hid (fun w => spec_ParseNumber ⟨S.toArray⟩ z2 w (by rw [ba_szA]; omega))
              have eS : (⟨S.toArray⟩ : ByteArray).data.toList = S := by simp
              rw [eS] at HPI HPS
              have HRB := Lib.hid (fun m (h : RParse z2 S = some m) => read_back h)
              obtain ⟨rp, hrp⟩ : ∃ rp, rp = RParse z2 S := ⟨_, rfl⟩
              rw [← hrp] at HPI HPS HRB
              clear hrp eS
              cases rp with
              | none =>
                simp only [optRes] at HPI HPS
                go_wp2_with fail
                refine (HPI.out _).mono ?_
                rintro e w20 ⟨rfl, hb⟩
                have BE20 := Lib.hid (BE19.out.trans (hb.mono BE19.out.size))
                clear hb
                go_wp2_with fail
                refine (HPS.out _).mono ?_
                rintro e w21 ⟨rfl, hb⟩
                have BE21 := Lib.hid (BE20.out.trans (hb.mono BE20.out.size))
                clear hb
                go_wp2
                go_ret
                exact ⟨rfl, BE21.out⟩
              | some r =>
                simp only [optRes] at HPI HPS
                go_wp2_with fail
                refine (HPI.out _).mono ?_
                rintro e w20 ⟨rfl, hb⟩
                have BE20 := Lib.hid (BE19.out.trans (hb.mono BE19.out.size))
                clear hb
                go_wp2_with fail
                refine (HPS.out _).mono ?_
                rintro e w21 ⟨rfl, hb⟩
                have BE21 := Lib.hid (BE20.out.trans (hb.mono BE20.out.size))
                clear hb
                obtain ⟨hr1, hr2, hr3⟩ := HRB.out r rfl
                have HTX := Lib.hid (fun w => impl_NumberText r z2 w)
                have et : RText r z2 = S := by unfold RText; rw [if_pos ⟨hr1, hr2⟩]; exact hr3
                rw [et, okq_yes ⟨hr1, hr2⟩] at HTX
                clear et hr1 hr2 hr3
                go_wp2_with fail
                refine (HTX.out _).mono ?_
                rintro e w22 ⟨rfl, hb⟩
                have BE22 := Lib.hid (BE21.out.trans (hb.mono BE21.out.size))
                clear hb
                go_wp2
                go_ret
                exact ⟨rfl, BE22.out⟩
            | some m =>
              obtain ⟨hm1, hm2⟩ := HNA.out m rfl
              subst hm1 hm2
              simp only [optRes] at HNI HNS
              go_wp2_with fail
              refine (HNI.out _ _ RS.out).mono ?_
              rintro e w18x54 ⟨rfl, rfl⟩
              go_wp2_with fail
              refine (HNS.out _ _ RS.out).mono ?_
              rintro e w18x55 ⟨rfl, rfl⟩
              go_wp2_with fail
              refine (HAI.out _ _ RS.out).mono ?_
              rintro e w18x56 ⟨rfl, rfl⟩
              go_wp2_with fail
              refine (HAS.out _ _ RS.out).mono ?_
              rintro e w18x57 ⟨rfl, rfl⟩
              go_wp2_with fail
              refine (draw_ParseNumber _ xs1 _ (HS1.out.keep BE18.out) HL1.out).mono ?_
              rintro e y2 ⟨S, z2, rfl, hSl, hb⟩
              have BE19 := Lib.hid (BE18.out.trans (hb.mono BE18.out.size))
              clear hb
              have HPI := Lib.hid (fun w => impl_ParseNumber ⟨S.toArray⟩ z2 w (by rw [ba_szA]; omega))
              have HPS := Lib.hid (fun w => spec_ParseNumber ⟨S.toArray⟩ z2 w (by rw [ba_szA]; omega))
              have eS : (⟨S.toArray⟩ : ByteArray).data.toList = S := by simp
              rw [eS] at HPI HPS
              have HRB := Lib.hid (fun m (h : RParse z2 S = some m) => read_back h)
              obtain ⟨rp, hrp⟩ : ∃ rp, rp = RParse z2 S := ⟨_, rfl⟩
              rw [← hrp] at HPI HPS HRB
              clear hrp eS
              cases rp with
              | none =>
                simp only [optRes] at HPI HPS
                go_wp2_with fail
                refine (HPI.out _).mono ?_
                rintro e w20 ⟨rfl, hb⟩
                have BE20 := Lib.hid (BE19.out.trans (hb.mono BE19.out.size))
                clear hb
                go_wp2_with fail
                refine (HPS.out _).mono ?_
                rintro e w21 ⟨rfl, hb⟩
                have BE21 := Lib.hid (BE20.out.trans (hb.mono BE20.out.size))
                clear hb
                go_wp2
                go_ret
                exact ⟨rfl, BE21.out⟩
              | some r =>
                simp only [optRes] at HPI HPS
                go_wp2_with fail
                refine (HPI.out _).mono ?_
                rintro e w20 ⟨rfl, hb⟩
                have BE20 := Lib.hid (BE19.out.trans (hb.mono BE19.out.size))
                clear hb
                go_wp2_with fail
                refine (HPS.out _).mono ?_
                rintro e w21 ⟨rfl, hb⟩
                have BE21 := Lib.hid (BE20.out.trans (hb.mono BE20.out.size))
                clear hb
                obtain ⟨hr1, hr2, hr3⟩ := HRB.out r rfl
                have HTX := Lib.hid (fun w => impl_NumberText r z2 w)
                have et : RText r z2 = S := by unfold RText; rw [if_pos ⟨hr1, hr2⟩]; exact hr3
                rw [et, okq_yes ⟨hr1, hr2⟩] at HTX
                clear et hr1 hr2 hr3
                go_wp2_with fail
                refine (HTX.out _).mono ?_
                rintro e w22 ⟨rfl, hb⟩
                have BE22 := Lib.hid (BE21.out.trans (hb.mono BE21.out.size))
                clear hb
                go_wp2
                go_ret
                exact ⟨rfl, BE22.out⟩
  · skip
    have e1 : askL dgs n b = [] := if_neg hq
    have e2 : askI RDigitSum n b = none := if_neg hq
    have e3 : askI RDigitProduct n b = none := if_neg hq
    have e4 : askL LDigitCounts n b = [] := if_neg hq
    have e5 : askI RDigitalRoot n b = none := if_neg hq
    have e6 : RText n b = [] := if_neg hq
    have e7 : okq n b = false := okq_no hq
    rw [e1, e7] at HI1 HT1
    rw [e2] at HI2 HT2
    rw [e3] at HI3 HT3
    rw [e4, e7] at HI4 HT4
    rw [e5] at HI5 HT5
    rw [e6, e7] at HI6 HT6
    simp only [optRes] at HI2 HT2 HI3 HT3 HI5 HT5
    clear hq e1 e2 e3 e4 e5 e6 e7
    go_wp2_with fail
    refine (HI1.out _).mono ?_
    rintro e w2 ⟨uD, rfl, hr, hb⟩
    have BE2 := Lib.hid (BE1.out.trans (hb.mono BE1.out.size))
    have R1 := Lib.hid hr
    clear hr hb
    go_wp2_with fail
    refine (HT1.out _).mono ?_
    rintro e w3 ⟨uE, rfl, hr, hb⟩
    have R2 := Lib.hid (R1.out.keep hb)
    have BE3 := Lib.hid (BE2.out.trans (hb.mono BE2.out.size))
    have R3 := Lib.hid hr
    clear hr hb
    go_wp2_with fail
    refine (HI2.out _).mono ?_
    rintro e w4 ⟨rfl, hb⟩
    have R4 := Lib.hid (R2.out.keep hb)
    have R5 := Lib.hid (R3.out.keep hb)
    have BE4 := Lib.hid (BE3.out.trans (hb.mono BE3.out.size))
    clear hb
    go_wp2_with fail
    refine (HT2.out _).mono ?_
    rintro e w5 ⟨rfl, hb⟩
    have R6 := Lib.hid (R4.out.keep hb)
    have R7 := Lib.hid (R5.out.keep hb)
    have BE5 := Lib.hid (BE4.out.trans (hb.mono BE4.out.size))
    clear hb
    go_wp2_with fail
    refine (HI3.out _).mono ?_
    rintro e w6 ⟨rfl, hb⟩
    have R8 := Lib.hid (R6.out.keep hb)
    have R9 := Lib.hid (R7.out.keep hb)
    have BE6 := Lib.hid (BE5.out.trans (hb.mono BE5.out.size))
    clear hb
    go_wp2_with fail
    refine (HT3.out _).mono ?_
    rintro e w7 ⟨rfl, hb⟩
    have R10 := Lib.hid (R8.out.keep hb)
    have R11 := Lib.hid (R9.out.keep hb)
    have BE7 := Lib.hid (BE6.out.trans (hb.mono BE6.out.size))
    clear hb
    go_wp2_with fail
    refine (HI4.out _).mono ?_
    rintro e w8 ⟨uC, rfl, hr, hb⟩
    have R12 := Lib.hid (R10.out.keep hb)
    have R13 := Lib.hid (R11.out.keep hb)
    have BE8 := Lib.hid (BE7.out.trans (hb.mono BE7.out.size))
    have R14 := Lib.hid hr
    clear hr hb
    go_wp2_with fail
    refine (HT4.out _).mono ?_
    rintro e w9 ⟨uF, rfl, hr, hb⟩
    have R15 := Lib.hid (R12.out.keep hb)
    have R16 := Lib.hid (R13.out.keep hb)
    have R17 := Lib.hid (R14.out.keep hb)
    have BE9 := Lib.hid (BE8.out.trans (hb.mono BE8.out.size))
    have R18 := Lib.hid hr
    clear hr hb
    go_wp2_with fail
    refine (HI5.out _).mono ?_
    rintro e w10 ⟨rfl, hb⟩
    have R19 := Lib.hid (R15.out.keep hb)
    have R20 := Lib.hid (R16.out.keep hb)
    have R21 := Lib.hid (R17.out.keep hb)
    have R22 := Lib.hid (R18.out.keep hb)
    have BE10 := Lib.hid (BE9.out.trans (hb.mono BE9.out.size))
    clear hb
    go_wp2_with fail
    refine (HT5.out _).mono ?_
    rintro e w11 ⟨rfl, hb⟩
    have R23 := Lib.hid (R19.out.keep hb)
    have R24 := Lib.hid (R20.out.keep hb)
    have R25 := Lib.hid (R21.out.keep hb)
    have R26 := Lib.hid (R22.out.keep hb)
    have BE11 := Lib.hid (BE10.out.trans (hb.mono BE10.out.size))
    clear hb
    go_wp2_with fail
    refine (HI6.out _).mono ?_
    rintro e w12 ⟨rfl, hb⟩
    have R27 := Lib.hid (R23.out.keep hb)
    have R28 := Lib.hid (R24.out.keep hb)
    have R29 := Lib.hid (R25.out.keep hb)
    have R30 := Lib.hid (R26.out.keep hb)
    have BE12 := Lib.hid (BE11.out.trans (hb.mono BE11.out.size))
    clear hb
    go_wp2_with fail
    refine (HT6.out _).mono ?_
    rintro e w13 ⟨rfl, hb⟩
    have R31 := Lib.hid (R27.out.keep hb)
    have R32 := Lib.hid (R28.out.keep hb)
    have R33 := Lib.hid (R29.out.keep hb)
    have R34 := Lib.hid (R30.out.keep hb)
    have BE13 := Lib.hid (BE12.out.trans (hb.mono BE12.out.size))
    clear hb
    go_wp2_with fail
    refine (rSame_any _ _ [] _ R31.out.sl R32.out.sl (by simp)).mono ?_
    rintro e w14 ⟨rfl, hb⟩
    have R35 := Lib.hid (R31.out.keep hb)
    have R36 := Lib.hid (R32.out.keep hb)
    have R37 := Lib.hid (R33.out.keep hb)
    have R38 := Lib.hid (R34.out.keep hb)
    have BE14 := Lib.hid (BE13.out.trans (hb.mono BE13.out.size))
    clear hb
    go_wp2_with fail
    refine (rSame_any _ _ [] _ R37.out.sl R38.out.sl (by simp)).mono ?_
    rintro e w15 ⟨rfl, hb⟩
    have R39 := Lib.hid (R35.out.keep hb)
    have R40 := Lib.hid (R36.out.keep hb)
    have R41 := Lib.hid (R37.out.keep hb)
    have R42 := Lib.hid (R38.out.keep hb)
    have BE15 := Lib.hid (BE14.out.trans (hb.mono BE14.out.size))
    clear hb
    as_aux_lemma =>
      go_wp2_with fail
      refine (draw_NumberOf _ xs1 _ (HS1.out.keep BE15.out) HL1.out).mono ?_
      rintro e y1 ⟨us, ds, z, rfl, hr, hdl, hb⟩
      have BE16 := Lib.hid (BE15.out.trans (hb.mono BE15.out.size))
      have RS := Lib.hid hr
      have HDL := Lib.hid hdl
      clear hr hb hdl
      have HNI := Lib.hid (fun (w : World) B (h : Rd w B us ds) => impl_NumberOf us ds z B w h (by have := HDL.out; omega))
      have HNS := Lib.hid (fun (w : World) B (h : Rd w B us ds) => spec_NumberOf us ds z B w h (by have := HDL.out; omega))
      have HAI := Lib.hid (fun (w : World) B (h : Rd w B us ds) => impl_AreDigits us ds z B w h (by have := HDL.out; omega))
      have HAS := Lib.hid (fun (w : World) B (h : Rd w B us ds) => spec_AreDigits us ds z B w h (by have := HDL.out; omega))
      have HNA := Lib.hid (fun m (h : RNumberOf z ds = some m) => num_are h)
      obtain ⟨rn, hrn⟩ : ∃ rn, rn = RNumberOf z ds := ⟨_, rfl⟩
      obtain ⟨ra, hra⟩ : ∃ ra, ra = RAreDigits z ds := ⟨_, rfl⟩
      obtain ⟨ro, hro⟩ : ∃ ro, ro = okArg z ds := ⟨_, rfl⟩
      rw [← hrn] at HNI HNS HNA
      rw [← hra, ← hro] at HAI HAS HNA
      clear hrn hra hro
      cases rn with
      | none =>
        simp only [optRes] at HNI HNS
        go_wp2_with fail
        refine (HNI.out _ _ RS.out).mono ?_
        rintro e w16x42 ⟨rfl, rfl⟩
        go_wp2_with fail
        refine (HNS.out _ _ RS.out).mono ?_
        rintro e w16x43 ⟨rfl, rfl⟩
        go_wp2_with fail
        refine (HAI.out _ _ RS.out).mono ?_
        rintro e w16x44 ⟨rfl, rfl⟩
        go_wp2_with fail
        refine (HAS.out _ _ RS.out).mono ?_
        rintro e w16x45 ⟨rfl, rfl⟩
        go_wp2_with fail
        refine (draw_ParseNumber _ xs1 _ (HS1.out.keep BE16.out) HL1.out).mono ?_
        rintro e y2 ⟨S, z2, rfl, hSl, hb⟩
        have BE17 := Lib.hid (BE16.out.trans (hb.mono BE16.out.size))
        clear hb
        have HPI := Lib.hid (fun w => impl_ParseNumber ⟨S.toArray⟩ z2 w (by rw [ba_szA]; omega))
        have HPS := Lib.hid (fun w => spec_ParseNumber ⟨S.toArray⟩ z2 w (by rw [ba_szA]; omega))
        have eS : (⟨S.toArray⟩ : ByteArray).data.toList = S := by simp
        rw [eS] at HPI HPS
        have HRB := Lib.hid (fun m (h : RParse z2 S = some m) => read_back h)
        obtain ⟨rp, hrp⟩ : ∃ rp, rp = RParse z2 S := ⟨_, rfl⟩
        rw [← hrp] at HPI HPS HRB
        clear hrp eS
        cases rp with
        | none =>
          simp only [optRes] at HPI HPS
          go_wp2_with fail
          refine (HPI.out _).mono ?_
          rintro e w18 ⟨rfl, hb⟩
          have BE18 := Lib.hid (BE17.out.trans (hb.mono BE17.out.size))
          clear hb
          go_wp2_with fail
          refine (HPS.out _).mono ?_
          rintro e w19 ⟨rfl, hb⟩
          have BE19 := Lib.hid (BE18.out.trans (hb.mono BE18.out.size))
          clear hb
          go_wp2
          go_ret
          exact ⟨rfl, BE19.out⟩
        | some r =>
          simp only [optRes] at HPI HPS
          go_wp2_with fail
          refine (HPI.out _).mono ?_
          rintro e w18 ⟨rfl, hb⟩
          have BE18 := Lib.hid (BE17.out.trans (hb.mono BE17.out.size))
          clear hb
          go_wp2_with fail
          refine (HPS.out _).mono ?_
          rintro e w19 ⟨rfl, hb⟩
          have BE19 := Lib.hid (BE18.out.trans (hb.mono BE18.out.size))
          clear hb
          obtain ⟨hr1, hr2, hr3⟩ := HRB.out r rfl
          have HTX := Lib.hid (fun w => impl_NumberText r z2 w)
          have et : RText r z2 = S := by unfold RText; rw [if_pos ⟨hr1, hr2⟩]; exact hr3
          rw [et, okq_yes ⟨hr1, hr2⟩] at HTX
          clear et hr1 hr2 hr3
          go_wp2_with fail
          refine (HTX.out _).mono ?_
          rintro e w20 ⟨rfl, hb⟩
          have BE20 := Lib.hid (BE19.out.trans (hb.mono BE19.out.size))
          clear hb
          go_wp2
          go_ret
          exact ⟨rfl, BE20.out⟩
      | some m =>
        obtain ⟨hm1, hm2⟩ := HNA.out m rfl
        subst hm1 hm2
        simp only [optRes] at HNI HNS
        go_wp2_with fail
        refine (HNI.out _ _ RS.out).mono ?_
        rintro e w16x42 ⟨rfl, rfl⟩
        go_wp2_with fail
        refine (HNS.out _ _ RS.out).mono ?_
        rintro e w16x43 ⟨rfl, rfl⟩
        go_wp2_with fail
        refine (HAI.out _ _ RS.out).mono ?_
        rintro e w16x44 ⟨rfl, rfl⟩
        go_wp2_with fail
        refine (HAS.out _ _ RS.out).mono ?_
        rintro e w16x45 ⟨rfl, rfl⟩
        go_wp2_with fail
        refine (draw_ParseNumber _ xs1 _ (HS1.out.keep BE16.out) HL1.out).mono ?_
        rintro e y2 ⟨S, z2, rfl, hSl, hb⟩
        have BE17 := Lib.hid (BE16.out.trans (hb.mono BE16.out.size))
        clear hb
        have HPI := Lib.hid (fun w => impl_ParseNumber ⟨S.toArray⟩ z2 w (by rw [ba_szA]; omega))
        have HPS := Lib.hid (fun w => spec_ParseNumber ⟨S.toArray⟩ z2 w (by rw [ba_szA]; omega))
        have eS : (⟨S.toArray⟩ : ByteArray).data.toList = S := by simp
        rw [eS] at HPI HPS
        have HRB := Lib.hid (fun m (h : RParse z2 S = some m) => read_back h)
        obtain ⟨rp, hrp⟩ : ∃ rp, rp = RParse z2 S := ⟨_, rfl⟩
        rw [← hrp] at HPI HPS HRB
        clear hrp eS
        cases rp with
        | none =>
          simp only [optRes] at HPI HPS
          go_wp2_with fail
          refine (HPI.out _).mono ?_
          rintro e w18 ⟨rfl, hb⟩
          have BE18 := Lib.hid (BE17.out.trans (hb.mono BE17.out.size))
          clear hb
          go_wp2_with fail
          refine (HPS.out _).mono ?_
          rintro e w19 ⟨rfl, hb⟩
          have BE19 := Lib.hid (BE18.out.trans (hb.mono BE18.out.size))
          clear hb
          go_wp2
          go_ret
          exact ⟨rfl, BE19.out⟩
        | some r =>
          simp only [optRes] at HPI HPS
          go_wp2_with fail
          refine (HPI.out _).mono ?_
          rintro e w18 ⟨rfl, hb⟩
          have BE18 := Lib.hid (BE17.out.trans (hb.mono BE17.out.size))
          clear hb
          go_wp2_with fail
          refine (HPS.out _).mono ?_
          rintro e w19 ⟨rfl, hb⟩
          have BE19 := Lib.hid (BE18.out.trans (hb.mono BE18.out.size))
          clear hb
          obtain ⟨hr1, hr2, hr3⟩ := HRB.out r rfl
          have HTX := Lib.hid (fun w => impl_NumberText r z2 w)
          have et : RText r z2 = S := by unfold RText; rw [if_pos ⟨hr1, hr2⟩]; exact hr3
          rw [et, okq_yes ⟨hr1, hr2⟩] at HTX
          clear et hr1 hr2 hr3
          go_wp2_with fail
          refine (HTX.out _).mono ?_
          rintro e w20 ⟨rfl, hb⟩
          have BE20 := Lib.hid (BE19.out.trans (hb.mono BE19.out.size))
          clear hb
          go_wp2
          go_ret
          exact ⟨rfl, BE20.out⟩

end Go.Proofs.Ytdlohdjejmpmcaa
