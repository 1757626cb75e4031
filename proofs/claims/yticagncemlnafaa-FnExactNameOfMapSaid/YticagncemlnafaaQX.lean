/-
  Answers of WhenSteady.
-/
import Derived.Test.YticagncemlnafaaQW
namespace Go.Proofs.Yticagncemlnafaa
open Go.RowKit
set_option linter.unusedVariables false
set_option linter.unusedSimpArgs false
set_option maxRecDepth 100000

def OK_WhenSteady (xs : List Int) : Bool := goodM xs
def VS_WhenSteady (xs : List Int) : Int := if goodM xs = true then ((mxD (fnO xs) xs.length xs.length : Nat) : Int) else 0
def VL_WhenSteady (xs : List Int) : Int := if goodM xs = true then ((lcT (cycs (fnO xs) xs.length) : Nat) : Int) else 0
abbrev R_WhenSteady (xs : List Int) : Value := .tuple #[.int .i64 (VS_WhenSteady xs), .int .i64 (VL_WhenSteady xs), .bool (OK_WhenSteady xs)]
theorem cycs_lens {f : Nat → Nat} {n : Nat} (h : Into f n) (h1 : n ≤ 60) : ∀ l ∈ cycs f n, 1 ≤ l.length ∧ l.length ≤ 60 := fun l hl => by
  obtain ⟨i, hi⟩ := List.getElem?_of_mem hl
  obtain ⟨x, _, rfl, lx, _⟩ := cycs_get hi
  obtain ⟨p1, p2, _⟩ := per_spec h ((lead_iff h).1 lx).1
  rw [rnd_len]; omega
theorem lcT_take {f : Nat → Nat} {n : Nat} (h : Into f n) (h1 : n ≤ 60) (j : Nat) : 1 ≤ lcT ((cycs f n).take j) ∧ lcT ((cycs f n).take j) ≤ 3486784401 := by
  have hc := cycs_lens h h1
  refine ⟨lcT_pos _ 1 (Nat.le_refl _) (fun l hl => (hc l (List.mem_of_mem_take hl)).1), lcT_le (fun l hl => (hc l (List.mem_of_mem_take hl)).2) ?_⟩
  have hs := flat_len h
  have : (((cycs f n).take j).map List.length).sum ≤ ((cycs f n).map List.length).sum := by
    conv => rhs; rw [← List.take_append_drop j (cycs f n)]
    rw [List.map_append, List.sum_append]
    omega
  omega
theorem lcT_next {f : Nat → Nat} {n j : Nat} {l : List Nat} (hl : (cycs f n)[j]? = some l) : lcT ((cycs f n).take (j + 1)) = lcT ((cycs f n).take j) / Nat.gcd (lcT ((cycs f n).take j)) l.length * l.length := by
  obtain ⟨i1, i2⟩ := List.getElem?_eq_some_iff.1 hl
  rw [List.take_add_one, List.getElem?_eq_getElem i1, i2]
  exact lcT_snoc _ l

theorem wrap64_small {t : Nat} (h : t ≤ 3486784401) : wrap64 (t : Int) = (t : Int) := by unfold wrap64; omega
theorem belowDrewN {B : Nat} {a w : World} (h : Below B a w) (n : Nat) : Below B a (w.drewN n) := ⟨h.os, h.tape, h.output, h.size, h.block⟩
theorem big_div {p : Nat} (h : 1 ≤ p) (h2 : p ≤ 60) : (3486784401 : Int) ≤ (1000000000000000 : Int) / (p : Int) := by
  rw [Int.le_ediv_iff_mul_le (by omega)]
  omega

theorem impl_WhenSteady (v : Value) (xs : List Int) (B : Nat) (w : World) (h : Rd w B v xs) (hl : xs.length ≤ 1048576) :
    Calls Try.prog 49 #[v] w fun e w' => e = .returned (R_WhenSteady xs) ∧ Below w.heap.size w w' := by
  have H1 := Lib.hid h
  have HX := Lib.hid hl
  cases q1 : goodM xs
  · have HO := Lib.hid (show OK_WhenSteady xs = false from q1)
    have HL := Lib.hid (show VS_WhenSteady xs = 0 by unfold VS_WhenSteady; rw [q1]; rfl)
    have HM2 := Lib.hid (show VL_WhenSteady xs = 0 by unfold VL_WhenSteady; rw [q1]; rfl)
    clear h hl
    go_enter Try.func49, Try.ntmps49
    go_wp2_with (go_at_call 21; refine (IsMap_any _ xs _ _ H1.out (by have := HX.out; omega)).mono ?_; rw [q1]; rintro e w1 ⟨rfl, rfl⟩)
    go_ret3
    exact ⟨by unfold R_WhenSteady; rw [HO.out, HL.out, HM2.out]; rfl, Below.refl _ _⟩
  · obtain ⟨g, n, cap, f, rfl, hm, hn, hf, hxs, _⟩ := h.good q1
    have HM := Lib.hid hm
    have n0 := hm.n0
    have n1 := hm.n1
    have HO := Lib.hid (show OK_WhenSteady xs = true from q1)
    have HL := Lib.hid (show VS_WhenSteady xs = ((mxD f n n : Nat) : Int) by unfold VS_WhenSteady; rw [if_pos q1, ← hf, ← hn])
    have HL2 := Lib.hid (show VL_WhenSteady xs = ((lcT (cycs f n) : Nat) : Int) by unfold VL_WhenSteady; rw [if_pos q1, ← hf, ← hn])
    have HLC := Lib.hid (fun j => lcT_take hm.into n1 j)
    have HCN := Lib.hid (fun (j : Nat) (l : List Nat) (hj : (cycs f n)[j]? = some l) => cycs_lens hm.into n1 l (List.mem_of_getElem? hj))
    clear h hm hn hf hxs hl
    go_enter Try.func49, Try.ntmps49
    go_wp2_with (first | (go_at_call 21; refine (IsMap_any _ xs _ _ H1.out (by have := HX.out; omega)).mono ?_; rw [q1]; rintro e w1 ⟨rfl, rfl⟩) | (go_at_call 68; refine (cycles_any g n cap f _ HM.out).mono ?_))
    rintro e w1 ⟨v, vs, rfl, hv, hb⟩
    obtain ⟨gv, cv, rfl⟩ := hv.outer (cycs_ne HM.out.into n0)
    have HV := Lib.hid hv
    have HB1 := Lib.hid hb
    have HCL := Lib.hid (cycsTo_len f n n)
    obtain ⟨m, hmm⟩ : ∃ m, m = (cycs f n).length := ⟨_, rfl⟩
    have HMM := Lib.hid hmm
    rw [← hmm]
    have hm60 : m ≤ 60 := by have := HCL.out; unfold cycs at hmm; omega
    clear hv hb hmm
    go_wp2
    go_loopw [5, 14] (fun s i wr => ∃ j : Nat, j ≤ m ∧ i = .int .i64 j ∧ s = .int .i64 ((lcT ((cycs f n).take j) : Nat) : Int) ∧ Below w1.heap.size w1 wr) (fun _ i _ => m - (intOf i).toNat)
    case atStart => exact ⟨0, Nat.zero_le _, rfl, rfl, Below.refl _ _⟩
    case round =>
      obtain ⟨j, hj, rfl, rfl, hb⟩ := hrel
      have HB := Lib.hid hb
      clear hb
      obtain ⟨c, hc⟩ : ∃ c, c = lcT ((cycs f n).take j) := ⟨_, rfl⟩
      have HC := Lib.hid hc
      obtain ⟨d1, d2⟩ := HLC.out j
      rw [← hc] at d1 d2 ⊢
      clear hc
      by_cases hlt : j < m
      · obtain ⟨l, hl⟩ : ∃ l, (cycs f n)[j]? = some l := ⟨(cycs f n)[j]'(by have := HMM.out; omega), by simp⟩
        obtain ⟨p1, p2⟩ := HCN.out j l hl
        obtain ⟨gu, cu, hvj, _⟩ := HV.out.shape hl (fun e => by rw [e] at p1; simp at p1)
        have hcell : wr.cell? ⟨gv, j, none⟩ = some (.slice (some ⟨gu, 0, none⟩) l.length cu) := by
          obtain ⟨i1, i2⟩ := List.getElem?_eq_some_iff.1 hvj
          obtain ⟨_, _, _, _, _, hc, _⟩ := (HV.out.keep HB.out).row.at
          rw [hc j i1, i2]
        have HNX := Lib.hid (lcT_next hl)
        rw [← HC.out] at HNX
        obtain ⟨p, hp⟩ : ∃ p, p = l.length := ⟨_, rfl⟩
        rw [← hp] at hcell p1 p2 HNX
        clear hl hvj hp
        go_wp2_with (go_at_call 82; refine (lcm_any c p _ d1 d2 p1 p2).mono ?_; rw [← HNX.out]; rintro e w2 ⟨rfl, hb⟩; have HB2 := Lib.hid (Below.step HB.out HB.out.size hb); clear hb)
        go_roundw
        case rel => exact ⟨j + 1, by omega, by go_num, rfl, HB2.out⟩
        case measure => simp [intOf]; omega
      · obtain rfl : j = m := by omega
        have HBw := Lib.hid (Below.step HB1.out HB1.out.size HB.out)
        have HE := Lib.hid (show c = lcT (cycs f n) by rw [HC.out, HMM.out, List.take_of_length_le (Nat.le_refl _)])
        have HMX := Lib.hid (maxOf_dep f n (n - 1) (by omega))
        rw [show n - 1 + 1 = n by omega] at HMX
        have HLL := Lib.hid (lst_len n (dep f n))
        go_wp2_with fail
        refine (depths_any g n cap f _ (HM.out.keep HBw.out)).mono ?_
        rintro e w3 ⟨g3, c3, rfl, hr, hb⟩
        have HB3 := Lib.hid (Below.step HBw.out HBw.out.size hb)
        have HCS := Lib.hid (show ∀ i, i < (lst n (dep f n)).length → w3.cell? ⟨g3, 0 + i, none⟩ = some (.int .i64 ((lst n (dep f n)).getD i 0)) from fun i hi => by
          rw [Nat.zero_add, hr.at.2.2.2.2.1 i hi, List.getD_eq_getElem?_getD, List.getElem?_eq_getElem hi]; rfl)
        clear hr hb
        go_wp2_with (go_at_call 83; refine (Try.slices_Max_int g3 0 n c3 (lst n (dep f n)) _ (by omega) (by rw [HLL.out]; omega) (by omega) HCS.out).mono ?_; rw [HMX.out]; rintro e w4 ⟨rfl, rfl⟩)
        go_ret3
        exact ⟨by unfold R_WhenSteady; rw [HO.out, HL.out, HL2.out, ← HE.out]; rfl, HB3.out⟩

theorem spec_WhenSteady (v : Value) (xs : List Int) (B : Nat) (w : World) (h : Rd w B v xs) (hl : xs.length ≤ 1048576) :
    Calls Try.prog 48 #[v] w fun e w' => e = .returned (R_WhenSteady xs) ∧ Below w.heap.size w w' := by
  have H1 := Lib.hid h
  have HX := Lib.hid hl
  cases q1 : goodM xs
  · have HO := Lib.hid (show OK_WhenSteady xs = false from q1)
    have HL := Lib.hid (show VS_WhenSteady xs = 0 by unfold VS_WhenSteady; rw [q1]; rfl)
    have HM2 := Lib.hid (show VL_WhenSteady xs = 0 by unfold VL_WhenSteady; rw [q1]; rfl)
    clear h hl
    go_enter Try.func48, Try.ntmps48
    go_wp2_with (go_at_call 58; refine (mpGood_any _ xs _ _ H1.out (by have := HX.out; omega)).mono ?_; rw [q1]; rintro e w1 ⟨rfl, rfl⟩)
    go_ret3
    exact ⟨by unfold R_WhenSteady; rw [HO.out, HL.out, HM2.out]; rfl, Below.refl _ _⟩
  · obtain ⟨g, n, cap, f, rfl, hm, hn, hf, hxs, _⟩ := h.good q1
    have HM := Lib.hid hm
    have n0 := hm.n0
    have n1 := hm.n1
    have HO := Lib.hid (show OK_WhenSteady xs = true from q1)
    have HL := Lib.hid (show VS_WhenSteady xs = ((mxD f n n : Nat) : Int) by unfold VS_WhenSteady; rw [if_pos q1, ← hf, ← hn])
    have HL2 := Lib.hid (show VL_WhenSteady xs = ((lcT (cycs f n) : Nat) : Int) by unfold VL_WhenSteady; rw [if_pos q1, ← hf, ← hn])
    have HLC := Lib.hid (fun j => lcT_take hm.into n1 j)
    have HCN := Lib.hid (fun (j : Nat) (l : List Nat) (hj : (cycs f n)[j]? = some l) => cycs_lens hm.into n1 l (List.mem_of_getElem? hj))
    clear h hm hn hf hxs hl
    go_enter Try.func48, Try.ntmps48
    go_wp2_with (first | (go_at_call 58; refine (mpGood_any _ xs _ _ H1.out (by have := HX.out; omega)).mono ?_; rw [q1]; rintro e w1 ⟨rfl, rfl⟩) | (go_at_call 71; refine (mpCycles_any g n cap f _ HM.out).mono ?_))
    rintro e w1 ⟨v, vs, rfl, hv, hb⟩
    obtain ⟨gv, cv, rfl⟩ := hv.outer (cycs_ne HM.out.into n0)
    have HV := Lib.hid hv
    have HB1 := Lib.hid hb
    have HCL := Lib.hid (cycsTo_len f n n)
    obtain ⟨m, hmm⟩ : ∃ m, m = (cycs f n).length := ⟨_, rfl⟩
    have HMM := Lib.hid hmm
    rw [← hmm]
    have hm60 : m ≤ 60 := by have := HCL.out; unfold cycs at hmm; omega
    clear hv hb hmm
    go_wp2
    go_loopw [5, 15] (fun s i wr => ∃ j : Nat, j ≤ m ∧ i = .int .i64 j ∧ s = .int .i64 ((lcT ((cycs f n).take j) : Nat) : Int) ∧ Below w1.heap.size w1 wr) (fun _ i _ => m - (intOf i).toNat)
    case atStart => exact ⟨0, Nat.zero_le _, rfl, rfl, Below.refl _ _⟩
    case round =>
      obtain ⟨j, hj, rfl, rfl, hb⟩ := hrel
      have HB := Lib.hid hb
      clear hb
      obtain ⟨c, hc⟩ : ∃ c, c = lcT ((cycs f n).take j) := ⟨_, rfl⟩
      have HC := Lib.hid hc
      obtain ⟨d1, d2⟩ := HLC.out j
      rw [← hc] at d1 d2 ⊢
      clear hc
      by_cases hlt : j < m
      · obtain ⟨l, hl⟩ : ∃ l, (cycs f n)[j]? = some l := ⟨(cycs f n)[j]'(by have := HMM.out; omega), by simp⟩
        obtain ⟨p1, p2⟩ := HCN.out j l hl
        obtain ⟨gu, cu, hvj, _⟩ := HV.out.shape hl (fun e => by rw [e] at p1; simp at p1)
        have hcell : wr.cell? ⟨gv, j, none⟩ = some (.slice (some ⟨gu, 0, none⟩) l.length cu) := by
          obtain ⟨i1, i2⟩ := List.getElem?_eq_some_iff.1 hvj
          obtain ⟨_, _, _, _, _, hc, _⟩ := (HV.out.keep HB.out).row.at
          rw [hc j i1, i2]
        have HNX := Lib.hid (lcT_next hl)
        rw [← HC.out] at HNX
        obtain ⟨p, hp⟩ : ∃ p, p = l.length := ⟨_, rfl⟩
        rw [← hp] at hcell p1 p2 HNX
        clear hl hvj hp
        have hg := Nat.gcd_pos_of_pos_left p (show 0 < c by omega)
        obtain ⟨q, hq⟩ : ∃ q, q = Nat.gcd c p := ⟨_, rfl⟩
        have HQ := Lib.hid hq
        rw [← hq] at hg HNX
        have hz : ((q : Int) == 0) = false := beq_no (by omega)
        have hz2 : ((p : Int) == 0) = false := beq_no (by omega)
        have hle : c / q ≤ 3486784401 := Nat.le_trans (Nat.div_le_self _ _) d2
        obtain ⟨t, ht⟩ : ∃ t, t = c / q := ⟨_, rfl⟩
        have hci : (c : Int) / (q : Int) = (t : Int) := by rw [ht]; exact (Int.natCast_ediv c q).symm
        have HCI := Lib.hid hci
        rw [← ht] at hle HNX
        obtain ⟨s, hs⟩ : ∃ s, s = t * p := ⟨_, rfl⟩
        have hm : s ≤ 209207064060 := by rw [hs]; exact Nat.le_trans (Nat.mul_le_mul hle p2) (by omega)
        have hts : (t : Int) * (p : Int) = (s : Int) := by rw [hs]; push_cast; rfl
        rw [← hs] at HNX
        have HDV := Lib.hid (big_div p1 p2)
        obtain ⟨z, hcz⟩ : ∃ z : Nat, (1000000000000000 : Int) / (p : Int) = (z : Int) := ⟨((1000000000000000 : Int) / (p : Int)).toNat, by have := HDV.out; omega⟩
        have hzt : (t : Int) ≤ (z : Int) := by have := HDV.out; omega
        have hz6 : z ≤ 1000000000000000 := by have := Int.ediv_le_self (p : Int) (show (0 : Int) ≤ 1000000000000000 by omega); omega
        have HGQ := Lib.hid (show ∀ w' : World, Calls Try.prog 80 #[.int .i64 (c : Int), .int .i64 (p : Int)] w' fun e w'' => e = .returned (.int .i64 (q : Int)) ∧ w'' = w' from fun w' => (mpGcd_any p p c w' (Nat.le_refl _) (by omega) (by omega)).mono (fun e w'' h => ⟨by rw [h.1, ← HQ.out], h.2.symm⟩))
        clear hs
        clear hq ht
        go_wp2
        go_region_with (go_at_call 80; refine (HGQ.out _).mono ?_; rintro e w2 ⟨rfl, rfl⟩)
        all_goals
          go_wp2_with (go_at_call 80; refine (HGQ.out _).mono ?_; rintro e w2 ⟨rfl, rfl⟩)
          go_roundw
          case rel => exact ⟨j + 1, by omega, by go_num, by rw [HNX.out], HB.out.drew⟩
          case measure => simp [intOf]; omega
      · obtain rfl : j = m := by omega
        have HE := Lib.hid (show c = lcT (cycs f n) by rw [HC.out, HMM.out, List.take_of_length_le (Nat.le_refl _)])
        go_wp2_with (go_at_call 81; refine (mpDeepest_any g n cap f _ (HM.out.keep (Below.step HB1.out HB1.out.size HB.out))).mono ?_; rintro e w2 ⟨rfl, hb⟩; have HB2 := Lib.hid (Below.step (Below.step HB1.out HB1.out.size HB.out) (Nat.le_trans HB1.out.size HB.out.size) hb); clear hb)
        go_ret3
        exact ⟨by unfold R_WhenSteady; rw [HO.out, HL.out, HL2.out, ← HE.out]; rfl, HB2.out⟩

end Go.Proofs.Yticagncemlnafaa
