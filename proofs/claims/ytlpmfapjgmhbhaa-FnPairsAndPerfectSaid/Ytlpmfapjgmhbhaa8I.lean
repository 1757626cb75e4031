/-
  Proper runs: the model's; answers of ProperRun, EndOfRun, PartnerOf.
-/
import Derived.Test.Ytlpmfapjgmhbhaa8H
namespace Go.Proofs.Ytlpmfapjgmhbhaa
open Go.RowKit
set_option linter.unusedVariables false
set_option linter.unusedSimpArgs false
set_option maxRecDepth 100000

theorem dvAt_any (v : Value) (xs : List Int) (x : Int) (B : Nat) (w : World) (h : Rd w B v xs) (hl : xs.length ≤ 2000000) :
    Calls Try.prog 79 #[v, .int .i64 x] w fun e w' => e = .returned (.int .i64 (if x ∈ xs then (plc x xs : Int) else -1)) ∧ w = w' := by
  rcases h.cases with ⟨rfl, rfl⟩ | ⟨g, cap, rfl, _, _, _, _, hc, _⟩
  · go_enter Try.func79, Try.ntmps79
    go_wp2
    refine wp_loop_rounds 1 ?_
    rw [rounds_succ]
    go_wp2
    go_ret
    exact ⟨rfl, rfl⟩
  · have hc' := Lib.hid hc
    obtain ⟨r, hr⟩ : ∃ r : Int, r = (if x ∈ xs then (plc x xs : Int) else -1) := ⟨_, rfl⟩
    have HR := Lib.hid hr
    rw [← hr]
    clear hc h hr
    go_enter Try.func79, Try.ntmps79
    go_wp2
    go_loop [9] (fun i => ∃ k : Nat, k ≤ xs.length ∧ i = .int .i64 k ∧ Hid (∀ j, j < k → xs.getD j 0 ≠ x)) (fun i => xs.length - (intOf i).toNat)
    case atStart => exact ⟨0, Nat.zero_le _, rfl, Lib.hid (fun j hj => absurd hj (Nat.not_lt_zero _))⟩
    case round =>
      obtain ⟨k, hk, rfl, HP⟩ := hrel
      by_cases hlt : k < xs.length
      · have hcell := hc'.out k hlt
        have hg : xs.getD k 0 = xs[k] := by simp [hlt]
        by_cases he : xs[k] = x
        · have hbq : (xs[k] == x) = true := beq_yes he
          have HD := Lib.hid (show (k : Int) = r by
            have hm : x ∈ xs := he ▸ List.getElem_mem hlt
            obtain ⟨s1, s2, s3⟩ := ixN_spec xs hm
            have hkk : k = plc x xs := by
              unfold plc
              by_cases h1 : k < ixN xs x
              · exact absurd (by rw [hg]; exact he) (s3 k h1)
              · by_cases h2 : ixN xs x < k
                · exact absurd s2 (HP.out _ h2)
                · omega
            rw [HR.out, if_pos hm, ← hkk])
          clear he hg
          go_wp2
          go_ret
          exact ⟨ret_int HD.out, rfl⟩
        · have hbq : (xs[k] == x) = false := beq_no he
          have HN := Lib.hid (show ∀ j, j < k + 1 → xs.getD j 0 ≠ x from fun j hj => by
            by_cases e : j = k
            · subst e; rw [hg]; exact he
            · exact HP.out j (by omega))
          clear he hg
          go_wp2
          go_round
          case rel => exact ⟨k + 1, by omega, by go_num, Lib.hid HN.out⟩
          case measure => simp [intOf]; omega
      · obtain rfl : k = xs.length := by omega
        have HD := Lib.hid (show (-1 : Int) = r by
          rw [HR.out, if_neg (fun hm => by
            obtain ⟨s1, s2, s3⟩ := ixN_spec xs hm
            exact HP.out _ s1 s2)])
        go_wp2
        go_ret
        exact ⟨ret_int HD.out, rfl⟩

theorem dvRun_any (n m : Int) (w : World) (hn : Dv n) (hm : Tm m) :
    Calls Try.prog 52 #[.int .i64 n, .int .i64 m] w fun e w' => ∃ v, e = .returned (.tuple #[v, .int .i64 (runR n m.toNat).2]) ∧ Rd w' w.heap.size v (runR n m.toNat).1 ∧ Below w.heap.size w w' := by
  obtain ⟨M, hM⟩ : ∃ M, M = m.toNat := ⟨_, rfl⟩
  obtain ⟨m0, m1⟩ := hm
  have HMm := Lib.hid (show m = (M : Int) by omega)
  rw [← hM]
  obtain ⟨R, hR⟩ : ∃ R, R = runR n M := ⟨_, rfl⟩
  have HR0 := Lib.hid (show goR M [n] (prop n) = R by rw [hR]; exact (runR_first hn (by omega)).symm)
  have pb := prop_bd (n := n) (by have := hn.1; omega) hn.2
  have HP0 := Lib.hid (fun w' => dvProper_any n w' hn)
  rw [← hR]
  rw [HMm.out] at m0 m1 ⊢
  obtain ⟨z, hz⟩ : ∃ z, z = prop n := ⟨_, rfl⟩
  rw [← hz] at HR0 pb HP0
  obtain ⟨z0, z1, _, _⟩ := pb
  clear hR hM hn hz
  go_enter Try.func52, Try.ntmps52
  go_wp2_with (go_at_call 69; refine (HP0.out _).mono ?_; rintro e w1 ⟨rfl, hb⟩; have HR1 := Lib.hid ((Rd.litB w w.heap.size n (Nat.le_refl _)).keep hb); have HB1 := Lib.hid (Below.step (alloc_below w (.cells #[.int .i64 n] 3)) (alloc_below w (.cells #[.int .i64 n] 3)).size hb); clear hb)
  go_loopw [6, 7] (fun o i wr => ∃ (x : Int) (l : List Int), i = .int .i64 x ∧ 0 ≤ x ∧ x ≤ 1000000000000000000 ∧ lenOf o = l.length ∧ l.length ≤ M ∧ Rd wr w.heap.size o l ∧ Hid (goR M l x = R) ∧ Below w.heap.size w wr) (fun o _ _ => M - lenOf o)
  case atStart => exact ⟨z, [n], rfl, z0, z1, rfl, by simp; omega, HR1.out, Lib.hid HR0.out, HB1.out⟩
  case round =>
    obtain ⟨x, l, rfl, x0, x1, hlo, hlM, hr, HE, hbl⟩ := hrel
    have HR := Lib.hid hr
    have HB := Lib.hid hbl
    clear hr hbl
    obtain ⟨a6, c6, rfl⟩ := HR.out.sl.len
    obtain ⟨K, hK⟩ : ∃ K, K = l.length := ⟨_, rfl⟩
    rw [← hK] at hlo hlM HR ⊢
    have HK := Lib.hid hK
    have HHas := Lib.hid (fun w' (h : Rd w' w.heap.size (.slice a6 K c6) l) => l1Has_any (.slice a6 K c6) l x _ w' h (by omega))
    clear hlo hK
    by_cases hlt : K < M
    · by_cases hd : Dv x
      · have d1 : decide (Dv x) = true := decide_eq_true hd
        by_cases hin : x ∈ l
        · have d2 : decide (x ∈ l) = true := decide_eq_true hin
          have HE2 := Lib.hid (show R = (l, x) by rw [← HE.out]; exact goR_in hin)
          obtain ⟨q, hq⟩ : ∃ q, q = decide (x ∈ l) := ⟨_, rfl⟩
          rw [← hq] at HHas d2
          clear hq hin hd
          go_wp2_with (first | (go_at_call 49; refine (dvNumber_any _ _).mono ?_; rintro e w3 ⟨rfl, rfl⟩) | (go_at_call 81; refine (HHas.out _ HR.out).mono ?_; rintro e w3 ⟨rfl, rfl⟩))
          go_ret2
          exact ⟨_, by rw [HE2.out]; rfl, by rw [HE2.out]; exact HR.out, HB.out⟩
        · have d2 : decide (x ∈ l) = false := decide_eq_false hin
          have HG := Lib.hid (show goR M (l ++ [x]) (prop x) = R by rw [← goR_step (by have := HK.out; omega) hd hin]; exact HE.out)
          have HPS := Lib.hid (fun w' => dvProper_any x w' hd)
          have pb := prop_bd (n := x) (by have := hd.1; omega) hd.2
          obtain ⟨y, hy⟩ : ∃ y, y = prop x := ⟨_, rfl⟩
          rw [← hy] at HPS HG pb
          obtain ⟨y0, y1, _, _⟩ := pb
          obtain ⟨q, hq⟩ : ∃ q, q = decide (x ∈ l) := ⟨_, rfl⟩
          rw [← hq] at HHas d2
          obtain ⟨l', hl'⟩ : ∃ l', l' = l ++ [x] := ⟨_, rfl⟩
          rw [← hl'] at HG
          have HL' := Lib.hid (show l'.length = K + 1 by rw [hl', HK.out]; simp)
          have HLL := Lib.hid hl'
          clear hq hin hd hy hl'
          go_wp2_with (first | (go_at_call 49; refine (dvNumber_any _ _).mono ?_; rintro e w3 ⟨rfl, rfl⟩) | (go_at_call 81; refine (HHas.out _ HR.out).mono ?_; rintro e w3 ⟨rfl, rfl⟩) | (at_builtin; refine wpList_appR rfl _ _ rfl w.heap.size w.heap.size _ _ l [x] rfl rfl (HR.out.alloc _) (Rd.litB _ _ _ HB.out.size) (by have := HK.out; simp; omega) (by have := HB.out.size; simp; omega) ?_; intro v1 w4 hr1 hg1 hb4; rw [← HLL.out] at hr1; have HR4 := Lib.hid hr1; have HB4 := Lib.hid ((HB.out.alloc HB.out.size _).trans hb4); clear hr1 hg1 hb4) | (go_at_call 69; refine (HPS.out _).mono ?_; rintro e w5 ⟨rfl, hb5⟩; have HR5 := Lib.hid (HR4.out.keep hb5); have HB5 := Lib.hid (Below.step HB4.out HB4.out.size hb5); clear hb5))
          go_roundw
          case rel => exact ⟨y, l', rfl, y0, y1, lenOf_rd HR5.out, by have := HL'.out; omega, HR5.out, Lib.hid HG.out, HB5.out⟩
          case measure => rw [lenOf_rd HR5.out, HL'.out]; simp [lenOf]; omega
      · have d1 : decide (Dv x) = false := decide_eq_false hd
        have HE2 := Lib.hid (show R = (l, x) by rw [← HE.out]; exact goR_out hd)
        clear hd
        go_wp2_with (go_at_call 49; refine (dvNumber_any _ _).mono ?_; rintro e w3 ⟨rfl, rfl⟩)
        go_ret2
        exact ⟨_, by rw [HE2.out]; rfl, by rw [HE2.out]; exact HR.out, HB.out⟩
    · obtain rfl : K = M := by omega
      have HE2 := Lib.hid (show R = (l, x) by rw [← HE.out]; exact goR_full (by have := HK.out; omega))
      go_wp2
      go_ret2
      exact ⟨_, by rw [HE2.out]; rfl, by rw [HE2.out]; exact HR.out, HB.out⟩

/-- Whose run may be asked for. -/
def okR (n m : Int) : Bool := decide (Dv n ∧ Tm m)
theorem okR_yes {n m : Int} (h : Dv n ∧ Tm m) : okR n m = true := decide_eq_true h
theorem okR_no {n m : Int} (h : ¬ (Dv n ∧ Tm m)) : okR n m = false := decide_eq_false h
def OK_ProperRun (n m : Int) : Bool := okR n m
def LF_ProperRun (n m : Int) : List Int := if Dv n ∧ Tm m then (runR n m.toNat).1 else []
theorem LF_ProperRun_len (n m : Int) : (LF_ProperRun n m).length ≤ 2000000 := by
  unfold LF_ProperRun
  split
  · rename_i h
    have := (runR_props h.1 (m := m.toNat) (by have := h.2.1; omega)).2.1
    have := h.2.2
    omega
  · simp

theorem impl_ProperRun (n m : Int) (w : World) :
    Calls Try.prog 10 #[.int .i64 n, .int .i64 m] w fun e w' => ∃ v, e = .returned (.tuple #[v, .bool (OK_ProperRun n m)]) ∧ Rd w' w.heap.size v (LF_ProperRun n m) ∧ Below w.heap.size w w' := by
  by_cases h : Dv n ∧ Tm m
  · have HO := Lib.hid (show OK_ProperRun n m = true from okR_yes h)
    have HL := Lib.hid (show LF_ProperRun n m = (runR n m.toNat).1 from if_pos h)
    have HF := Lib.hid (fun w' => findRun_any n m w' h.1 h.2)
    rw [HO.out, HL.out]
    obtain ⟨R, hR⟩ : ∃ R, R = runR n m.toNat := ⟨_, rfl⟩
    rw [← hR] at HF ⊢
    clear hR h
    go_enter Try.func10, Try.ntmps10
    go_wp2_with (go_at_call 48; refine (HF.out _).mono ?_; rintro e w1 ⟨g, cap, L, E, rfl, hL, hc, hr, hE, hb⟩; have HR := Lib.hid hr; have HB := Lib.hid hb; clear hr hb hE hL)
    go_ret2
    exact ⟨_, rfl, HR.out, HB.out⟩
  · have HO := Lib.hid (show OK_ProperRun n m = false from okR_no h)
    have HL := Lib.hid (show LF_ProperRun n m = [] from if_neg h)
    have HF := Lib.hid (fun w' => findRun_no n m w' h)
    rw [HO.out, HL.out]
    clear h
    go_enter Try.func10, Try.ntmps10
    go_wp2_with (go_at_call 48; refine (HF.out _).mono ?_; rintro e w1 ⟨rfl, rfl⟩)
    go_ret2
    exact ⟨_, rfl, Rd.nil _ _, Below.refl _ _⟩

theorem spec_ProperRun (n m : Int) (w : World) :
    Calls Try.prog 11 #[.int .i64 n, .int .i64 m] w fun e w' => ∃ v, e = .returned (.tuple #[v, .bool (OK_ProperRun n m)]) ∧ Rd w' w.heap.size v (LF_ProperRun n m) ∧ Below w.heap.size w w' := by
  by_cases hn : Dv n
  · have a1 : decide (Dv n) = true := decide_eq_true hn
    by_cases hm : Tm m
    · have a2 : decide (Tm m) = true := decide_eq_true hm
      have HO := Lib.hid (show OK_ProperRun n m = true from okR_yes ⟨hn, hm⟩)
      have HL := Lib.hid (show LF_ProperRun n m = (runR n m.toNat).1 from if_pos ⟨hn, hm⟩)
      have HF := Lib.hid (fun w' => dvRun_any n m w' hn hm)
      rw [HO.out, HL.out]
      obtain ⟨R, hR⟩ : ∃ R, R = runR n m.toNat := ⟨_, rfl⟩
      rw [← hR] at HF ⊢
      clear hR hn hm
      go_enter Try.func11, Try.ntmps11
      go_wp2_with (first | (go_at_call 49; refine (dvNumber_any _ _).mono ?_; rintro e w3 ⟨rfl, rfl⟩) | (go_at_call 50; refine (dvTerms_any _ _).mono ?_; rintro e w3 ⟨rfl, rfl⟩) | (go_at_call 52; refine (HF.out _).mono ?_; rintro e w1 ⟨v, rfl, hr, hb⟩; have HR := Lib.hid hr; have HB := Lib.hid hb; clear hr hb))
      go_ret2
      exact ⟨_, rfl, HR.out, HB.out⟩
    · have a2 : decide (Tm m) = false := decide_eq_false hm
      have HO := Lib.hid (show OK_ProperRun n m = false from okR_no (fun c => hm c.2))
      have HL := Lib.hid (show LF_ProperRun n m = [] from if_neg (fun c => hm c.2))
      rw [HO.out, HL.out]
      clear hn hm
      go_enter Try.func11, Try.ntmps11
      go_wp2_with (first | (go_at_call 49; refine (dvNumber_any _ _).mono ?_; rintro e w3 ⟨rfl, rfl⟩) | (go_at_call 50; refine (dvTerms_any _ _).mono ?_; rintro e w3 ⟨rfl, rfl⟩))
      go_ret2
      exact ⟨_, rfl, Rd.nil _ _, Below.refl _ _⟩
  · have a1 : decide (Dv n) = false := decide_eq_false hn
    have HO := Lib.hid (show OK_ProperRun n m = false from okR_no (fun c => hn c.1))
    have HL := Lib.hid (show LF_ProperRun n m = [] from if_neg (fun c => hn c.1))
    rw [HO.out, HL.out]
    clear hn
    go_enter Try.func11, Try.ntmps11
    go_wp2_with (go_at_call 49; refine (dvNumber_any _ _).mono ?_; rintro e w3 ⟨rfl, rfl⟩)
    go_ret2
    exact ⟨_, rfl, Rd.nil _ _, Below.refl _ _⟩

/-- What the model tells of a run's end: the numbers to which it comes back, where they lie. -/
def CrcV (w : World) (B : Nat) (u : Value) (r : List Int × Int) : Prop :=
  (crcOf r = [] ∧ u = .slice none 0 0) ∨ ∃ g k L cap, u = .slice (some ⟨g, k, none⟩) (L - k) (cap - k) ∧ k < L ∧ L ≤ cap ∧ L = r.1.length ∧ Rd w B (.slice (some ⟨g, 0, none⟩) L cap) r.1 ∧ crcOf r = r.1.drop k

theorem dvEnd_any (n m : Int) (w : World) (hn : Dv n) (hm : Tm m) :
    Calls Try.prog 51 #[.int .i64 n, .int .i64 m] w fun e w' => ∃ u, e = .returned (.tuple #[.int .i64 (endOf (runR n m.toNat)), u]) ∧ CrcV w' w.heap.size u (runR n m.toNat) ∧ Below w.heap.size w w' := by
  have HF := Lib.hid (fun w' => dvRun_any n m w' hn hm)
  have HB0 := Lib.hid (show 0 ≤ (runR n m.toNat).2 ∧ (runR n m.toNat).2 ≤ 1000000000000000000 from goR_nonneg m.toNat [] n (by have := hn.1; omega) (by have := hn.2; omega))
  have HLn := Lib.hid (show (runR n m.toNat).1.length ≤ 60 by have := (runR_props hn (m := m.toNat) (by have := hm.1; omega)).2.1; have := hm.2; omega)
  obtain ⟨R, hR⟩ : ∃ R, R = runR n m.toNat := ⟨_, rfl⟩
  rw [← hR] at HF HB0 HLn ⊢
  clear hR hn hm
  obtain ⟨l, x⟩ := R
  obtain ⟨x0, x1⟩ := HB0.out
  have hl60 := HLn.out
  dsimp only at x0 x1 hl60 HF
  go_enter Try.func51, Try.ntmps51
  go_wp2_with fail
  refine (HF.out _).mono ?_
  rintro e w1 ⟨v, rfl, hr, hb⟩
  have HR := Lib.hid hr
  have HB := Lib.hid hb
  clear hr hb
  by_cases hx : x = 0
  · subst hx
    have HE := Lib.hid (endOf_zero l)
    have HC := Lib.hid (crcOf_no (l := l) (x := 0) (fun c => by have := c.1.1; omega))
    go_wp2
    go_ret2
    exact ⟨_, by rw [HE.out]; rfl, .inl ⟨HC.out, rfl⟩, HB.out⟩
  · have hx1 : (x == 0) = false := beq_no hx
    by_cases hd : Dv x
    · have d1 : decide (Dv x) = true := decide_eq_true hd
      by_cases hin : x ∈ l
      · have HAt := Lib.hid (fun w' (h : Rd w' w.heap.size v l) => dvAt_any v l x _ w' h (by omega))
        rw [if_pos hin] at HAt
        have hp := plc_lt hin
        have HE := Lib.hid (endOf_in hd hin)
        have HC := Lib.hid (crcOf_in hd hin)
        obtain ⟨k, hk⟩ : ∃ k, k = plc x l := ⟨_, rfl⟩
        rw [← hk] at HAt hp HE HC
        obtain ⟨g, cap, rfl, hcap⟩ := rd_some HR.out (by omega)
        obtain ⟨L, hL⟩ : ∃ L, L = l.length := ⟨_, rfl⟩
        rw [← hL] at HR HAt hp HE hcap hl60 ⊢
        have HLL := Lib.hid hL
        have hkc : k < cap := by omega
        have hkc2 : k ≤ cap := by omega
        have hkc3 : ¬ cap = k := by omega
        have hkL : k ≤ L := by omega
        clear hk hin hd hx hL
        go_wp2_with (first | (go_at_call 49; refine (dvNumber_any _ _).mono ?_; rintro e w3 ⟨rfl, rfl⟩) | (go_at_call 79; refine (HAt.out _ HR.out).mono ?_; rintro e w3 ⟨rfl, rfl⟩) | (go_at_call 80; refine (l1Least_i _ _ _).mono ?_; rintro e w3 ⟨rfl, rfl⟩))
        go_ret2
        exact ⟨_, by rw [HE.out]; rfl, .inr ⟨g, k, L, cap, rfl, hp, hcap, HLL.out, HR.out, HC.out⟩, HB.out⟩
      · have HAt := Lib.hid (fun w' (h : Rd w' w.heap.size v l) => dvAt_any v l x _ w' h (by omega))
        rw [if_neg hin] at HAt
        have HE := Lib.hid (endOf_more hd hin)
        have HC := Lib.hid (crcOf_no (l := l) (x := x) (fun c => hin c.2))
        clear hin hd hx
        go_wp2_with (first | (go_at_call 49; refine (dvNumber_any _ _).mono ?_; rintro e w3 ⟨rfl, rfl⟩) | (go_at_call 79; refine (HAt.out _ HR.out).mono ?_; rintro e w3 ⟨rfl, rfl⟩))
        go_ret2
        exact ⟨_, by rw [HE.out]; rfl, .inl ⟨HC.out, rfl⟩, HB.out⟩
    · have d1 : decide (Dv x) = false := decide_eq_false hd
      have HE := Lib.hid (endOf_high (l := l) hd hx)
      have HC := Lib.hid (crcOf_no (l := l) (x := x) (fun c => hd c.1))
      clear hd hx
      go_wp2_with (go_at_call 49; refine (dvNumber_any _ _).mono ?_; rintro e w3 ⟨rfl, rfl⟩)
      go_ret2
      exact ⟨_, by rw [HE.out]; rfl, .inl ⟨HC.out, rfl⟩, HB.out⟩

end Go.Proofs.Ytlpmfapjgmhbhaa
