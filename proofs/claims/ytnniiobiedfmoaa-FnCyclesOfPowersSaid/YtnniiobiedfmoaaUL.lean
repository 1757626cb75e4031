/-
  Answers: runs of power sums, their tails and ends, happy numbers.
-/
import Derived.Test.YtnniiobiedfmoaaUK
namespace Go.Proofs.Ytnniiobiedfmoaa
open Go.RowKit
set_option linter.unusedVariables false
set_option linter.unusedSimpArgs false
set_option maxRecDepth 100000

def LF_PowerRun (n b p : Int) : List Int := if OK3 n b p 4 = true then run (ps b.toNat p.toNat) PM n.toNat else []
def VT_PowerTail (n b p : Int) : Int := if OK3 n b p 4 = true then ((tl (ps b.toNat p.toNat) PM n.toNat : Nat) : Int) else 0
def VC_PowerTail (n b p : Int) : Int := if OK3 n b p 4 = true then ((rl (ps b.toNat p.toNat) PM n.toNat - tl (ps b.toNat p.toNat) PM n.toNat : Nat) : Int) else 0
abbrev R_PowerTail (n b p : Int) : Value := .tuple #[.int .i64 (VT_PowerTail n b p), .int .i64 (VC_PowerTail n b p), .bool (OK3 n b p 4)]
def V_EndsIn (n b p : Int) : Int := if OK3 n b p 4 = true then endOf (ps b.toNat p.toNat) PM n.toNat else 0
abbrev R_EndsIn (n b p : Int) : Value := .tuple #[.int .i64 (V_EndsIn n b p), .bool (OK3 n b p 4)]

theorem LF_PowerRun_len (n b p : Int) : (LF_PowerRun n b p).length ≤ 2000000 := by
  unfold LF_PowerRun
  split
  · rename_i h
    obtain ⟨h1, h2, h3⟩ := of_decide_eq_true h
    obtain ⟨h1a, h1b⟩ := h1
    obtain ⟨h2a, h2b⟩ := h2
    obtain ⟨h3a, h3b⟩ := h3
    rw [run_len]
    have := (rl_spec (it_ps (b := b.toNat) (p := p.toNat) (x := n.toNat) (by omega) (by omega) (by omega) (by omega))).2.1
    unfold PM at this ⊢
    omega
  · simp

theorem ok3_cases (n b p : Int) : (OK3 n b p 4 = true ∧ ∃ N B P : Nat, n = (N : Int) ∧ b = (B : Int) ∧ p = (P : Int) ∧ N ≤ 1000000000000 ∧ 2 ≤ B ∧ B ≤ 16 ∧ 1 ≤ P ∧ P ≤ 4) ∨ OK3 n b p 4 = false := by
  cases h : OK3 n b p 4
  · exact .inr rfl
  · obtain ⟨h1, h2, h3⟩ := of_decide_eq_true h
    obtain ⟨h1a, h1b⟩ := h1
    obtain ⟨h2a, h2b⟩ := h2
    obtain ⟨h3a, h3b⟩ := h3
    exact .inl ⟨rfl, n.toNat, b.toNat, p.toNat, by omega, by omega, by omega, by omega, by omega, by omega, by omega, by omega⟩

theorem asked_yes {N B P : Nat} (h1 : N ≤ 1000000000000) (h2 : 2 ≤ B) (h3 : B ≤ 16) (h4 : 1 ≤ P) (h5 : P ≤ 4) : decide (Num (N : Int) ∧ Bas (B : Int)) = true ∧ decide (Pow (P : Int) 4) = true :=
  ⟨decide_eq_true ⟨⟨by omega, by omega⟩, by omega, by omega⟩, decide_eq_true ⟨by omega, by omega⟩⟩

/-- Who may not ask, in the model's two tests. -/
theorem asked_no {n b p : Int} (h : OK3 n b p 4 = false) : decide (Num n ∧ Bas b) = false ∨ (decide (Num n ∧ Bas b) = true ∧ decide (Pow p 4) = false) := by
  by_cases h1 : Num n ∧ Bas b
  · refine .inr ⟨decide_eq_true h1, decide_eq_false fun h2 => ?_⟩
    exact of_decide_eq_false h ⟨h1.1, h1.2, h2⟩
  · exact .inl (decide_eq_false h1)

theorem spec_PowerRun (n b p : Int) (w : World) :
    Calls Try.prog 9 #[.int .i64 n, .int .i64 b, .int .i64 p] w fun e w' => ∃ u, e = .returned (.tuple #[u, .bool (OK3 n b p 4)]) ∧ Rd w' w.heap.size u (LF_PowerRun n b p) ∧ Below w.heap.size w w' := by
  rcases ok3_cases n b p with ⟨hok, N, B, P, rfl, rfl, rfl, hN, hB, hB', hP, hP'⟩ | hn
  · obtain ⟨a1, a2⟩ := asked_yes hN hB hB' hP hP'
    have HO := Lib.hid hok
    have HL := Lib.hid (show LF_PowerRun (N : Int) (B : Int) (P : Int) = run (ps B P) PM N by unfold LF_PowerRun; rw [if_pos hok]; rfl)
    clear hok
    go_enter Try.func9, Try.ntmps9
    go_wp2_with (first | (go_at_call 41; refine (dgAsked_any _ _ _).mono ?_; rintro e w1 ⟨rfl, rfl⟩) | (go_at_call 42; refine (pwPower_any _ _ _).mono ?_; rintro e w1 ⟨rfl, rfl⟩))
    refine (pwRun_any N B P _ hN hB hB' hP hP').mono ?_
    rintro e w1 ⟨g, c, rfl, hr, hb1⟩
    have HR := Lib.hid hr
    have HB := Lib.hid hb1
    clear hr hb1
    go_wp2
    go_ret2
    exact ⟨_, by rw [HO.out]; rfl, by rw [HL.out]; exact HR.out, HB.out⟩
  · rcases asked_no hn with a1 | ⟨a1, a2⟩
    all_goals
      have HO := Lib.hid hn
      have HL := Lib.hid (show LF_PowerRun n b p = [] by unfold LF_PowerRun; rw [HO.out]; rfl)
      go_enter Try.func9, Try.ntmps9
      go_wp2_with (first | (go_at_call 41; refine (dgAsked_any _ _ _).mono ?_; rintro e w1 ⟨rfl, rfl⟩) | (go_at_call 42; refine (pwPower_any _ _ _).mono ?_; rintro e w1 ⟨rfl, rfl⟩))
      go_ret2
      exact ⟨_, by rw [HO.out]; rfl, by rw [HL.out]; exact Rd.nil _ _, Below.refl _ _⟩

theorem impl_PowerRun (n b p : Int) (w : World) :
    Calls Try.prog 8 #[.int .i64 n, .int .i64 b, .int .i64 p] w fun e w' => ∃ u, e = .returned (.tuple #[u, .bool (OK3 n b p 4)]) ∧ Rd w' w.heap.size u (LF_PowerRun n b p) ∧ Below w.heap.size w w' := by
  rcases ok3_cases n b p with ⟨hok, N, B, P, rfl, rfl, rfl, hN, hB, hB', hP, hP'⟩ | hn
  · have HO := Lib.hid hok
    obtain ⟨s1, s2, s3, s4, s5, s6⟩ := rl_spec (it_ps hB hB' hP' hN)
    have hpm : rl (ps B P) PM N ≤ 1012502 := by unfold PM at s2; exact s2
    have HF := Lib.hid (show ∀ w' : World, Calls Try.prog 40 #[.int .i64 (N : Int), .int .i64 (B : Int), .int .i64 (P : Int)] w' fun e w'' => ∃ r, e = .returned (.tuple #[r, .bool true]) ∧ RunV w'' w'.heap.size r (run (ps B P) PM N) (tl (ps B P) PM N) ∧ Below w'.heap.size w' w'' from fun w' => findRun_yes N B P w' hN hB hB' hP hP')
    obtain ⟨xs, hxs⟩ : ∃ xs, xs = run (ps B P) PM N := ⟨_, rfl⟩
    obtain ⟨t, ht⟩ : ∃ t, t = tl (ps B P) PM N := ⟨_, rfl⟩
    have HL := Lib.hid (show LF_PowerRun (N : Int) (B : Int) (P : Int) = xs by unfold LF_PowerRun; rw [if_pos hok, hxs]; rfl)
    have hlen : xs.length ≤ 1012502 := by rw [hxs, run_len]; exact hpm
    rw [← hxs, ← ht] at HF
    clear s1 s2 s3 s4 s5 s6 hpm hok hxs ht
    go_enter Try.func8, Try.ntmps8
    go_wp2_with fail
    refine (HF.out _).mono ?_
    rintro e w2 ⟨r, rfl, hr, hb2⟩
    have HB2 := Lib.hid hb2
    obtain ⟨g, cap, hr, ⟨h0, rfl⟩ | ⟨h0, ht, rfl⟩⟩ := hr
    · have HR := Lib.hid hr
      have hm := meth_cn (.slice (some ⟨g, 0, none⟩) xs.length cap)
      clear hb2 hr
      go_wp2_with fail
      refine (numbers_circle _ _ _ _).mono ?_
      rintro e w3 ⟨rfl, rfl⟩
      go_wp2
      go_ret2
      exact ⟨_, by rw [HO.out]; rfl, by rw [HL.out]; exact HR.out, HB2.out⟩
    · have HR := Lib.hid hr
      have hm := meth_tn (.agg #[.slice (some ⟨g, 0, none⟩) t cap, .slice (some ⟨g, t, none⟩) (xs.length - t) (cap - t)])
      clear hb2 hr
      go_wp2_with fail
      refine (numbers_tailed g t xs.length cap _ xs _ HR.out rfl h0 ht (by omega)).mono ?_
      rintro e w3 ⟨u, rfl, hr3, hb3⟩
      have HB3 := Lib.hid (Below.step HB2.out HB2.out.size hb3)
      have HR3 := Lib.hid (hr3.mono HB2.out.size)
      clear hb3 hr3
      go_wp2
      go_ret2
      exact ⟨u, by rw [HO.out]; rfl, by rw [HL.out]; exact HR3.out, HB3.out⟩
  · have HO := Lib.hid hn
    have HL := Lib.hid (show LF_PowerRun n b p = [] by unfold LF_PowerRun; rw [hn]; rfl)
    clear hn
    go_enter Try.func8, Try.ntmps8
    go_wp2_with (go_at_call 40; refine (findRun_no n b p _ HO.out).mono ?_; rintro e w1 ⟨rfl, rfl⟩)
    go_ret2
    exact ⟨_, by rw [HO.out]; rfl, by rw [HL.out]; exact Rd.nil _ _, Below.refl _ _⟩

theorem spec_PowerTail (n b p : Int) (w : World) :
    Calls Try.prog 11 #[.int .i64 n, .int .i64 b, .int .i64 p] w fun e w' => e = .returned (R_PowerTail n b p) ∧ Below w.heap.size w w' := by
  rcases ok3_cases n b p with ⟨hok, N, B, P, rfl, rfl, rfl, hN, hB, hB', hP, hP'⟩ | hn
  · obtain ⟨a1, a2⟩ := asked_yes hN hB hB' hP hP'
    obtain ⟨s1, s2, s3, s4, s5, s6⟩ := rl_spec (it_ps hB hB' hP' hN)
    have hpm : rl (ps B P) PM N ≤ 1012502 := by unfold PM at s2; exact s2
    have HO := Lib.hid hok
    have HRN := Lib.hid (pwRun_any N B P · hN hB hB' hP hP')
    obtain ⟨L, hL⟩ : ∃ L, L = rl (ps B P) PM N := ⟨_, rfl⟩
    obtain ⟨T, hT⟩ : ∃ T, T = tl (ps B P) PM N := ⟨_, rfl⟩
    have HV := Lib.hid (show VT_PowerTail (N : Int) (B : Int) (P : Int) = (T : Int) by unfold VT_PowerTail; rw [if_pos hok, hT]; rfl)
    have HV2 := Lib.hid (show VC_PowerTail (N : Int) (B : Int) (P : Int) = (L : Int) - (T : Int) by unfold VC_PowerTail; rw [if_pos hok]; show ((rl (ps B P) PM N - tl (ps B P) PM N : Nat) : Int) = _; rw [← hL, ← hT]; rw [← hL, ← hT] at s3; omega)
    rw [← hL, ← hT] at HRN
    rw [← hL, ← hT] at s3
    rw [← hL] at hpm
    clear hok s1 s2 s4 s5 s6 hL hT
    go_enter Try.func11, Try.ntmps11
    go_wp2_with (first | (go_at_call 41; refine (dgAsked_any _ _ _).mono ?_; rintro e w1 ⟨rfl, rfl⟩) | (go_at_call 42; refine (pwPower_any _ _ _).mono ?_; rintro e w1 ⟨rfl, rfl⟩))
    refine (HRN.out _).mono ?_
    rintro e w1 ⟨g, c, rfl, hr, hb1⟩
    have HB := Lib.hid hb1
    clear hr hb1
    go_wp2
    go_ret3
    exact ⟨by unfold R_PowerTail; rw [HO.out, HV.out, HV2.out]; rfl, HB.out⟩
  · rcases asked_no hn with a1 | ⟨a1, a2⟩
    all_goals
      have HO := Lib.hid hn
      have HV := Lib.hid (show VT_PowerTail n b p = 0 by unfold VT_PowerTail; rw [HO.out]; rfl)
      have HV2 := Lib.hid (show VC_PowerTail n b p = 0 by unfold VC_PowerTail; rw [HO.out]; rfl)
      go_enter Try.func11, Try.ntmps11
      go_wp2_with (first | (go_at_call 41; refine (dgAsked_any _ _ _).mono ?_; rintro e w1 ⟨rfl, rfl⟩) | (go_at_call 42; refine (pwPower_any _ _ _).mono ?_; rintro e w1 ⟨rfl, rfl⟩))
      go_ret3
      exact ⟨by unfold R_PowerTail; rw [HO.out, HV.out, HV2.out]; rfl, Below.refl _ _⟩

theorem impl_PowerTail (n b p : Int) (w : World) :
    Calls Try.prog 10 #[.int .i64 n, .int .i64 b, .int .i64 p] w fun e w' => e = .returned (R_PowerTail n b p) ∧ Below w.heap.size w w' := by
  rcases ok3_cases n b p with ⟨hok, N, B, P, rfl, rfl, rfl, hN, hB, hB', hP, hP'⟩ | hn
  · have HO := Lib.hid hok
    obtain ⟨s1, s2, s3, s4, s5, s6⟩ := rl_spec (it_ps hB hB' hP' hN)
    have hpm : rl (ps B P) PM N ≤ 1012502 := by unfold PM at s2; exact s2
    have HF := Lib.hid (show ∀ w' : World, Calls Try.prog 40 #[.int .i64 (N : Int), .int .i64 (B : Int), .int .i64 (P : Int)] w' fun e w'' => ∃ r, e = .returned (.tuple #[r, .bool true]) ∧ RunV w'' w'.heap.size r (run (ps B P) PM N) (tl (ps B P) PM N) ∧ Below w'.heap.size w' w'' from fun w' => findRun_yes N B P w' hN hB hB' hP hP')
    have hlen0 := run_len (ps B P) PM N
    obtain ⟨xs, hxs⟩ : ∃ xs, xs = run (ps B P) PM N := ⟨_, rfl⟩
    obtain ⟨L, hL⟩ : ∃ L, L = rl (ps B P) PM N := ⟨_, rfl⟩
    obtain ⟨T, hT⟩ : ∃ T, T = tl (ps B P) PM N := ⟨_, rfl⟩
    have HV := Lib.hid (show VT_PowerTail (N : Int) (B : Int) (P : Int) = (T : Int) by unfold VT_PowerTail; rw [if_pos hok, hT]; rfl)
    have HV2 := Lib.hid (show VC_PowerTail (N : Int) (B : Int) (P : Int) = ((L - T : Nat) : Int) by unfold VC_PowerTail; rw [if_pos hok, hL, hT]; rfl)
    rw [← hxs, ← hT] at HF
    rw [← hxs, ← hL] at hlen0
    rw [← hL, ← hT] at s3
    rw [← hL] at hpm
    have HLEN := Lib.hid hlen0
    clear s1 s2 s4 s5 s6 hok hxs hL hT hlen0
    go_enter Try.func10, Try.ntmps10
    go_wp2_with fail
    refine (HF.out _).mono ?_
    rintro e w2 ⟨r, rfl, hr, hb2⟩
    have HB2 := Lib.hid hb2
    have HRV := Lib.hid hr
    clear hb2 hr
    go_wp2_with fail
    refine (tailOfRun_any r xs T _ _ HRV.out).mono ?_
    rintro e w3 ⟨a, c, rfl, hb3⟩
    have HB3 := Lib.hid (Below.step HB2.out HB2.out.size hb3)
    clear hb3
    obtain ⟨g, cap, hr, ⟨h0, rfl⟩ | ⟨h0, ht, rfl⟩⟩ := HRV.out
    · have hm := meth_cc (.slice (some ⟨g, 0, none⟩) xs.length cap)
      subst h0
      clear hr HRV
      go_wp2_with fail
      refine (cycle_circle _ _ _ _).mono ?_
      rintro e w4 ⟨rfl, rfl⟩
      rw [HLEN.out]
      go_wp2
      go_ret3
      exact ⟨by unfold R_PowerTail; rw [HO.out, HV.out, HV2.out]; rfl, HB3.out⟩
    · have hm := meth_tc (.agg #[.slice (some ⟨g, 0, none⟩) T cap, .slice (some ⟨g, T, none⟩) (xs.length - T) (cap - T)])
      clear hr HRV
      go_wp2_with fail
      refine (cycle_tailed _ _ _ _ _ _ _).mono ?_
      rintro e w4 ⟨rfl, hb4⟩
      have HB4 := Lib.hid (Below.step HB3.out HB3.out.size hb4)
      clear hb4
      rw [HLEN.out]
      go_wp2
      go_ret3
      exact ⟨by unfold R_PowerTail; rw [HO.out, HV.out, HV2.out]; rfl, HB4.out⟩
  · have HO := Lib.hid hn
    have HV := Lib.hid (show VT_PowerTail n b p = 0 by unfold VT_PowerTail; rw [hn]; rfl)
    have HV2 := Lib.hid (show VC_PowerTail n b p = 0 by unfold VC_PowerTail; rw [hn]; rfl)
    clear hn
    go_enter Try.func10, Try.ntmps10
    go_wp2_with (go_at_call 40; refine (findRun_no n b p _ HO.out).mono ?_; rintro e w1 ⟨rfl, rfl⟩)
    go_ret3
    exact ⟨by unfold R_PowerTail; rw [HO.out, HV.out, HV2.out]; rfl, Below.refl _ _⟩

theorem spec_EndsIn (n b p : Int) (w : World) :
    Calls Try.prog 13 #[.int .i64 n, .int .i64 b, .int .i64 p] w fun e w' => e = .returned (R_EndsIn n b p) ∧ Below w.heap.size w w' := by
  rcases ok3_cases n b p with ⟨hok, N, B, P, rfl, rfl, rfl, hN, hB, hB', hP, hP'⟩ | hn
  · obtain ⟨a1, a2⟩ := asked_yes hN hB hB' hP hP'
    have HO := Lib.hid hok
    have HV := Lib.hid (show V_EndsIn (N : Int) (B : Int) (P : Int) = endOf (ps B P) PM N by unfold V_EndsIn; rw [if_pos hok]; rfl)
    clear hok
    go_enter Try.func13, Try.ntmps13
    go_wp2_with (first | (go_at_call 41; refine (dgAsked_any _ _ _).mono ?_; rintro e w1 ⟨rfl, rfl⟩) | (go_at_call 42; refine (pwPower_any _ _ _).mono ?_; rintro e w1 ⟨rfl, rfl⟩) | (go_at_call 46; refine (pwEnds_any N B P _ hN hB hB' hP hP').mono ?_; rintro e w1 ⟨rfl, hb1⟩; have HB1 := Lib.hid hb1; clear hb1))
    go_ret2
    exact ⟨by unfold R_EndsIn; rw [HO.out, HV.out]; rfl, HB1.out⟩
  · rcases asked_no hn with a1 | ⟨a1, a2⟩
    all_goals
      have HO := Lib.hid hn
      have HV := Lib.hid (show V_EndsIn n b p = 0 by unfold V_EndsIn; rw [HO.out]; rfl)
      go_enter Try.func13, Try.ntmps13
      go_wp2_with (first | (go_at_call 41; refine (dgAsked_any _ _ _).mono ?_; rintro e w1 ⟨rfl, rfl⟩) | (go_at_call 42; refine (pwPower_any _ _ _).mono ?_; rintro e w1 ⟨rfl, rfl⟩))
      go_ret2
      exact ⟨by unfold R_EndsIn; rw [HO.out, HV.out]; rfl, Below.refl _ _⟩

theorem impl_EndsIn (n b p : Int) (w : World) :
    Calls Try.prog 12 #[.int .i64 n, .int .i64 b, .int .i64 p] w fun e w' => e = .returned (R_EndsIn n b p) ∧ Below w.heap.size w w' := by
  rcases ok3_cases n b p with ⟨hok, N, B, P, rfl, rfl, rfl, hN, hB, hB', hP, hP'⟩ | hn
  · have HV := (show V_EndsIn (N : Int) (B : Int) (P : Int) = endOf (ps B P) PM N by unfold V_EndsIn; rw [if_pos hok]; rfl)
    refine (ends_yes N B P w hN hB hB' hP hP').mono ?_
    rintro e w1 ⟨rfl, hb1⟩
    exact ⟨by unfold R_EndsIn; rw [hok, HV], hb1⟩
  · have HO := Lib.hid hn
    have HV := Lib.hid (show V_EndsIn n b p = 0 by unfold V_EndsIn; rw [hn]; rfl)
    clear hn
    go_enter Try.func12, Try.ntmps12
    go_wp2_with (go_at_call 40; refine (findRun_no n b p _ HO.out).mono ?_; rintro e w1 ⟨rfl, rfl⟩)
    go_ret2
    exact ⟨by unfold R_EndsIn; rw [HO.out, HV.out]; rfl, Below.refl _ _⟩

end Go.Proofs.Ytnniiobiedfmoaa
