/-
  Joint text of UL, UM, UN, S, E2: what each proves stands ahead of it.
-/
import Derived.Test.YtlbjeiaihenjkaaGreatDoorJ15
import Derived.Shelf.Sort.Plain
import Derived.Test.YtlbjeiaihenjkaaGreatDoorProg
import Derived.Test.YtlbjeiaihenjkaaGreatDoorJ03
/- from UL: Answers: runs of power sums, their tails and ends, happy numbers.  -/
namespace Go.Proofs.YtlbjeiaihenjkaaGreatDoor
open Go.RowKit
set_option linter.unusedVariables false
set_option linter.unusedSimpArgs false
set_option maxRecDepth 100000

def LF_PowerRun (n b p : Int) : List Int := if OK3 n b p 4 = true then run (ps b.toNat p.toNat) PM n.toNat else []
def VT_PowerTail (n b p : Int) : Int := if OK3 n b p 4 = true then ((tl (ps b.toNat p.toNat) PM n.toNat : Nat) : Int) else 0
def VC_PowerTail (n b p : Int) : Int := if OK3 n b p 4 = true then ((rl (ps b.toNat p.toNat) PM n.toNat - tl (ps b.toNat p.toNat) PM n.toNat : Nat) : Int) else 0
abbrev R_PowerTail (n b p : Int) : Value := .tuple #[.int .i64 (VT_PowerTail n b p), .int .i64 (VC_PowerTail n b p), .bool (OK3 n b p 4)]
def V_EndsIn (n b p : Int) : Int := if OK3 n b p 4 = true then endOf (ps b.toNat p.toNat) PM n.toNat else 0
abbrev R_EndsIn (n b p : Int) : Value := .tuple #[.int .i64 (V_EndsIn n b p), .bool (OK3 n b p 4)]

theorem LF_PowerRun_len (n b p : Int) : (LF_PowerRun n b p).length ≤ 2000000 := by
  unfold LF_PowerRun
  split
  · rename_i h
    obtain ⟨h1, h2, h3⟩ := of_decide_eq_true h
    obtain ⟨h1a, h1b⟩ := h1
    obtain ⟨h2a, h2b⟩ := h2
    obtain ⟨h3a, h3b⟩ := h3
    rw [run_len]
    have := (rl_spec (it_ps (b := b.toNat) (p := p.toNat) (x := n.toNat) (by omega) (by omega) (by omega) (by omega))).2.1
    unfold PM at this ⊢
    omega
  · simp

theorem ok3_cases (n b p : Int) : (OK3 n b p 4 = true ∧ ∃ N B P : Nat, n = (N : Int) ∧ b = (B : Int) ∧ p = (P : Int) ∧ N ≤ 1000000000000 ∧ 2 ≤ B ∧ B ≤ 16 ∧ 1 ≤ P ∧ P ≤ 4) ∨ OK3 n b p 4 = false := by
  cases h : OK3 n b p 4
  · exact .inr rfl
  · obtain ⟨h1, h2, h3⟩ := of_decide_eq_true h
    obtain ⟨h1a, h1b⟩ := h1
    obtain ⟨h2a, h2b⟩ := h2
    obtain ⟨h3a, h3b⟩ := h3
    exact .inl ⟨rfl, n.toNat, b.toNat, p.toNat, by omega, by omega, by omega, by omega, by omega, by omega, by omega, by omega⟩

theorem asked_yes {N B P : Nat} (h1 : N ≤ 1000000000000) (h2 : 2 ≤ B) (h3 : B ≤ 16) (h4 : 1 ≤ P) (h5 : P ≤ 4) : decide (Num (N : Int) ∧ Bas (B : Int)) = true ∧ decide (Pow (P : Int) 4) = true :=
  ⟨decide_eq_true ⟨⟨by omega, by omega⟩, by omega, by omega⟩, decide_eq_true ⟨by omega, by omega⟩⟩

/-- Who may not ask, in the model's two tests. -/
theorem asked_no {n b p : Int} (h : OK3 n b p 4 = false) : decide (Num n ∧ Bas b) = false ∨ (decide (Num n ∧ Bas b) = true ∧ decide (Pow p 4) = false) := by
  by_cases h1 : Num n ∧ Bas b
  · refine .inr ⟨decide_eq_true h1, decide_eq_false fun h2 => ?_⟩
    exact of_decide_eq_false h ⟨h1.1, h1.2, h2⟩
  · exact .inl (decide_eq_false h1)

theorem spec_PowerRun (n b p : Int) (w : World) :
    Calls Tryz.prog 104 #[.int .i64 n, .int .i64 b, .int .i64 p] w fun e w' => ∃ u, e = .returned (.tuple #[u, .bool (OK3 n b p 4)]) ∧ Rd w' w.heap.size u (LF_PowerRun n b p) ∧ Below w.heap.size w w' := by
  rcases ok3_cases n b p with ⟨hok, N, B, P, rfl, rfl, rfl, hN, hB, hB', hP, hP'⟩ | hn
  · obtain ⟨a1, a2⟩ := asked_yes hN hB hB' hP hP'
    have HO := Lib.hid hok
    have HL := Lib.hid (show LF_PowerRun (N : Int) (B : Int) (P : Int) = run (ps B P) PM N by unfold LF_PowerRun; rw [if_pos hok]; rfl)
    clear hok
    go_enter Tryz.func104, Tryz.ntmps104
    go_wp2_with (first | (go_at_call 53; refine (dgAsked_any _ _ _).mono ?_; rintro e w1 ⟨rfl, rfl⟩) | (go_at_call 145; refine (pwPower_any _ _ _).mono ?_; rintro e w1 ⟨rfl, rfl⟩))
    refine (pwRun_any N B P _ hN hB hB' hP hP').mono ?_
    rintro e w1 ⟨g, c, rfl, hr, hb1⟩
    have HR := Lib.hid hr
    have HB := Lib.hid hb1
    clear hr hb1
    go_wp2
    go_ret2
    exact ⟨_, by rw [HO.out]; rfl, by rw [HL.out]; exact HR.out, HB.out⟩
  · rcases asked_no hn with a1 | ⟨a1, a2⟩
    all_goals
      have HO := Lib.hid hn
      have HL := Lib.hid (show LF_PowerRun n b p = [] by unfold LF_PowerRun; rw [HO.out]; rfl)
      go_enter Tryz.func104, Tryz.ntmps104
      go_wp2_with (first | (go_at_call 53; refine (dgAsked_any _ _ _).mono ?_; rintro e w1 ⟨rfl, rfl⟩) | (go_at_call 145; refine (pwPower_any _ _ _).mono ?_; rintro e w1 ⟨rfl, rfl⟩))
      go_ret2
      exact ⟨_, by rw [HO.out]; rfl, by rw [HL.out]; exact Rd.nil _ _, Below.refl _ _⟩

theorem impl_PowerRun (n b p : Int) (w : World) :
    Calls Tryz.prog 189 #[.int .i64 n, .int .i64 b, .int .i64 p] w fun e w' => ∃ u, e = .returned (.tuple #[u, .bool (OK3 n b p 4)]) ∧ Rd w' w.heap.size u (LF_PowerRun n b p) ∧ Below w.heap.size w w' := by
  rcases ok3_cases n b p with ⟨hok, N, B, P, rfl, rfl, rfl, hN, hB, hB', hP, hP'⟩ | hn
  · have HO := Lib.hid hok
    obtain ⟨s1, s2, s3, s4, s5, s6⟩ := rl_spec (it_ps hB hB' hP' hN)
    have hpm : rl (ps B P) PM N ≤ 1012502 := by unfold PM at s2; exact s2
    have HF := Lib.hid (show ∀ w' : World, Calls Tryz.prog 227 #[.int .i64 (N : Int), .int .i64 (B : Int), .int .i64 (P : Int)] w' fun e w'' => ∃ r, e = .returned (.tuple #[r, .bool true]) ∧ RunV w'' w'.heap.size r (run (ps B P) PM N) (tl (ps B P) PM N) ∧ Below w'.heap.size w' w'' from fun w' => findRun_yes N B P w' hN hB hB' hP hP')
    obtain ⟨xs, hxs⟩ : ∃ xs, xs = run (ps B P) PM N := ⟨_, rfl⟩
    obtain ⟨t, ht⟩ : ∃ t, t = tl (ps B P) PM N := ⟨_, rfl⟩
    have HL := Lib.hid (show LF_PowerRun (N : Int) (B : Int) (P : Int) = xs by unfold LF_PowerRun; rw [if_pos hok, hxs]; rfl)
    have hlen : xs.length ≤ 1012502 := by rw [hxs, run_len]; exact hpm
    rw [← hxs, ← ht] at HF
    clear s1 s2 s3 s4 s5 s6 hpm hok hxs ht
    go_enter Tryz.func189, Tryz.ntmps189
    go_wp2_with fail
    refine (HF.out _).mono ?_
    rintro e w2 ⟨r, rfl, hr, hb2⟩
    have HB2 := Lib.hid hb2
    obtain ⟨g, cap, hr, ⟨h0, rfl⟩ | ⟨h0, ht, rfl⟩⟩ := hr
    · have HR := Lib.hid hr
      have hm := meth_cn (.slice (some ⟨g, 0, none⟩) xs.length cap)
      clear hb2 hr
      go_wp2_with fail
      refine (numbers_circle _ _ _ _).mono ?_
      rintro e w3 ⟨rfl, rfl⟩
      go_wp2
      go_ret2
      exact ⟨_, by rw [HO.out]; rfl, by rw [HL.out]; exact HR.out, HB2.out⟩
    · have HR := Lib.hid hr
      have hm := meth_tn (.agg #[.slice (some ⟨g, 0, none⟩) t cap, .slice (some ⟨g, t, none⟩) (xs.length - t) (cap - t)])
      clear hb2 hr
      go_wp2_with fail
      refine (numbers_tailed g t xs.length cap _ xs _ HR.out rfl h0 ht (by omega)).mono ?_
      rintro e w3 ⟨u, rfl, hr3, hb3⟩
      have HB3 := Lib.hid (Below.step HB2.out HB2.out.size hb3)
      have HR3 := Lib.hid (hr3.mono HB2.out.size)
      clear hb3 hr3
      go_wp2
      go_ret2
      exact ⟨u, by rw [HO.out]; rfl, by rw [HL.out]; exact HR3.out, HB3.out⟩
  · have HO := Lib.hid hn
    have HL := Lib.hid (show LF_PowerRun n b p = [] by unfold LF_PowerRun; rw [hn]; rfl)
    clear hn
    go_enter Tryz.func189, Tryz.ntmps189
    go_wp2_with (go_at_call 227; refine (findRun_no n b p _ HO.out).mono ?_; rintro e w1 ⟨rfl, rfl⟩)
    go_ret2
    exact ⟨_, by rw [HO.out]; rfl, by rw [HL.out]; exact Rd.nil _ _, Below.refl _ _⟩

theorem impl_EndsIn (n b p : Int) (w : World) :
    Calls Tryz.prog 182 #[.int .i64 n, .int .i64 b, .int .i64 p] w fun e w' => e = .returned (R_EndsIn n b p) ∧ Below w.heap.size w w' := by
  rcases ok3_cases n b p with ⟨hok, N, B, P, rfl, rfl, rfl, hN, hB, hB', hP, hP'⟩ | hn
  · have HV := (show V_EndsIn (N : Int) (B : Int) (P : Int) = endOf (ps B P) PM N by unfold V_EndsIn; rw [if_pos hok]; rfl)
    refine (ends_yes N B P w hN hB hB' hP hP').mono ?_
    rintro e w1 ⟨rfl, hb1⟩
    exact ⟨by unfold R_EndsIn; rw [hok, HV], hb1⟩
  · have HO := Lib.hid hn
    have HV := Lib.hid (show V_EndsIn n b p = 0 by unfold V_EndsIn; rw [hn]; rfl)
    clear hn
    go_enter Tryz.func182, Tryz.ntmps182
    go_wp2_with (go_at_call 227; refine (findRun_no n b p _ HO.out).mono ?_; rintro e w1 ⟨rfl, rfl⟩)
    go_ret2
    exact ⟨by unfold R_EndsIn; rw [HO.out, HV.out]; rfl, Below.refl _ _⟩

end Go.Proofs.YtlbjeiaihenjkaaGreatDoor

/- from UM: Answers: happy numbers.  -/
namespace Go.Proofs.YtlbjeiaihenjkaaGreatDoor
open Go.RowKit
set_option linter.unusedVariables false
set_option linter.unusedSimpArgs false
set_option maxRecDepth 100000

/-- Is a number happy? -/
def hap (b x : Nat) : Bool := endOf (ps b 2) PM x == 1

theorem run_zero (b : Nat) (M : Nat) (hM : 1 ≤ M) : run (ps b 2) M 0 = [0] := by
  have h0 : ps b 2 0 = 0 := ps_zero b 2
  have hit : ∀ k, it (ps b 2) k 0 = 0 := by
    intro k
    induction k with
    | zero => rfl
    | succ k ih => show ps b 2 (it (ps b 2) k 0) = 0; rw [ih, h0]
  obtain ⟨s1, s2, s3, s4, s5, s6⟩ := rl_spec (f := ps b 2) (M := M) (x := 0) (fun k => by rw [hit]; omega)
  have hr : rl (ps b 2) M 0 = 1 := by
    by_cases h : 1 < rl (ps b 2) M 0
    · exact absurd (by rw [hit, hit]) (s6 0 1 (by omega) h)
    · omega
  unfold run
  rw [hr]
  rfl

theorem hap_zero (b : Nat) : hap b 0 = false := by
  unfold hap endOf
  rw [run_zero b PM (by decide)]
  have ht : tl (ps b 2) PM 0 = 0 := by
    have hit : ∀ k, it (ps b 2) k 0 = 0 := by
      intro k
      induction k with
      | zero => rfl
      | succ k ih => show ps b 2 (it (ps b 2) k 0) = 0; rw [ih, ps_zero]
    obtain ⟨s1, s2, s3, s4, s5, s6⟩ := rl_spec (f := ps b 2) (M := PM) (x := 0) (fun k => by rw [hit]; decide)
    have h1 := run_len (ps b 2) PM 0
    rw [run_zero b PM (by decide)] at h1
    simp at h1
    omega
  rw [ht]
  rfl

def OKH (n b : Int) : Bool := decide (Num n ∧ Bas b)
def V_IsHappy (n b : Int) : Bool := OKH n b && hap b.toNat n.toNat
abbrev R_IsHappy (n b : Int) : Value := .tuple #[.bool (V_IsHappy n b), .bool (OKH n b)]

theorem okh_cases (n b : Int) : (OKH n b = true ∧ ∃ N B : Nat, n = (N : Int) ∧ b = (B : Int) ∧ N ≤ 1000000000000 ∧ 2 ≤ B ∧ B ≤ 16) ∨ OKH n b = false := by
  cases h : OKH n b
  · exact .inr rfl
  · obtain ⟨h1, h2⟩ := of_decide_eq_true h
    obtain ⟨h1a, h1b⟩ := h1
    obtain ⟨h2a, h2b⟩ := h2
    exact .inl ⟨rfl, n.toNat, b.toNat, by omega, by omega, by omega, by omega, by omega⟩

theorem okh_yes {N B : Nat} (h1 : N ≤ 1000000000000) (h2 : 2 ≤ B) (h3 : B ≤ 16) : decide (Num (N : Int) ∧ Bas (B : Int)) = true := decide_eq_true ⟨⟨by omega, by omega⟩, by omega, by omega⟩

theorem pwHappy_any (n b : Nat) (w : World) (hn : n ≤ 1000000000000) (hb : 2 ≤ b) (hb' : b ≤ 16) :
    Calls Tryz.prog 105 #[.int .i64 (n : Int), .int .i64 (b : Int)] w fun e w' => e = .returned (.bool (hap b n)) ∧ Below w.heap.size w w' := by
  by_cases h0 : n = 0
  · subst h0
    have HZ := Lib.hid (hap_zero b)
    go_enter Tryz.func105, Tryz.ntmps105
    go_wp2
    go_ret
    exact ⟨by rw [HZ.out]; rfl, Below.refl _ _⟩
  · have hpos : (0 : Int) < (n : Int) := by omega
    have HE := Lib.hid (pwEnds_any n b 2 · hn hb hb' (by omega) (by omega))
    have HH := Lib.hid (show hap b n = (endOf (ps b 2) PM n == 1) from rfl)
    obtain ⟨x, hx⟩ : ∃ x, x = endOf (ps b 2) PM n := ⟨_, rfl⟩
    rw [← hx] at HE HH
    clear h0 hx
    go_enter Tryz.func105, Tryz.ntmps105
    go_wp2_with (go_at_call 155; refine (HE.out _).mono ?_; rintro e w1 ⟨rfl, hb1⟩; have HB1 := Lib.hid hb1; clear hb1)
    go_ret
    exact ⟨by rw [HH.out]; rfl, HB1.out⟩

theorem happy_ends (n b : Int) : OK3 n b 2 4 = OKH n b := by
  unfold OK3 OKH
  have h : Pow 2 4 := ⟨by omega, by omega⟩
  by_cases h1 : Num n ∧ Bas b
  · rw [decide_eq_true h1, decide_eq_true (p := Num n ∧ Bas b ∧ Pow 2 4) ⟨h1.1, h1.2, h⟩]
  · rw [decide_eq_false h1, decide_eq_false (p := Num n ∧ Bas b ∧ Pow 2 4) (fun h2 => h1 ⟨h2.1, h2.2.1⟩)]

theorem impl_IsHappy (n b : Int) (w : World) :
    Calls Tryz.prog 126 #[.int .i64 n, .int .i64 b] w fun e w' => e = .returned (R_IsHappy n b) ∧ Below w.heap.size w w' := by
  have HE := Lib.hid (impl_EndsIn n b 2 ·)
  have HV := Lib.hid (show V_IsHappy n b = (V_EndsIn n b 2 == 1) by
    unfold V_IsHappy V_EndsIn
    rw [happy_ends]
    cases OKH n b
    · rfl
    · rfl)
  have HO := Lib.hid (happy_ends n b)
  unfold R_EndsIn at HE
  rw [happy_ends] at HE
  obtain ⟨x, hx⟩ : ∃ x, x = V_EndsIn n b 2 := ⟨_, rfl⟩
  obtain ⟨q, hq⟩ : ∃ q, q = OKH n b := ⟨_, rfl⟩
  rw [← hx] at HE HV
  rw [← hq] at HE
  have HQ := Lib.hid hq
  clear hx hq
  go_enter Tryz.func126, Tryz.ntmps126
  go_wp2_with (go_at_call 182; refine (HE.out _).mono ?_; rintro e w1 ⟨rfl, hb1⟩; have HB1 := Lib.hid hb1; clear hb1)
  go_ret2
  exact ⟨by unfold R_IsHappy; rw [HV.out, ← HQ.out]; rfl, HB1.out⟩

/-- The happy numbers below k. -/
def hapTo (b k : Nat) : List Int := ((List.range k).filter (hap b)).map fun (x : Nat) => (x : Int)
theorem hapTo_succ (b k : Nat) : hapTo b (k + 1) = if hap b k = true then hapTo b k ++ [(k : Int)] else hapTo b k := by
  unfold hapTo
  rw [List.range_succ, List.filter_append]
  by_cases h : hap b k = true
  · simp [h]
  · simp [h]
theorem hapTo_len (b k : Nat) : (hapTo b k).length ≤ k := by
  unfold hapTo
  rw [List.length_map]
  have := List.length_filter_le (hap b) (List.range k)
  simpa using this
theorem hapTo_one (b : Nat) : hapTo b 1 = [] := by
  rw [hapTo_succ, hap_zero]; rfl

def OKU (m b : Int) : Bool := decide ((0 ≤ m ∧ m ≤ 2000) ∧ Bas b)
def LF_HappyUpTo (m b : Int) : List Int := if OKU m b = true then hapTo b.toNat (m.toNat + 1) else []
theorem LF_HappyUpTo_len (m b : Int) : (LF_HappyUpTo m b).length ≤ 2000000 := by
  unfold LF_HappyUpTo
  split
  · rename_i h
    obtain ⟨h1, h2⟩ := of_decide_eq_true h
    have := hapTo_len b.toNat (m.toNat + 1)
    omega
  · simp

theorem isHappy_at (k b : Nat) (w : World) (hk : k ≤ 1000000000000) (hb : 2 ≤ b) (hb' : b ≤ 16) :
    Calls Tryz.prog 126 #[.int .i64 (k : Int), .int .i64 (b : Int)] w fun e w' => e = .returned (.tuple #[.bool (hap b k), .bool true]) ∧ Below w.heap.size w w' := by
  refine (impl_IsHappy (k : Int) (b : Int) w).mono ?_
  rintro e w' ⟨rfl, hb1⟩
  have h1 : OKH (k : Int) (b : Int) = true := okh_yes hk hb hb'
  have h2 : V_IsHappy (k : Int) (b : Int) = hap b k := by unfold V_IsHappy; rw [h1]; rfl
  exact ⟨by unfold R_IsHappy; rw [h1, h2], hb1⟩

end Go.Proofs.YtlbjeiaihenjkaaGreatDoor

/- from UN: How many numbers have each sum of squares: plain mathematics.  -/
namespace Go.Proofs.YtlbjeiaihenjkaaGreatDoor
set_option linter.unusedVariables false
set_option linter.unusedSimpArgs false

/-- The sum of g 0 .. g (b - 1). -/
def sm (b : Nat) (g : Nat → Nat) : Nat := ((List.range b).map g).sum
theorem sm_zero (g : Nat → Nat) : sm 0 g = 0 := rfl
theorem sm_succ (b : Nat) (g : Nat → Nat) : sm (b + 1) g = sm b g + g b := by simp [sm, List.range_succ]
theorem sm_congr {g h : Nat → Nat} : ∀ (b : Nat), (∀ d, d < b → g d = h d) → sm b g = sm b h
  | 0, _ => rfl
  | b + 1, e => by rw [sm_succ, sm_succ, sm_congr b (fun d hd => e d (by omega)), e b (by omega)]
theorem sm_le {g : Nat → Nat} {M : Nat} : ∀ (b : Nat), (∀ d, d < b → g d ≤ M) → sm b g ≤ b * M
  | 0, _ => by rw [sm_zero]; omega
  | b + 1, e => by
    have h1 := sm_le b (fun d hd => e d (by omega))
    have h2 := e b (by omega)
    rw [sm_succ, Nat.succ_mul]
    omega
theorem sm_none {g : Nat → Nat} (b : Nat) (h : ∀ d, d < b → g d = 0) : sm b g = 0 := by
  have := sm_le (g := g) (M := 0) b (fun d hd => by rw [h d hd]; omega)
  omega
theorem sm_change {g h : Nat → Nat} {y v : Nat} : ∀ (b : Nat), y < b → (∀ d, d < b → d ≠ y → g d = h d) → h y = g y + v → sm b h = sm b g + v
  | 0, hy, _, _ => absurd hy (Nat.not_lt_zero _)
  | b + 1, hy, e, ev => by
    rw [sm_succ, sm_succ]
    by_cases hb : y = b
    · subst hb
      rw [sm_congr y (fun d hd => (e d (by omega) (by omega)).symm), ev]
      omega
    · rw [sm_change b (by omega) (fun d hd hne => e d (by omega) hne) ev, e b (by omega) (fun h => hb h.symm)]
      omega

/-- One digit more. -/
def nx (f : Nat → Nat) (b s : Nat) : Nat := sm b fun d => if d * d ≤ s then f (s - d * d) else 0
/-- What has been counted when the sums below x are done, and of x the digits below y. -/
def ac (f : Nat → Nat) (b x y s : Nat) : Nat := sm b fun d => if d * d ≤ s ∧ (s - d * d < x ∨ (s - d * d = x ∧ d < y)) then f (s - d * d) else 0

theorem ac_zero (f : Nat → Nat) (b s : Nat) : ac f b 0 0 s = 0 := sm_none b fun d hd => by
  rw [if_neg]; omega
theorem ac_step {f : Nat → Nat} {b x y : Nat} (hy : y < b) (s : Nat) : ac f b x (y + 1) s = ac f b x y s + (if s = x + y * y then f x else 0) := by
  refine sm_change b hy (fun d hd hne => ?_) ?_
  · by_cases h : d * d ≤ s ∧ (s - d * d < x ∨ (s - d * d = x ∧ d < y))
    · rw [if_pos h, if_pos ⟨h.1, by omega⟩]
    · rw [if_neg h, if_neg]; omega
  · by_cases h1 : s = x + y * y
    · have e : s - y * y = x := by omega
      rw [if_pos h1, if_pos ⟨by omega, by omega⟩, if_neg (by omega), e]
      omega
    · rw [if_neg h1]
      by_cases h : y * y ≤ s ∧ (s - y * y < x ∨ (s - y * y = x ∧ y < y))
      · rw [if_pos h, if_pos ⟨h.1, by omega⟩]; rfl
      · rw [if_neg h, if_neg]; omega
theorem ac_row (f : Nat → Nat) (b x s : Nat) : ac f b x b s = ac f b (x + 1) 0 s := sm_congr b fun d hd => by
  by_cases h : d * d ≤ s ∧ (s - d * d < x ∨ (s - d * d = x ∧ d < b))
  · rw [if_pos h, if_pos ⟨h.1, by omega⟩]
  · rw [if_neg h, if_neg]; omega
theorem ac_skip {f : Nat → Nat} {x : Nat} (hf : f x = 0) (b s : Nat) : ac f b x 0 s = ac f b (x + 1) 0 s := sm_congr b fun d hd => by
  by_cases h : d * d ≤ s ∧ (s - d * d < x ∨ (s - d * d = x ∧ d < 0))
  · rw [if_pos h, if_pos ⟨h.1, by omega⟩]
  · rw [if_neg h]
    by_cases h2 : d * d ≤ s ∧ (s - d * d < x + 1 ∨ (s - d * d = x + 1 ∧ d < 0))
    · rw [if_pos h2, show s - d * d = x from by omega, hf]
    · rw [if_neg h2]
theorem ac_le {f : Nat → Nat} {M : Nat} (h : ∀ z, f z ≤ M) (b x y s : Nat) : ac f b x y s ≤ b * M := sm_le b fun d hd => by
  split
  · exact h _
  · omega
theorem nx_le {f : Nat → Nat} {M : Nat} (h : ∀ z, f z ≤ M) (b s : Nat) : nx f b s ≤ b * M := sm_le b fun d hd => by
  split
  · exact h _
  · omega
theorem ac_all {f : Nat → Nat} {n : Nat} (h : ∀ z, n ≤ z → f z = 0) (b s : Nat) : ac f b n 0 s = nx f b s := sm_congr b fun d hd => by
  by_cases h1 : d * d ≤ s
  · rw [if_pos h1]
    by_cases h2 : s - d * d < n
    · rw [if_pos ⟨h1, .inl h2⟩]
    · rw [if_neg (by omega), h _ (by omega)]
  · rw [if_neg h1, if_neg (by omega)]

/-- How many numbers with i digits, zeros in front with them, have the sum s of squares. -/
def sp (b : Nat) : Nat → Nat → Nat
  | 0, s => if s = 0 then 1 else 0
  | i + 1, s => nx (sp b i) b s
theorem sp_le (b : Nat) (hb : 1 ≤ b) : ∀ i s, sp b i s ≤ b ^ i
  | 0, s => by show (if s = 0 then 1 else 0) ≤ 1; split <;> omega
  | i + 1, s => by
    have := nx_le (sp_le b hb i) b s
    rw [Nat.pow_succ, Nat.mul_comm]
    exact this
theorem sp_far (b : Nat) : ∀ i s, i * ((b - 1) * (b - 1)) < s → sp b i s = 0
  | 0, s, h => by show (if s = 0 then 1 else 0) = 0; rw [if_neg (by omega)]
  | i + 1, s, h => sm_none b fun d hd => by
    have h1 : d * d ≤ (b - 1) * (b - 1) := Nat.mul_le_mul (by omega) (by omega)
    rw [Nat.succ_mul] at h
    rw [if_pos (by omega), sp_far b i _ (by omega)]
theorem sp_bd {b i : Nat} (hb : 2 ≤ b) (hb' : b ≤ 10) (hi : i ≤ 12) (s : Nat) : sp b i s ≤ 1000000000000 := by
  have h1 := sp_le b (by omega) i s
  have h2 := Nat.pow_le_pow_left hb' i
  have h3 := Nat.pow_le_pow_right (show 0 < 10 by omega) hi
  have h4 : 10 ^ 12 = 1000000000000 := by decide
  omega

theorem lst_set {N : Nat} {F G : Nat → Nat} {j v : Nat} (hj : j < N) (hv : G j = v) (ho : ∀ i, i < N → i ≠ j → F i = G i) : (lst N F).set j (v : Int) = lst N G := by
  apply List.ext_getElem?
  intro i
  rw [List.getElem?_set]
  by_cases h : j = i
  · subst h
    rw [if_pos rfl, if_pos (by rw [lst_len]; exact hj)]
    simp [lst, hj, hv]
  · rw [if_neg h]
    by_cases hi : i < N
    · simp [lst, hi, ho i hi (fun e => h e.symm)]
    · rw [List.getElem?_eq_none (by rw [lst_len]; omega), List.getElem?_eq_none (by rw [lst_len]; omega)]

theorem lst_rep (N : Nat) : List.replicate N (0 : Int) = lst N (fun _ => 0) := by
  apply List.ext_getElem?
  intro i
  by_cases hi : i < N
  · simp [lst, hi]
  · rw [List.getElem?_eq_none (by simp; omega), List.getElem?_eq_none (by rw [lst_len]; omega)]

/-- How many of the numbers counted are happy, their sums below j. -/
def hc (b k : Nat) : Nat → Nat
  | 0 => 0
  | j + 1 => hc b k j + (if hap b j = true then sp b k j else 0)
theorem hc_le {b k M : Nat} (h : ∀ s, sp b k s ≤ M) : ∀ j, hc b k j ≤ j * M
  | 0 => by show 0 ≤ _; omega
  | j + 1 => by
    have h1 := hc_le h j
    have h2 := h j
    show hc b k j + _ ≤ _
    rw [Nat.succ_mul]
    split <;> omega

theorem qq_le {b i : Nat} (hb' : b ≤ 10) (hi : i ≤ 12) : i * ((b - 1) * (b - 1)) ≤ 972 := by
  have h1 : (b - 1) * (b - 1) ≤ 9 * 9 := Nat.mul_le_mul (by omega) (by omega)
  have := Nat.mul_le_mul hi h1
  omega

end Go.Proofs.YtlbjeiaihenjkaaGreatDoor

/- from S: DERIVED: THE SHELF's CONTRACTS AT THIS DUMP, IN PLAIN WORDS (tools/lay-plain.mjs out of 'TryzShelf.lean', which tools/lay-shelf.mjs wrote): THE SAME DECLARATIONS UNDER THE SAME NAMES: 'import', 'namespace', 'open', 'def', 'theorem' AND NOTHING ELSE: no command of the shelf's: FOR A HAND-IN. Each laying: the table of numbers ('.._ren') and one theorem, a field a fact of the dump's own or the kernel's comparison; each contract: ONE APPLICATION.  -/
namespace Go.Proofs
open Go.Shelf
def Tryz.lays189_ren : Go.Shelf.Ren := ⟨fun | 189 => 80 | 125 => 139 | 257 => 138 | 128 => 202 | 129 => 203 | 294 => 193 | 295 => 194 | 296 => 195 | 297 => 196 | 298 => 197 | 299 => 198 | 216 => 199 | 300 => 200 | 301 => 201 | 328 => 249 | 329 => 250 | 330 => 251 | 331 => 252 | 332 => 253 | 215 => 254 | 343 => 270 | n => n, fun | 28 => 38 | 3 => 3 | 46 => 157 | 0 => 0 | 51 => 196 | 53 => 74 | 4 => 4 | 183 => 190 | 182 => 189 | 131 => 50 | 5 => 5 | 9 => 9 | 218 => 222 | 222 => 226 | 228 => 236 | 229 => 237 | n => n, fun | n => n⟩
theorem Tryz.lays189 : Go.Proofs.Lays.n189 Tryz.prog Tryz.lays189_ren := {
  mixed := by kernel_rfl
  f125 := Tryz.func139.trans (congrArg some (by kernel_rfl))
  f128 := Tryz.func202.trans (congrArg some (by kernel_rfl))
  f129 := Tryz.func203.trans (congrArg some (by kernel_rfl))
  f189 := Tryz.func80.trans (congrArg some (by kernel_rfl))
  f215 := Tryz.func254.trans (congrArg some (by kernel_rfl))
  f216 := Tryz.func199.trans (congrArg some (by kernel_rfl))
  f257 := Tryz.func138.trans (congrArg some (by kernel_rfl))
  f294 := Tryz.func193.trans (congrArg some (by kernel_rfl))
  f295 := Tryz.func194.trans (congrArg some (by kernel_rfl))
  f296 := Tryz.func195.trans (congrArg some (by kernel_rfl))
  f297 := Tryz.func196.trans (congrArg some (by kernel_rfl))
  f298 := Tryz.func197.trans (congrArg some (by kernel_rfl))
  f299 := Tryz.func198.trans (congrArg some (by kernel_rfl))
  f300 := Tryz.func200.trans (congrArg some (by kernel_rfl))
  f301 := Tryz.func201.trans (congrArg some (by kernel_rfl))
  f328 := Tryz.func249.trans (congrArg some (by kernel_rfl))
  f329 := Tryz.func250.trans (congrArg some (by kernel_rfl))
  f330 := Tryz.func251.trans (congrArg some (by kernel_rfl))
  f331 := Tryz.func252.trans (congrArg some (by kernel_rfl))
  f332 := Tryz.func253.trans (congrArg some (by kernel_rfl))
  f343 := Tryz.func270.trans (congrArg some (by kernel_rfl))
  t0 := Tryz.underlying0
  a0 := Tryz.isAgg0
  z0 := Tryz.sizeOf0
  v0 := Tryz.zeroValue0
  t3 := Tryz.underlying3
  a3 := Tryz.isAgg3
  z3 := Tryz.sizeOf3
  v3 := Tryz.zeroValue3
  t4 := Tryz.underlying4
  a4 := Tryz.isAgg4
  z4 := Tryz.sizeOf4
  v4 := Tryz.zeroValue4
  t5 := Tryz.underlying5
  a5 := Tryz.isAgg5
  z5 := Tryz.sizeOf5
  v5 := Tryz.zeroValue5
  t9 := Tryz.underlying9
  a9 := Tryz.isAgg9
  z9 := Tryz.sizeOf9
  v9 := Tryz.zeroValue9
  t28 := Tryz.underlying38
  a28 := Tryz.isAgg38
  z28 := Tryz.sizeOf38
  v28 := Tryz.zeroValue38
  t46 := Tryz.underlying157
  a46 := Tryz.isAgg157
  z46 := Tryz.sizeOf157
  v46 := Tryz.zeroValue157
  t51 := Tryz.underlying196
  a51 := Tryz.isAgg196
  z51 := Tryz.sizeOf196
  v51 := Tryz.zeroValue196
  t53 := Tryz.underlying74
  a53 := Tryz.isAgg74
  z53 := Tryz.sizeOf74
  v53 := Tryz.zeroValue74
  t131 := Tryz.underlying50
  a131 := Tryz.isAgg50
  z131 := Tryz.sizeOf50
  v131 := Tryz.zeroValue50
  t182 := Tryz.underlying189
  a182 := Tryz.isAgg189
  z182 := Tryz.sizeOf189
  v182 := Tryz.zeroValue189
  t183 := Tryz.underlying190
  a183 := Tryz.isAgg190
  z183 := Tryz.sizeOf190
  v183 := Tryz.zeroValue190
  t218 := Tryz.underlying222
  a218 := Tryz.isAgg222
  z218 := Tryz.sizeOf222
  v218 := Tryz.zeroValue222
  t222 := Tryz.underlying226
  a222 := Tryz.isAgg226
  z222 := Tryz.sizeOf226
  v222 := Tryz.zeroValue226
  t228 := Tryz.underlying236
  a228 := Tryz.isAgg236
  z228 := Tryz.sizeOf236
  v228 := Tryz.zeroValue236
  t229 := Tryz.underlying237
  a229 := Tryz.isAgg237
  z229 := Tryz.sizeOf237
  v229 := Tryz.zeroValue237 }
open Go.Sort Go.RowKit in
theorem Tryz.slices_Sort_int (blk off cap : Nat) (zs : List Int) (w : World) (hH : Holds (Value.int .i64) w blk off zs.toArray) (hblk : blk < w.heap.size) (hsz : zs.length < 4611686018427387904) :
    Calls Tryz.prog 80 #[.slice (some ⟨blk, off, none⟩) zs.length cap] w fun e w' =>
      e = .returned (.tuple #[]) ∧ ∃ n os, w' = grow (putRow (Value.int .i64) (Sort.ahead w n) blk off (zs.mergeSort fun x y => decide (x ≤ y)).toArray) os := Any.slices_Sort_int Tryz.lays189 blk off cap zs w hH hblk hsz
end Go.Proofs

/- from E2: Two slices held against each other: the program's and the model's tests.  -/
namespace Go.Proofs.YtlbjeiaihenjkaaGreatDoor
open Go.RowKit
set_option linter.unusedVariables false
set_option linter.unusedSimpArgs false

theorem l1Same_any (v u : Value) (xs ys : List Int) (w : World) (hv : Sl w v xs) (hu : Sl w u ys) (hl : xs.length ≤ 2000000) (hl2 : ys.length ≤ 2000000) :
    Calls Tryz.prog 209 #[v, u] w fun e w' => e = .returned (.bool (decide (xs = ys))) ∧ Below w.heap.size w w' := by
  obtain ⟨a, cap, rfl, hx⟩ := hv
  obtain ⟨c, cap2, rfl, hy⟩ := hu
  have HX := Lib.hid hx
  have HY := Lib.hid hy
  clear hx hy
  by_cases hle : xs.length = ys.length
  · have HL := Lib.hid hle
    have hn : ((xs.length : Int) != (ys.length : Int)) = false := bne_no (by omega)
    have hn1 : xs.length ≤ ys.length := by omega
    have hn2 : ys.length ≤ xs.length := by omega
    clear hle
    go_enter Tryz.func209, Tryz.ntmps209
    go_wp2
    go_loopw [13] (fun i wr => ∃ k : Nat, k ≤ xs.length ∧ i = .int .i64 k ∧ xs.take k = ys.take k ∧ Below w.heap.size w wr) (fun i _ => xs.length - (intOf i).toNat)
    case atStart => exact ⟨0, Nat.zero_le _, rfl, rfl, Below.refl _ _⟩
    case round =>
      obtain ⟨k, hk, rfl, ht, hb⟩ := hrel
      have HT := Lib.hid ht
      have HB := Lib.hid hb
      clear ht hb
      by_cases hlt : k < xs.length
      · rcases HX.out with hx | ⟨b, off, rfl, hbl, hc⟩
        · rw [hx] at hlt; simp at hlt
        rcases HY.out with hy | ⟨b2, off2, rfl, hbl2, hc2⟩
        · have hy0 := congrArg List.length hy
          rw [List.length_nil] at hy0
          omega
        have hlt2 : k < ys.length := by omega
        have hcell : wr.cell? ⟨b, off + k, none⟩ = some (.int .i64 xs[k]) := (HB.out.cell (p := ⟨b, off + k, none⟩) hbl).trans (hc k hlt)
        have hcell2 : wr.cell? ⟨b2, off2 + k, none⟩ = some (.int .i64 ys[k]) := (HB.out.cell (p := ⟨b2, off2 + k, none⟩) hbl2).trans (hc2 k hlt2)
        clear hc hc2
        by_cases he : xs[k] = ys[k]
        · have HE := Lib.hid he
          have hbn : (xs[k] != ys[k]) = false := bne_no he
          clear he
          go_wp2
          go_region
          all_goals
            go_wp2
            go_roundw
            case rel => exact ⟨k + 1, by omega, by go_num, take_eq_snoc hlt hlt2 HT.out HE.out, HB.out.drew⟩
            case measure => simp [intOf]; omega
        · have HE := Lib.hid (eq_at_no hlt hlt2 he)
          have hbn : (xs[k] != ys[k]) = true := bne_yes he
          clear he
          go_wp2
          go_region
          all_goals
            go_wp2
            go_ret
            exact ⟨ret_bool HE.out.symm, HB.out.drew⟩
      · obtain rfl : k = xs.length := by omega
        go_wp2
        go_ret
        exact ⟨ret_bool (eq_all HL.out HT.out).symm, HB.out⟩
  · have HE := Lib.hid (eq_len_no hle)
    have hn : ((xs.length : Int) != (ys.length : Int)) = true := bne_yes (by omega)
    go_enter Tryz.func209, Tryz.ntmps209
    go_wp2
    go_ret
    exact ⟨ret_bool HE.out.symm, Below.refl _ _⟩

end Go.Proofs.YtlbjeiaihenjkaaGreatDoor
