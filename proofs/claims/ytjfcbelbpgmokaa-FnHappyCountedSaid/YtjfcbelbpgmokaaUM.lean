/-
  Answers: happy numbers.
-/
import Derived.Test.YtjfcbelbpgmokaaUL
namespace Go.Proofs.Ytjfcbelbpgmokaa
open Go.RowKit
set_option linter.unusedVariables false
set_option linter.unusedSimpArgs false
set_option maxRecDepth 100000

/-- Is a number happy? -/
def hap (b x : Nat) : Bool := endOf (ps b 2) PM x == 1

theorem run_zero (b : Nat) (M : Nat) (hM : 1 ≤ M) : run (ps b 2) M 0 = [0] := by
  have h0 : ps b 2 0 = 0 := ps_zero b 2
  have hit : ∀ k, it (ps b 2) k 0 = 0 := by
    intro k
    induction k with
    | zero => rfl
    | succ k ih => show ps b 2 (it (ps b 2) k 0) = 0; rw [ih, h0]
  obtain ⟨s1, s2, s3, s4, s5, s6⟩ := rl_spec (f := ps b 2) (M := M) (x := 0) (fun k => by rw [hit]; omega)
  have hr : rl (ps b 2) M 0 = 1 := by
    by_cases h : 1 < rl (ps b 2) M 0
    · exact absurd (by rw [hit, hit]) (s6 0 1 (by omega) h)
    · omega
  unfold run
  rw [hr]
  rfl

theorem hap_zero (b : Nat) : hap b 0 = false := by
  unfold hap endOf
  rw [run_zero b PM (by decide)]
  have ht : tl (ps b 2) PM 0 = 0 := by
    have hit : ∀ k, it (ps b 2) k 0 = 0 := by
      intro k
      induction k with
      | zero => rfl
      | succ k ih => show ps b 2 (it (ps b 2) k 0) = 0; rw [ih, ps_zero]
    obtain ⟨s1, s2, s3, s4, s5, s6⟩ := rl_spec (f := ps b 2) (M := PM) (x := 0) (fun k => by rw [hit]; decide)
    have h1 := run_len (ps b 2) PM 0
    rw [run_zero b PM (by decide)] at h1
    simp at h1
    omega
  rw [ht]
  rfl

def OKH (n b : Int) : Bool := decide (Num n ∧ Bas b)
def V_IsHappy (n b : Int) : Bool := OKH n b && hap b.toNat n.toNat
abbrev R_IsHappy (n b : Int) : Value := .tuple #[.bool (V_IsHappy n b), .bool (OKH n b)]

theorem okh_cases (n b : Int) : (OKH n b = true ∧ ∃ N B : Nat, n = (N : Int) ∧ b = (B : Int) ∧ N ≤ 1000000000000 ∧ 2 ≤ B ∧ B ≤ 16) ∨ OKH n b = false := by
  cases h : OKH n b
  · exact .inr rfl
  · obtain ⟨h1, h2⟩ := of_decide_eq_true h
    obtain ⟨h1a, h1b⟩ := h1
    obtain ⟨h2a, h2b⟩ := h2
    exact .inl ⟨rfl, n.toNat, b.toNat, by omega, by omega, by omega, by omega, by omega⟩

theorem okh_yes {N B : Nat} (h1 : N ≤ 1000000000000) (h2 : 2 ≤ B) (h3 : B ≤ 16) : decide (Num (N : Int) ∧ Bas (B : Int)) = true := decide_eq_true ⟨⟨by omega, by omega⟩, by omega, by omega⟩

theorem pwHappy_any (n b : Nat) (w : World) (hn : n ≤ 1000000000000) (hb : 2 ≤ b) (hb' : b ≤ 16) :
    Calls Try.prog 23 #[.int .i64 (n : Int), .int .i64 (b : Int)] w fun e w' => e = .returned (.bool (hap b n)) ∧ Below w.heap.size w w' := by
  by_cases h0 : n = 0
  · subst h0
    have HZ := Lib.hid (hap_zero b)
    go_enter Try.func23, Try.ntmps23
    go_wp2
    go_ret
    exact ⟨by rw [HZ.out]; rfl, Below.refl _ _⟩
  · have hpos : (0 : Int) < (n : Int) := by omega
    have HE := Lib.hid (pwEnds_any n b 2 · hn hb hb' (by omega) (by omega))
    have HH := Lib.hid (show hap b n = (endOf (ps b 2) PM n == 1) from rfl)
    obtain ⟨x, hx⟩ : ∃ x, x = endOf (ps b 2) PM n := ⟨_, rfl⟩
    rw [← hx] at HE HH
    clear h0 hx
    go_enter Try.func23, Try.ntmps23
    go_wp2_with (go_at_call 38; refine (HE.out _).mono ?_; rintro e w1 ⟨rfl, hb1⟩; have HB1 := Lib.hid hb1; clear hb1)
    go_ret
    exact ⟨by rw [HH.out]; rfl, HB1.out⟩

theorem spec_IsHappy (n b : Int) (w : World) :
    Calls Try.prog 17 #[.int .i64 n, .int .i64 b] w fun e w' => e = .returned (R_IsHappy n b) ∧ Below w.heap.size w w' := by
  rcases okh_cases n b with ⟨hok, N, B, rfl, rfl, hN, hB, hB'⟩ | hn
  · have a1 := okh_yes hN hB hB'
    have HO := Lib.hid hok
    have HV := Lib.hid (show V_IsHappy (N : Int) (B : Int) = hap B N by unfold V_IsHappy; rw [hok]; rfl)
    clear hok
    go_enter Try.func17, Try.ntmps17
    go_wp2_with (first | (go_at_call 33; refine (dgAsked_any _ _ _).mono ?_; rintro e w1 ⟨rfl, rfl⟩) | (go_at_call 23; refine (pwHappy_any N B _ hN hB hB').mono ?_; rintro e w1 ⟨rfl, hb1⟩; have HB1 := Lib.hid hb1; clear hb1))
    go_ret2
    exact ⟨by unfold R_IsHappy; rw [HO.out, HV.out]; rfl, HB1.out⟩
  · have a1 : decide (Num n ∧ Bas b) = false := hn
    have HO := Lib.hid hn
    have HV := Lib.hid (show V_IsHappy n b = false by unfold V_IsHappy; rw [hn]; rfl)
    clear hn
    go_enter Try.func17, Try.ntmps17
    go_wp2_with (go_at_call 33; refine (dgAsked_any _ _ _).mono ?_; rintro e w1 ⟨rfl, rfl⟩)
    go_ret2
    exact ⟨by unfold R_IsHappy; rw [HO.out, HV.out]; rfl, Below.refl _ _⟩

theorem happy_ends (n b : Int) : OK3 n b 2 4 = OKH n b := by
  unfold OK3 OKH
  have h : Pow 2 4 := ⟨by omega, by omega⟩
  by_cases h1 : Num n ∧ Bas b
  · rw [decide_eq_true h1, decide_eq_true (p := Num n ∧ Bas b ∧ Pow 2 4) ⟨h1.1, h1.2, h⟩]
  · rw [decide_eq_false h1, decide_eq_false (p := Num n ∧ Bas b ∧ Pow 2 4) (fun h2 => h1 ⟨h2.1, h2.2.1⟩)]

theorem impl_IsHappy (n b : Int) (w : World) :
    Calls Try.prog 11 #[.int .i64 n, .int .i64 b] w fun e w' => e = .returned (R_IsHappy n b) ∧ Below w.heap.size w w' := by
  have HE := Lib.hid (impl_EndsIn n b 2 ·)
  have HV := Lib.hid (show V_IsHappy n b = (V_EndsIn n b 2 == 1) by
    unfold V_IsHappy V_EndsIn
    rw [happy_ends]
    cases OKH n b
    · rfl
    · rfl)
  have HO := Lib.hid (happy_ends n b)
  unfold R_EndsIn at HE
  rw [happy_ends] at HE
  obtain ⟨x, hx⟩ : ∃ x, x = V_EndsIn n b 2 := ⟨_, rfl⟩
  obtain ⟨q, hq⟩ : ∃ q, q = OKH n b := ⟨_, rfl⟩
  rw [← hx] at HE HV
  rw [← hq] at HE
  have HQ := Lib.hid hq
  clear hx hq
  go_enter Try.func11, Try.ntmps11
  go_wp2_with (go_at_call 27; refine (HE.out _).mono ?_; rintro e w1 ⟨rfl, hb1⟩; have HB1 := Lib.hid hb1; clear hb1)
  go_ret2
  exact ⟨by unfold R_IsHappy; rw [HV.out, ← HQ.out]; rfl, HB1.out⟩

/-- The happy numbers below k. -/
def hapTo (b k : Nat) : List Int := ((List.range k).filter (hap b)).map fun (x : Nat) => (x : Int)
theorem hapTo_succ (b k : Nat) : hapTo b (k + 1) = if hap b k = true then hapTo b k ++ [(k : Int)] else hapTo b k := by
  unfold hapTo
  rw [List.range_succ, List.filter_append]
  by_cases h : hap b k = true
  · simp [h]
  · simp [h]
theorem hapTo_len (b k : Nat) : (hapTo b k).length ≤ k := by
  unfold hapTo
  rw [List.length_map]
  have := List.length_filter_le (hap b) (List.range k)
  simpa using this
theorem hapTo_one (b : Nat) : hapTo b 1 = [] := by
  rw [hapTo_succ, hap_zero]; rfl

def OKU (m b : Int) : Bool := decide ((0 ≤ m ∧ m ≤ 2000) ∧ Bas b)
def LF_HappyUpTo (m b : Int) : List Int := if OKU m b = true then hapTo b.toNat (m.toNat + 1) else []
theorem LF_HappyUpTo_len (m b : Int) : (LF_HappyUpTo m b).length ≤ 2000000 := by
  unfold LF_HappyUpTo
  split
  · rename_i h
    obtain ⟨h1, h2⟩ := of_decide_eq_true h
    have := hapTo_len b.toNat (m.toNat + 1)
    omega
  · simp

theorem spec_HappyUpTo (m b : Int) (w : World) :
    Calls Try.prog 15 #[.int .i64 m, .int .i64 b] w fun e w' => ∃ u, e = .returned (.tuple #[u, .bool (OKU m b)]) ∧ Rd w' w.heap.size u (LF_HappyUpTo m b) ∧ Below w.heap.size w w' := by
  by_cases hm : 0 ≤ m ∧ m ≤ 2000
  · by_cases hB : Bas b
    · have a2 : decide (Bas b) = true := decide_eq_true hB
      have hok : OKU m b = true := decide_eq_true ⟨hm, hB⟩
      have HO := Lib.hid hok
      obtain ⟨m0, m1⟩ := hm
      obtain ⟨b0, b1⟩ := hB
      obtain ⟨M, rfl⟩ : ∃ M : Nat, m = (M : Int) := ⟨m.toNat, by omega⟩
      obtain ⟨B, rfl⟩ : ∃ B : Nat, b = (B : Int) := ⟨b.toNat, by omega⟩
      have HL := Lib.hid (show LF_HappyUpTo (M : Int) (B : Int) = hapTo B (M + 1) by unfold LF_HappyUpTo; rw [if_pos hok]; rfl)
      have HH1 := Lib.hid (hapTo_one B)
      clear hok
      go_enter Try.func15, Try.ntmps15
      go_wp2_with (first | (go_at_call 30; refine (l1In_yes _ _ _ _ m0 m1).mono ?_; rintro e w1 ⟨rfl, rfl⟩) | (go_at_call 31; refine (dgBase_any _ _).mono ?_; rintro e w1 ⟨rfl, rfl⟩))
      go_loopw [6, 7] (fun o i wr => ∃ k : Nat, 1 ≤ k ∧ k ≤ M + 1 ∧ i = .int .i64 (k : Int) ∧ Rd wr w.heap.size o (hapTo B k) ∧ Below w.heap.size w wr) (fun _ i _ => M + 1 - (intOf i).toNat)
      case atStart => exact ⟨1, by omega, by omega, rfl, by rw [HH1.out]; exact Rd.nil _ _, Below.refl _ _⟩
      case round =>
        obtain ⟨k, k1, kM, rfl, hr, hb⟩ := hrel
        have HR := Lib.hid hr
        have HB := Lib.hid hb
        have HSUC := Lib.hid (hapTo_succ B k)
        have HLN := Lib.hid (hapTo_len B k)
        clear hr hb
        by_cases hlt : k ≤ M
        · cases hq : hap B k
          · have HSU := Lib.hid (show hapTo B (k + 1) = hapTo B k by rw [HSUC.out, hq]; rfl)
            go_wp2_with (go_at_call 23; refine (pwHappy_any k B _ (by omega) (by omega) (by omega)).mono ?_; rw [hq]; rintro e w1 ⟨rfl, hb1⟩; have HB1 := Lib.hid (Below.step HB.out HB.out.size hb1); have HR1 := Lib.hid (HR.out.keep hb1); clear hb1)
            go_roundw
            case rel => exact ⟨k + 1, by omega, by omega, by go_num, by rw [HSU.out]; exact HR1.out, HB1.out⟩
            case measure => simp [intOf]; omega
          · have HSU := Lib.hid (show hapTo B (k + 1) = hapTo B k ++ [(k : Int)] by rw [HSUC.out, hq]; rfl)
            go_wp2_with (first | (go_at_call 23; refine (pwHappy_any k B _ (by omega) (by omega) (by omega)).mono ?_; rw [hq]; rintro e w1 ⟨rfl, hb1⟩; have HB1 := Lib.hid (Below.step HB.out HB.out.size hb1); have HR1 := Lib.hid (HR.out.keep hb1); have hsz := (Below.step HB.out HB.out.size hb1).size; clear hb1) | (at_builtin; refine wpList_appR rfl _ _ rfl w.heap.size w.heap.size _ _ (hapTo B k) [(k : Int)] rfl rfl (HR1.out.alloc _) (Rd.litB _ _ _ (by omega)) (by have := HLN.out; simp; omega) (by simp; omega) ?_; intro v1 w2 hr1 hg1 hb1; have HR2 := Lib.hid hr1; have HB2 := Lib.hid (((HB1.out.alloc (by omega) _).trans hb1)); clear hr1 hg1 hb1))
            go_roundw
            case rel => exact ⟨k + 1, by omega, by omega, by go_num, by rw [HSU.out]; exact HR2.out, HB2.out⟩
            case measure => simp [intOf]; omega
        · obtain rfl : k = M + 1 := by omega
          go_wp2
          go_ret2
          exact ⟨_, by rw [HO.out]; rfl, by rw [HL.out]; exact HR.out, HB.out⟩
    · have a2 : decide (Bas b) = false := decide_eq_false hB
      have HO := Lib.hid (show OKU m b = false from decide_eq_false (fun h => hB h.2))
      have HL := Lib.hid (show LF_HappyUpTo m b = [] by unfold LF_HappyUpTo; rw [HO.out]; rfl)
      obtain ⟨m0, m1⟩ := hm
      clear hB
      go_enter Try.func15, Try.ntmps15
      go_wp2_with (first | (go_at_call 30; refine (l1In_yes _ _ _ _ m0 m1).mono ?_; rintro e w1 ⟨rfl, rfl⟩) | (go_at_call 31; refine (dgBase_any _ _).mono ?_; rintro e w1 ⟨rfl, rfl⟩))
      go_ret2
      exact ⟨_, by rw [HO.out]; rfl, by rw [HL.out]; exact Rd.nil _ _, Below.refl _ _⟩
  · have HO := Lib.hid (show OKU m b = false from decide_eq_false (fun h => hm h.1))
    have HL := Lib.hid (show LF_HappyUpTo m b = [] by unfold LF_HappyUpTo; rw [HO.out]; rfl)
    have H := Lib.hid (show m < 0 ∨ 2000 < m by omega)
    clear hm
    go_enter Try.func15, Try.ntmps15
    go_wp2_with (go_at_call 30; refine (l1In_no _ _ _ _ H.out).mono ?_; rintro e w1 ⟨rfl, rfl⟩)
    go_ret2
    exact ⟨_, by rw [HO.out]; rfl, by rw [HL.out]; exact Rd.nil _ _, Below.refl _ _⟩

theorem isHappy_at (k b : Nat) (w : World) (hk : k ≤ 1000000000000) (hb : 2 ≤ b) (hb' : b ≤ 16) :
    Calls Try.prog 11 #[.int .i64 (k : Int), .int .i64 (b : Int)] w fun e w' => e = .returned (.tuple #[.bool (hap b k), .bool true]) ∧ Below w.heap.size w w' := by
  refine (impl_IsHappy (k : Int) (b : Int) w).mono ?_
  rintro e w' ⟨rfl, hb1⟩
  have h1 : OKH (k : Int) (b : Int) = true := okh_yes hk hb hb'
  have h2 : V_IsHappy (k : Int) (b : Int) = hap b k := by unfold V_IsHappy; rw [h1]; rfl
  exact ⟨by unfold R_IsHappy; rw [h1, h2], hb1⟩

theorem impl_HappyUpTo (m b : Int) (w : World) :
    Calls Try.prog 13 #[.int .i64 m, .int .i64 b] w fun e w' => ∃ u, e = .returned (.tuple #[u, .bool (OKU m b)]) ∧ Rd w' w.heap.size u (LF_HappyUpTo m b) ∧ Below w.heap.size w w' := by
  by_cases h0 : m < 0
  · have HO := Lib.hid (show OKU m b = false from decide_eq_false (fun h => by have := h.1; omega))
    have HL := Lib.hid (show LF_HappyUpTo m b = [] by unfold LF_HappyUpTo; rw [HO.out]; rfl)
    go_enter Try.func13, Try.ntmps13
    go_wp2
    go_ret2
    exact ⟨_, by rw [HO.out]; rfl, by rw [HL.out]; exact Rd.nil _ _, Below.refl _ _⟩
  · by_cases h1 : 2000 < m
    · have HO := Lib.hid (show OKU m b = false from decide_eq_false (fun h => by have := h.1; omega))
      have HL := Lib.hid (show LF_HappyUpTo m b = [] by unfold LF_HappyUpTo; rw [HO.out]; rfl)
      go_enter Try.func13, Try.ntmps13
      go_wp2
      go_ret2
      exact ⟨_, by rw [HO.out]; rfl, by rw [HL.out]; exact Rd.nil _ _, Below.refl _ _⟩
    · by_cases hB : Bas b
      · have a2 : decide (Bas b) = true := decide_eq_true hB
        have hok : OKU m b = true := decide_eq_true ⟨by omega, hB⟩
        have HO := Lib.hid hok
        obtain ⟨b0, b1⟩ := hB
        obtain ⟨M, rfl⟩ : ∃ M : Nat, m = (M : Int) := ⟨m.toNat, by omega⟩
        obtain ⟨B, rfl⟩ : ∃ B : Nat, b = (B : Int) := ⟨b.toNat, by omega⟩
        have HL := Lib.hid (show LF_HappyUpTo (M : Int) (B : Int) = hapTo B (M + 1) by unfold LF_HappyUpTo; rw [if_pos hok]; rfl)
        have hM : M ≤ 2000 := by omega
        clear hok
        go_enter Try.func13, Try.ntmps13
        go_wp2_with (go_at_call 28; refine (isBase_any _ _).mono ?_; rintro e w1 ⟨rfl, rfl⟩)
        go_loopw [6, 23] (fun o i wr => ∃ k : Nat, k ≤ M + 1 ∧ i = .int .i64 (k : Int) ∧ Rd wr w.heap.size o (hapTo B k) ∧ Below w.heap.size w wr) (fun _ i _ => M + 1 - (intOf i).toNat)
        case atStart => exact ⟨0, by omega, rfl, Rd.nil _ _, Below.refl _ _⟩
        case round =>
          obtain ⟨k, kM, rfl, hr, hb⟩ := hrel
          have HR := Lib.hid hr
          have HB := Lib.hid hb
          have HSUC := Lib.hid (hapTo_succ B k)
          have HLN := Lib.hid (hapTo_len B k)
          clear hr hb
          by_cases hlt : k < M + 1
          · cases hq : hap B k
            · have HSU := Lib.hid (show hapTo B (k + 1) = hapTo B k by rw [HSUC.out, hq]; rfl)
              go_wp2_with (go_at_call 11; refine (isHappy_at k B _ (by omega) (by omega) (by omega)).mono ?_; rw [hq]; rintro e w1 ⟨rfl, hb1⟩; have HB1 := Lib.hid (Below.step HB.out HB.out.size hb1); have HR1 := Lib.hid (HR.out.keep hb1); clear hb1)
              go_roundw
              case rel => exact ⟨k + 1, by omega, by go_num, by rw [HSU.out]; exact HR1.out, HB1.out⟩
              case measure => simp [intOf]; omega
            · have HSU := Lib.hid (show hapTo B (k + 1) = hapTo B k ++ [(k : Int)] by rw [HSUC.out, hq]; rfl)
              go_wp2_with (first | (go_at_call 11; refine (isHappy_at k B _ (by omega) (by omega) (by omega)).mono ?_; rw [hq]; rintro e w1 ⟨rfl, hb1⟩; have HB1 := Lib.hid (Below.step HB.out HB.out.size hb1); have HR1 := Lib.hid (HR.out.keep hb1); have hsz := (Below.step HB.out HB.out.size hb1).size; clear hb1) | (at_builtin; refine wpList_appR rfl _ _ rfl w.heap.size w.heap.size _ _ (hapTo B k) [(k : Int)] rfl rfl (HR1.out.alloc _) (Rd.litB _ _ _ (by omega)) (by have := HLN.out; simp; omega) (by simp; omega) ?_; intro v1 w2 hr1 hg1 hb1; have HR2 := Lib.hid hr1; have HB2 := Lib.hid (((HB1.out.alloc (by omega) _).trans hb1)); clear hr1 hg1 hb1))
              go_roundw
              case rel => exact ⟨k + 1, by omega, by go_num, by rw [HSU.out]; exact HR2.out, HB2.out⟩
              case measure => simp [intOf]; omega
          · obtain rfl : k = M + 1 := by omega
            go_wp2
            go_ret2
            exact ⟨_, by rw [HO.out]; rfl, by rw [HL.out]; exact HR.out, HB.out⟩
      · have a2 : decide (Bas b) = false := decide_eq_false hB
        have HO := Lib.hid (show OKU m b = false from decide_eq_false (fun h => hB h.2))
        have HL := Lib.hid (show LF_HappyUpTo m b = [] by unfold LF_HappyUpTo; rw [HO.out]; rfl)
        clear hB
        go_enter Try.func13, Try.ntmps13
        go_wp2_with (go_at_call 28; refine (isBase_any _ _).mono ?_; rintro e w1 ⟨rfl, rfl⟩)
        go_ret2
        exact ⟨_, by rw [HO.out]; rfl, by rw [HL.out]; exact Rd.nil _ _, Below.refl _ _⟩

end Go.Proofs.Ytjfcbelbpgmokaa
