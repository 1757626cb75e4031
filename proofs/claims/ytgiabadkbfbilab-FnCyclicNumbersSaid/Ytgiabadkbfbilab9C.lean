/-
  Periods of fractions: the program's and the model's, their answers.
-/
import Derived.Test.Ytgiabadkbfbilab9B
import Derived.Test.Ytgiabadkbfbilab8D
namespace Go.Proofs.Ytgiabadkbfbilab
open Go.RowKit
set_option linter.unusedVariables false
set_option linter.unusedSimpArgs false

/-- A fraction and a base. -/
def Frc (a n b : Int) : Prop := Bas b ∧ Den n ∧ 0 ≤ a ∧ a < n
instance (a n b : Int) : Decidable (Frc a n b) := by unfold Frc; infer_instance

theorem teFraction_any (a n b : Int) (w : World) : Calls Try.prog 65 #[.int .i64 a, .int .i64 n, .int .i64 b] w fun e w' => e = .returned (.bool (decide (Frc a n b))) ∧ w = w' := by
  by_cases hB : Bas b
  · have hb := decide_eq_true hB
    by_cases hD : Den n
    · have HD := Lib.hid hD
      have hD2 := hD
      obtain ⟨d0, d1⟩ := hD2
      by_cases hA : 0 ≤ a ∧ a < n
      · have hd := Lib.hid (show decide (Frc a n b) = true from decide_eq_true (p := Frc a n b) ⟨hB, hD, hA.1, hA.2⟩)
        obtain ⟨h1, h2⟩ := hA
        have h3 : a ≤ n - 1 := by omega
        clear hB hD
        go_enter Try.func65, Try.ntmps65
        go_wp2_with (first | (go_at_call 77; refine (dgBase_any _ _).mono ?_; rintro e w1 ⟨rfl, rfl⟩) | (go_at_call 78; (first | (with_reducible refine (l1In_yes n 1 2000 _ d0 d1).mono ?_; rintro e w' ⟨rfl, rfl⟩) | (with_reducible refine (l1In_yes a 0 (n - 1) _ h1 h3).mono ?_; rintro e w' ⟨rfl, rfl⟩))))
        go_ret
        exact ⟨ret_bool hd.out.symm, rfl⟩
      · have hd := Lib.hid (show decide (Frc a n b) = false from decide_eq_false (p := Frc a n b) (fun c => hA c.2.2))
        have H := Lib.hid (show a < 0 ∨ n - 1 < a by omega)
        clear hB hD hA
        go_enter Try.func65, Try.ntmps65
        go_wp2_with (first | (go_at_call 77; refine (dgBase_any _ _).mono ?_; rintro e w1 ⟨rfl, rfl⟩) | (go_at_call 78; (first | (with_reducible refine (l1In_yes n 1 2000 _ d0 d1).mono ?_; rintro e w' ⟨rfl, rfl⟩) | (with_reducible refine (l1In_no a 0 (n - 1) _ H.out).mono ?_; rintro e w' ⟨rfl, rfl⟩))))
        go_ret
        exact ⟨ret_bool hd.out.symm, rfl⟩
    · have hd := Lib.hid (show decide (Frc a n b) = false from decide_eq_false (p := Frc a n b) (fun c => hD c.2.1))
      have H := Lib.hid (show n < 1 ∨ 2000 < n by unfold Den at hD; omega)
      clear hB hD
      go_enter Try.func65, Try.ntmps65
      go_wp2_with (first | (go_at_call 77; refine (dgBase_any _ _).mono ?_; rintro e w1 ⟨rfl, rfl⟩) | (go_at_call 78; refine (l1In_no _ _ _ _ H.out).mono ?_; rintro e w' ⟨rfl, rfl⟩))
      go_ret
      exact ⟨ret_bool hd.out.symm, rfl⟩
  · have hb := decide_eq_false hB
    have hd := Lib.hid (show decide (Frc a n b) = false from decide_eq_false (p := Frc a n b) (fun c => hB c.1))
    clear hB
    go_enter Try.func65, Try.ntmps65
    go_wp2_with (first | (go_at_call 77; refine (dgBase_any _ _).mono ?_; rintro e w1 ⟨rfl, rfl⟩))
    go_ret
    exact ⟨ret_bool hd.out.symm, rfl⟩

theorem alloc_below9 (w : World) (o : Obj) : Below w.heap.size w (w.alloc o) := (Below.refl _ w).alloc (Nat.le_refl _) o
abbrev frcV (a n b : Int) : Value := .agg #[.int .i64 a, .int .i64 n, .int .i64 b]

theorem isValid_any (a n b : Int) (w : World) : Calls Try.prog 131 #[frcV a n b] w fun e w' => e = .returned (.bool (decide (Frc a n b))) ∧ Below w.heap.size w w' := by
  have HB := Lib.hid (alloc_below9 w (.cells #[.int .i64 a, .int .i64 n, .int .i64 b] 65))
  have c0 : (w.alloc (.cells #[.int .i64 a, .int .i64 n, .int .i64 b] 65)).cell? ⟨w.heap.size, 0, none⟩ = some (.int .i64 a) := by simp [go_sem]
  have c1 : (w.alloc (.cells #[.int .i64 a, .int .i64 n, .int .i64 b] 65)).cell? ⟨w.heap.size, 1, none⟩ = some (.int .i64 n) := by simp [go_sem]
  have c2 : (w.alloc (.cells #[.int .i64 a, .int .i64 n, .int .i64 b] 65)).cell? ⟨w.heap.size, 2, none⟩ = some (.int .i64 b) := by simp [go_sem]
  by_cases hA : 0 ≤ a
  · by_cases hA2 : a < n
    · by_cases hD : Den n
      · have hd := decide_eq_true hD
        have HE := Lib.hid (show decide (Frc a n b) = decide (Bas b) from decide_eq_decide.2 ⟨fun c => c.1, fun c => ⟨c, hD, hA, hA2⟩⟩)
        rw [HE.out]
        obtain ⟨q, hq⟩ : ∃ q, q = decide (Bas b) := ⟨_, rfl⟩
        have HQ := Lib.hid (fun w' => isBase_any b w')
        rw [← hq] at HQ ⊢
        clear hD hq HE
        go_enter Try.func131, Try.ntmps131
        go_wp2_with (first | (go_at_call 80; refine (isDenominator_any _ _).mono ?_; rintro e w1 ⟨rfl, rfl⟩) | (go_at_call 76; refine (HQ.out _).mono ?_; rintro e w1 ⟨rfl, rfl⟩))
        go_ret
        exact ⟨by simp, HB.out⟩
      · have hd := decide_eq_false hD
        have HE := Lib.hid (show decide (Frc a n b) = false from decide_eq_false (fun c => hD c.2.1))
        rw [HE.out]
        clear hD HE
        go_enter Try.func131, Try.ntmps131
        go_wp2_with (first | (go_at_call 80; refine (isDenominator_any _ _).mono ?_; rintro e w1 ⟨rfl, rfl⟩))
        go_ret
        exact ⟨by simp, HB.out⟩
    · have HE := Lib.hid (show decide (Frc a n b) = false from decide_eq_false (fun c => hA2 c.2.2.2))
      rw [HE.out]
      clear HE
      go_enter Try.func131, Try.ntmps131
      go_wp2
      go_ret
      exact ⟨by simp, HB.out⟩
  · have HE := Lib.hid (show decide (Frc a n b) = false from decide_eq_false (fun c => hA c.2.2.1))
    rw [HE.out]
    clear HE
    go_enter Try.func131, Try.ntmps131
    go_wp2
    go_ret
    exact ⟨by simp, HB.out⟩

/-- At which step each remainder came. -/
structure Plc (f : Nat → Nat) (a n k : Nat) (ps : List Int) : Prop where
  len : ps.length = n
  told : ∀ j, j < n → (ps[j]? = some (-1) ∧ ∀ i, i < k → it f i a ≠ j) ∨ ∃ i, i < k ∧ it f i a = j ∧ ps[j]? = some (i : Int)
theorem Plc.start (f : Nat → Nat) (a n : Nat) : Plc f a n 0 (List.replicate n (-1)) :=
  ⟨by simp, fun j hj => .inl ⟨by simp [hj], fun i hi => by omega⟩⟩
theorem Plc.step {f : Nat → Nat} {a n k : Nat} {ps : List Int} (h : Plc f a n k ps) (hlt : it f k a < n) (hk : ∀ i, i < k → it f i a ≠ it f k a) : Plc f a n (k + 1) (ps.set (it f k a) (k : Int)) := by
  refine ⟨by simp [h.len], fun j hj => ?_⟩
  have hl := h.len
  by_cases e : it f k a = j
  · right
    exact ⟨k, by omega, e, by rw [List.getElem?_set, if_pos e, if_pos (by omega)]⟩
  · rcases h.told j hj with ⟨h1, h2⟩ | ⟨i, h1, h2, h3⟩
    · left
      refine ⟨by rw [List.getElem?_set, if_neg e]; exact h1, fun i hi => ?_⟩
      by_cases hik : i = k
      · rw [hik]; exact e
      · exact h2 i (by omega)
    · right
      exact ⟨i, by omega, h2, by rw [List.getElem?_set, if_neg e]; exact h3⟩

theorem fill_step (k n : Nat) (q : Int) (hk : k < n) : (List.replicate k q ++ List.replicate (n - k) (0 : Int)).set k q = List.replicate (k + 1) q ++ List.replicate (n - (k + 1)) 0 := by
  rw [List.set_append, if_neg (by simp), show n - k = (n - (k + 1)) + 1 by omega, List.replicate_succ]
  simp
  rw [List.replicate_succ', List.append_assoc]
  rfl

theorem tePeriod_any (a n b : Nat) (w : World) (hn : 0 < n) (hn2 : n ≤ 2000) (hb0 : 0 < b) (hb : b ≤ 16) (ha : a < n) :
    Calls Try.prog 67 #[.int .i64 (a : Int), .int .i64 (n : Int), .int .i64 (b : Int)] w fun e w' => e = .returned (.tuple #[.int .i64 ((pB a n b : Nat) : Int), .int .i64 ((pA a n b : Nat) : Int)]) ∧ Below w.heap.size w w' := by
  have HM := Lib.hid (fun x (hx : x < n) => mb_facts hb hn hn2 hx)
  have HI := Lib.hid (fun k => it_lt (mb_into (b := b) hn) k ha)
  have HL := Lib.hid (late_back (mb_into (b := b) hn) ha)
  have HJ := Lib.hid (fun i j => late_inj (i := i) (j := j) (mb_into (b := b) hn) ha)
  obtain ⟨e1, e2⟩ := period_all hb0 hn ha
  rw [e1, e2] at HL HJ
  clear e1 e2
  obtain ⟨D, hD⟩ : ∃ D, D = pB a n b := ⟨_, rfl⟩
  obtain ⟨P, hP⟩ : ∃ P, P = pA a n b := ⟨_, rfl⟩
  rw [← hD, ← hP] at HL HJ ⊢
  clear hD hP
  obtain ⟨f, hf⟩ : ∃ f, f = mb b n := ⟨_, rfl⟩
  have HF := Lib.hid (fun x => congrFun hf x)
  rw [← hf] at HI HL HJ
  clear hf
  have p1 := HL.out.2.1
  have p2 := HL.out.2.2.1
  have p3 := HL.out.2.2.2
  go_enter Try.func67, Try.ntmps67
  go_wp2_with (at_make; refine wpList_mkR rfl _ _ rfl .i64 .i64 _ _ n rfl rfl rfl rfl (by omega) ?_; intro w1 hr1 hg1 hb1; have HR1 := Lib.hid hr1; have HB1 := Lib.hid hb1; clear hr1 hg1 hb1)
  go_loopw [16] (fun i wr => ∃ k : Nat, k ≤ n ∧ i = .int .i64 k ∧ Rd wr w.heap.size (.slice (some ⟨w.heap.size, 0, none⟩) n n) (List.replicate k (-1) ++ List.replicate (n - k) 0) ∧ Below w.heap.size w wr) (fun i _ => n - (intOf i).toNat)
  case atStart => exact ⟨0, Nat.zero_le _, rfl, by simpa using HR1.out, HB1.out⟩
  case round =>
    obtain ⟨k, hk, rfl, hr, hbl⟩ := hrel
    have HR := Lib.hid hr
    have HB := Lib.hid hbl
    clear hr hbl
    by_cases hlt : k < n
    · obtain ⟨hcs, hfs⟩ := HR.out.at.2.2.2.2
      obtain ⟨q, hd⟩ : ∃ q, wr.cell? ⟨w.heap.size, k, none⟩ = some (.int .i64 q) := ⟨_, hcs k (by simp; omega)⟩
      have hf := hfs k
      have HS := Lib.hid (HR.out.set k (-1))
      have HBs := Lib.hid (HB.out.setCell (p := ⟨w.heap.size, k, none⟩) (Nat.le_refl _) (.int .i64 (-1)))
      clear hcs hfs
      go_wp2
      go_roundw
      case rel => exact ⟨k + 1, by omega, by go_num, by rw [← fill_step k n (-1) hlt]; exact HS.out.1, HBs.out⟩
      case measure => simp [intOf]; omega
    · obtain rfl : k = n := by omega
      have HP0 := Lib.hid (Plc.start f a k)
      have HR2 := Lib.hid (show Rd wr w.heap.size (.slice (some ⟨w.heap.size, 0, none⟩) k k) (List.replicate k (-1)) by have := HR.out; simpa using this)
      clear hlt hk HR
      rename World => w5
      go_wp2
      go_loopw [10, 11] (fun i x wr => ∃ (j : Nat) (ps : List Int), j ≤ D + P ∧ i = .int .i64 (j : Int) ∧ x = .int .i64 ((it f j a : Nat) : Int) ∧ Plc f a k j ps ∧ Rd wr w.heap.size (.slice (some ⟨w.heap.size, 0, none⟩) k k) ps ∧ Below w.heap.size w wr) (fun i _ _ => D + P - (intOf i).toNat)
      case atStart => exact ⟨0, _, Nat.zero_le _, rfl, rfl, HP0.out, HR2.out, HB.out⟩
      case round =>
        obtain ⟨j, ps, hj, rfl, rfl, hp, hr, hbl⟩ := hrel
        have HPl := Lib.hid hp
        have HR := Lib.hid hr
        have HB3 := Lib.hid hbl
        clear hp hr hbl
        have HX := Lib.hid (HI.out j)
        have HN := Lib.hid (show it f (j + 1) a = mb b k (it f j a) by rw [← HF.out]; rfl)
        by_cases hlt : j < D + P
        · have HNew := Lib.hid (fun i (hi : i < j) => HJ.out i j hi hlt)
          have HSt := Lib.hid (HPl.out.step HX.out HNew.out)
          have HC1 := Lib.hid (show ps[it f j a]? = some (-1) by
            rcases HPl.out.told _ HX.out with ⟨h1, _⟩ | ⟨i, h1, h2, _⟩
            · exact h1
            · exact absurd h2 (HNew.out i h1))
          obtain ⟨x, hx⟩ : ∃ x, x = it f j a := ⟨_, rfl⟩
          rw [← hx] at HX HN HSt HC1 ⊢
          clear hx
          have hlx := HX.out
          have hpl : x < ps.length := by rw [HPl.out.len]; exact hlx
          have hd : wr.cell? ⟨w.heap.size, x, none⟩ = some (.int .i64 (-1)) := by
            rw [HR.out.at.2.2.2.2.1 x hpl]
            have := HC1.out
            rw [List.getElem?_eq_getElem hpl] at this
            rw [Option.some.inj this]
          have hfz := HR.out.at.2.2.2.2.2 x
          obtain ⟨m0, m1, m2, m3, m4⟩ := HM.out x hlx
          have HM2 := Lib.hid m2
          have HS := Lib.hid (HR.out.set x (j : Int))
          have HBs := Lib.hid (HB3.out.setCell (p := ⟨w.heap.size, x, none⟩) (Nat.le_refl _) (.int .i64 (j : Int)))
          clear m2 hpl
          go_wp2
          go_roundw
          case rel => exact ⟨j + 1, _, by omega, by go_num, by rw [HM2.out, HN.out], HSt.out, HS.out.1, HBs.out⟩
          case measure => simp [intOf]; omega
        · obtain rfl : j = D + P := by omega
          have HC1 := Lib.hid (show ps[it f (D + P) a]? = some (D : Int) by
            have hb0 := HL.out.1
            rcases HPl.out.told _ HX.out with ⟨_, h2⟩ | ⟨i, h1, h2, h3⟩
            · exact absurd hb0.symm (h2 D (by omega))
            · rw [h3]
              have : i = D := by
                by_cases e1 : i < D
                · exact absurd (h2.trans hb0) (HJ.out i D e1 (by omega))
                · by_cases e2 : D < i
                  · exact absurd (h2.trans hb0).symm (HJ.out D i e2 h1)
                  · omega
              rw [this])
          obtain ⟨x, hx⟩ : ∃ x, x = it f (D + P) a := ⟨_, rfl⟩
          rw [← hx] at HX HC1 ⊢
          clear hx
          have hlx := HX.out
          have hpl : x < ps.length := by rw [HPl.out.len]; exact hlx
          have hd : wr.cell? ⟨w.heap.size, x, none⟩ = some (.int .i64 (D : Int)) := by
            rw [HR.out.at.2.2.2.2.1 x hpl]
            have := HC1.out
            rw [List.getElem?_eq_getElem hpl] at this
            rw [Option.some.inj this]
          clear hpl
          go_wp2
          go_region
          all_goals
            go_wp2
            go_ret2
            exact ⟨by first | rfl | go_num, by first | exact HB3.out | exact HB3.out.drew⟩

theorem quoN_pos (a g : Nat) : (a : Int).tdiv (g : Int) = ((a / g : Nat) : Int) := by
  rw [Int.tdiv_eq_ediv_of_nonneg (by omega)]; rfl
theorem quoN_le (a g : Nat) (ha : a ≤ 1000000000000000000) : a / g ≤ 1000000000000000000 := Nat.le_trans (Nat.div_le_self a g) ha

theorem lowest_w (a b : Nat) (w : World) (ha : a ≤ 1000000000000000000) (hb : b ≤ 1000000000000000000) (hb0 : 0 < b) :
    Calls Try.prog 146 #[.int .i64 (a : Int), .int .i64 (b : Int)] w fun e w' => e = .returned (.tuple #[.int .i64 ((a / Nat.gcd a b : Nat) : Int), .int .i64 ((b / Nat.gcd a b : Nat) : Int)]) ∧ Below w.heap.size w w' := by
  have HG := Lib.hid (fun w' => gcd_w a b w' ha hb)
  have hg0 : 0 < Nat.gcd a b := Nat.gcd_pos_of_pos_right a hb0
  have hgb : Nat.gcd a b ≤ 1000000000000000000 := Nat.le_trans (Nat.gcd_le_right a hb0) hb
  obtain ⟨g, hg⟩ : ∃ g, g = Nat.gcd a b := ⟨_, rfl⟩
  rw [← hg] at HG hg0 hgb ⊢
  clear hg
  have hq1 := quoN_pos a g
  have hq2 := quoN_pos b g
  have hl1 := quoN_le a g ha
  have hl2 := quoN_le b g hb
  obtain ⟨x, hx⟩ : ∃ x, x = a / g := ⟨_, rfl⟩
  obtain ⟨y, hy⟩ : ∃ y, y = b / g := ⟨_, rfl⟩
  rw [← hx] at hq1 hl1 ⊢
  rw [← hy] at hq2 hl2 ⊢
  clear hx hy
  have hmax : max (b : Int) (-(b : Int)) = (b : Int) := by omega
  have hlt : decide ((b : Int) < 0) = false := decide_eq_false (by omega)
  have hgz : ((g : Int) == 0) = false := beq_no (by omega)
  have hgn : ¬ (g : Int) = 0 := by omega
  go_enter Try.func146, Try.ntmps146
  go_wp2_with (go_at_call 81; refine (HG.out _).mono ?_; rintro e w1 ⟨rfl, hb⟩; have HB := Lib.hid hb; clear hb)
  go_region
  all_goals
    go_wp2
    go_ret2
    exact ⟨by first | rfl | go_num, by first | exact HB.out | exact HB.out.drew⟩

theorem rdC_le (b : Nat) : ∀ n, 0 < n → rdC b n ≤ n := by
  intro n
  induction n using Nat.strongRecOn with
  | ind n ih =>
    intro hn
    by_cases h : 1 < Nat.gcd n b
    · have h2 := Nat.div_lt_self hn h
      have h3 := ih _ h2 (rd_pos b n hn)
      rw [rdC_step hn h]
      omega
    · rw [rdC_end h]; omega

theorem period_any (a n b : Nat) (w : World) (hn : 0 < n) (hn2 : n ≤ 2000) (hb0 : 0 < b) (hb : b ≤ 16) (ha : a < n) :
    Calls Try.prog 132 #[frcV (a : Int) (n : Int) (b : Int)] w fun e w' => e = .returned (.tuple #[.int .i64 ((pB a n b : Nat) : Int), .int .i64 ((pA a n b : Nat) : Int)]) ∧ Below w.heap.size w w' := by
  have HB := Lib.hid (alloc_below9 w (.cells #[.int .i64 (a : Int), .int .i64 (n : Int), .int .i64 (b : Int)] 65))
  have HLow := Lib.hid (fun w' => lowest_w a n w' (by omega) (by omega) hn)
  obtain ⟨m, hm⟩ : ∃ m, m = n / Nat.gcd a n := ⟨_, rfl⟩
  have hm0 : 0 < m := by rw [hm, Nat.gcd_comm]; exact rd_pos a n hn
  have hm1 : m ≤ 2000 := by rw [hm]; exact Nat.le_trans (Nat.div_le_self _ _) hn2
  have eB : pB a n b = rdC b m := by rw [hm]; rfl
  have eA : pA a n b = ordN b (rdR b m) := by rw [hm]; rfl
  rw [← hm] at HLow
  rw [eB, eA]
  obtain ⟨x0, hx0⟩ : ∃ x, x = a / Nat.gcd a n := ⟨_, rfl⟩
  rw [← hx0] at HLow
  clear hx0 hm eB eA
  obtain ⟨s1, s2, s3⟩ := rdR_spec b hb0 m hm0
  have HOrd := Lib.hid (fun w' => order_any (rdR b m) b w' s1 (by omega) hb s3)
  have hC := rdC_le b m hm0
  obtain ⟨C, hCe⟩ : ∃ C, C = rdC b m := ⟨_, rfl⟩
  obtain ⟨R, hRe⟩ : ∃ R, R = rdR b m := ⟨_, rfl⟩
  rw [← hRe] at HOrd s1 s2 s3 ⊢
  rw [← hCe] at hC ⊢
  have HC := Lib.hid hCe
  have HRe := Lib.hid hRe
  obtain ⟨O, hO⟩ : ∃ O, O = ordN b R := ⟨_, rfl⟩
  rw [← hO] at HOrd ⊢
  have HGc := Lib.hid (fun y w' (hy : y ≤ 2000) => gcd_w y b w' (by omega) (by omega))
  clear hO hCe hRe s3
  have c0 : (w.alloc (.cells #[.int .i64 (a : Int), .int .i64 (n : Int), .int .i64 (b : Int)] 65)).cell? ⟨w.heap.size, 0, none⟩ = some (.int .i64 (a : Int)) := by simp [go_sem]
  have c1 : (w.alloc (.cells #[.int .i64 (a : Int), .int .i64 (n : Int), .int .i64 (b : Int)] 65)).cell? ⟨w.heap.size, 1, none⟩ = some (.int .i64 (n : Int)) := by simp [go_sem]
  have c2 : (w.alloc (.cells #[.int .i64 (a : Int), .int .i64 (n : Int), .int .i64 (b : Int)] 65)).cell? ⟨w.heap.size, 2, none⟩ = some (.int .i64 (b : Int)) := by simp [go_sem]
  go_enter Try.func132, Try.ntmps132
  go_wp2_with (first | (go_at_call 146; refine (HLow.out _).mono ?_; rintro e w1 ⟨rfl, hb⟩; have HB1 := Lib.hid (Below.step HB.out HB.out.size hb); have c3 := Below.keeps_cell hb c2; clear hb c0 c1 c2) | (go_at_call 81; refine (HGc.out m _ hm1).mono ?_; rintro e w2 ⟨rfl, hb⟩; have HB2 := Lib.hid (Below.step HB1.out HB1.out.size hb); have c4 := Below.keeps_cell hb c3; clear hb c3))
  go_loopw [5, 6, 7] (fun y5 c6 g7 wr => ∃ (y c : Nat), y5 = .int .i64 (y : Int) ∧ c6 = .int .i64 (c : Int) ∧ g7 = .int .i64 ((Nat.gcd y b : Nat) : Int) ∧ 0 < y ∧ y ≤ 2000 ∧ Hid (c + rdC b y = C) ∧ Hid (rdR b y = R) ∧ wr.cell? ⟨w.heap.size, 2, none⟩ = some (.int .i64 (b : Int)) ∧ Below w.heap.size w wr) (fun y5 _ _ _ => (intOf y5).toNat)
  case atStart => exact ⟨m, 0, rfl, rfl, rfl, hm0, hm1, Lib.hid (by rw [HC.out, Nat.zero_add]), Lib.hid HRe.out.symm, c4, HB2.out⟩
  case round =>
    obtain ⟨y, c, rfl, rfl, rfl, y0, y1, HCy, HRy, hc5, hbl⟩ := hrel
    have HB3 := Lib.hid hbl
    clear hbl c4
    have hg0 := Nat.gcd_pos_of_pos_left b y0
    have hg2 := Nat.gcd_le_left b y0
    have hcb : c ≤ 2000 := by have := HCy.out; omega
    by_cases h : 1 < Nat.gcd y b
    · have HC2 := Lib.hid (rdC_step y0 h)
      have HR2 := Lib.hid (rdR_step y0 h)
      have HL := Nat.div_lt_self y0 h
      have HP := rd_pos b y y0
      have hq := quoN_pos y (Nat.gcd y b)
      have hq2 : (y : Int) / ((Nat.gcd y b : Nat) : Int) = ((y / Nat.gcd y b : Nat) : Int) := rfl
      obtain ⟨g, hg⟩ : ∃ g, g = Nat.gcd y b := ⟨_, rfl⟩
      rw [← hg] at h HC2 HR2 HL HP hq hq2 hg0 hg2 ⊢
      clear hg
      obtain ⟨z, hz⟩ : ∃ z, z = y / g := ⟨_, rfl⟩
      rw [← hz] at HC2 HR2 HL HP hq hq2
      clear hz
      have hlt : (1 : Int) < (g : Int) := by omega
      have hgz : ((g : Int) == 0) = false := beq_no (by omega)
      have hgn : ¬ (g : Int) = 0 := by omega
      have HQ2 := Lib.hid hq2
      clear h
      go_wp2_with (go_at_call 81; (try rw [hq]); (try rw [HQ2.out]); refine (HGc.out z _ (by omega)).mono ?_; rintro e w2 ⟨rfl, hb⟩; have HB4 := Lib.hid (Below.step HB3.out HB3.out.size hb); have c6 := Below.keeps_cell hb hc5; clear hb)
      go_roundw
      case rel => exact ⟨z, c + 1, by first | rfl | go_num, by go_num, rfl, HP, by omega, Lib.hid (by have := HCy.out; have := HC2.out; omega), Lib.hid (by rw [← HR2.out]; exact HRy.out), c6, HB4.out⟩
      case measure => simp [intOf]; omega
    · have HE1 := Lib.hid (show c = C by have := HCy.out; rw [rdC_end h] at this; omega)
      have HE2 := Lib.hid (show y = R by have := HRy.out; rw [rdR_end h] at this; exact this)
      obtain rfl := HE1.out
      obtain rfl := HE2.out
      have hlt : ¬ (1 : Int) < ((Nat.gcd y b : Nat) : Int) := by omega
      clear h HE1 HE2
      go_wp2_with (go_at_call 82; refine (HOrd.out _).mono ?_; rintro e w2 ⟨rfl, rfl⟩)
      go_ret2
      exact ⟨rfl, HB3.out⟩

/-- How many digits stand before those that come again, and how many these are. -/
def RPer (a n b : Int) : Option (Int × Int) := if Frc a n b then some (((pB a.toNat n.toNat b.toNat : Nat) : Int), ((pA a.toNat n.toNat b.toNat : Nat) : Int)) else none
abbrev resP (o : Option (Int × Int)) : Value := .tuple #[.int .i64 (o.getD (0, 0)).1, .int .i64 (o.getD (0, 0)).2, .bool o.isSome]

theorem Frc.nats {a n b : Int} (h : Frc a n b) : ∃ A N B : Nat, a = (A : Int) ∧ n = (N : Int) ∧ b = (B : Int) ∧ 0 < N ∧ N ≤ 2000 ∧ 0 < B ∧ B ≤ 16 ∧ A < N ∧ 2 ≤ B := by
  obtain ⟨⟨b0, b1⟩, ⟨n0, n1⟩, a0, a1⟩ := h
  exact ⟨a.toNat, n.toNat, b.toNat, by omega, by omega, by omega, by omega, by omega, by omega, by omega, by omega, by omega⟩

theorem impl_PeriodOf (a n b : Int) (w : World) :
    Calls Try.prog 70 #[.int .i64 a, .int .i64 n, .int .i64 b] w fun e w' => e = .returned (resP (RPer a n b)) ∧ Below w.heap.size w w' := by
  have HB := Lib.hid (alloc_below9 w (.cells #[.int .i64 a, .int .i64 n, .int .i64 b] 65))
  have c0 : (w.alloc (.cells #[.int .i64 a, .int .i64 n, .int .i64 b] 65)).cell? ⟨w.heap.size, 0, none⟩ = some (.int .i64 a) := by simp [go_sem]
  have c1 : (w.alloc (.cells #[.int .i64 a, .int .i64 n, .int .i64 b] 65)).cell? ⟨w.heap.size, 1, none⟩ = some (.int .i64 n) := by simp [go_sem]
  have c2 : (w.alloc (.cells #[.int .i64 a, .int .i64 n, .int .i64 b] 65)).cell? ⟨w.heap.size, 2, none⟩ = some (.int .i64 b) := by simp [go_sem]
  have HV := Lib.hid (fun w' => isValid_any a n b w')
  by_cases h : Frc a n b
  · have hd := decide_eq_true h
    have HR := Lib.hid (show RPer a n b = some (((pB a.toNat n.toNat b.toNat : Nat) : Int), ((pA a.toNat n.toNat b.toNat : Nat) : Int)) from if_pos h)
    rw [HR.out]
    rw [hd] at HV
    obtain ⟨A, N, B, rfl, rfl, rfl, n0, n1, b0, b1, a1, _⟩ := h.nats
    have HP := Lib.hid (fun w' => period_any A N B w' n0 n1 b0 b1 a1)
    obtain ⟨X, hX⟩ : ∃ X, X = ((pB A N B : Nat) : Int) := ⟨_, rfl⟩
    obtain ⟨Y, hY⟩ : ∃ Y, Y = ((pA A N B : Nat) : Int) := ⟨_, rfl⟩
    rw [← hX, ← hY] at HP
    rw [show ((pB (A : Int).toNat (N : Int).toNat (B : Int).toNat : Nat) : Int) = X from hX.symm, show ((pA (A : Int).toNat (N : Int).toNat (B : Int).toNat : Nat) : Int) = Y from hY.symm]
    clear hX hY h HR hd
    go_enter Try.func70, Try.ntmps70
    go_wp2_with (first | (go_at_call 131; refine (HV.out _).mono ?_; rintro e w1 ⟨rfl, hb⟩; have HB1 := Lib.hid (Below.step HB.out HB.out.size hb); have d0 := Below.keeps_cell hb c0; have d1 := Below.keeps_cell hb c1; have d2 := Below.keeps_cell hb c2; clear hb c0 c1 c2) | (go_at_call 132; refine (HP.out _).mono ?_; rintro e w1 ⟨rfl, hb⟩; have HB2 := Lib.hid (Below.step HB1.out HB1.out.size hb); clear hb))
    go_ret3
    exact ⟨rfl, HB2.out⟩
  · have hd := decide_eq_false h
    have HR := Lib.hid (show RPer a n b = none from if_neg h)
    rw [HR.out]
    rw [hd] at HV
    clear h HR hd
    go_enter Try.func70, Try.ntmps70
    go_wp2_with (first | (go_at_call 131; refine (HV.out _).mono ?_; rintro e w1 ⟨rfl, hb⟩; have HB1 := Lib.hid (Below.step HB.out HB.out.size hb); clear hb))
    go_ret3
    exact ⟨rfl, HB1.out⟩

end Go.Proofs.Ytgiabadkbfbilab
