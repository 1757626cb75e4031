/-
  Joint text of DR, CW, CN: what each proves stands ahead of it.
-/
import Derived.Test.YtlbjeiaihenjkaaGreatDoorJ21
import Derived.Test.YtlbjeiaihenjkaaGreatDoorJ17
import Derived.Test.YtlbjeiaihenjkaaGreatDoorJ16
/- from DR: DigitalRoot and SameDigits.  -/
namespace Go.Proofs.YtlbjeiaihenjkaaGreatDoor
open Go.RowKit
set_option linter.unusedVariables false
set_option linter.unusedSimpArgs false

def RDigitalRoot (b n : Int) : Int := dr b n
def LDigitCountsR (b n : Int) : List Int := cnt b (dgs b n)

theorem digitalRoot_any (n b : Int) (w : World) (h0 : 0 ≤ n) (h1 : n ≤ 1000000000000) (hb : 2 ≤ b) (hb' : b ≤ 16) :
    Calls Tryz.prog 180 #[.int .i64 b, .int .i64 n] w fun e w' => e = .returned (.int .i64 (dr b n)) ∧ Below w.heap.size w w' := by
  go_enter Tryz.func180, Tryz.ntmps180
  go_wp2
  go_loopw [1] (fun c wr => ∃ m : Int, 0 ≤ m ∧ m ≤ 1000000000000 ∧ c = .int .i64 m ∧ dr b m = dr b n ∧ Below w.heap.size w wr) (fun c _ => (intOf c).toNat)
  case atStart => exact ⟨n, h0, h1, rfl, rfl, Below.refl _ _⟩
  case round =>
    obtain ⟨m, m0, m1, rfl, hd, hbl⟩ := hrel
    have HD := Lib.hid hd
    have HB := Lib.hid hbl
    clear hd hbl
    by_cases hm : b ≤ m
    · have hs := Lib.hid (dgs_sum b m hb m0)
      have hst := Lib.hid (dr_step b m hb hm)
      go_wp2_with fail
      refine (digitSum_any m b _ m0 m1 hb hb').mono ?_
      rintro e w1 ⟨rfl, hb1⟩
      have HB1 := Lib.hid (Below.step HB.out HB.out.size hb1)
      clear hb1
      go_wp2
      go_roundw
      case rel => exact ⟨_, hs.out.1, by have := hs.out.2.1; omega, rfl, by rw [← hst.out, HD.out], HB1.out⟩
      case measure =>
        have h2 := hs.out.2.2 hm
        have h3 := hs.out.1
        simp only [intOf]
        omega
    · have hst := Lib.hid (dr_end b m hm)
      go_wp2
      go_ret
      exact ⟨ret_int (by rw [← HD.out, hst.out]), HB.out⟩

theorem spec_DigitalRoot (n b : Int) (w : World) :
    Calls Tryz.prog 101 #[.int .i64 n, .int .i64 b] w fun e w' => e = .returned (optRes (askI RDigitalRoot n b)) ∧ Below w.heap.size w w' := by
  by_cases hq : Num n ∧ Bas b
  · have a1 : decide (Num n ∧ Bas b) = true := decide_eq_true hq
    have hR := Lib.hid (show askI RDigitalRoot n b = some (dr b n) from if_pos hq)
    obtain ⟨⟨h0, h1⟩, hb, hb'⟩ := hq
    go_enter Tryz.func101, Tryz.ntmps101
    go_wp2_with (go_at_call 53; refine (dgAsked_any _ _ _).mono ?_; rintro e w1 ⟨rfl, rfl⟩)
    go_loopw [0] (fun c wr => ∃ m : Int, 0 ≤ m ∧ m ≤ 1000000000000 ∧ c = .int .i64 m ∧ dr b m = dr b n ∧ Below w.heap.size w wr) (fun c _ => (intOf c).toNat)
    case atStart => exact ⟨n, h0, h1, rfl, rfl, Below.refl _ _⟩
    case round =>
      obtain ⟨m, m0, m1, rfl, hd, hbl⟩ := hrel
      have HD := Lib.hid hd
      have HB := Lib.hid hbl
      clear hd hbl
      by_cases hm : b ≤ m
      · have hs := Lib.hid (dgs_sum b m hb m0)
        have hst := Lib.hid (dr_step b m hb hm)
        have hall := Lib.hid (dgs_all b m hb m0)
        have hlen := Lib.hid (dgs_len40 b m hb m0 m1)
        go_wp2_with fail
        refine (dgOf_s m b _ m0 m1 hb hb').mono ?_
        rintro e w1 ⟨g, cap, rfl, hr, hb1⟩
        have HR := Lib.hid hr
        have HB1 := Lib.hid (Below.step HB.out HB.out.size hb1)
        clear hb1 hr
        go_wp2_with fail
        refine (dgSum_any _ _ _ _ HR.out (fun x hx => by have := hall.out x hx; omega) (by have := hlen.out; omega)).mono ?_
        rintro e w2 ⟨rfl, rfl⟩
        go_wp2
        go_roundw
        case rel => exact ⟨_, hs.out.1, by have := hs.out.2.1; omega, rfl, by rw [← hst.out, HD.out], HB1.out⟩
        case measure =>
          have h2 := hs.out.2.2 hm
          have h3 := hs.out.1
          simp only [intOf]
          omega
      · have hst := Lib.hid (dr_end b m hm)
        go_wp2
        go_ret2
        exact ⟨by rw [hR.out, ← HD.out, hst.out]; rfl, HB.out⟩
  · have a1 : decide (Num n ∧ Bas b) = false := decide_eq_false hq
    have hR := Lib.hid (show askI RDigitalRoot n b = none from if_neg hq)
    clear hq
    go_enter Tryz.func101, Tryz.ntmps101
    go_wp2_with (go_at_call 53; refine (dgAsked_any _ _ _).mono ?_; rintro e w1 ⟨rfl, rfl⟩)
    go_ret2
    exact ⟨by rw [hR.out]; rfl, Below.refl _ _⟩

end Go.Proofs.YtlbjeiaihenjkaaGreatDoor

/- from CW: CountRearranged: choose and the model's count.  -/
namespace Go.Proofs.YtlbjeiaihenjkaaGreatDoor
open Go.RowKit
set_option linter.unusedVariables false
set_option linter.unusedSimpArgs false

theorem choose_any (n k : Nat) (w : World) (hk : k ≤ n) (hn : n ≤ 40) :
    Calls Tryz.prog 226 #[.int .i64 (n : Int), .int .i64 (k : Int)] w fun e w' => e = .returned (.int .i64 ((bin n k : Nat) : Int)) ∧ w = w' := by
  go_enter Tryz.func226, Tryz.ntmps226
  go_wp2
  go_loop [5, 8] (fun v i => ∃ j : Nat, j ≤ k ∧ i = .int .i64 j ∧ v = .int .i64 ((bin n j : Nat) : Int)) (fun _ i => k - (intOf i).toNat)
  case atStart => exact ⟨0, Nat.zero_le _, rfl, by rw [bin_zero]; rfl⟩
  case round =>
    obtain ⟨j, hj, rfl, rfl⟩ := hrel
    by_cases hlt : j < k
    · obtain ⟨b0, b1⟩ := choose_bd n j hn (by omega)
      have HS := Lib.hid (choose_step n j (by omega))
      go_wp2
      go_round
      case rel => exact ⟨j + 1, by omega, by go_num, by rw [HS.out]⟩
      case measure => simp [intOf]; omega
    · obtain rfl : j = k := by omega
      go_wp2
      go_ret
      exact ⟨rfl, rfl⟩

/-- Natural numbers as the cells hold them. -/
def ints (cs : List Nat) : List Int := cs.map fun (c : Nat) => (c : Int)
theorem ints_len (cs : List Nat) : (ints cs).length = cs.length := by simp [ints]
theorem ints_at (cs : List Nat) (k : Nat) (h : k < (ints cs).length) : (ints cs)[k] = ((cs[k]'(by simpa [ints] using h) : Nat) : Int) := by simp [ints]

theorem dgWays_any (v : Value) (cs : List Nat) (B : Nat) (w : World) (h : Rd w B v (ints cs)) (hsum : cs.sum ≤ 40) (hM : wP cs 0 ≤ 100000000000000) (hl : cs.length ≤ 1000) :
    Calls Tryz.prog 153 #[v] w fun e w' => e = .returned (.int .i64 ((wP cs 0 : Nat) : Int)) ∧ w = w' := by
  rcases h.cases with ⟨rfl, hx⟩ | ⟨g, cap, rfl, _, _, _, _, hc, _⟩
  · have : cs = [] := by simpa [ints] using hx
    subst this
    go_enter Tryz.func153, Tryz.ntmps153
    go_wp2
    refine wp_loop_rounds 1 ?_
    rw [rounds_succ]
    go_wp2
    go_ret
    exact ⟨rfl, rfl⟩
  · have HC := Lib.hid hc
    have HL := Lib.hid (ints_len cs)
    clear hc h
    rw [HL.out]
    obtain ⟨M, hMd⟩ : ∃ M, M = wP cs 0 := ⟨_, rfl⟩
    have HM := Lib.hid hMd
    rw [← hMd] at hM ⊢
    clear hMd
    go_enter Tryz.func153, Tryz.ntmps153
    go_wp2
    go_loop [3, 4, 10] (fun v n i => ∃ k W : Nat, k ≤ cs.length ∧ i = .int .i64 k ∧ n = .int .i64 ((cs.take k).sum : Nat) ∧ v = .int .i64 (W : Nat) ∧ W * wP (cs.drop k) (cs.take k).sum = M) (fun _ _ i => cs.length - (intOf i).toNat)
    case atStart => exact ⟨0, 1, Nat.zero_le _, rfl, rfl, rfl, by rw [HM.out]; simp⟩
    case round =>
      obtain ⟨k, W, hk, rfl, rfl, rfl, hw⟩ := hrel
      have HW := Lib.hid hw
      clear hw
      obtain ⟨s, hs⟩ : ∃ s, s = (cs.take k).sum := ⟨_, rfl⟩
      have hsle : s ≤ 40 := by rw [hs]; exact Nat.le_trans (nsum_take_le cs k) hsum
      have HS := Lib.hid hs
      rw [← hs]
      clear hs
      by_cases hlt : k < cs.length
      · obtain ⟨c, hcd⟩ : ∃ c, c = cs[k] := ⟨_, rfl⟩
        have hcell : w.cell? ⟨g, k, none⟩ = some (.int .i64 (c : Int)) := by rw [HC.out k (by rw [HL.out]; exact hlt), ints_at, hcd]
        have HT := Lib.hid (show (cs.take (k + 1)).sum = s + c by rw [nsum_take cs k hlt, ← HS.out, hcd])
        have hsc : s + c ≤ 40 := by rw [← HT.out]; exact Nat.le_trans (nsum_take_le cs (k + 1)) hsum
        have HP := Lib.hid (show W * bin (s + c) c * wP (cs.drop (k + 1)) (s + c) = M by have := HW.out; rw [← HS.out, wP_step cs k s hlt, ← hcd, ← Nat.mul_assoc] at this; exact this)
        have HB := Lib.hid (show W * bin (s + c) c ≤ M by
          have h1 := wP_pos (cs.drop (k + 1)) (s + c)
          have h2 := HP.out
          rw [← h2]
          exact Nat.le_mul_of_pos_right _ h1)
        clear hcd
        go_wp2
        go_loop [3, 4, 7] (fun v n i => ∃ j V : Nat, j ≤ c ∧ i = .int .i64 ((j : Int) + 1) ∧ n = .int .i64 ((s : Int) + (j : Int)) ∧ v = .int .i64 (V : Int) ∧ V = W * bin (s + j) j) (fun _ _ i => (c + 1) - (intOf i).toNat)
        case atStart => exact ⟨0, W, Nat.zero_le _, by simp, by simp, rfl, by rw [bin_zero, Nat.mul_one]⟩
        case round =>
          obtain ⟨j, V, hj, rfl, rfl, rfl, hV⟩ := hrel
          have HV := Lib.hid hV
          clear hV
          by_cases hjc : j < c
          · have hbm := bin_mono s c j (by omega)
            have hq := ways_bd W s j M (Nat.le_trans (Nat.mul_le_mul_left W hbm) HB.out) hM (by omega)
            have hst := ways_step W s j
            rw [← HV.out] at hq hst
            obtain ⟨q0, q1⟩ := hq
            have HST := Lib.hid hst
            clear hbm hst
            go_wp2
            go_round
            case rel => exact ⟨j + 1, W * bin (s + (j + 1)) (j + 1), by omega, by go_num, by go_num, by rw [HST.out], rfl⟩
            case measure => simp [intOf]; omega
          · obtain rfl : j = c := by omega
            go_wp2
            go_round
            case rel => exact ⟨k + 1, V, by omega, by go_num, by rw [HT.out]; go_num, rfl, by rw [HT.out, HV.out]; exact HP.out⟩
            case measure => simp [intOf]; omega
      · obtain rfl : k = cs.length := by omega
        go_wp2
        go_ret
        have hfin : W = M := by have := HW.out; rw [List.drop_length] at this; simpa [wP] using this
        exact ⟨by rw [hfin]; rfl, rfl⟩

end Go.Proofs.YtlbjeiaihenjkaaGreatDoor

/- from CN: The counts of a number's digits: plain mathematics.  -/
namespace Go.Proofs.YtlbjeiaihenjkaaGreatDoor
set_option linter.unusedVariables false
set_option linter.unusedSimpArgs false

theorem sum_set1 (ys : List Int) (d : Nat) (h : d < ys.length) (v : Int) : (ys.set d v).sum = ys.sum - ys[d] + v := by
  induction ys generalizing d with
  | nil => simp at h
  | cons y ys ih =>
    cases d with
    | zero => simp; omega
    | succ d =>
      have := ih d (by simpa using h)
      simp only [List.set_cons_succ, List.sum_cons, List.getElem_cons_succ, this]
      omega

theorem cntF_sum : ∀ (xs ys : List Int), (∀ x ∈ xs, 0 ≤ x ∧ x < ys.length) → (cntF xs ys).sum = ys.sum + xs.length := by
  intro xs
  induction xs with
  | nil => intro ys _; simp [cntF]
  | cons d ds ih =>
    intro ys h
    obtain ⟨h0, h1⟩ := h d (by simp)
    have hd : d.toNat < ys.length := by omega
    rw [cntF, ih (bump ys d) (fun x hx => by rw [bump_len]; exact h x (by simp [hx]))]
    have : (bump ys d).sum = ys.sum + 1 := by
      unfold bump
      rw [sum_set1 ys d.toNat hd]
      simp [hd]
      omega
    rw [this, List.length_cons]
    push_cast
    omega

theorem bump_ge (ys : List Int) (d : Int) (t : Nat) : ys.getD t 0 ≤ (bump ys d).getD t 0 := by
  unfold bump
  by_cases ht : t < ys.length
  · by_cases e : d.toNat = t
    · subst e
      simp [ht]
      omega
    · simp [ht, List.getElem_set, e]
  · simp [Nat.not_lt.1 ht]

theorem cntF_ge : ∀ (xs ys : List Int) (t : Nat), ys.getD t 0 ≤ (cntF xs ys).getD t 0 := by
  intro xs
  induction xs with
  | nil => intro ys t; exact Int.le_refl _
  | cons d ds ih => intro ys t; rw [cntF]; exact Int.le_trans (bump_ge ys d t) (ih _ t)

theorem cntF_mem : ∀ (xs ys : List Int) (t : Nat), t < ys.length → (t : Int) ∈ xs → ys.getD t 0 + 1 ≤ (cntF xs ys).getD t 0 := by
  intro xs
  induction xs with
  | nil => intro ys t _ h; simp at h
  | cons d ds ih =>
    intro ys t ht h
    rw [cntF]
    by_cases e : d = (t : Int)
    · subst e
      refine Int.le_trans ?_ (cntF_ge ds _ t)
      rw [bump_nat ys t ht]
      simp [ht]
    · have h2 : (t : Int) ∈ ds := by
        rcases List.mem_cons.1 h with h | h
        · exact absurd h.symm e
        · exact h
      exact Int.le_trans (Int.add_le_add_right (bump_ge ys d t) 1) (ih _ t (by rw [bump_len]; exact ht) h2)

theorem cntF_nonneg : ∀ (xs ys : List Int), (∀ y ∈ ys, 0 ≤ y) → ∀ y ∈ cntF xs ys, 0 ≤ y := by
  intro xs
  induction xs with
  | nil => intro ys h; exact h
  | cons d ds ih =>
    intro ys h
    rw [cntF]
    refine ih _ (fun y hy => ?_)
    rcases List.mem_or_eq_of_mem_set hy with hy | rfl
    · exact h y hy
    · by_cases hd : d.toNat < ys.length
      · have h1 : ys.getD d.toNat 0 = ys[d.toNat] := by simp [hd]
        have := h _ (List.getElem_mem hd)
        rw [h1]; omega
      · have h1 : ys.getD d.toNat 0 = 0 := by simp [Nat.not_lt.1 hd]
        rw [h1]; omega

theorem revD_nonzero (b : Int) (hb : 2 ≤ b) : ∀ (k : Nat) (n : Int), n.toNat ≤ k → 1 ≤ n → ∃ x ∈ revD b n, x ≠ 0 := by
  intro k
  induction k with
  | zero => intro n hk h0; omega
  | succ k ih =>
    intro n hk h0
    by_cases h : b ≤ n
    · have h2 := div_lt b n hb h
      have h4 := div_pos b n hb h
      obtain ⟨x, hx, hx0⟩ := ih (n / b) (by omega) h4
      rw [revD_big b n hb h]
      exact ⟨x, by simp [hx], hx0⟩
    · rw [revD_small b n h]
      exact ⟨n, by simp, by omega⟩

theorem revD_pow (b : Int) (hb : 2 ≤ b) : ∀ (k : Nat) (n : Int), n.toNat ≤ k → 1 ≤ n → b ^ ((revD b n).length - 1) ≤ n := by
  intro k
  induction k with
  | zero => intro n hk h0; omega
  | succ k ih =>
    intro n hk h0
    by_cases h : b ≤ n
    · have h2 := div_lt b n hb h
      have h4 := div_pos b n hb h
      have h5 := ih (n / b) (by omega) h4
      have h6 := div_mod b n
      have h7 := mod_bd b n hb
      have hne : 1 ≤ (revD b (n / b)).length := by
        cases hh : revD b (n / b) with
        | nil => exact absurd hh (revD_ne _ _)
        | cons a t => simp
      rw [revD_big b n hb h, List.length_cons, Nat.add_sub_cancel]
      obtain ⟨m, hm⟩ : ∃ m, (revD b (n / b)).length = m + 1 := ⟨_, (Nat.succ_pred_eq_of_pos hne).symm⟩
      rw [hm] at h5 ⊢
      rw [Nat.add_sub_cancel] at h5
      rw [Int.pow_succ, Int.mul_comm]
      have h8 := Int.mul_le_mul_of_nonneg_left h5 (show 0 ≤ b by omega)
      omega
    · rw [revD_small b n h]
      simpa using h0

theorem ints_back (xs : List Int) (h : ∀ x ∈ xs, 0 ≤ x) : ints (xs.map Int.toNat) = xs := by
  induction xs with
  | nil => rfl
  | cons x xs ih =>
    have h0 := h x (by simp)
    have h1 := ih (fun y hy => h y (by simp [hy]))
    simp only [ints, List.map_cons, List.map_map] at h1 ⊢
    rw [h1]
    congr 1
    omega
theorem ints_sum (cs : List Nat) : (ints cs).sum = ((cs.sum : Nat) : Int) := by
  induction cs with
  | nil => rfl
  | cons c cs ih =>
    simp only [ints, List.map_cons, List.sum_cons] at ih ⊢
    rw [ih]
    push_cast
    rfl
theorem ints_toNat (cs : List Nat) : (ints cs).map Int.toNat = cs := by
  induction cs with
  | nil => rfl
  | cons c cs ih => simp only [ints, List.map_cons, List.map_map] at ih ⊢; rw [ih]; simp

theorem counts_ok (b n : Int) (hb : 2 ≤ b) (hb' : b ≤ 16) (n0 : 0 ≤ n) (n1 : n ≤ 1000000000000) :
    ∃ (c : Nat) (cs : List Nat), cnt b (dgs b n) = ints (c :: cs) ∧ (c :: cs).sum ≤ 40 ∧ (c :: cs).length ≤ 16 ∧ wP (c :: cs) 0 ≤ 100000000000000 ∧ (1 ≤ n → 1 ≤ cs.sum) := by
  have hall := dgs_all b n hb n0
  have hz : ∀ y ∈ List.replicate b.toNat (0 : Int), 0 ≤ y := fun y hy => by rw [(List.mem_replicate.1 hy).2]; omega
  have hnn := cntF_nonneg (dgs b n) _ hz
  have hlen : (cnt b (dgs b n)).length = b.toNat := cnt_len b _
  have hsum : (cnt b (dgs b n)).sum = ((dgs b n).length : Int) := by
    rw [cnt, cntF_sum _ _ (fun x hx => by have := hall x hx; simp; omega)]
    simp
  have hback : ints ((cnt b (dgs b n)).map Int.toNat) = cnt b (dgs b n) := ints_back _ hnn
  have h40 := dgs_len40 b n hb n0 n1
  cases hcs : (cnt b (dgs b n)).map Int.toNat with
  | nil =>
    have := congrArg List.length hcs
    rw [List.length_map, hlen] at this
    simp at this
    omega
  | cons c cs =>
    rw [hcs] at hback
    have hs1 : (c :: cs).sum = (dgs b n).length := by
      have := ints_sum (c :: cs)
      rw [hback, hsum] at this
      omega
    have hl1 : (c :: cs).length = b.toNat := by rw [← hcs, List.length_map, hlen]
    refine ⟨c, cs, hback.symm, by omega, by omega, ?_, ?_⟩
    · rw [wP_rP]
      refine Nat.le_trans (rP_le _) ?_
      rw [hl1, hs1]
      by_cases h1 : 1 ≤ n
      · have hp := revD_pow b hb n.toNat n (Nat.le_refl _) h1
        have hd : (dgs b n).length = ((revD b n).length - 1) + 1 := by
          rw [dgs_len]
          have := dgs_pos b n
          rw [dgs_len] at this
          omega
        rw [hd, Nat.pow_succ]
        have e : ((b.toNat ^ ((revD b n).length - 1) : Nat) : Int) = b ^ ((revD b n).length - 1) := by
          rw [Int.natCast_pow]
          congr 1
          omega
        have h2 : b.toNat ^ ((revD b n).length - 1) ≤ 1000000000000 := by
          have : ((b.toNat ^ ((revD b n).length - 1) : Nat) : Int) ≤ 1000000000000 := by rw [e]; omega
          omega
        have h3 : b.toNat ^ ((revD b n).length - 1) * b.toNat ≤ 1000000000000 * 16 := Nat.mul_le_mul h2 (by omega)
        omega
      · have h0 : n = 0 := by omega
        subst h0
        have hd : (dgs b 0).length = 1 := by rw [dgs_len, revD_zero b hb]; rfl
        rw [hd, Nat.pow_one]
        omega
    · intro h1
      obtain ⟨x, hx, hx0⟩ := revD_nonzero b hb n.toNat n (Nat.le_refl _) h1
      have hx' : x ∈ dgs b n := by simpa [dgs] using hx
      have hxb := hall x hx'
      obtain ⟨t, rfl⟩ : ∃ t : Nat, x = (t : Int) := ⟨x.toNat, by omega⟩
      have hm := cntF_mem (dgs b n) (List.replicate b.toNat 0) t (by simp; omega) hx'
      have hm2 : 1 ≤ (cnt b (dgs b n)).getD t 0 := by
        have hz0 : (List.replicate b.toNat (0 : Int)).getD t 0 = 0 := by simp [List.getElem?_replicate]; split <;> rfl
        rw [hz0] at hm
        simpa [cnt] using hm
      obtain ⟨u, rfl⟩ : ∃ u, t = u + 1 := ⟨t - 1, by omega⟩
      rw [← hback] at hm2
      have hu : u < cs.length := by
        rcases Nat.lt_or_ge u cs.length with h | h
        · exact h
        · simp [ints, h] at hm2
      have hm3 : 1 ≤ cs[u] := by
        simp [ints, hu] at hm2
        omega
      have h5 := nsum_drop cs u hu
      have h6 : cs.sum = (cs.take u).sum + (cs.drop u).sum := by rw [← List.sum_append, List.take_append_drop]
      omega

end Go.Proofs.YtlbjeiaihenjkaaGreatDoor
