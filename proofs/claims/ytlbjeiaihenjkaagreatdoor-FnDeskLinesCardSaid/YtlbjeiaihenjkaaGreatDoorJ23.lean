/-
  Joint text of CR, G4, B, G: what each proves stands ahead of it.
-/
import Derived.Test.YtlbjeiaihenjkaaGreatDoorJ22
import Derived.Test.YtlbjeiaihenjkaaGreatDoorJ03
import Derived.Test.YtlbjeiaihenjkaaGreatDoorJ06
import Derived.Test.YtlbjeiaihenjkaaGreatDoorJ02
/- from CR: CountRearranged: the program, the model.  -/
namespace Go.Proofs.YtlbjeiaihenjkaaGreatDoor
open Go.RowKit
set_option linter.unusedVariables false
set_option linter.unusedSimpArgs false

def prodW2 (cs : List Nat) : Nat := match cs with
  | [] => 1
  | c :: cs => bin (c + cs.sum - 1) c * rP cs cs.sum
/-- What CountRearranged answers. -/
def RCountRearranged (b n : Int) : Int := if n = 0 then 1 else ((prodW2 ((cnt b (dgs b n)).map Int.toNat) : Nat) : Int)

theorem RCR_eq {b n : Int} {c : Nat} {cs : List Nat} (h : cnt b (dgs b n) = ints (c :: cs)) (hn : ¬ n = 0) : RCountRearranged b n = ((bin (c + cs.sum - 1) c * rP cs cs.sum : Nat) : Int) := by
  rw [RCountRearranged, if_neg hn, h, ints_toNat]
  rfl

theorem prod_le (c : Nat) (cs : List Nat) (hS : 1 ≤ cs.sum) : bin (c + cs.sum - 1) c * rP cs cs.sum ≤ wP (c :: cs) 0 := by
  rcases Nat.eq_zero_or_pos c with h | h
  · subst h
    rw [ways_same0]
    exact Nat.le_refl _
  · rw [ways_same c cs hS h]
    omega

theorem countRearranged_any (n b : Int) (w : World) (h0 : 0 ≤ n) (h1 : n ≤ 1000000000000) (hb : 2 ≤ b) (hb' : b ≤ 16) :
    Calls Tryz.prog 181 #[.int .i64 b, .int .i64 n] w fun e w' => e = .returned (.int .i64 (RCountRearranged b n)) ∧ Below w.heap.size w w' := by
  by_cases hz : n = 0
  · subst hz
    go_enter Tryz.func181, Tryz.ntmps181
    go_wp2
    go_ret
    exact ⟨ret_int (by simp [RCountRearranged]), Below.refl _ _⟩
  · have hnz := beq_no hz
    obtain ⟨c, cs, hcnt, hsum, hlen, hM0, hS⟩ := counts_ok b n hb hb' h0 h1
    have hS1 : 1 ≤ cs.sum := hS (by omega)
    obtain ⟨R, hRd⟩ : ∃ R, R = bin (c + cs.sum - 1) c * rP cs cs.sum := ⟨_, rfl⟩
    have HRes := Lib.hid (show RCountRearranged b n = ((R : Nat) : Int) by rw [hRd]; exact RCR_eq hcnt hz)
    have HR := Lib.hid hRd
    have hRle : R ≤ 100000000000000 := by rw [hRd]; exact Nat.le_trans (prod_le c cs hS1) hM0
    have HC := Lib.hid hcnt
    have hsum' : c + cs.sum ≤ 40 := by simpa using hsum
    have hlc : cs.length ≤ 15 := by simp at hlen; omega
    have HL := Lib.hid (show (ints (c :: cs)).length = cs.length + 1 by rw [ints_len]; rfl)
    have HSum := Lib.hid (show (ints (c :: cs)).sum = (c : Int) + (cs.sum : Int) by rw [ints_sum]; simp)
    have hall := Lib.hid (show ∀ x ∈ ints (c :: cs), 0 ≤ x ∧ x ≤ 1000000 by
      intro x hx
      obtain ⟨q, hq, rfl⟩ := List.mem_map.1 hx
      have : q ≤ (c :: cs).sum := by
        obtain ⟨i, hi, rfl⟩ := List.getElem_of_mem hq
        have h1 := nsum_drop (c :: cs) i hi
        have h2 : (c :: cs).sum = ((c :: cs).take i).sum + ((c :: cs).drop i).sum := by rw [← List.sum_append, List.take_append_drop]
        omega
      omega)
    clear hRd hcnt hz hsum hlen hM0 hS
    rw [HRes.out]
    go_enter Tryz.func181, Tryz.ntmps181
    go_wp2_with fail
    refine (digitCounts_any _ _ _ h0 h1 hb hb').mono ?_
    rintro e w1 ⟨u, rfl, hr, hbl⟩
    rw [HC.out] at hr
    rcases hr.cases with ⟨_, hx⟩ | ⟨g, cap, rfl, hg, _, hcap, _, hc, _⟩
    · simp [ints] at hx
    have HX := Lib.hid hr
    have HB := Lib.hid hbl
    have HCell := Lib.hid hc
    rw [HL.out] at hcap
    rw [HL.out]
    clear hr hbl hc
    have hc0 : w1.cell? ⟨g, 0, none⟩ = some (.int .i64 (c : Int)) := by rw [HCell.out 0 (by rw [HL.out]; omega), ints_at]; rfl
    go_wp2_with fail
    have HX2 := Lib.hid (show Rd w1 w.heap.size (.slice (some ⟨g, 0, none⟩) (cs.length + 1) cap) (ints (c :: cs)) by have := HX.out; rw [HL.out] at this; exact this)
    refine (sumOf_any _ _ _ _ HX2.out hall.out (by rw [HL.out]; omega)).mono ?_
    rintro e w2 ⟨rfl, rfl⟩
    rw [HSum.out]
    have hci : 0 ≤ (c : Int) := by omega
    have hsi : 1 ≤ (cs.sum : Int) := by omega
    have hti : (c : Int) + (cs.sum : Int) ≤ 40 := by omega
    have hl1 : 1 ≤ cs.length := by
      cases cs with
      | nil => simp at hS1
      | cons a t => simp
    go_wp2_with fail
    rw [show ((c : Int) + (cs.sum : Int) - 1) = ((c + cs.sum - 1 : Nat) : Int) by omega]
    refine (choose_any (c + cs.sum - 1) c _ (by omega) (by omega)).mono ?_
    rintro e w3 ⟨rfl, rfl⟩
    obtain ⟨V0, hV0⟩ : ∃ V0, V0 = bin (c + cs.sum - 1) c := ⟨_, rfl⟩
    rw [← hV0]
    have HV0 := Lib.hid hV0
    clear hV0
    go_wp2
    go_loop [6, 7, 31] (fun p v i => ∃ k V : Nat, k ≤ cs.length ∧ i = .int .i64 k ∧ p = .int .i64 ((cs.drop k).sum : Nat) ∧ v = .int .i64 (V : Int) ∧ V * rP (cs.drop k) (cs.drop k).sum = R) (fun _ _ i => cs.length - (intOf i).toNat)
    case atStart => exact ⟨0, V0, Nat.zero_le _, rfl, by simp; try omega, rfl, by rw [HR.out, HV0.out]; rfl⟩
    case round =>
      obtain ⟨k, V, hk, rfl, rfl, rfl, hv⟩ := hrel
      have HV := Lib.hid hv
      clear hv
      by_cases hlt : k < cs.length
      · obtain ⟨q, hq⟩ : ∃ q, q = cs[k] := ⟨_, rfl⟩
        have HD := Lib.hid (show (cs.drop k).sum = q + (cs.drop (k + 1)).sum by rw [hq]; exact nsum_drop cs k hlt)
        have hcell : w1.cell? ⟨g, 1 + k, none⟩ = some (.int .i64 (q : Int)) := by rw [HCell.out (1 + k) (by rw [HL.out]; omega), ints_at, hq]; simp [Nat.add_comm 1 k]
        have hdle : (cs.drop k).sum ≤ 40 := by
          have h2 : cs.sum = (cs.take k).sum + (cs.drop k).sum := by rw [← List.sum_append, List.take_append_drop]
          omega
        have HP := Lib.hid (show V * bin (cs.drop k).sum q * rP (cs.drop (k + 1)) (cs.drop (k + 1)).sum = R by
          have h1 := HV.out
          rw [rP_step cs k _ hlt, ← hq, ← Nat.mul_assoc] at h1
          rw [show (cs.drop k).sum - q = (cs.drop (k + 1)).sum by rw [HD.out]; omega] at h1
          exact h1)
        have hle : q ≤ (cs.drop k).sum := by rw [HD.out]; omega
        obtain ⟨p, hp⟩ : ∃ p, p = (cs.drop k).sum := ⟨_, rfl⟩
        rw [← hp] at hdle hle ⊢
        have HPp := Lib.hid hp
        clear hp hq
        go_wp2_with fail
        refine (choose_any p q _ hle hdle).mono ?_
        rintro e w4 ⟨rfl, rfl⟩
        have hVb : V * bin p q ≤ R := by
          have h1 := HP.out
          rw [← HPp.out] at h1
          rw [← h1]
          exact Nat.le_mul_of_pos_right _ (rP_ge _)
        obtain ⟨X, hX⟩ : ∃ X, X = bin p q := ⟨_, rfl⟩
        rw [← hX] at hVb ⊢
        have HXX := Lib.hid hX
        clear hX
        have hvi : 0 ≤ (V : Int) * (X : Int) ∧ (V : Int) * (X : Int) ≤ 100000000000000 := by
          rw [← Int.natCast_mul]
          omega
        obtain ⟨v0, v1⟩ := hvi
        go_wp2
        go_round
        case rel => exact ⟨k + 1, V * X, by omega, by go_num, by have := HD.out; rw [← HPp.out] at this; exact congrArg (Value.int .i64) (by omega), by rw [Int.natCast_mul], by have := HP.out; rw [← HPp.out, ← HXX.out] at this; exact this⟩
        case measure => simp [intOf]; omega
      · obtain rfl : k = cs.length := by omega
        go_wp2
        go_ret
        have hfin : V = R := by have := HV.out; rw [List.drop_length] at this; simpa [rP] using this
        exact ⟨by rw [hfin]; rfl, HB.out⟩

theorem spec_CountRearranged (n b : Int) (w : World) :
    Calls Tryz.prog 102 #[.int .i64 n, .int .i64 b] w fun e w' => e = .returned (optRes (askI RCountRearranged n b)) ∧ Below w.heap.size w w' := by
  by_cases hq : Num n ∧ Bas b
  · have a1 : decide (Num n ∧ Bas b) = true := decide_eq_true hq
    have hR := Lib.hid (show askI RCountRearranged n b = some (RCountRearranged b n) from if_pos hq)
    obtain ⟨⟨n0, n1⟩, b0, b1⟩ := hq
    have halln := Lib.hid (dgs_all b n b0 n0)
    have hlenn := Lib.hid (dgs_len40 b n b0 n0 n1)
    obtain ⟨c, cs, hcnt, hsum, hlen, hM0, hS⟩ := counts_ok b n b0 b1 n0 n1
    have HC := Lib.hid hcnt
    have HL := Lib.hid (show (ints (c :: cs)).length = cs.length + 1 by rw [ints_len]; rfl)
    have hsum' : c + cs.sum ≤ 40 := by simpa using hsum
    by_cases hz : n = 0
    · have hnz := beq_yes hz
      have HRes := Lib.hid (show RCountRearranged b n = 1 by rw [RCountRearranged, if_pos hz])
      clear hcnt hsum hlen hM0 hS hz
      go_enter Tryz.func102, Tryz.ntmps102
      go_wp2_with (go_at_call 53; refine (dgAsked_any _ _ _).mono ?_; rintro e w1 ⟨rfl, rfl⟩)
      refine (dgOf_s n b _ n0 n1 b0 b1).mono ?_
      rintro e w1 ⟨g, cap, rfl, hr, hbl⟩
      have HR := Lib.hid hr
      have HB := Lib.hid hbl
      clear hr hbl
      go_wp2_with fail
      refine (dgCounts_any _ _ _ _ _ HR.out b0 b1 halln.out (by have := hlenn.out; omega)).mono ?_
      rintro e w2 ⟨u, rfl, hr, hbl⟩
      have HB2 := Lib.hid (Below.step HB.out HB.out.size hbl)
      clear hr hbl
      go_wp2
      go_ret2
      exact ⟨by rw [hR.out, HRes.out]; rfl, HB2.out⟩
    · have hnz := beq_no hz
      have hS1 : 1 ≤ cs.sum := hS (by omega)
      have HRes := Lib.hid (RCR_eq hcnt hz)
      have HM := Lib.hid hM0
      have hl16 : cs.length ≤ 15 := by simp at hlen; omega
      clear hcnt hsum hlen hM0 hS hz
      go_enter Tryz.func102, Tryz.ntmps102
      go_wp2_with (go_at_call 53; refine (dgAsked_any _ _ _).mono ?_; rintro e w1 ⟨rfl, rfl⟩)
      refine (dgOf_s n b _ n0 n1 b0 b1).mono ?_
      rintro e w1 ⟨g0, cap0, rfl, hr, hbl⟩
      have HR := Lib.hid hr
      have HB := Lib.hid hbl
      clear hr hbl
      go_wp2_with fail
      refine (dgCounts_any _ _ _ _ _ HR.out b0 b1 halln.out (by have := hlenn.out; omega)).mono ?_
      rintro e w2 ⟨u, rfl, hr, hbl⟩
      rw [HC.out] at hr
      rcases hr.cases with ⟨_, hx⟩ | ⟨g, cap, rfl, hg, _, hcap, _, hc, hf⟩
      · simp [ints] at hx
      have HX := Lib.hid hr
      have HB2 := Lib.hid (Below.step HB.out HB.out.size hbl)
      have hZ1 := HB.out.size
      have hc0 : w2.cell? ⟨g, 0, none⟩ = some (.int .i64 (c : Int)) := by rw [hc 0 (by rw [HL.out]; omega), ints_at]; rfl
      have hf0 := hf 0
      rw [HL.out]
      have HX2 := Lib.hid (show Rd w2 w1.heap.size (.slice (some ⟨g, 0, none⟩) (cs.length + 1) cap) (ints (c :: cs)) by have := HX.out; rw [HL.out] at this; exact this)
      clear hr hbl hc hf
      go_wp2_with fail
      refine (dgWays_any _ (c :: cs) _ _ HX2.out (by simpa using hsum') HM.out (by simp; omega)).mono ?_
      rintro e w3 ⟨rfl, rfl⟩
      obtain ⟨A, hA⟩ : ∃ A, A = wP (c :: cs) 0 := ⟨_, rfl⟩
      have hAle : A ≤ 100000000000000 := by rw [hA]; exact HM.out
      rw [← hA]
      have HA := Lib.hid hA
      clear hA
      rcases Nat.eq_zero_or_pos c with hc00 | hcp
      · have HFin := Lib.hid (show RCountRearranged b n = (A : Int) by rw [HRes.out, HA.out]; subst hc00; rw [ways_same0])
        have hci : (c : Int) ≤ 0 := by omega
        clear hc00
        go_wp2
        go_ret2
        exact ⟨by rw [hR.out, HFin.out]; rfl, HB2.out⟩
      · have HW := Lib.hid (ways_same c cs hS1 hcp)
        have hwle : wP ((c - 1) :: cs) 0 ≤ A := by rw [HA.out, HW.out]; omega
        have hci : 0 < (c : Int) := by omega
        have hcu : (c : Int) ≤ 40 := by omega
        have HSet := Lib.hid (HX2.out.set 0 ((c : Int) - 1))
        have HSet2 := Lib.hid (show Rd (w2.setCell ⟨g, 0, none⟩ (.int .i64 ((c : Int) - 1))) w1.heap.size (.slice (some ⟨g, 0, none⟩) (cs.length + 1) cap) (ints ((c - 1) :: cs)) by
          have := HSet.out.1
          rw [show (ints (c :: cs)).set 0 ((c : Int) - 1) = ints ((c - 1) :: cs) by simp [ints]; omega] at this
          exact this)
        have HB3 := Lib.hid (HB2.out.trans ((Below.refl _ _).setCell (B := w.heap.size) (p := ⟨g, 0, none⟩) (by show w.heap.size ≤ g; omega) (.int .i64 ((c : Int) - 1))))
        go_wp2_with fail
        refine (dgWays_any _ ((c - 1) :: cs) _ _ HSet2.out (by simp; omega) (by omega) (by simp; omega)).mono ?_
        rintro e w4 ⟨rfl, rfl⟩
        obtain ⟨B', hB'⟩ : ∃ B', B' = wP ((c - 1) :: cs) 0 := ⟨_, rfl⟩
        rw [← hB'] at hwle ⊢
        have HFin := Lib.hid (show RCountRearranged b n = (A : Int) - (B' : Int) by rw [HRes.out, HA.out, hB', HW.out]; push_cast; omega)
        clear hB'
        go_wp2
        go_ret2
        exact ⟨by rw [hR.out, HFin.out]; rfl, HB3.out⟩
  · have a1 : decide (Num n ∧ Bas b) = false := decide_eq_false hq
    have hR := Lib.hid (show askI RCountRearranged n b = none from if_neg hq)
    clear hq
    go_enter Tryz.func102, Tryz.ntmps102
    go_wp2_with (go_at_call 53; refine (dgAsked_any _ _ _).mono ?_; rintro e w1 ⟨rfl, rfl⟩)
    go_ret2
    exact ⟨by rw [hR.out]; rfl, Below.refl _ _⟩

end Go.Proofs.YtlbjeiaihenjkaaGreatDoor

/- from G4: The program's functions of a number and a base, from the questions' contracts (written by wip/tools/gen_ask.py).  -/
namespace Go.Proofs.YtlbjeiaihenjkaaGreatDoor
open Go.RowKit
set_option linter.unusedVariables false
set_option linter.unusedSimpArgs false


theorem tell_countRearranged (n b : Int) (w : World) :
    Calls Tryz.prog 178 #[.int .i64 n, .int .i64 b, .func (Fn.func 181) #[] #[]] w fun e w' => e = .returned (optRes (askI RCountRearranged n b)) ∧ Below w.heap.size w w' := by
  by_cases hn : Num n
  · have a1 : decide (Num n) = true := decide_eq_true hn
    by_cases hB : Bas b
    · have a2 : decide (Bas b) = true := decide_eq_true hB
      have hR := Lib.hid (show askI RCountRearranged n b = some (RCountRearranged b n) from if_pos ⟨hn, hB⟩)
      obtain ⟨n0, n1⟩ := hn
      obtain ⟨b0, b1⟩ := hB
      go_enter Tryz.func178, Tryz.ntmps178
      go_wp2_with (first | (go_at_call 46; refine (isNumber_any _ _).mono ?_; rintro e w1 ⟨rfl, rfl⟩) | (go_at_call 47; refine (isBase_any _ _).mono ?_; rintro e w1 ⟨rfl, rfl⟩) | (go_at_call 181; refine (countRearranged_any _ _ _ n0 n1 b0 b1).mono ?_; rintro e w1 ⟨rfl, hbl⟩; have HB := Lib.hid hbl; clear hbl))
      go_ret2
      exact ⟨by rw [hR.out]; rfl, HB.out⟩
    · have a2 : decide (Bas b) = false := decide_eq_false hB
      have hR := Lib.hid (show askI RCountRearranged n b = none from if_neg (fun h => hB h.2))
      clear hn hB
      go_enter Tryz.func178, Tryz.ntmps178
      go_wp2_with (first | (go_at_call 46; refine (isNumber_any _ _).mono ?_; rintro e w1 ⟨rfl, rfl⟩) | (go_at_call 47; refine (isBase_any _ _).mono ?_; rintro e w1 ⟨rfl, rfl⟩))
      go_ret2
      exact ⟨by rw [hR.out]; rfl, Below.refl _ _⟩
  · have a1 : decide (Num n) = false := decide_eq_false hn
    have hR := Lib.hid (show askI RCountRearranged n b = none from if_neg (fun h => hn h.1))
    clear hn
    go_enter Tryz.func178, Tryz.ntmps178
    go_wp2_with (first | (go_at_call 46; refine (isNumber_any _ _).mono ?_; rintro e w1 ⟨rfl, rfl⟩) | (go_at_call 47; refine (isBase_any _ _).mono ?_; rintro e w1 ⟨rfl, rfl⟩))
    go_ret2
    exact ⟨by rw [hR.out]; rfl, Below.refl _ _⟩

theorem impl_CountRearranged (n b : Int) (w : World) :
    Calls Tryz.prog 124 #[.int .i64 n, .int .i64 b] w fun e w' => e = .returned (optRes (askI RCountRearranged n b)) ∧ Below w.heap.size w w' := by
  go_enter Tryz.func124, Tryz.ntmps124
  go_wp2_with (go_at_call 178; refine (tell_countRearranged _ _ _).mono ?_; rintro e w1 ⟨rfl, hbl⟩; have HB := Lib.hid hbl; clear hbl)
  go_ret2
  exact ⟨rfl, HB.out⟩

end Go.Proofs.YtlbjeiaihenjkaaGreatDoor

/- from B: Products, reversed digits.  -/
namespace Go.Proofs.YtlbjeiaihenjkaaGreatDoor
open Go.RowKit
set_option linter.unusedVariables false
set_option linter.unusedSimpArgs false

/-- What is left of a list, from the end on, in the other order. -/
theorem back_step (xs : List Int) (j : Nat) (h : j < xs.length) : (xs.drop j).reverse = (xs.drop (j + 1)).reverse ++ [xs[j]] := by
  rw [drop_cons xs j h, List.reverse_cons]

theorem dgBack_any (v : Value) (xs : List Int) (w : World) (h : Sl w v xs) (hl : xs.length ≤ 2000000) :
    Calls Tryz.prog 143 #[v] w fun e w' => ∃ u, e = .returned u ∧ Rd w' w.heap.size u xs.reverse ∧ Below w.heap.size w w' := by
  obtain ⟨a, cap, rfl, hx⟩ := h
  have HX := Lib.hid hx
  clear hx
  go_enter Tryz.func143, Tryz.ntmps143
  go_wp2
  go_loopw [3, 4] (fun o i wr => ∃ (j : Nat) (out : List Int), j ≤ xs.length ∧ i = .int .i64 ((j : Int) - 1) ∧ Rd wr w.heap.size o out ∧ Below w.heap.size w wr ∧ out = (xs.drop j).reverse) (fun _ i _ => (intOf i + 1).toNat)
  case atStart => exact ⟨xs.length, [], Nat.le_refl _, rfl, Rd.nil _ _, Below.refl _ _, by simp⟩
  case round =>
    obtain ⟨j, out, hj, rfl, hr, hb, ho⟩ := hrel
    have HR := Lib.hid hr
    have HB := Lib.hid hb
    have HO := Lib.hid ho
    have hol : out.length ≤ 2000000 := by rw [ho]; simp; omega
    clear hr hb ho
    by_cases hpos : 0 < j
    · obtain ⟨i, hi⟩ : ∃ i, i + 1 = j := ⟨j - 1, by omega⟩
      subst hi
      have hlt : i < xs.length := by omega
      rcases HX.out with hx | ⟨b, off, rfl, hbl, hc⟩
      · rw [hx] at hlt; simp at hlt
      have hcell : wr.cell? ⟨b, off + i, none⟩ = some (.int .i64 xs[i]) := (HB.out.cell (p := ⟨b, off + i, none⟩) hbl).trans (hc i hlt)
      have hsz := HB.out.size
      have hst := Lib.hid (back_step xs i hlt)
      clear hc
      go_wp2_with (at_builtin; refine wpList_appR rfl _ _ rfl w.heap.size w.heap.size _ _ out [xs[i]] rfl rfl (HR.out.alloc _) (Rd.litB _ _ _ (by omega)) (by simp; omega) (by simp; omega) ?_; intro v1 w1 hr1 hg1 hb1)
      have HR1 := Lib.hid hr1
      have HB1 := Lib.hid (((HB.out.alloc (by omega) _).trans hb1))
      clear hr1 hg1 hb1
      go_wp2
      go_roundw
      case rel => exact ⟨i, _, by omega, by go_num, HR1.out, HB1.out, by rw [hst.out, HO.out]⟩
      case measure => (simp [intOf]; try omega)
    · obtain rfl : j = 0 := by omega
      go_wp2
      go_ret
      exact ⟨_, rfl, by have := HO.out; rw [List.drop_zero] at this; rw [← this]; exact HR.out, HB.out⟩

theorem rev_all {b n : Int} (h : ∀ x ∈ dgs b n, 0 ≤ x ∧ x ≤ b - 1) : ∀ x ∈ (dgs b n).reverse, 0 ≤ x ∧ x ≤ b - 1 := fun x hx => h x (List.mem_reverse.1 hx)

theorem reversed_any (n b : Int) (w : World) (h0 : 0 ≤ n) (h1 : n ≤ 1000000000000) (hb : 2 ≤ b) (hb' : b ≤ 16) :
    Calls Tryz.prog 169 #[.int .i64 b, .int .i64 n] w fun e w' => e = .returned (optRes (RReverseNumber b n)) ∧ Below w.heap.size w w' := by
  have hall := Lib.hid (rev_all (dgs_all b n hb h0))
  have hlen := Lib.hid (dgs_len40 b n hb h0 h1)
  have hlr := Lib.hid (show (dgs b n).reverse.length ≤ 1000000 by have := dgs_len40 b n hb h0 h1; simp; omega)
  go_enter Tryz.func169, Tryz.ntmps169
  go_wp2_with fail
  refine (digits_any _ _ _ h0 (by omega) hb hb').mono ?_
  rintro e w1 ⟨g, cap, rfl, hr, hbl⟩
  have HB := Lib.hid hbl
  have HR := Lib.hid hr
  have hg := hr.at.2.1
  clear hbl hr
  go_wp2_with fail
  refine (reverse_any _ _ _ _ _ _ HR.out (by have := hlen.out; omega)).mono ?_
  rintro e w2 ⟨rfl, hr, hgr⟩
  have HR2 := Lib.hid hr
  have HB2 := Lib.hid (HB.out.trans (grown_below hgr HB.out.size hg))
  clear hr hgr
  go_wp2_with fail
  refine (number_any _ _ _ _ _ HR2.out (fun x hx => by have := hall.out x hx; omega) hb hb' hlr.out).mono ?_
  rintro e w3 ⟨rfl, rfl⟩
  go_wp2
  go_ret2
  exact ⟨rfl, HB2.out⟩

end Go.Proofs.YtlbjeiaihenjkaaGreatDoor

/- from G: The program's functions of a number and a base, from the questions' contracts (written by wip/tools/gen_ask.py).  -/
namespace Go.Proofs.YtlbjeiaihenjkaaGreatDoor
open Go.RowKit
set_option linter.unusedVariables false
set_option linter.unusedSimpArgs false


theorem tell_digitSum (n b : Int) (w : World) :
    Calls Tryz.prog 178 #[.int .i64 n, .int .i64 b, .func (Fn.func 179) #[] #[]] w fun e w' => e = .returned (optRes (askI RDigitSum n b)) ∧ Below w.heap.size w w' := by
  by_cases hn : Num n
  · have a1 : decide (Num n) = true := decide_eq_true hn
    by_cases hB : Bas b
    · have a2 : decide (Bas b) = true := decide_eq_true hB
      have hR := Lib.hid (show askI RDigitSum n b = some (RDigitSum b n) from if_pos ⟨hn, hB⟩)
      obtain ⟨n0, n1⟩ := hn
      obtain ⟨b0, b1⟩ := hB
      go_enter Tryz.func178, Tryz.ntmps178
      go_wp2_with (first | (go_at_call 46; refine (isNumber_any _ _).mono ?_; rintro e w1 ⟨rfl, rfl⟩) | (go_at_call 47; refine (isBase_any _ _).mono ?_; rintro e w1 ⟨rfl, rfl⟩) | (go_at_call 179; refine (digitSum_any _ _ _ n0 n1 b0 b1).mono ?_; rintro e w1 ⟨rfl, hbl⟩; have HB := Lib.hid hbl; clear hbl))
      go_ret2
      exact ⟨by rw [hR.out]; rfl, HB.out⟩
    · have a2 : decide (Bas b) = false := decide_eq_false hB
      have hR := Lib.hid (show askI RDigitSum n b = none from if_neg (fun h => hB h.2))
      clear hn hB
      go_enter Tryz.func178, Tryz.ntmps178
      go_wp2_with (first | (go_at_call 46; refine (isNumber_any _ _).mono ?_; rintro e w1 ⟨rfl, rfl⟩) | (go_at_call 47; refine (isBase_any _ _).mono ?_; rintro e w1 ⟨rfl, rfl⟩))
      go_ret2
      exact ⟨by rw [hR.out]; rfl, Below.refl _ _⟩
  · have a1 : decide (Num n) = false := decide_eq_false hn
    have hR := Lib.hid (show askI RDigitSum n b = none from if_neg (fun h => hn h.1))
    clear hn
    go_enter Tryz.func178, Tryz.ntmps178
    go_wp2_with (first | (go_at_call 46; refine (isNumber_any _ _).mono ?_; rintro e w1 ⟨rfl, rfl⟩) | (go_at_call 47; refine (isBase_any _ _).mono ?_; rintro e w1 ⟨rfl, rfl⟩))
    go_ret2
    exact ⟨by rw [hR.out]; rfl, Below.refl _ _⟩

theorem impl_DigitSum (n b : Int) (w : World) :
    Calls Tryz.prog 122 #[.int .i64 n, .int .i64 b] w fun e w' => e = .returned (optRes (askI RDigitSum n b)) ∧ Below w.heap.size w w' := by
  go_enter Tryz.func122, Tryz.ntmps122
  go_wp2_with (go_at_call 178; refine (tell_digitSum _ _ _).mono ?_; rintro e w1 ⟨rfl, hbl⟩; have HB := Lib.hid hbl; clear hbl)
  go_ret2
  exact ⟨rfl, HB.out⟩

theorem tell_reversed (n b : Int) (w : World) :
    Calls Tryz.prog 50 #[.int .i64 n, .int .i64 b, .func (Fn.func 169) #[] #[]] w fun e w' => e = .returned (optRes (askF RReverseNumber n b)) ∧ Below w.heap.size w w' := by
  by_cases hn : Num n
  · have a1 : decide (Num n) = true := decide_eq_true hn
    by_cases hB : Bas b
    · have a2 : decide (Bas b) = true := decide_eq_true hB
      have hR := Lib.hid (show askF RReverseNumber n b = RReverseNumber b n from if_pos ⟨hn, hB⟩)
      obtain ⟨n0, n1⟩ := hn
      obtain ⟨b0, b1⟩ := hB
      go_enter Tryz.func50, Tryz.ntmps50
      go_wp2_with (first | (go_at_call 46; refine (isNumber_any _ _).mono ?_; rintro e w1 ⟨rfl, rfl⟩) | (go_at_call 47; refine (isBase_any _ _).mono ?_; rintro e w1 ⟨rfl, rfl⟩) | (go_at_call 169; refine (reversed_any _ _ _ n0 n1 b0 b1).mono ?_; rintro e w1 ⟨rfl, hbl⟩; have HB := Lib.hid hbl; clear hbl))
      go_ret2
      exact ⟨by rw [hR.out]; rfl, HB.out⟩
    · have a2 : decide (Bas b) = false := decide_eq_false hB
      have hR := Lib.hid (show askF RReverseNumber n b = none from if_neg (fun h => hB h.2))
      clear hn hB
      go_enter Tryz.func50, Tryz.ntmps50
      go_wp2_with (first | (go_at_call 46; refine (isNumber_any _ _).mono ?_; rintro e w1 ⟨rfl, rfl⟩) | (go_at_call 47; refine (isBase_any _ _).mono ?_; rintro e w1 ⟨rfl, rfl⟩))
      go_ret2
      exact ⟨by rw [hR.out]; rfl, Below.refl _ _⟩
  · have a1 : decide (Num n) = false := decide_eq_false hn
    have hR := Lib.hid (show askF RReverseNumber n b = none from if_neg (fun h => hn h.1))
    clear hn
    go_enter Tryz.func50, Tryz.ntmps50
    go_wp2_with (first | (go_at_call 46; refine (isNumber_any _ _).mono ?_; rintro e w1 ⟨rfl, rfl⟩) | (go_at_call 47; refine (isBase_any _ _).mono ?_; rintro e w1 ⟨rfl, rfl⟩))
    go_ret2
    exact ⟨by rw [hR.out]; rfl, Below.refl _ _⟩

theorem impl_ReverseNumber (n b : Int) (w : World) :
    Calls Tryz.prog 113 #[.int .i64 n, .int .i64 b] w fun e w' => e = .returned (optRes (askF RReverseNumber n b)) ∧ Below w.heap.size w w' := by
  go_enter Tryz.func113, Tryz.ntmps113
  go_wp2_with (go_at_call 50; refine (tell_reversed _ _ _).mono ?_; rintro e w1 ⟨rfl, hbl⟩; have HB := Lib.hid hbl; clear hbl)
  go_ret2
  exact ⟨rfl, HB.out⟩

theorem spec_ReverseNumber (n b : Int) (w : World) :
    Calls Tryz.prog 90 #[.int .i64 n, .int .i64 b] w fun e w' => e = .returned (optRes (askF RReverseNumber n b)) ∧ Below w.heap.size w w' := by
  by_cases hq : Num n ∧ Bas b
  · have a1 : decide (Num n ∧ Bas b) = true := decide_eq_true hq
    have hR := Lib.hid (show askF RReverseNumber n b = RReverseNumber b n from if_pos hq)
    obtain ⟨⟨n0, n1⟩, b0, b1⟩ := hq
    have hall := Lib.hid (dgs_all b n b0 n0)
    have hlen := Lib.hid (dgs_len40 b n b0 n0 n1)
    go_enter Tryz.func90, Tryz.ntmps90
    go_wp2_with (first | (go_at_call 53; refine (dgAsked_any _ _ _).mono ?_; rintro e w1 ⟨rfl, rfl⟩) | (go_at_call 98; refine (dgOf_s _ _ _ n0 n1 b0 b1).mono ?_; rintro e w1 ⟨g, cap, rfl, hr, hbl⟩; have HB := Lib.hid hbl; have HR := Lib.hid hr; clear hbl hr) | (go_at_call 143; refine (dgBack_any _ _ _ HR.out.sl (by have := hlen.out; omega)).mono ?_; rintro e w2 ⟨u2, rfl, hr2, hbl2⟩; have HR2 := Lib.hid hr2; have HB2 := Lib.hid (Below.step HB.out HB.out.size hbl2); clear hr2 hbl2) | (go_at_call 142; refine (dgFrom_any _ _ _ _ _ HR2.out (fun x hx => by have := rev_all hall.out x hx; omega) b0 b1 (by have := hlen.out; simp; omega)).mono ?_; rintro e w3 ⟨rfl, rfl⟩))
    go_ret2
    exact ⟨by rw [hR.out]; rfl, HB2.out⟩
  · have a1 : decide (Num n ∧ Bas b) = false := decide_eq_false hq
    have hR := Lib.hid (show askF RReverseNumber n b = none from if_neg hq)
    clear hq
    go_enter Tryz.func90, Tryz.ntmps90
    go_wp2_with (go_at_call 53; refine (dgAsked_any _ _ _).mono ?_; rintro e w1 ⟨rfl, rfl⟩)
    go_ret2
    exact ⟨by rw [hR.out]; rfl, Below.refl _ _⟩

theorem tell_digits (n b : Int) (w : World) :
    Calls Tryz.prog 177 #[.int .i64 n, .int .i64 b, .func (Fn.func 77) #[] #[]] w fun e w' => ∃ v, e = .returned (.tuple #[v, .bool (okq n b)]) ∧ Rd w' w.heap.size v (askL dgs n b) ∧ Below w.heap.size w w' := by
  by_cases hn : Num n
  · have a1 : decide (Num n) = true := decide_eq_true hn
    by_cases hB : Bas b
    · have a2 : decide (Bas b) = true := decide_eq_true hB
      have hR := Lib.hid (show askL dgs n b = dgs b n from if_pos ⟨hn, hB⟩)
      have hD := Lib.hid (okq_yes ⟨hn, hB⟩)
      obtain ⟨n0, n1⟩ := hn
      obtain ⟨b0, b1⟩ := hB
      go_enter Tryz.func177, Tryz.ntmps177
      go_wp2_with (first | (go_at_call 46; refine (isNumber_any _ _).mono ?_; rintro e w1 ⟨rfl, rfl⟩) | (go_at_call 47; refine (isBase_any _ _).mono ?_; rintro e w1 ⟨rfl, rfl⟩) | (go_at_call 77; refine (digits_l _ _ _ n0 n1 b0 b1).mono ?_; rintro e w1 ⟨u, rfl, hr, hbl⟩; have HB := Lib.hid hbl; have HR := Lib.hid hr; clear hbl hr))
      go_ret2
      exact ⟨_, by rw [hD.out]; rfl, by rw [hR.out]; exact HR.out, HB.out⟩
    · have a2 : decide (Bas b) = false := decide_eq_false hB
      have hR := Lib.hid (show askL dgs n b = [] from if_neg (fun h => hB h.2))
      have hD := Lib.hid (okq_no (n := n) (b := b) (fun h => hB h.2))
      clear hn hB
      go_enter Tryz.func177, Tryz.ntmps177
      go_wp2_with (first | (go_at_call 46; refine (isNumber_any _ _).mono ?_; rintro e w1 ⟨rfl, rfl⟩) | (go_at_call 47; refine (isBase_any _ _).mono ?_; rintro e w1 ⟨rfl, rfl⟩))
      go_ret2
      exact ⟨_, by rw [hD.out]; rfl, by rw [hR.out]; exact Rd.nil _ _, Below.refl _ _⟩
  · have a1 : decide (Num n) = false := decide_eq_false hn
    have hR := Lib.hid (show askL dgs n b = [] from if_neg (fun h => hn h.1))
    have hD := Lib.hid (okq_no (n := n) (b := b) (fun h => hn h.1))
    clear hn
    go_enter Tryz.func177, Tryz.ntmps177
    go_wp2_with (first | (go_at_call 46; refine (isNumber_any _ _).mono ?_; rintro e w1 ⟨rfl, rfl⟩) | (go_at_call 47; refine (isBase_any _ _).mono ?_; rintro e w1 ⟨rfl, rfl⟩))
    go_ret2
    exact ⟨_, by rw [hD.out]; rfl, by rw [hR.out]; exact Rd.nil _ _, Below.refl _ _⟩

theorem impl_DigitsOf (n b : Int) (w : World) :
    Calls Tryz.prog 120 #[.int .i64 n, .int .i64 b] w fun e w' => ∃ v, e = .returned (.tuple #[v, .bool (okq n b)]) ∧ Rd w' w.heap.size v (askL dgs n b) ∧ Below w.heap.size w w' := by
  go_enter Tryz.func120, Tryz.ntmps120
  go_wp2_with (go_at_call 177; refine (tell_digits _ _ _).mono ?_; rintro e w1 ⟨u, rfl, hr, hbl⟩; have HB := Lib.hid hbl; have HR := Lib.hid hr; clear hbl hr)
  go_ret2
  exact ⟨_, rfl, HR.out, HB.out⟩

theorem askL_dgs_len (n b : Int) : (askL dgs n b).length ≤ 2000000 := by
  unfold askL
  split
  · rename_i h; have := dgs_len40 b n h.2.1 h.1.1 h.1.2; omega
  · simp

end Go.Proofs.YtlbjeiaihenjkaaGreatDoor
