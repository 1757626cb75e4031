/-
  Answers of CountFixedBy.
-/
import Derived.Test.YticagncemlnafaaQN
namespace Go.Proofs.Yticagncemlnafaa
open Go.RowKit
set_option linter.unusedVariables false
set_option linter.unusedSimpArgs false
set_option maxRecDepth 100000

def OK_CountFixedBy (xs : List Int) (k : Int) : Bool := goodM xs && stepsK k
def fixN (f : Nat → Nat) (n K : Nat) : Nat := cnt n (fun x => it f K x == x)
def VA_CountFixedBy (xs : List Int) (k : Int) : Int := if OK_CountFixedBy xs k = true then ((fixN (fnO xs) xs.length k.toNat : Nat) : Int) else 0
abbrev R_CountFixedBy (xs : List Int) (k : Int) : Value := .tuple #[.int .i64 (VA_CountFixedBy xs k), .bool (OK_CountFixedBy xs k)]
theorem fixN_zero (f : Nat → Nat) (n : Nat) : fixN f n 0 = n := by
  unfold fixN
  rw [cnt_congr (t := fun x => decide (x < n)) (fun x hx => by simp [it, hx]), cnt_all]

theorem impl_CountFixedBy (v : Value) (xs : List Int) (k : Int) (B : Nat) (w : World) (h : Rd w B v xs) (hl : xs.length ≤ 1048576) :
    Calls Try.prog 47 #[v, .int .i64 k] w fun e w' => e = .returned (R_CountFixedBy xs k) ∧ Below w.heap.size w w' := by
  have H1 := Lib.hid h
  have HX := Lib.hid hl
  cases q1 : goodM xs
  · skip
    have HO := Lib.hid (show OK_CountFixedBy xs k = false by unfold OK_CountFixedBy; rw [q1]; rfl)
    have HL := Lib.hid (show VA_CountFixedBy xs k = 0 by unfold VA_CountFixedBy; rw [HO.out]; rfl)
    clear h hl
    go_enter Try.func47, Try.ntmps47
    go_wp2_with (go_at_call 21; refine (IsMap_any _ xs _ _ H1.out (by have := HX.out; omega)).mono ?_; rw [q1]; rintro e w1 ⟨rfl, rfl⟩)
    go_ret2
    exact ⟨by unfold R_CountFixedBy; rw [HO.out, HL.out]; rfl, Below.refl _ _⟩
  · obtain ⟨g, n, cap, f, rfl, hm, hn, hf, hxs, _⟩ := h.good q1
    have n1 := hm.n1
    have n0 := hm.n0
    have HM := Lib.hid hm
    cases q3 : stepsK k
    · skip
      have HO := Lib.hid (show OK_CountFixedBy xs k = false by unfold OK_CountFixedBy; rw [q1, q3]; rfl)
      have HL := Lib.hid (show VA_CountFixedBy xs k = 0 by unfold VA_CountFixedBy; rw [HO.out]; rfl)
      clear h hl hm hn hf hxs
      go_enter Try.func47, Try.ntmps47
      go_wp2_with (first | (go_at_call 21; refine (IsMap_any _ xs _ _ H1.out (by have := HX.out; omega)).mono ?_; rw [q1]; rintro e w1 ⟨rfl, rfl⟩) | (go_at_call 63; refine (areMapSteps_any _ _).mono ?_; rw [q3]; rintro e w1 ⟨rfl, rfl⟩))
      go_ret2
      exact ⟨by unfold R_CountFixedBy; rw [HO.out, HL.out]; rfl, Below.refl _ _⟩
    · obtain ⟨k0, k1⟩ := stepsK_iff.1 q3
      obtain ⟨K, rfl⟩ : ∃ K : Nat, k = (K : Int) := ⟨k.toNat, by omega⟩
      have HO := Lib.hid (show OK_CountFixedBy xs (K : Int) = true by unfold OK_CountFixedBy; rw [q1, q3]; rfl)
      have HL := Lib.hid (show VA_CountFixedBy xs (K : Int) = ((fixN f n K : Nat) : Int) by unfold VA_CountFixedBy; rw [if_pos HO.out, ← hf, ← hn]; rfl)
      clear h hl hm hn hf hxs
      go_enter Try.func47, Try.ntmps47
      go_wp2_with (first | (go_at_call 21; refine (IsMap_any _ xs _ _ H1.out (by have := HX.out; omega)).mono ?_; rw [q1]; rintro e w1 ⟨rfl, rfl⟩) | (go_at_call 63; refine (areMapSteps_any _ _).mono ?_; rw [q3]; rintro e w1 ⟨rfl, rfl⟩) | (go_at_call 64; refine (power_any g n cap f K _ HM.out (by omega)).mono ?_))
      rintro e w1 ⟨g3, c3, rfl, hr, hb⟩
      have HP := Lib.hid (hr.mp (it_into HM.out.into K) n0 n1)
      have HB := Lib.hid hb
      clear hr hb
      go_wp2
      go_loop [6, 21] (fun s i => ∃ j : Nat, j ≤ n ∧ i = .int .i64 j ∧ s = .int .i64 ((cnt j (fun x => it f K x == x) : Nat) : Int)) (fun _ i => n - (intOf i).toNat)
      case atStart => exact ⟨0, Nat.zero_le _, rfl, rfl⟩
      case round =>
        obtain ⟨j, hj, rfl, rfl⟩ := hrel
        have hcj := cnt_le j (fun x => it f K x == x)
        have hsn := cnt_succ j (fun x => it f K x == x)
        obtain ⟨c, hc⟩ : ∃ c, c = cnt j (fun x => it f K x == x) := ⟨_, rfl⟩
        have HC := Lib.hid hc
        rw [← hc] at hcj hsn ⊢
        have HSN := Lib.hid hsn
        clear hc hsn
        by_cases hlt : j < n
        · have hcell := HP.out.cell j hlt
          by_cases he : it f K j = j
          · have hbq : (((it f K j : Nat) : Int) == (j : Int)) = true := beq_yes (by omega)
            have HS := Lib.hid (show cnt (j + 1) (fun x => it f K x == x) = c + 1 by rw [HSN.out, if_pos (by rw [he]; simp)])
            clear he
            go_wp2
            go_round
            case rel => exact ⟨j + 1, by omega, by go_num, by rw [HS.out]; go_num⟩
            case measure => simp [intOf]; omega
          · have hbq : (((it f K j : Nat) : Int) == (j : Int)) = false := beq_no (by omega)
            have HS := Lib.hid (show cnt (j + 1) (fun x => it f K x == x) = c by rw [HSN.out, if_neg (by simpa using he)]; rfl)
            clear he
            go_wp2
            go_round
            case rel => exact ⟨j + 1, by omega, by go_num, by rw [HS.out]⟩
            case measure => simp [intOf]; omega
        · obtain rfl : j = n := by omega
          go_wp2
          go_ret2
          exact ⟨by unfold R_CountFixedBy; rw [HO.out, HL.out, HC.out]; rfl, HB.out⟩

theorem spec_CountFixedBy (v : Value) (xs : List Int) (k : Int) (B : Nat) (w : World) (h : Rd w B v xs) (hl : xs.length ≤ 1048576) :
    Calls Try.prog 46 #[v, .int .i64 k] w fun e w' => e = .returned (R_CountFixedBy xs k) ∧ Below w.heap.size w w' := by
  have H1 := Lib.hid h
  have HX := Lib.hid hl
  cases q1 : goodM xs
  · skip
    have HO := Lib.hid (show OK_CountFixedBy xs k = false by unfold OK_CountFixedBy; rw [q1]; rfl)
    have HL := Lib.hid (show VA_CountFixedBy xs k = 0 by unfold VA_CountFixedBy; rw [HO.out]; rfl)
    clear h hl
    go_enter Try.func46, Try.ntmps46
    go_wp2_with (go_at_call 58; refine (mpGood_any _ xs _ _ H1.out (by have := HX.out; omega)).mono ?_; rw [q1]; rintro e w1 ⟨rfl, rfl⟩)
    go_ret2
    exact ⟨by unfold R_CountFixedBy; rw [HO.out, HL.out]; rfl, Below.refl _ _⟩
  · obtain ⟨g, n, cap, f, rfl, hm, hn, hf, hxs, _⟩ := h.good q1
    have n1 := hm.n1
    have n0 := hm.n0
    have HM := Lib.hid hm
    cases q3 : stepsK k
    · skip
      have HO := Lib.hid (show OK_CountFixedBy xs k = false by unfold OK_CountFixedBy; rw [q1, q3]; rfl)
      have HL := Lib.hid (show VA_CountFixedBy xs k = 0 by unfold VA_CountFixedBy; rw [HO.out]; rfl)
      clear h hl hm hn hf hxs
      go_enter Try.func46, Try.ntmps46
      go_wp2_with (first | (go_at_call 58; refine (mpGood_any _ xs _ _ H1.out (by have := HX.out; omega)).mono ?_; rw [q1]; rintro e w1 ⟨rfl, rfl⟩) | (go_at_call 61; refine (mpSteps_any _ _).mono ?_; rw [q3]; rintro e w1 ⟨rfl, rfl⟩))
      go_ret2
      exact ⟨by unfold R_CountFixedBy; rw [HO.out, HL.out]; rfl, Below.refl _ _⟩
    · obtain ⟨k0, k1⟩ := stepsK_iff.1 q3
      obtain ⟨K, rfl⟩ : ∃ K : Nat, k = (K : Int) := ⟨k.toNat, by omega⟩
      have HO := Lib.hid (show OK_CountFixedBy xs (K : Int) = true by unfold OK_CountFixedBy; rw [q1, q3]; rfl)
      have HL := Lib.hid (show VA_CountFixedBy xs (K : Int) = ((fixN f n K : Nat) : Int) by unfold VA_CountFixedBy; rw [if_pos HO.out, ← hf, ← hn]; rfl)
      clear h hl hm hn hf hxs
      by_cases hK : K = 0
      · have HZ := Lib.hid (show fixN f n K = n by rw [hK]; exact fixN_zero f n)
        have hkz : ((K : Int) == 0) = true := beq_yes (by omega)
        clear hK
        go_enter Try.func46, Try.ntmps46
        go_wp2_with (first | (go_at_call 58; refine (mpGood_any _ xs _ _ H1.out (by have := HX.out; omega)).mono ?_; rw [q1]; rintro e w1 ⟨rfl, rfl⟩) | (go_at_call 61; refine (mpSteps_any _ _).mono ?_; rw [q3]; rintro e w1 ⟨rfl, rfl⟩))
        go_ret2
        exact ⟨by unfold R_CountFixedBy; rw [HO.out, HL.out, HZ.out]; rfl, Below.refl _ _⟩
      · have hkz : ((K : Int) == 0) = false := beq_no (by omega)
        have HF := Lib.hid (fixed_sum (K := K) HM.out.into (by omega))
        have HFL := Lib.hid (Nat.le_trans (sumC_le K (cycs f n)) (flat_len HM.out.into))
        have HPT := Lib.hid (fun i => sumC_take K (cycs f n) i)
        clear hK
        go_enter Try.func46, Try.ntmps46
        go_wp2_with (first | (go_at_call 58; refine (mpGood_any _ xs _ _ H1.out (by have := HX.out; omega)).mono ?_; rw [q1]; rintro e w1 ⟨rfl, rfl⟩) | (go_at_call 61; refine (mpSteps_any _ _).mono ?_; rw [q3]; rintro e w1 ⟨rfl, rfl⟩) | (go_at_call 71; refine (mpCycles_any g n cap f _ HM.out).mono ?_))
        rintro e w1 ⟨v, vs, rfl, hv, hb⟩
        obtain ⟨gv, cv, rfl⟩ := hv.outer (cycs_ne HM.out.into n0)
        have HV := Lib.hid hv
        have HB := Lib.hid hb
        have HCL := Lib.hid (cycsTo_len f n n)
        obtain ⟨m, hmm⟩ : ∃ m, m = (cycs f n).length := ⟨_, rfl⟩
        have HMM := Lib.hid hmm
        rw [← hmm]
        have hm60 : m ≤ 60 := by have := HCL.out; unfold cycs at hmm; omega
        clear hv hb hmm
        go_wp2
        go_loop [6, 24] (fun s i => ∃ j : Nat, j ≤ m ∧ i = .int .i64 j ∧ s = .int .i64 ((sumC K ((cycs f n).take j) : Nat) : Int)) (fun _ i => m - (intOf i).toNat)
        case atStart => exact ⟨0, Nat.zero_le _, rfl, rfl⟩
        case round =>
          obtain ⟨j, hj, rfl, rfl⟩ := hrel
          have hcj : sumC K ((cycs f n).take j) ≤ 60 := Nat.le_trans (HPT.out j) (Nat.le_trans HFL.out n1)
          obtain ⟨c, hc⟩ : ∃ c, c = sumC K ((cycs f n).take j) := ⟨_, rfl⟩
          have HC := Lib.hid hc
          rw [← hc] at hcj ⊢
          clear hc
          by_cases hlt : j < m
          · obtain ⟨l, hl⟩ : ∃ l, (cycs f n)[j]? = some l := ⟨(cycs f n)[j]'(by have := HMM.out; omega), by simp⟩
            obtain ⟨x, _, hlx, hlead, _⟩ := cycs_get hl
            have hlen : 1 ≤ l.length ∧ l.length ≤ n := by
              rw [hlx, rnd_len]
              obtain ⟨p1, p2, _⟩ := per_spec HM.out.into ((lead_iff HM.out.into).1 hlead).1
              exact ⟨p1, p2⟩
            obtain ⟨gu, cu, hvj, _⟩ := HV.out.shape hl (fun e => by rw [e] at hlen; simp at hlen)
            have hcell : w1.cell? ⟨gv, j, none⟩ = some (.slice (some ⟨gu, 0, none⟩) l.length cu) := by
              obtain ⟨i1, i2⟩ := List.getElem?_eq_some_iff.1 hvj
              obtain ⟨_, _, _, _, _, hc, _⟩ := HV.out.row.at
              rw [hc j i1, i2]
            have HSN := Lib.hid (show sumC K ((cycs f n).take (j + 1)) = c + if K % l.length = 0 then l.length else 0 by
              obtain ⟨i1, i2⟩ := List.getElem?_eq_some_iff.1 hl
              rw [List.take_add_one, List.getElem?_eq_getElem i1, i2, HC.out]
              exact sumC_snoc K _ l)
            have hcj2 : sumC K ((cycs f n).take (j + 1)) ≤ 60 := Nat.le_trans (HPT.out (j + 1)) (Nat.le_trans HFL.out n1)
            rw [HSN.out] at hcj2
            obtain ⟨p, hp⟩ : ∃ p, p = l.length := ⟨_, rfl⟩
            rw [← hp] at hcell hlen hcj2
            have HSP := Lib.hid (hp ▸ HSN.out)
            obtain ⟨hp1, hp2⟩ := hlen
            have hpz : ((p : Int) == 0) = false := beq_no (by omega)
            clear hl hlx hlead hvj hp
            by_cases hz : K % p = 0
            · have hbq : ((K : Int) % (p : Int) == 0) = true := beq_yes (by omega)
              rw [if_pos hz] at hcj2
              have HS := Lib.hid (show sumC K ((cycs f n).take (j + 1)) = c + p by rw [HSP.out, if_pos hz])
              clear hz
              go_wp2
              go_round
              case rel => exact ⟨j + 1, by omega, by go_num, by rw [HS.out]; go_num⟩
              case measure => simp [intOf]; omega
            · have hbq : ((K : Int) % (p : Int) == 0) = false := beq_no (by omega)
              have HS := Lib.hid (show sumC K ((cycs f n).take (j + 1)) = c by rw [HSP.out, if_neg hz]; rfl)
              clear hz
              go_wp2
              go_round
              case rel => exact ⟨j + 1, by omega, by go_num, by rw [HS.out]⟩
              case measure => simp [intOf]; omega
          · obtain rfl : j = m := by omega
            have HE := Lib.hid (show c = fixN f n K by rw [HC.out, HMM.out, List.take_of_length_le (Nat.le_refl _), HF.out]; rfl)
            go_wp2
            go_ret2
            exact ⟨by unfold R_CountFixedBy; rw [HO.out, HL.out, HE.out]; rfl, HB.out⟩

end Go.Proofs.Yticagncemlnafaa
