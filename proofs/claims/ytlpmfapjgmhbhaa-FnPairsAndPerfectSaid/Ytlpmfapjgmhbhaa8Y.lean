/-
  Sources of proper sums, and numbers without: answers.
-/
import Derived.Test.Ytlpmfapjgmhbhaa8X
namespace Go.Proofs.Ytlpmfapjgmhbhaa
open Go.RowKit
set_option linter.unusedVariables false
set_option linter.unusedSimpArgs false
set_option maxRecDepth 100000

/-- The sources of a number. -/
def srcAll (m : Nat) : List Int := srcTo (m : Int) (upTo m)
theorem upTo_le {m : Nat} (h : m ≤ 100) : upTo m ≤ 9801 := by
  have := sq_le (m := (m : Int)) (by omega) (by omega)
  unfold upTo; omega
theorem upTo_int {m : Nat} (h : m ≤ 100) : (upTo m : Int) = ((m : Int) - 1) * ((m : Int) - 1) := by
  have := sq_le (m := (m : Int)) (by omega) (by omega)
  unfold upTo; omega
theorem upTo_pos {m : Nat} (h : 2 ≤ m) (h2 : m ≤ 100) : 1 ≤ upTo m := by
  have h1 := upTo_int h2
  have := Int.mul_le_mul (show (1 : Int) ≤ (m : Int) - 1 by omega) (show (1 : Int) ≤ (m : Int) - 1 by omega) (by omega) (by omega)
  omega
/-- Whose sources may be asked for. -/
def Sd (n : Int) : Prop := 2 ≤ n ∧ n ≤ 100
instance (n : Int) : Decidable (Sd n) := by unfold Sd; infer_instance
def OK_SourcesOf (n : Int) : Bool := decide (Sd n)
def LF_SourcesOf (n : Int) : List Int := if Sd n then srcAll n.toNat else []
theorem LF_SourcesOf_len (n : Int) : (LF_SourcesOf n).length ≤ 2000000 := by
  unfold LF_SourcesOf
  split
  · rename_i h
    have h1 := srcTo_len ((n.toNat : Nat) : Int) (upTo n.toNat)
    have h2 := upTo_le (m := n.toNat) (by have := h.2; omega)
    unfold srcAll
    omega
  · simp

theorem impl_SourcesOf (n : Int) (w : World) :
    Calls Try.prog 31 #[.int .i64 n] w fun e w' => ∃ v, e = .returned (.tuple #[v, .bool (OK_SourcesOf n)]) ∧ Rd w' w.heap.size v (LF_SourcesOf n) ∧ Below w.heap.size w w' := by
  by_cases h : Sd n
  · have HO := Lib.hid (show OK_SourcesOf n = true from decide_eq_true h)
    have HL := Lib.hid (show LF_SourcesOf n = srcAll n.toNat from if_pos h)
    rw [HO.out, HL.out]
    obtain ⟨m, rfl⟩ : ∃ m : Nat, n = (m : Int) := ⟨n.toNat, by have := h.1; omega⟩
    obtain ⟨m0, m1⟩ := h
    have HT := Lib.hid (fun w' => sourcesUpTo_any m w' (by omega))
    rw [show ((m : Int)).toNat = m from Int.toNat_natCast m]
    clear HO HL
    have hm1 : m ≤ 100 := by omega
    have hm0 : 2 ≤ m := by omega
    go_enter Try.func31, Try.ntmps31
    go_wp2_with fail
    refine (HT.out _).mono ?_
    rintro e w1 ⟨v, vs, rfl, hl, hb⟩
    obtain ⟨u, g, cap, e1, rfl, e3, e4, e5⟩ := hl.get m (by rw [tab_len]; omega)
    have HB := Lib.hid hb
    have HR := Lib.hid (show Rd w1 w.heap.size u (srcAll m) by rw [tab_get, if_pos hm0] at e5; exact e5)
    rw [tab_len]
    clear hb hl e1 e4 e5
    go_wp2
    go_ret2
    exact ⟨_, rfl, HR.out, HB.out⟩
  · have HO := Lib.hid (show OK_SourcesOf n = false from decide_eq_false h)
    have HL := Lib.hid (show LF_SourcesOf n = [] from if_neg h)
    rw [HO.out, HL.out]
    have hs : n < 2 ∨ 100 < n := by unfold Sd at h; omega
    by_cases h1 : n < 2
    all_goals
      have h2 : ¬ n < 2 → 100 < n := fun c => by omega
      first | replace h2 := h2 h1 | clear h2
      clear h hs
      go_enter Try.func31, Try.ntmps31
      go_wp2
      go_ret2
      exact ⟨_, rfl, Rd.nil _ _, Below.refl _ _⟩

theorem dvSources_any (m : Nat) (w : World) (h0 : 2 ≤ m) (h1 : m ≤ 100) :
    Calls Try.prog 68 #[.int .i64 (m : Int)] w fun e w' => ∃ v, e = .returned v ∧ Rd w' w.heap.size v (srcAll m) ∧ Below w.heap.size w w' := by
  obtain ⟨q0, q1⟩ := sq_le (m := (m : Int)) (by omega) (by omega)
  have HU := Lib.hid (upTo_int h1)
  have HUP := Lib.hid (upTo_pos h0 h1)
  have hS := show srcAll m = srcTo (m : Int) (upTo m) from rfl
  rw [hS]
  obtain ⟨NN, hNN⟩ : ∃ NN, NN = upTo m := ⟨_, rfl⟩
  rw [← hNN] at HU HUP ⊢
  have hNb : NN ≤ 9801 := by have := HU.out; omega
  clear hNN hS
  go_enter Try.func68, Try.ntmps68
  go_wp2
  go_loopw [3, 4] (fun o i wr => ∃ (k : Nat), i = .int .i64 ((k + 1 : Nat) : Int) ∧ k ≤ NN ∧ Rd wr w.heap.size o (srcTo (m : Int) k) ∧ Below w.heap.size w wr) (fun _ i _ => NN + 1 - (intOf i).toNat)
  case atStart => exact ⟨1, rfl, HUP.out, by rw [srcTo_one (by omega)]; exact Rd.nil _ _, Below.refl _ _⟩
  case round =>
    obtain ⟨k, rfl, hk, hr, hb⟩ := hrel
    have HR := Lib.hid hr
    have HB := Lib.hid hb
    clear hr hb
    by_cases hlt : k < NN
    · have hle : ((k + 1 : Nat) : Int) ≤ ((m : Int) - 1) * ((m : Int) - 1) := by have := HU.out; omega
      have hDv : Dv ((k + 1 : Nat) : Int) := ⟨by omega, by omega⟩
      have HP := Lib.hid (fun w' => dvProper_any ((k + 1 : Nat) : Int) w' hDv)
      have HT1 := Lib.hid (fun (h : prop ((k + 1 : Nat) : Int) = (m : Int)) => srcTo_hit h)
      have HT2 := Lib.hid (fun (h : ¬ prop ((k + 1 : Nat) : Int) = (m : Int)) => srcTo_miss h)
      have hl5 := srcTo_len (m : Int) k
      obtain ⟨l, hl⟩ : ∃ l, l = srcTo (m : Int) k := ⟨_, rfl⟩
      rw [← hl] at HT1 HT2 HR hl5
      obtain ⟨s, hs⟩ : ∃ s, s = prop ((k + 1 : Nat) : Int) := ⟨_, rfl⟩
      rw [← hs] at HP HT1 HT2
      obtain ⟨K, hK⟩ : ∃ K, K = k + 1 := ⟨_, rfl⟩
      have HK := Lib.hid hK
      rw [← hK] at HP HT1 HT2 hle ⊢
      have hKb : K ≤ 9801 := by omega
      clear hDv hK hs hl
      by_cases h2 : s = (m : Int)
      · have b1 : (s == (m : Int)) = true := beq_yes h2
        have HT := Lib.hid (HT1.out h2)
        clear h2 HT1 HT2
        go_wp2_with (first | (go_at_call 69; refine (HP.out _).mono ?_; rintro e w2 ⟨rfl, hb2⟩; have HR2 := Lib.hid (HR.out.keep hb2); have HB2 := Lib.hid (Below.step HB.out HB.out.size hb2); clear hb2) | (at_builtin; refine wpList_appR rfl _ _ rfl w.heap.size w.heap.size _ _ l [(K : Int)] rfl rfl (HR2.out.alloc _) (Rd.litB _ _ _ HB2.out.size) (by simp; omega) (by have := HB2.out.size; simp; omega) ?_; intro v4 w4 hr4 hg4 hb4; rw [← HT.out] at hr4; have HR4 := Lib.hid hr4; have HB4 := Lib.hid ((HB2.out.alloc HB2.out.size _).trans hb4); clear hr4 hg4 hb4))
        go_roundw
        case rel => exact ⟨K, by go_num, by have := HK.out; omega, HR4.out, HB4.out⟩
        case measure => have := HK.out; simp [intOf]; omega
      · have b1 : (s == (m : Int)) = false := beq_no h2
        have HT := Lib.hid (HT2.out h2)
        clear h2 HT1 HT2
        go_wp2_with (go_at_call 69; refine (HP.out _).mono ?_; rintro e w2 ⟨rfl, hb2⟩; have HR2 := Lib.hid (HR.out.keep hb2); have HB2 := Lib.hid (Below.step HB.out HB.out.size hb2); clear hb2)
        go_roundw
        case rel => exact ⟨K, by go_num, by have := HK.out; omega, by rw [HT.out]; exact HR2.out, HB2.out⟩
        case measure => have := HK.out; simp [intOf]; omega
    · obtain rfl : k = NN := by omega
      have hle : ¬ ((k + 1 : Nat) : Int) ≤ ((m : Int) - 1) * ((m : Int) - 1) := by have := HU.out; omega
      go_wp2
      go_ret
      exact ⟨_, rfl, HR.out, HB.out⟩

theorem spec_SourcesOf (n : Int) (w : World) :
    Calls Try.prog 32 #[.int .i64 n] w fun e w' => ∃ v, e = .returned (.tuple #[v, .bool (OK_SourcesOf n)]) ∧ Rd w' w.heap.size v (LF_SourcesOf n) ∧ Below w.heap.size w w' := by
  by_cases h : Sd n
  · have HO := Lib.hid (show OK_SourcesOf n = true from decide_eq_true h)
    have HL := Lib.hid (show LF_SourcesOf n = srcAll n.toNat from if_pos h)
    rw [HO.out, HL.out]
    obtain ⟨m, rfl⟩ : ∃ m : Nat, n = (m : Int) := ⟨n.toNat, by have := h.1; omega⟩
    obtain ⟨m0, m1⟩ := h
    have HT := Lib.hid (fun w' => dvSources_any m w' (by omega) (by omega))
    rw [show ((m : Int)).toNat = m from Int.toNat_natCast m]
    obtain ⟨l, hl⟩ : ∃ l, l = srcAll m := ⟨_, rfl⟩
    rw [← hl] at HT ⊢
    clear HO HL hl
    go_enter Try.func32, Try.ntmps32
    go_wp2_with (first | (go_at_call 63; refine (l1In_yes _ _ _ _ m0 m1).mono ?_; rintro e w1 ⟨rfl, rfl⟩) | (go_at_call 68; refine (HT.out _).mono ?_; rintro e w1 ⟨v, rfl, hr, hb⟩; have HR := Lib.hid hr; have HB := Lib.hid hb; clear hr hb))
    go_ret2
    exact ⟨_, rfl, HR.out, HB.out⟩
  · have HO := Lib.hid (show OK_SourcesOf n = false from decide_eq_false h)
    have HL := Lib.hid (show LF_SourcesOf n = [] from if_neg h)
    rw [HO.out, HL.out]
    have hs : n < 2 ∨ 100 < n := by unfold Sd at h; omega
    clear h
    go_enter Try.func32, Try.ntmps32
    go_wp2_with (go_at_call 63; refine (l1In_no _ _ _ _ hs).mono ?_; rintro e w1 ⟨rfl, rfl⟩)
    go_ret2
    exact ⟨_, rfl, Rd.nil _ _, Below.refl _ _⟩

/-- The numbers 2 .. j + 1 without sources among the first N numbers. -/
def nsr (N : Nat) : Nat → List Int
  | 0 => []
  | j + 1 => if (srcTo ((j + 2 : Nat) : Int) N).length = 0 then nsr N j ++ [((j + 2 : Nat) : Int)] else nsr N j
theorem nsr_hit {N j : Nat} (h : (srcTo ((j + 2 : Nat) : Int) N).length = 0) : nsr N (j + 1) = nsr N j ++ [((j + 2 : Nat) : Int)] := if_pos h
theorem nsr_miss {N j : Nat} (h : ¬ (srcTo ((j + 2 : Nat) : Int) N).length = 0) : nsr N (j + 1) = nsr N j := if_neg h
theorem nsr_len (N : Nat) : ∀ j, (nsr N j).length ≤ j
  | 0 => by simp [nsr]
  | j + 1 => by
    have := nsr_len N j
    by_cases h : (srcTo ((j + 2 : Nat) : Int) N).length = 0
    · rw [nsr_hit h]; simp; omega
    · rw [nsr_miss h]; omega
def Nd (n : Int) : Prop := 0 ≤ n ∧ n ≤ 100
instance (n : Int) : Decidable (Nd n) := by unfold Nd; infer_instance
def OK_NoSources (n : Int) : Bool := decide (Nd n)
def LF_NoSources (n : Int) : List Int := if Nd n then nsr (upTo n.toNat) (n.toNat - 1) else []
theorem LF_NoSources_len (n : Int) : (LF_NoSources n).length ≤ 2000000 := by
  unfold LF_NoSources
  split
  · rename_i h
    have h1 := nsr_len (upTo n.toNat) (n.toNat - 1)
    have := h.2
    omega
  · simp

theorem impl_NoSources (n : Int) (w : World) :
    Calls Try.prog 34 #[.int .i64 n] w fun e w' => ∃ v, e = .returned (.tuple #[v, .bool (OK_NoSources n)]) ∧ Rd w' w.heap.size v (LF_NoSources n) ∧ Below w.heap.size w w' := by
  by_cases h : Nd n
  · have HO := Lib.hid (show OK_NoSources n = true from decide_eq_true h)
    have HL := Lib.hid (show LF_NoSources n = nsr (upTo n.toNat) (n.toNat - 1) from if_pos h)
    rw [HO.out, HL.out]
    obtain ⟨m, rfl⟩ : ∃ m : Nat, n = (m : Int) := ⟨n.toNat, by have := h.1; omega⟩
    obtain ⟨m0, m1⟩ := h
    have hm1 : m ≤ 100 := by omega
    have HT := Lib.hid (fun w' => sourcesUpTo_any m w' hm1)
    have HSL := Lib.hid (fun s => srcTo_len s (upTo m))
    have hub := upTo_le hm1
    rw [show ((m : Int)).toNat = m from Int.toNat_natCast m]
    obtain ⟨NN, hNN⟩ : ∃ NN, NN = upTo m := ⟨_, rfl⟩
    rw [← hNN] at HT HSL hub ⊢
    clear HO HL hNN
    go_enter Try.func34, Try.ntmps34
    go_wp2_with fail
    refine (HT.out _).mono ?_
    rintro e w1 ⟨v, vs, rfl, hl, hb⟩
    have HLL := Lib.hid hl
    have HB := Lib.hid hb
    obtain ⟨g, cap, rfl⟩ : ∃ g cap, v = .slice (some ⟨g, 0, none⟩) (m + 1) cap := by
      obtain ⟨u, g, cap, _, e2, _⟩ := hl.get 0 (by rw [tab_len]; omega)
      exact ⟨g, cap, by rw [e2, tab_len]⟩
    clear hl hb
    go_wp2
    go_loopw [5, 6] (fun o i wr => ∃ (j : Nat), i = .int .i64 ((j + 2 : Nat) : Int) ∧ j ≤ m - 1 ∧ Rd wr w1.heap.size o (nsr NN j) ∧ Below w1.heap.size w1 wr) (fun _ i _ => m + 2 - (intOf i).toNat)
    case atStart => exact ⟨0, rfl, Nat.zero_le _, Rd.nil _ _, Below.refl _ _⟩
    case round =>
      obtain ⟨j, rfl, hj, hr, hbl⟩ := hrel
      have HR := Lib.hid hr
      have HB2 := Lib.hid hbl
      clear hr hbl
      obtain ⟨J, hJ⟩ : ∃ J, J = j + 2 := ⟨_, rfl⟩
      have HJ := Lib.hid hJ
      have HH := Lib.hid (fun h => nsr_hit (N := NN) (j := j) h)
      have HM := Lib.hid (fun h => nsr_miss (N := NN) (j := j) h)
      have hnl := nsr_len NN j
      by_cases hlt : j < m - 1
      · have HS := Lib.hid (HSL.out ((j + 2 : Nat) : Int))
        obtain ⟨u, g', cap', e1, e2, e3, e4, e5⟩ := (HLL.out.keep HB2.out).get (j + 2) (by rw [tab_len]; omega)
        rw [tab_get, if_pos (by omega)] at e5
        simp only [Value.slice.injEq, Option.some.injEq, Addr.mk.injEq, and_true, true_and] at e2
        obtain rfl : g' = g := e2.1.symm
        clear e2
        obtain ⟨a6, c6, rfl⟩ := e5.sl.len
        obtain ⟨L, hL⟩ : ∃ L, L = (srcTo ((j + 2 : Nat) : Int) NN).length := ⟨_, rfl⟩
        rw [← hL] at HH HM e3
        have hLb : L ≤ 9801 := by have := HS.out; omega
        obtain ⟨l, hl⟩ : ∃ l, l = nsr NN j := ⟨_, rfl⟩
        rw [← hl] at HH HM HR hnl
        rw [← hJ] at HH e3 ⊢
        have hJm : (J : Int) ≤ (m : Int) := by omega
        have hJm2 : J < m + 1 := by omega
        clear e1 e4 e5 hL hl hJ HS
        by_cases hz : L = 0
        · have HT3 := Lib.hid (HH.out hz)
          subst hz
          clear HH HM
          go_wp2_with (at_builtin; refine wpList_appR rfl _ _ rfl w1.heap.size w1.heap.size _ _ l [(J : Int)] rfl rfl (HR.out.alloc _) (Rd.litB _ _ _ HB2.out.size) (by simp; omega) (by have := HB2.out.size; simp; omega) ?_; intro v4 w4 hr4 hg4 hb4; rw [← HT3.out] at hr4; have HR4 := Lib.hid hr4; have HB4 := Lib.hid ((HB2.out.alloc HB2.out.size _).trans hb4); clear hr4 hg4 hb4)
          go_roundw
          case rel => exact ⟨j + 1, by have := HJ.out; first | (rw [this]; go_num) | go_num, by omega, HR4.out, HB4.out⟩
          case measure => have := HJ.out; simp [intOf]; omega
        · have HT3 := Lib.hid (HM.out hz)
          have hzb : ((L : Int) == 0) = false := beq_no (by omega)
          clear HH HM hz
          go_wp2
          go_roundw
          case rel => exact ⟨j + 1, by have := HJ.out; first | (rw [this]; go_num) | go_num, by omega, by rw [HT3.out]; exact HR.out, HB2.out⟩
          case measure => have := HJ.out; simp [intOf]; omega
      · obtain rfl : j = m - 1 := by omega
        have hJm : ¬ (J : Int) ≤ (m : Int) := by omega
        rw [← hJ]
        clear hJ
        go_wp2
        go_ret2
        exact ⟨_, rfl, HR.out.mono HB.out.size, Below.step HB.out HB.out.size HB2.out⟩
  · have HO := Lib.hid (show OK_NoSources n = false from decide_eq_false h)
    have HL := Lib.hid (show LF_NoSources n = [] from if_neg h)
    rw [HO.out, HL.out]
    have hs : n < 0 ∨ 100 < n := by unfold Nd at h; omega
    by_cases h1 : n < 0
    all_goals
      have h2 : ¬ n < 0 → 100 < n := fun c => by omega
      first | replace h2 := h2 h1 | clear h2
      clear h hs
      go_enter Try.func34, Try.ntmps34
      go_wp2
      go_ret2
      exact ⟨_, rfl, Rd.nil _ _, Below.refl _ _⟩

end Go.Proofs.Ytlpmfapjgmhbhaa
