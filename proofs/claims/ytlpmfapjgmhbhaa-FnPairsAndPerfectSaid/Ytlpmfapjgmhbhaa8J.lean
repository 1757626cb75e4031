/-
  Ends of runs, circles, partners: answers.
-/
import Derived.Test.Ytlpmfapjgmhbhaa8I
namespace Go.Proofs.Ytlpmfapjgmhbhaa
open Go.RowKit
set_option linter.unusedVariables false
set_option linter.unusedSimpArgs false
set_option maxRecDepth 100000

theorem circle_in (a : Option Addr) (n c : Nat) (w : World) :
    Calls Try.prog 108 #[.slice a n c] w fun e w' => e = .returned (.slice a n c) ∧ w = w' := by
  go_enter Try.func108, Try.ntmps108
  go_wp2
  go_ret
  exact ⟨rfl, rfl⟩
theorem circle_open (k : Int) (w : World) :
    Calls Try.prog 110 #[.int .i64 k] w fun e w' => e = .returned (.slice none 0 0) ∧ w = w' := by
  go_enter Try.func110, Try.ntmps110
  go_wp2
  go_ret
  exact ⟨rfl, rfl⟩
theorem kind_open (k : Int) (w : World) :
    Calls Try.prog 111 #[.int .i64 k] w fun e w' => e = .returned (.int .i64 k) ∧ w = w' := by
  go_enter Try.func111, Try.ntmps111
  go_wp2
  go_ret
  exact ⟨rfl, rfl⟩
theorem kind_in (a : Option Addr) (n c : Nat) (w : World) :
    Calls Try.prog 109 #[.slice a n c] w fun e w' => e = .returned (.int .i64 (min (n : Int) 3)) ∧ w = w' := by
  go_enter Try.func109, Try.ntmps109
  go_wp2
  go_ret
  exact ⟨by first | rfl | go_num, rfl⟩

theorem meth_cc (v : Value) (w : World) : (method 201 70 v "loop.example/g01151/impl.circle").run Try.prog w = .ok (108, v) w := by kernel_rfl
theorem meth_ck (v : Value) (w : World) : (method 201 70 v "loop.example/g01151/impl.kind").run Try.prog w = .ok (109, v) w := by kernel_rfl
theorem meth_oc (v : Value) (w : World) : (method 201 71 v "loop.example/g01151/impl.circle").run Try.prog w = .ok (110, v) w := by kernel_rfl
theorem meth_ok (v : Value) (w : World) : (method 201 71 v "loop.example/g01151/impl.kind").run Try.prog w = .ok (111, v) w := by kernel_rfl

/-- How a run ends, as it is told. -/
def REnd (n m : Int) : Option Int := if Dv n ∧ Tm m then some (endOf (runR n m.toNat)) else none

theorem impl_EndOfRun (n m : Int) (w : World) :
    Calls Try.prog 8 #[.int .i64 n, .int .i64 m] w fun e w' => e = .returned (optRes (REnd n m)) ∧ Below w.heap.size w w' := by
  by_cases h : Dv n ∧ Tm m
  · have HO := Lib.hid (show REnd n m = some (endOf (runR n m.toNat)) from if_pos h)
    have HF := Lib.hid (fun w' => findRun_any n m w' h.1 h.2)
    rw [HO.out]
    obtain ⟨R, hR⟩ : ∃ R, R = runR n m.toNat := ⟨_, rfl⟩
    rw [← hR] at HF ⊢
    clear hR h HO
    obtain ⟨l, x⟩ := R
    go_enter Try.func8, Try.ntmps8
    go_wp2_with fail
    refine (HF.out _).mono ?_
    rintro e w1 ⟨g, cap, L, E, rfl, hL, hc, hr, hE, hb⟩
    have HB := Lib.hid hb
    rcases hE with ⟨⟨e1, e2⟩, rfl⟩ | ⟨e1, rfl⟩
    · have HE := Lib.hid (endOf_in e1 e2)
      dsimp only
      obtain ⟨D, hD⟩ : ∃ D, D = l.length - plc x l := ⟨_, rfl⟩
      rw [← hD] at HE ⊢
      obtain ⟨q, hq⟩ : ∃ q, q = cap - plc x l := ⟨_, rfl⟩
      obtain ⟨k, hk⟩ : ∃ k, k = plc x l := ⟨_, rfl⟩
      rw [← hq, ← hk]
      have hm := meth_ck (.slice (some ⟨g, k, none⟩) D q)
      clear hr hb hL hc e1 e2 hD hq hk
      go_wp2_with (go_at_call 109; refine (kind_in _ _ _ _).mono ?_; rintro e w3 ⟨rfl, rfl⟩)
      go_ret2
      exact ⟨by rw [HE.out]; rfl, HB.out⟩
    · obtain ⟨k, hk⟩ : ∃ k, k = endOf (l, x) := ⟨_, rfl⟩
      rw [← hk]
      have hm := meth_ok (.int .i64 k)
      have HK := Lib.hid hk
      clear hr hb hL hc e1 hk
      go_wp2_with (go_at_call 111; refine (kind_open _ _).mono ?_; rintro e w3 ⟨rfl, rfl⟩)
      go_ret2
      exact ⟨by rw [← HK.out]; rfl, HB.out⟩
  · have HO := Lib.hid (show REnd n m = none from if_neg h)
    have HF := Lib.hid (fun w' => findRun_no n m w' h)
    rw [HO.out]
    clear h
    go_enter Try.func8, Try.ntmps8
    go_wp2_with (go_at_call 48; refine (HF.out _).mono ?_; rintro e w1 ⟨rfl, rfl⟩)
    go_ret2
    exact ⟨rfl, Below.refl _ _⟩

theorem spec_EndOfRun (n m : Int) (w : World) :
    Calls Try.prog 9 #[.int .i64 n, .int .i64 m] w fun e w' => e = .returned (optRes (REnd n m)) ∧ Below w.heap.size w w' := by
  by_cases hn : Dv n
  · have a1 : decide (Dv n) = true := decide_eq_true hn
    by_cases hm : Tm m
    · have a2 : decide (Tm m) = true := decide_eq_true hm
      have HO := Lib.hid (show REnd n m = some (endOf (runR n m.toNat)) from if_pos ⟨hn, hm⟩)
      have HF := Lib.hid (fun w' => dvEnd_any n m w' hn hm)
      rw [HO.out]
      obtain ⟨R, hR⟩ : ∃ R, R = runR n m.toNat := ⟨_, rfl⟩
      rw [← hR] at HF ⊢
      clear hR hn hm
      obtain ⟨k, hk⟩ : ∃ k, k = endOf R := ⟨_, rfl⟩
      rw [← hk] at HF ⊢
      clear hk
      go_enter Try.func9, Try.ntmps9
      go_wp2_with (first | (go_at_call 49; refine (dvNumber_any _ _).mono ?_; rintro e w3 ⟨rfl, rfl⟩) | (go_at_call 50; refine (dvTerms_any _ _).mono ?_; rintro e w3 ⟨rfl, rfl⟩) | (go_at_call 51; refine (HF.out _).mono ?_; rintro e w1 ⟨u, rfl, hu, hb⟩; have HB := Lib.hid hb; clear hb hu))
      go_ret2
      exact ⟨rfl, HB.out⟩
    · have a2 : decide (Tm m) = false := decide_eq_false hm
      have HO := Lib.hid (show REnd n m = none from if_neg (fun c => hm c.2))
      rw [HO.out]
      clear hn hm
      go_enter Try.func9, Try.ntmps9
      go_wp2_with (first | (go_at_call 49; refine (dvNumber_any _ _).mono ?_; rintro e w3 ⟨rfl, rfl⟩) | (go_at_call 50; refine (dvTerms_any _ _).mono ?_; rintro e w3 ⟨rfl, rfl⟩))
      go_ret2
      exact ⟨rfl, Below.refl _ _⟩
  · have a1 : decide (Dv n) = false := decide_eq_false hn
    have HO := Lib.hid (show REnd n m = none from if_neg (fun c => hn c.1))
    rw [HO.out]
    clear hn
    go_enter Try.func9, Try.ntmps9
    go_wp2_with (go_at_call 49; refine (dvNumber_any _ _).mono ?_; rintro e w3 ⟨rfl, rfl⟩)
    go_ret2
    exact ⟨rfl, Below.refl _ _⟩

/-- The partner of a number, if it has one. -/
def RPtn (n : Int) : Option Int := if Dv n ∧ ptn n ≠ 0 then some (ptn n) else none
theorem ptn_nonneg {n : Int} : 0 ≤ ptn n ∧ ptn n ≤ 1000000000 := by
  unfold ptn
  split
  · rename_i h
    obtain ⟨_, h2, _⟩ := h
    exact ⟨by have := h2.1; omega, h2.2⟩
  · omega

theorem dvPartner_any (n : Int) (w : World) (hn : Dv n) :
    Calls Try.prog 59 #[.int .i64 n] w fun e w' => e = .returned (.int .i64 (ptn n)) ∧ Below w.heap.size w w' := by
  have HP := Lib.hid (fun w' => dvProper_any n w' hn)
  have HX := Lib.hid (show ptn n = if prop n ≠ n ∧ Dv (prop n) ∧ prop (prop n) = n then prop n else 0 from rfl)
  have HP2 := Lib.hid (fun w' (h : Dv (prop n)) => dvProper_any (prop n) w' h)
  obtain ⟨z, hz⟩ : ∃ z, z = prop n := ⟨_, rfl⟩
  obtain ⟨y, hy⟩ : ∃ y, y = prop z := ⟨_, rfl⟩
  rw [← hz] at HP HP2 HX
  rw [← hy] at HP2 HX
  rw [HX.out]
  clear hz hy HX hn
  by_cases h1 : z = n
  · have HR := Lib.hid (show (if z ≠ n ∧ Dv z ∧ y = n then z else 0) = 0 from if_neg (fun c => c.1 h1))
    rw [HR.out]
    have b1 : (z != n) = false := bne_no h1
    clear h1
    go_enter Try.func59, Try.ntmps59
    go_wp2_with (go_at_call 69; refine (HP.out _).mono ?_; rintro e w2 ⟨rfl, hb⟩; have HB := Lib.hid hb; clear hb)
    go_ret
    exact ⟨rfl, HB.out⟩
  · have b1 : (z != n) = true := bne_yes h1
    by_cases h2 : Dv z
    · have d1 : decide (Dv z) = true := decide_eq_true h2
      have HP3 := Lib.hid (fun w' => HP2.out w' h2)
      by_cases h3 : y = n
      · have HR := Lib.hid (show (if z ≠ n ∧ Dv z ∧ y = n then z else 0) = z from if_pos ⟨h1, h2, h3⟩)
        rw [HR.out]
        have b3 : (y == n) = true := beq_yes h3
        clear h1 h2 h3 HP2
        go_enter Try.func59, Try.ntmps59
        go_wp2_with (first | (go_at_call 49; refine (dvNumber_any _ _).mono ?_; rintro e w3 ⟨rfl, rfl⟩) | (go_at_call 69; (first | (with_reducible refine (HP.out _).mono ?_; rintro e w2 ⟨rfl, hb⟩; have HB := Lib.hid hb; clear hb) | (with_reducible refine (HP3.out _).mono ?_; rintro e w4 ⟨rfl, hb⟩; have HB4 := Lib.hid (Below.step HB.out HB.out.size hb); clear hb))))
        go_ret
        exact ⟨rfl, HB4.out⟩
      · have HR := Lib.hid (show (if z ≠ n ∧ Dv z ∧ y = n then z else 0) = 0 from if_neg (fun c => h3 c.2.2))
        rw [HR.out]
        have b3 : (y == n) = false := beq_no h3
        clear h1 h2 h3 HP2
        go_enter Try.func59, Try.ntmps59
        go_wp2_with (first | (go_at_call 49; refine (dvNumber_any _ _).mono ?_; rintro e w3 ⟨rfl, rfl⟩) | (go_at_call 69; (first | (with_reducible refine (HP.out _).mono ?_; rintro e w2 ⟨rfl, hb⟩; have HB := Lib.hid hb; clear hb) | (with_reducible refine (HP3.out _).mono ?_; rintro e w4 ⟨rfl, hb⟩; have HB4 := Lib.hid (Below.step HB.out HB.out.size hb); clear hb))))
        go_ret
        exact ⟨rfl, HB4.out⟩
    · have d1 : decide (Dv z) = false := decide_eq_false h2
      have HR := Lib.hid (show (if z ≠ n ∧ Dv z ∧ y = n then z else 0) = 0 from if_neg (fun c => h2 c.2.1))
      rw [HR.out]
      clear h1 h2 HP2
      go_enter Try.func59, Try.ntmps59
      go_wp2_with (first | (go_at_call 49; refine (dvNumber_any _ _).mono ?_; rintro e w3 ⟨rfl, rfl⟩) | (go_at_call 69; refine (HP.out _).mono ?_; rintro e w2 ⟨rfl, hb⟩; have HB := Lib.hid hb; clear hb))
      go_ret
      exact ⟨rfl, HB.out⟩

theorem spec_PartnerOf (n : Int) (w : World) :
    Calls Try.prog 18 #[.int .i64 n] w fun e w' => e = .returned (optRes (RPtn n)) ∧ Below w.heap.size w w' := by
  by_cases hn : Dv n
  · have a1 : decide (Dv n) = true := decide_eq_true hn
    have HP := Lib.hid (fun w' => dvPartner_any n w' hn)
    have HN := Lib.hid (ptn_nonneg (n := n))
    by_cases hz : ptn n = 0
    · have HR := Lib.hid (show RPtn n = none from if_neg (fun c => c.2 hz))
      rw [HR.out]
      rw [hz] at HP
      clear hn hz
      go_enter Try.func18, Try.ntmps18
      go_wp2_with (first | (go_at_call 49; refine (dvNumber_any _ _).mono ?_; rintro e w3 ⟨rfl, rfl⟩) | (go_at_call 59; refine (HP.out _).mono ?_; rintro e w2 ⟨rfl, hb⟩; have HB := Lib.hid hb; clear hb))
      go_ret2
      exact ⟨rfl, HB.out⟩
    · have HR := Lib.hid (show RPtn n = some (ptn n) from if_pos ⟨hn, hz⟩)
      rw [HR.out]
      have hpos : 0 < ptn n := by have := HN.out; omega
      obtain ⟨z, hz'⟩ : ∃ z, z = ptn n := ⟨_, rfl⟩
      rw [← hz'] at HP hpos ⊢
      clear hn hz hz'
      go_enter Try.func18, Try.ntmps18
      go_wp2_with (first | (go_at_call 49; refine (dvNumber_any _ _).mono ?_; rintro e w3 ⟨rfl, rfl⟩) | (go_at_call 59; refine (HP.out _).mono ?_; rintro e w2 ⟨rfl, hb⟩; have HB := Lib.hid hb; clear hb))
      go_ret2
      exact ⟨by first | rfl | simp [optRes, hpos], HB.out⟩
  · have a1 : decide (Dv n) = false := decide_eq_false hn
    have HR := Lib.hid (show RPtn n = none from if_neg (fun c => hn c.1))
    rw [HR.out]
    clear hn
    go_enter Try.func18, Try.ntmps18
    go_wp2_with (go_at_call 49; refine (dvNumber_any _ _).mono ?_; rintro e w3 ⟨rfl, rfl⟩)
    go_ret2
    exact ⟨rfl, Below.refl _ _⟩

theorem impl_PartnerOf (n : Int) (w : World) :
    Calls Try.prog 16 #[.int .i64 n] w fun e w' => e = .returned (optRes (RPtn n)) ∧ Below w.heap.size w w' := by
  by_cases hn : Dv n
  · have HF := Lib.hid (fun w' => findRun_any n 2 w' hn (by unfold Tm; omega))
    obtain ⟨p1, p2⟩ := ptn_crc hn
    have h2 : (2 : Int).toNat = 2 := rfl
    rw [h2] at HF
    by_cases hz : ptn n = 0
    · have HR := Lib.hid (show RPtn n = none from if_neg (fun c => c.2 hz))
      have HC := Lib.hid (p2 hz)
      rw [HR.out]
      unfold crc at HC
      obtain ⟨R, hR⟩ : ∃ R, R = runR n 2 := ⟨_, rfl⟩
      rw [← hR] at HF HC
      clear p1 p2 hz hR hn h2
      obtain ⟨l, x⟩ := R
      go_enter Try.func16, Try.ntmps16
      go_wp2_with fail
      refine (HF.out _).mono ?_
      rintro e w1 ⟨g, cap, L, E, rfl, hL, hc, hr, hE, hb⟩
      have HB := Lib.hid hb
      rcases hE with ⟨⟨e1, e2⟩, rfl⟩ | ⟨e1, rfl⟩
      · have hD2 := HC.out
        rw [crcOf_in e1 e2, List.length_drop] at hD2
        dsimp only
        obtain ⟨D, hD⟩ : ∃ D, D = l.length - plc x l := ⟨_, rfl⟩
        rw [← hD] at hD2 ⊢
        obtain ⟨q, hq⟩ : ∃ q, q = cap - plc x l := ⟨_, rfl⟩
        obtain ⟨k, hk⟩ : ∃ k, k = plc x l := ⟨_, rfl⟩
        rw [← hq, ← hk]
        have hm := meth_cc (.slice (some ⟨g, k, none⟩) D q)
        have hne : ((D : Int) != 2) = true := bne_yes (by omega)
        clear hr hb hL hc e1 e2 hD hq hk hD2
        go_wp2_with (go_at_call 108; refine (circle_in _ _ _ _).mono ?_; rintro e w3 ⟨rfl, rfl⟩)
        go_ret2
        exact ⟨rfl, HB.out⟩
      · obtain ⟨k, hk⟩ : ∃ k, k = endOf (l, x) := ⟨_, rfl⟩
        rw [← hk]
        have hm := meth_oc (.int .i64 k)
        clear hr hb hL hc e1 hk
        go_wp2_with (go_at_call 110; refine (circle_open _ _).mono ?_; rintro e w3 ⟨rfl, rfl⟩)
        go_ret2
        exact ⟨rfl, HB.out⟩
    · have HR := Lib.hid (show RPtn n = some (ptn n) from if_pos ⟨hn, hz⟩)
      obtain ⟨q1, q2⟩ := p1 hz
      have hDv := hn
      rw [HR.out]
      rw [q1] at HF
      obtain ⟨z, hz'⟩ : ∃ z, z = ptn n := ⟨_, rfl⟩
      rw [← hz'] at HF ⊢
      clear p1 p2 hz q1 q2 hn h2 hz'
      go_enter Try.func16, Try.ntmps16
      go_wp2_with fail
      refine (HF.out _).mono ?_
      rintro e w1 ⟨g, cap, L, E, rfl, hL, hc, hr, hE, hb⟩
      have HB := Lib.hid hb
      obtain rfl : L = 2 := hL
      have hcell : w1.cell? ⟨g, 1, none⟩ = some (.int .i64 z) := rd_get hr 1 (by simp)
      rcases hE with ⟨⟨e1, e2⟩, rfl⟩ | ⟨e1, rfl⟩
      · have hk0 : plc n [n, z] = 0 := by simp [plc, ixN]
        dsimp only
        rw [hk0, show [n, z].length - 0 = 2 from rfl, Nat.sub_zero]
        have hm := meth_cc (.slice (some ⟨g, 0, none⟩) 2 cap)
        clear hr hb e1 e2 hk0 hDv
        go_wp2_with (go_at_call 108; refine (circle_in _ _ _ _).mono ?_; rintro e w3 ⟨rfl, rfl⟩)
        go_ret2
        exact ⟨rfl, HB.out⟩
      · exact absurd ⟨hDv, by simp⟩ e1
  · have HR := Lib.hid (show RPtn n = none from if_neg (fun c => hn c.1))
    have HF := Lib.hid (fun w' => findRun_no n 2 w' (fun c => hn c.1))
    rw [HR.out]
    clear hn
    go_enter Try.func16, Try.ntmps16
    go_wp2_with (go_at_call 48; refine (HF.out _).mono ?_; rintro e w1 ⟨rfl, rfl⟩)
    go_ret2
    exact ⟨rfl, Below.refl _ _⟩

end Go.Proofs.Ytlpmfapjgmhbhaa
