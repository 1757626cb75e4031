/-
  The program's count of lists with a product; the model's, for small ones.
-/
import Derived.Test.YtedpplonclonkaaWX
namespace Go.Proofs.Ytedpplonclonkaa
open Go.RowKit
set_option linter.unusedVariables false
set_option linter.unusedSimpArgs false
set_option maxRecDepth 100000

theorem of_any (b : Nat) (hb : 2 ≤ b) (hb' : b ≤ 16) : ∀ p : Nat, 1 ≤ p → p ≤ 1000000000000 → ∀ (m : Nat) (s : Nat → Bool) (w : World), Sm w b m s → s 1 = true →
    Calls Try.prog 95 #[.agg #[.int .i64 (b : Int), .map (some m)], .int .i64 (p : Int)] w fun e w' => ∃ s', e = .returned (spV b p) ∧ Sm w' b m s' ∧ s' 1 = true ∧ w.grownBy w' (some m) := by
  intro p
  induction p using Nat.strongRecOn with
  | ind p ih =>
    intro hp hp' m s w hs h1
    by_cases hit : s p = true
    · exact of_hit b p m s w hb hb' hp hp' hs h1 hit
    · have hp2 : 2 ≤ p := by
        by_cases e : p = 1
        · subst e; exact absurd h1 hit
        · omega
      exact of_miss b p m s w hb hb' hp2 hp' hs h1 (by simpa using hit) (fun q hq1 hq m s w hs h1 => ih q hq hq1 (by omega) m s w hs h1)

theorem countWithProduct_any (p b : Nat) (w : World) (hp : 1 ≤ p) (hp' : p ≤ 1000000000000) (hb : 2 ≤ b) (hb' : b ≤ 16) :
    Calls Try.prog 66 #[.int .i64 (b : Int), .int .i64 (p : Int)] w fun e w' => e = .returned (.int .i64 ((ct b p : Nat) : Int)) ∧ Below w.heap.size w w' := by
  have hfd0 : ∀ (x y z : Value) (w' : World), (Instr.field 60 (.agg #[x, y, z]) 0).run Try.prog w' = .ok x w' := fun _ _ _ _ => by kernel_rfl
  obtain ⟨C, hC⟩ : ∃ C : Int, C = ((ct b p : Nat) : Int) := ⟨_, rfl⟩
  have HC := Lib.hid hC
  rw [← hC]
  have HSP := Lib.hid (show spV b p = .agg #[.int .i64 C, .int .i64 ((mf b p).1 : Nat), .int .i64 ((mf b p).2 : Nat)] by unfold spV; rw [hC])
  clear hC
  go_enter Try.func66, Try.ntmps66
  go_wp2_with (first | (go_at_call 94; go_loud (refine (splitter_any b _).mono ?_; rintro e w1 ⟨m, s, rfl, hs, h1, hm, hbl⟩; have HS := Lib.hid hs; have H1 := Lib.hid h1; have HB := Lib.hid hbl; clear hs h1 hbl)) | (go_at_call 95; go_loud (refine (of_any b hb hb' p hp hp' m s _ HS.out H1.out).mono ?_; rw [HSP.out]; rintro e w2 ⟨s2, rfl, hs2, h12, hg2⟩; have HB2 := Lib.hid (HB.out.grown hg2 HB.out.size (fun k hk => by cases hk; exact hm)); clear hs2 h12 hg2)))
  go_ret
  exact ⟨rfl, HB2.out⟩

theorem prCount_any (b : Nat) (hb : 2 ≤ b) (hb' : b ≤ 16) : ∀ (p : Nat) (w : World), 1 ≤ p → p ≤ 1000000000000 →
    Calls Try.prog 64 #[.int .i64 (p : Int), .int .i64 (b : Int)] w fun e w' => e = .returned (.int .i64 ((ct b p : Nat) : Int)) ∧ w = w' := by
  intro p
  induction p using Nat.strongRecOn with
  | ind p ih =>
    intro w hp hp'
    by_cases hp1 : p = 1
    · have HC := Lib.hid (ct_one b p (by omega))
      subst hp1
      go_enter Try.func64, Try.ntmps64
      go_wp2
      go_ret
      exact ⟨by rw [HC.out]; rfl, rfl⟩
    · have hbe : ((p : Int) == 1) = false := beq_no (by omega)
      have HI := Lib.hid ih
      have HCT := Lib.hid (ct_step b p (by omega))
      have hcl := ct_lt b p hb' hp hp'
      obtain ⟨CP, hCP⟩ : ∃ CP, CP = ct b p := ⟨_, rfl⟩
      have HCP := Lib.hid hCP
      rw [← hCP] at hcl ⊢
      have hk : 2 + (b - 2) = b := by omega
      clear ih hp1 hCP
      go_enter Try.func64, Try.ntmps64
      go_wp2
      go_loop [5, 6] (fun c y => ∃ d k L : Nat, c = .int .i64 (L : Int) ∧ y = .int .i64 (d : Int) ∧ d + k = b ∧ 2 ≤ d ∧ Hid (L + ctL (ct b) p k d = CP)) (fun _ y => (16 - intOf y).toNat)
      case atStart => exact ⟨2, b - 2, 0, rfl, rfl, hk, by omega, Lib.hid (by rw [Nat.zero_add, ← HCT.out, HCP.out])⟩
      case round =>
        obtain ⟨d, k, L, rfl, rfl, hdk, hd2, HL⟩ := hrel
        by_cases hdb : d < b
        · obtain ⟨k, rfl⟩ : ∃ j, k = j + 1 := ⟨k - 1, by omega⟩
          obtain ⟨r, hr⟩ : ∃ r : Nat, r = p % d := ⟨_, rfl⟩
          have hri : (p : Int) % (d : Int) = (r : Int) := by rw [hr]; exact (Int.natCast_emod p d).symm
          by_cases hr0 : r = 0
          · have hmod : p % d = 0 := by omega
            obtain ⟨q, hq⟩ : ∃ q : Nat, q = p / d := ⟨_, rfl⟩
            have hqe : (p : Int) / (d : Int) = (q : Int) := by rw [hq]; exact (Int.natCast_ediv p d).symm
            have hq1 : 1 ≤ q := by rw [hq]; exact Nat.div_pos (Nat.le_of_dvd (by omega) (Nat.dvd_of_mod_eq_zero hmod)) (by omega)
            have hqp : q < p := by rw [hq]; exact Nat.div_lt_self (by omega) (by omega)
            obtain ⟨C, hC⟩ : ∃ C : Nat, C = ct b q := ⟨_, rfl⟩
            have HC := Lib.hid hC
            obtain ⟨T, hT⟩ : ∃ T : Nat, T = L + C := ⟨_, rfl⟩
            have HLC := Lib.hid (show T + ctL (ct b) p k (d + 1) = CP by have := HL.out; rw [ctL, if_pos hmod, ← hq, ← hC] at this; omega)
            have hTb2 : (T : Int) ≤ 9223372036854775807 := by have := HLC.out; omega
            have hTi : (L : Int) + (C : Int) = (T : Int) := by omega
            subst hr0
            clear hr hq hmod hC hT
            go_wp2_with (go_at_call 64; go_loud (refine (HI.out q hqp _ hq1 (by omega)).mono ?_; rw [← HC.out]; rintro e w1 ⟨rfl, rfl⟩))
            go_round
            case rel => exact ⟨d + 1, k, T, by go_num, by go_num, by omega, by omega, HLC⟩
            case measure => (simp [intOf]; omega)
          · have hrn : ¬ (r : Int) = 0 := by omega
            have HMD := Lib.hid (show ¬ p % d = 0 by omega)
            clear hr
            go_wp2
            go_round
            case rel => exact ⟨d + 1, k, L, rfl, by go_num, by omega, by omega, Lib.hid (by have := HL.out; rw [ctL, if_neg HMD.out, Nat.zero_add] at this; exact this)⟩
            case measure => (simp [intOf]; omega)
        · have hk0 : k = 0 := by omega
          subst hk0
          have HE := Lib.hid (show L = CP by have := HL.out; rw [ctL, Nat.add_zero] at this; exact this)
          go_wp2
          go_ret
          exact ⟨by rw [← HE.out]; rfl, rfl⟩

end Go.Proofs.Ytedpplonclonkaa
