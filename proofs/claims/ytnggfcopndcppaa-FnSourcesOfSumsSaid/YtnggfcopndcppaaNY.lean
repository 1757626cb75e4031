/-
  Joint text of N2 N3 N4 NE NF NG (written by wip/tools/merge.py).
-/
import Derived.Test.YtnggfcopndcppaaN1
import Derived.Test.YtnggfcopndcppaaTJ
import Derived.Test.YtnggfcopndcppaaNA
import Derived.Test.YtnggfcopndcppaaTI
import Derived.Test.YtnggfcopndcppaaND
import Derived.Test.YtnggfcopndcppaaTS
/- from XN2 -/
namespace Go.Proofs.Ytnggfcopndcppaa
open Go.RowKit
set_option linter.unusedVariables false
set_option linter.unusedSimpArgs false
set_option maxRecDepth 100000

theorem pow_le13 {b : Int} (hb : 2 ≤ b) (hb' : b ≤ 16) {n : Nat} (hn : n ≤ 12) : 1 ≤ b ^ n ∧ b ^ n ≤ 281474976710656 := by
  obtain ⟨B, rfl⟩ : ∃ B : Nat, b = B := ⟨b.toNat, by omega⟩
  have h1 : B ^ n ≤ 16 ^ n := Nat.pow_le_pow_left (by omega) n
  have h2 : 16 ^ n ≤ 16 ^ 12 := Nat.pow_le_pow_right (by omega) hn
  have h3 : 1 ≤ B ^ n := Nat.pos_of_ne_zero (fun h => by have := Nat.pow_eq_zero.1 h; omega)
  have h4 : (16 : Nat) ^ 12 = 281474976710656 := by decide
  have h5 : ((B : Int)) ^ n = ((B ^ n : Nat) : Int) := by push_cast; rfl
  rw [h5]; omega

/-- The answer behind j pairs tried. -/
def restV (b : Int) (w : Nat) (v least : Int) (j : Nat) : Int × List Int :=
  if j = 0 then rndV b w v least (v % b) (rndV b w v least (v % b + b) (0, [])) else if j = 1 then rndV b w v least (v % b + b) (0, []) else (0, [])
theorem restV_0 {b : Int} (hb : 2 ≤ b) (w : Nat) (v least : Int) (h0 : 0 ≤ v) : srcV b (w + 2) v least = restV b w v least 0 := by
  unfold restV; rw [if_pos rfl]; exact srcV_step hb w v least h0
theorem restV_step (b : Int) (w : Nat) (v least : Int) (j : Nat) (hb : 2 ≤ b) (hj : v % b + (j : Int) * b ≤ 2 * (b - 1)) : j ≤ 1 ∧ restV b w v least j = rndV b w v least (v % b + (j : Int) * b) (restV b w v least (j + 1)) := by
  have h1 : 0 ≤ v % b := Int.emod_nonneg v (by omega)
  have hj1 : j ≤ 1 := by
    by_cases h : 2 ≤ j
    · have : (2 : Int) * b ≤ (j : Int) * b := Int.mul_le_mul_of_nonneg_right (by omega) (by omega)
      omega
    · omega
  refine ⟨hj1, ?_⟩
  have : j = 0 ∨ j = 1 := by omega
  rcases this with rfl | rfl <;> simp [restV]
theorem restV_end (b : Int) (w : Nat) (v least : Int) (j : Nat) (hb : 2 ≤ b) (hj2 : j ≤ 2) (hj : 2 * (b - 1) < v % b + (j : Int) * b) : restV b w v least j = (0, []) := by
  have : j = 0 ∨ j = 1 ∨ j = 2 := by omega
  have h2 : v % b < b := Int.emod_lt_of_pos v (by omega)
  rcases this with rfl | rfl | rfl
  · simp at hj; omega
  · show rndV b w v least (v % b + b) (0, []) = (0, [])
    unfold rndV
    rw [if_neg (by simp at hj; omega)]
  · rfl
theorem srcV_le {b : Int} (hb : 2 ≤ b) (hb' : b ≤ 16) {w : Nat} (hw : w ≤ 12) (v least : Int) (hl : 0 ≤ least) : (srcV b w v least).1 ≤ 281474976710656 := by
  have hp := (pow_le13 hb hb' (show (w + 1) / 2 ≤ 12 by omega)).2
  unfold srcV
  split
  · split
    · simp
    · have := cntH_le b hb w least ‹_› hl
      simp only; omega
  · simp
theorem srcV_nil {b : Int} {w : Nat} {v least : Int} (h : (srcV b w v least).1 = 0) : (srcV b w v least).2 = [] := by
  unfold srcV at h ⊢
  split
  · split
    · rfl
    · next h1 h2 => rw [h1] at h; simp only at h; rw [if_neg h2] at h; exact absurd h h2
  · rfl

end Go.Proofs.Ytnggfcopndcppaa

/- from XN3 -/
namespace Go.Proofs.Ytnggfcopndcppaa
open Go.RowKit
set_option linter.unusedVariables false
set_option linter.unusedSimpArgs false
set_option maxRecDepth 100000

/-- sourcesOf of less than two digits. -/
theorem sourcesOf_two (b v least : Int) (W : Nat) (w : World) (hW : W < 2) (hb : 2 ≤ b) (hb' : b ≤ 16) (hv : 0 ≤ v) (hv' : v ≤ 1000000000000000000) (hl : 0 ≤ least) (hl' : least ≤ 1) :
    Calls Try.prog 103 #[.int .i64 v, .int .i64 (W : Int), .int .i64 b, .int .i64 least] w fun e w' => ∃ u, e = .returned (.agg #[.int .i64 (srcV b W v least).1, u]) ∧ Rd w' w.heap.size u (srcV b W v least).2 ∧ Below w.heap.size w w' := by
  have HAL := Lib.hid (alloc_below w (.cells #[.int .i64 0, .slice none 0 0] 92))
  have HC0 := Lib.hid (show (w.alloc (.cells #[.int .i64 0, .slice none 0 0] 92)).cell? ⟨w.heap.size, 0, none⟩ = some (.int .i64 0) by simp [go_sem])
  have HC1 := Lib.hid (show (w.alloc (.cells #[.int .i64 0, .slice none 0 0] 92)).cell? ⟨w.heap.size, 1, none⟩ = some (.slice none 0 0) by simp [go_sem])
  have HF := Lib.hid (show ∀ j, (w.alloc (.cells #[.int .i64 0, .slice none 0 0] 92)).frozen? ⟨w.heap.size, j, none⟩ = false from fun j => by simp [go_sem])
  obtain ⟨w1, hw1⟩ : ∃ w1, w1 = w.alloc (.cells #[.int .i64 0, .slice none 0 0] 92) := ⟨_, rfl⟩
  have HW1 := Lib.hid hw1
  have hsz : w.heap.size < w1.heap.size := by rw [hw1, World.size_alloc]; omega
  rw [← hw1] at HAL HC0 HC1 HF
  have HM := Lib.hid (middle_any b v least W w1 hW hb (by omega) hv hv' hl hl')
  obtain ⟨sv, hsv⟩ : ∃ sv, sv = srcV b W v least := ⟨_, rfl⟩
  rw [← hsv] at HM ⊢
  clear hsv hw1
  have hW3 : (W : Int) < 2 := by omega
  go_enter Try.func103, Try.ntmps103
  go_wp2_with fail
  rw [← HW1.out]
  refine HM.out.mono ?_
  rintro e w2 ⟨u, rfl, hr, hb2⟩
  obtain ⟨a2, d2, rfl⟩ := hr.shape'
  have c0 := Below.keeps_cell hb2 HC0.out
  have c1 := Below.keeps_cell hb2 HC1.out
  have hfz : ∀ j, w2.frozen? ⟨w.heap.size, j, none⟩ = false := fun j => by rw [(below_cells hb2).2 _ _ hsz]; exact HF.out j
  have f0 := hfz 0
  have f1 := hfz 1
  have B2 := Lib.hid (Below.step HAL.out HAL.out.size hb2)
  have hgr : ∀ u q, Below w.heap.size w ((w2.setCell ⟨w.heap.size, 0, none⟩ u).setCell ⟨w.heap.size, 1, none⟩ q) := fun u q => (B2.out.setCell (Nat.le_refl _) _).setCell (Nat.le_refl _) _
  have HGR := Lib.hid hgr
  have hne : (Value.slice a2 sv.2.length d2).ownBlock = none ∨ (Value.slice a2 sv.2.length d2).ownBlock ≠ some w.heap.size := by
    by_cases e : (Value.slice a2 sv.2.length d2).ownBlock = none
    · exact .inl e
    · exact .inr (fun h => by have := (hr.lt _ h).1; omega)
  have HRG := Lib.hid (show ∀ u q', Rd ((w2.setCell ⟨w.heap.size, 0, none⟩ u).setCell ⟨w.heap.size, 1, none⟩ q') w.heap.size (.slice a2 sv.2.length d2) sv.2 from fun u q' => ((hr.grown (grown_setCell _ _ _ _) hne).grown (grown_setCell _ _ _ _) hne).mono (by omega))
  clear hr hb2 hfz hgr hne HM
  have hsp := set_pair (x0 := .int .i64 sv.1) (x1 := .slice a2 sv.2.length d2) c0 c1
  have HSP := Lib.hid hsp
  clear hsp
  go_wp2
  refine bodyPost_ret (ret_src rfl _ _ w.heap.size _ _ rfl HSP.out.1 HSP.out.2) rfl ?_
  exact ⟨_, rfl, HRG.out _ _, HGR.out _ _⟩

end Go.Proofs.Ytnggfcopndcppaa

/- from XN4 -/
namespace Go.Proofs.Ytnggfcopndcppaa
open Go.RowKit
set_option linter.unusedVariables false
set_option linter.unusedSimpArgs false
set_option maxRecDepth 100000

theorem concat3_any (w : World) (g : Nat) (u0 u1 u2 : Value) (Y0 Y1 Y2 : List Int) (hg : w.heap.size = g) (r0 : Rd w 0 u0 Y0) (r1 : Rd w 0 u1 Y1) (r2 : Rd w 0 u2 Y2) (hp : 1 ≤ Y0.length) (h0 : Y0.length ≤ 100) (h1 : Y1.length ≤ 100) (h2 : Y2.length ≤ 100) :
    Calls Try.prog 80 #[.slice (some ⟨g, 0, none⟩) 3 3] (w.alloc (.cells #[u0, u1, u2] 24)) fun e w' => ∃ v, e = .returned v ∧ Rd w' w.heap.size v (Y0 ++ Y1 ++ Y2) ∧ Below (w.alloc (.cells #[u0, u1, u2] 24)).heap.size (w.alloc (.cells #[u0, u1, u2] 24)) w' := by
  subst hg
  refine (concatI_any w.heap.size 3 3 (fun i => match i with | 0 => u0 | 1 => u1 | _ => u2) (fun i => match i with | 0 => Y0 | 1 => Y1 | _ => Y2) _ (fun i hi => ?_) (fun i hi => ?_) ?_ (fun i hi => ?_) (by omega)).mono ?_
  · match i, hi with
    | 0, _ => simp [go_sem]
    | 1, _ => simp [go_sem]
    | 2, _ => simp [go_sem]
  · match i, hi with
    | 0, _ => exact r0.alloc _
    | 1, _ => exact r1.alloc _
    | 2, _ => exact r2.alloc _
  · simp [jnP]; omega
  · match i, hi with
    | 0, _ => simp [jnP]
    | 1, _ => simp [jnP]; omega
    | 2, _ => simp [jnP]; omega
    | 3, _ => simp [jnP]; omega
  · rintro e w' ⟨v, rfl, hr, hb⟩
    have hj : jnP (fun i => match i with | 0 => Y0 | 1 => Y1 | _ => Y2) 3 = Y0 ++ Y1 ++ Y2 := by simp [jnP]
    rw [hj] at hr
    exact ⟨v, rfl, hr.mono (by simp), hb⟩

theorem fstH_len (b : Int) : ∀ (w : Nat) (l : Int) (H : List Int), (fstH b w l H).length ≤ w
  | 0, _, _ => by simp [fstH]
  | 1, _, [] => by simp [fstH]
  | 1, _, _ :: _ => by simp [fstH]
  | w + 2, _, [] => by simp [fstH]
  | w + 2, _, _ :: H => by have := fstH_len b w 0 H; simp [fstH]; omega
theorem srcV_len (b : Int) (w : Nat) (v l : Int) : (srcV b w v l).2.length ≤ w := by
  unfold srcV
  split
  · split
    · simp
    · exact fstH_len b w l _
  · simp

set_option maxHeartbeats 4000000 in
/-- sourcesOf of two digits or more, if it is right for two digits less. -/
theorem sourcesOf_more (b v least : Int) (k : Nat) (w : World) (hk : k + 2 ≤ 12) (hb : 2 ≤ b) (hb' : b ≤ 16) (hv : 0 ≤ v) (hv' : v ≤ 1000000000000000000) (hl : 0 ≤ least) (hl' : least ≤ 1)
    (ih : ∀ (v' : Int) (w' : World), 0 ≤ v' → v' ≤ 1000000000000000000 → Calls Try.prog 103 #[.int .i64 v', .int .i64 (k : Int), .int .i64 b, .int .i64 0] w' fun e w'' => ∃ u, e = .returned (.agg #[.int .i64 (srcV b k v' 0).1, u]) ∧ Rd w'' w'.heap.size u (srcV b k v' 0).2 ∧ Below w'.heap.size w' w'') :
    Calls Try.prog 103 #[.int .i64 v, .int .i64 ((k + 2 : Nat) : Int), .int .i64 b, .int .i64 least] w fun e w' => ∃ u, e = .returned (.agg #[.int .i64 (srcV b (k + 2) v least).1, u]) ∧ Rd w' w.heap.size u (srcV b (k + 2) v least).2 ∧ Below w.heap.size w w' := by
  have HAL := Lib.hid (alloc_below w (.cells #[.int .i64 0, .slice none 0 0] 92))
  have HC0 := Lib.hid (show (w.alloc (.cells #[.int .i64 0, .slice none 0 0] 92)).cell? ⟨w.heap.size, 0, none⟩ = some (.int .i64 0) by simp [go_sem])
  have HC1 := Lib.hid (show (w.alloc (.cells #[.int .i64 0, .slice none 0 0] 92)).cell? ⟨w.heap.size, 1, none⟩ = some (.slice none 0 0) by simp [go_sem])
  have HF := Lib.hid (show ∀ j, (w.alloc (.cells #[.int .i64 0, .slice none 0 0] 92)).frozen? ⟨w.heap.size, j, none⟩ = false from fun j => by simp [go_sem])
  obtain ⟨w1, hw1⟩ : ∃ w1, w1 = w.alloc (.cells #[.int .i64 0, .slice none 0 0] 92) := ⟨_, rfl⟩
  have HW1 := Lib.hid hw1
  have hsz : w.heap.size < w1.heap.size := by rw [hw1, World.size_alloc]; omega
  rw [← hw1] at HAL HC0 HC1 HF
  have HS0 := Lib.hid (restV_0 hb k v least hv)
  obtain ⟨sv, hsv⟩ : ∃ sv, sv = srcV b (k + 2) v least := ⟨_, rfl⟩
  rw [← hsv] at HS0 ⊢
  clear hsv hw1
  have HIH := Lib.hid ih
  clear ih
  obtain ⟨K, hK⟩ : ∃ K : Int, K = ((k + 2 : Nat) : Int) := ⟨_, rfl⟩
  have hK2 : ¬ K < 2 := by omega
  have HPW := Lib.hid (show ∀ w', Calls Try.prog 100 #[.int .i64 b, .int .i64 ((k + 1 : Nat) : Int)] w' fun e w'' => e = .returned (.int .i64 (b ^ (k + 1))) ∧ w' = w'' from fun w' => powerOfBase_any b (k + 1) w' hb hb' (by omega))
  have HKM := Lib.hid (show K - 1 = ((k + 1 : Nat) : Int) by omega)
  have HK2 := Lib.hid (show K - 2 = ((k : Nat) : Int) by omega)
  have hKl : K ≤ 12 := by omega
  have hp0 : 0 ≤ v % b := Int.emod_nonneg v (by omega)
  have hp1 : v % b < b := Int.emod_lt_of_pos v (by omega)
  have hbz : ¬ b = 0 := by omega
  have hmd : Int.tmod v b = v % b := Int.tmod_eq_emod_of_nonneg hv
  obtain ⟨r, hr⟩ : ∃ r, r = v % b := ⟨_, rfl⟩
  have HR := Lib.hid hr
  rw [← hr] at hp0 hp1
  rw [← hK]
  have hK2' : 2 ≤ K := by omega
  clear hK
  go_enter Try.func103, Try.ntmps103
  go_wp2
  rw [← HW1.out]
  rw [← HR.out]
  clear hr
  go_loopw [9] (fun q wr => ∃ j : Nat, j ≤ 2 ∧ q = .int .i64 (r + (j : Int) * b) ∧ sv = restV b k v least j ∧ Below w1.heap.size w1 wr) (fun q _ => (100 - intOf q).toNat)
  case atStart => exact ⟨0, by omega, by simp, HS0.out, Below.refl _ _⟩
  case round =>
    obtain ⟨j, hj, rfl, hsj, hbl⟩ := hrel
    have HB := Lib.hid hbl
    have HSJ := Lib.hid hsj
    clear hbl hsj
    have hjb : 0 ≤ (j : Int) * b := Int.mul_nonneg (by omega) (by omega)
    obtain ⟨p, hp⟩ : ∃ p, p = r + (j : Int) * b := ⟨_, rfl⟩
    have HP := Lib.hid hp
    have hpz : 0 ≤ p := by omega
    rw [← hp]
    clear hp hjb
    by_cases hle : p ≤ 2 * (b - 1)
    · obtain ⟨P1, hP1⟩ : ∃ P1, P1 = b ^ (k + 1) := ⟨_, rfl⟩
      have HP1 := Lib.hid hP1
      have hP1b : 1 ≤ P1 ∧ P1 ≤ 281474976710656 := by rw [hP1]; exact pow_le13 hb hb' (by omega)
      clear hP1
      obtain ⟨X, hX⟩ : ∃ X, X = p * (P1 + 1) := ⟨_, rfl⟩
      have HXX := Lib.hid hX
      have hX0 : 0 ≤ X := by rw [hX]; exact Int.mul_nonneg hpz (by omega)
      have hX1 : X ≤ 8444249301319710 := by
        rw [hX]
        have h1 : p * (P1 + 1) ≤ 30 * (P1 + 1) := Int.mul_le_mul_of_nonneg_right (by omega) (by omega)
        omega
      have hXX : p * (P1 + 1) = X := hX.symm
      clear hX
      have HST := Lib.hid (restV_step b k v least j hb (by rw [← HR.out, ← HP.out]; exact hle))
      obtain ⟨rest, hrest⟩ : ∃ rest, rest = restV b k v least (j + 1) := ⟨_, rfl⟩
      have HRS := Lib.hid hrest
      have HNX := Lib.hid (show p + b = r + ((j + 1 : Nat) : Int) * b by rw [HP.out]; push_cast; rw [Int.add_mul]; omega)
      obtain ⟨Q, hQ⟩ : ∃ Q, Q = (v - X) / b := ⟨_, rfl⟩
      have HQ := Lib.hid hQ
      have HRN := Lib.hid (show sv = if v - X < 0 ∨ min (b - 1) p < max least (p - (b - 1)) then rest else if 0 < (srcV b k Q 0).1 then ((srcV b k Q 0).1 * (min (b - 1) p - max least (p - (b - 1)) + 1), max least (p - (b - 1)) :: ((srcV b k Q 0).2 ++ [p - max least (p - (b - 1))])) else rest by
        rw [HSJ.out, HST.out.2, ← HR.out, ← HP.out]
        unfold rndV
        rw [if_pos hle, ← HP1.out, hXX, ← HQ.out, HRS.out])
      have hQd : (v - X) / b = Q := hQ.symm
      clear hQ hrest
      have hdv : 0 ≤ v - X → Int.tdiv (v - X) b = (v - X) / b := fun h => Int.tdiv_eq_ediv_of_nonneg h
      go_wp2_with fail
      rw [HKM.out]
      refine (HPW.out _).mono ?_
      rw [← HP1.out]
      rintro e w2 ⟨rfl, rfl⟩
      by_cases hneg : v - X < 0
      · have HEV := Lib.hid (show sv = restV b k v least (j + 1) by rw [HRN.out, if_pos (.inl hneg), HRS.out])
        go_wp2
        go_roundw
        case rel => exact ⟨j + 1, by have := HST.out.1; omega, by rw [← HNX.out], HEV.out, HB.out⟩
        case measure => simp [intOf]; omega
      · by_cases hlh : min (b - 1) p < max least (p - (b - 1))
        · have HEV := Lib.hid (show sv = restV b k v least (j + 1) by rw [HRN.out, if_pos (.inr hlh), HRS.out])
          go_wp2
          go_roundw
          case rel => exact ⟨j + 1, by have := HST.out.1; omega, by rw [← HNX.out], HEV.out, HB.out⟩
          case measure => simp [intOf]; omega
        · have hneg0 : ¬ v - X < 0 := hneg
          have hQ0 : 0 ≤ Q := by rw [← hQd]; exact Int.ediv_nonneg (by omega) (by omega)
          have hQ1 : Q ≤ 1000000000000000000 := by
            have := Int.ediv_le_self b (show 0 ≤ v - X by omega)
            omega
          go_wp2_with fail
          rw [HK2.out]
          refine (HIH.out Q _ hQ0 hQ1).mono ?_
          rintro e w3 ⟨u3, rfl, hr3, hb3⟩
          obtain ⟨cn, hcn⟩ : ∃ cn, cn = (srcV b k Q 0).1 := ⟨_, rfl⟩
          obtain ⟨ys, hys⟩ : ∃ ys, ys = (srcV b k Q 0).2 := ⟨_, rfl⟩
          have hcn0 : 0 ≤ cn := by rw [hcn]; exact srcV_nn _ _ _ _
          have hcn1 : cn ≤ 281474976710656 := by rw [hcn]; exact srcV_le hb hb' (by omega) _ _ (by omega)
          have hyl : ys.length ≤ 100 := by rw [hys]; have := srcV_len b k Q 0; omega
          rw [← hcn, ← hys] at HRN
          rw [← hys] at hr3
          rw [← hcn]
          clear hcn hys
          obtain ⟨a3, d3, rfl⟩ := hr3.shape'
          have R3 := Lib.hid hr3
          have B3 := Lib.hid (Below.step HB.out HB.out.size hb3)
          clear hr3 hb3
          by_cases hc : 0 < cn
          · go_wp2_with fail
            obtain ⟨lo, hlo⟩ : ∃ lo, lo = max least (p - (b - 1)) := ⟨_, rfl⟩
            obtain ⟨hi, hhi⟩ : ∃ hi, hi = min (b - 1) p := ⟨_, rfl⟩
            have HEV := Lib.hid (show sv = (cn * (hi - lo + 1), lo :: (ys ++ [p - lo])) by rw [HRN.out, if_neg (by omega), if_pos hc, ← hlo, ← hhi])
            rw [← hlo] at hlh ⊢
            rw [← hhi] at hlh ⊢
            have hlo0 : 0 ≤ lo := by omega
            have hhi1 : hi ≤ 15 := by omega
            obtain ⟨cc, hcc⟩ : ∃ cc, cc = cn * (hi - lo + 1) := ⟨_, rfl⟩
            have hcc0 : 0 ≤ cc := by rw [hcc]; exact Int.mul_nonneg hcn0 (by omega)
            have hcc1 : cc ≤ 9007199254740992 := by
              rw [hcc]
              have h1 : cn * (hi - lo + 1) ≤ cn * 16 := Int.mul_le_mul_of_nonneg_left (by omega) hcn0
              omega
            have hccd : cn * (hi - lo + 1) = cc := hcc.symm
            rw [hccd] at HEV
            clear hcc hlo hhi HRN
            have A1 := Lib.hid (alloc_below w3 (.cells #[.int .i64 cn, .slice a3 ys.length d3] 92))
            have C13 := Lib.hid (show (w3.alloc (.cells #[.int .i64 cn, .slice a3 ys.length d3] 92)).cell? ⟨w3.heap.size, 0, none⟩ = some (.int .i64 cn) by simp [go_sem])
            obtain ⟨w4, hw4⟩ : ∃ w4, w4 = w3.alloc (.cells #[.int .i64 cn, .slice a3 ys.length d3] 92) := ⟨_, rfl⟩
            have hs4 : w4.heap.size = w3.heap.size + 1 := by rw [hw4, World.size_alloc]
            rw [← hw4] at A1 C13 ⊢
            clear hw4
            have q0 := (Rd.litB w4 0 lo (Nat.zero_le _)).alloc (.cells #[.int .i64 (p - lo)] 3)
            have q2 := Rd.litB (w4.alloc (.cells #[.int .i64 lo] 3)) 0 (p - lo) (Nat.zero_le _)
            have q1 := ((((R3.out.keep A1.out).mono (Nat.zero_le _)).alloc (.cells #[.int .i64 lo] 3)).alloc (.cells #[.int .i64 (p - lo)] 3))
            rw [World.size_alloc] at q2
            rw [hs4] at q0 q2
            have HCON := concat3_any _ (w3.heap.size + 1 + 1 + 1) _ _ _ _ _ _ (by rw [World.size_alloc, World.size_alloc, hs4]) q0 q1 q2 (by simp) (by simp) hyl (by simp)
            have K6 := Lib.hid (show Below w4.heap.size w4 (((w4.alloc (.cells #[.int .i64 lo] 3)).alloc (.cells #[.int .i64 (p - lo)] 3)).alloc (.cells #[.slice (some ⟨w3.heap.size + 1, 0, none⟩) 1 1, .slice a3 ys.length d3, .slice (some ⟨w3.heap.size + 1 + 1, 0, none⟩) 1 1] 24)) from bel_alloc (bel_alloc (bel_alloc (Below.refl _ _) _) _) _)
            refine HCON.mono ?_
            clear HCON q0 q1 q2
            rintro e w8 ⟨u8, rfl, hr8, hb8⟩
            obtain ⟨a8, d8, rfl⟩ := hr8.shape'
            have K8 := Lib.hid (bel_step K6.out hb8)
            have c13 := Below.keeps_cell K8.out C13.out
            have B8 := Lib.hid (Below.step (Below.step B3.out B3.out.size A1.out) (Below.step B3.out B3.out.size A1.out).size K8.out)
            have c0 := Below.keeps_cell B8.out HC0.out
            have c1 := Below.keeps_cell B8.out HC1.out
            have hfz : ∀ j, w8.frozen? ⟨w.heap.size, j, none⟩ = false := fun j => by rw [(below_cells B8.out).2 _ _ hsz]; exact HF.out j
            have f0 := hfz 0
            have f1 := hfz 1
            have B9 := Lib.hid (Below.step HAL.out HAL.out.size B8.out)
            obtain ⟨L, hL⟩ : ∃ L, L = [lo] ++ ys ++ [p - lo] := ⟨_, rfl⟩
            have HLL := Lib.hid (show L = lo :: (ys ++ [p - lo]) by rw [hL]; simp)
            rw [← hL] at hr8 ⊢
            clear hL
            have hlw : w.heap.size < ((w4.alloc (.cells #[.int .i64 lo] 3)).alloc (.cells #[.int .i64 (p - lo)] 3)).heap.size := by
              rw [World.size_alloc, World.size_alloc, hs4]
              have := B3.out.size
              omega
            have hne : (Value.slice a8 L.length d8).ownBlock = none ∨ (Value.slice a8 L.length d8).ownBlock ≠ some w.heap.size := by
              by_cases e : (Value.slice a8 L.length d8).ownBlock = none
              · exact .inl e
              · exact .inr (fun h => by have := (hr8.lt _ h).1; omega)
            have HRG := Lib.hid (show ∀ u q', Rd ((w8.setCell ⟨w.heap.size, 0, none⟩ u).setCell ⟨w.heap.size, 1, none⟩ q') w.heap.size (.slice a8 L.length d8) L from fun u q' => ((hr8.grown (grown_setCell _ _ _ _) hne).grown (grown_setCell _ _ _ _) hne).mono (by omega))
            have hsp := set_pair (x0 := .int .i64 cc) (x1 := .slice a8 L.length d8) c0 c1
            have HSP := Lib.hid hsp
            clear hsp hfz hne hr8 hb8 hlw
            go_wp2
            refine bodyPost_ret (ret_src rfl _ _ w.heap.size _ _ rfl HSP.out.1 HSP.out.2) rfl ?_
            rw [HEV.out]
            exact ⟨_, rfl, by rw [← HLL.out]; exact HRG.out _ _, (B9.out.setCell (Nat.le_refl _) _).setCell (Nat.le_refl _) _⟩
          · have HEV := Lib.hid (show sv = restV b k v least (j + 1) by rw [HRN.out, if_neg (by omega), if_neg hc, HRS.out])
            go_wp2
            go_roundw
            case rel => exact ⟨j + 1, by have := HST.out.1; omega, by rw [← HNX.out], HEV.out, B3.out.alloc B3.out.size _⟩
            case measure => simp [intOf]; omega
    · have HEV := Lib.hid (show sv = (0, []) by rw [HSJ.out]; exact restV_end b k v least j hb hj (by rw [← HR.out, ← HP.out]; omega))
      have c0 := Below.keeps_cell HB.out HC0.out
      have c1 := Below.keeps_cell HB.out HC1.out
      have hfz : ∀ j, wr.frozen? ⟨w.heap.size, j, none⟩ = false := fun j => by rw [(below_cells HB.out).2 _ _ hsz]; exact HF.out j
      have f0 := hfz 0
      have f1 := hfz 1
      have B2 := Lib.hid (Below.step HAL.out HAL.out.size HB.out)
      have hsp := set_pair (x0 := .int .i64 0) (x1 := .slice none 0 0) c0 c1
      have HSP := Lib.hid hsp
      clear hsp hfz
      go_wp2
      refine bodyPost_ret (ret_src rfl _ _ w.heap.size _ _ rfl HSP.out.1 HSP.out.2) rfl ?_
      rw [HEV.out]
      exact ⟨_, rfl, Rd.nil _ _, (B2.out.setCell (Nat.le_refl _) _).setCell (Nat.le_refl _) _⟩

theorem sourcesOf_any (b : Int) (hb : 2 ≤ b) (hb' : b ≤ 16) : ∀ (W : Nat), W ≤ 12 → ∀ (v least : Int) (w : World), 0 ≤ v → v ≤ 1000000000000000000 → 0 ≤ least → least ≤ 1 →
    Calls Try.prog 103 #[.int .i64 v, .int .i64 (W : Int), .int .i64 b, .int .i64 least] w fun e w' => ∃ u, e = .returned (.agg #[.int .i64 (srcV b W v least).1, u]) ∧ Rd w' w.heap.size u (srcV b W v least).2 ∧ Below w.heap.size w w' := by
  intro W
  induction W using Nat.strongRecOn with
  | _ W ih =>
    intro hW v least w hv hv' hl hl'
    by_cases h : W < 2
    · exact sourcesOf_two b v least W w h hb hb' hv hv' hl hl'
    · obtain ⟨k, rfl⟩ : ∃ k, W = k + 2 := ⟨W - 2, by omega⟩
      exact sourcesOf_more b v least k w hW hb hb' hv hv' hl hl' (fun v' w' h1 h2 => ih k (by omega) (by omega) v' 0 w' h1 h2 (by omega) (by omega))

end Go.Proofs.Ytnggfcopndcppaa

/- from XNE -/
namespace Go.Proofs.Ytnggfcopndcppaa
open Go.RowKit
set_option linter.unusedVariables false
set_option linter.unusedSimpArgs false
set_option maxRecDepth 100000

/-- The value of digits, the first one first. -/
def hv (b : Int) : List Int → Int → Int
  | [], a => a
  | d :: ds, a => hv b ds (a * b + d)
theorem hv_vs (b : Int) : ∀ (xs : List Int) (a : Int), hv b xs a = vs b xs.reverse + a * b ^ xs.length
  | [], a => by simp [hv, vs]
  | d :: ds, a => by
    rw [hv, hv_vs b ds, List.reverse_cons, vs_snoc, List.length_reverse, List.length_cons, Int.pow_succ]
    grind
theorem hv_step (b : Int) (xs : List Int) (k : Nat) (a : Int) (h : k < xs.length) : hv b (xs.drop k) a = hv b (xs.drop (k + 1)) (a * b + xs[k]) := by
  rw [List.drop_eq_getElem_cons h]; rfl

/-- The value of digits. -/
def vD (b : Int) (xs : List Int) : Int := vs b xs.reverse
theorem vD_bd {b : Int} (hb : 2 ≤ b) (hb' : b ≤ 16) {xs : List Int} (hx : ∀ x ∈ xs, 0 ≤ x ∧ x ≤ b - 1) (hl : xs.length ≤ 12) : 0 ≤ vD b xs ∧ vD b xs ≤ 281474976710656 := by
  have h1 := vs_bd b hb xs.reverse (fun x h => hx x (List.mem_reverse.1 h))
  have h2 := (pow_le13 hb hb' hl).2
  rw [List.length_reverse] at h1
  unfold vD
  omega

/-- How many sources of a width, of both widths; the first one. -/
def sW (b : Int) (W : Nat) (v : Int) : Int := if W = 0 then 0 else (srcV b W v 1).1
def cntS (b : Int) (xs : List Int) : Int := sW b (xs.length - 1) (vD b xs) + sW b xs.length (vD b xs)
def fstS (b : Int) (xs : List Int) : List Int := if sW b (xs.length - 1) (vD b xs) = 0 then (srcV b xs.length (vD b xs) 1).2 else (srcV b (xs.length - 1) (vD b xs) 1).2

theorem fin_pair {w : World} {s : Nat} {x0 x1 y0 y1 : Value} (o : Obj) (c0 : w.cell? ⟨s, 0, none⟩ = some y0) (c1 : w.cell? ⟨s, 1, none⟩ = some y1) (hs : s < w.heap.size) :
    (((w.setCell ⟨s, 0, none⟩ x0).setCell ⟨s, 1, none⟩ x1).alloc o).cell? ⟨s, 0, none⟩ = some x0 ∧ (((w.setCell ⟨s, 0, none⟩ x0).setCell ⟨s, 1, none⟩ x1).alloc o).cell? ⟨s, 1, none⟩ = some x1 := by
  obtain ⟨h0, h1⟩ := set_pair (x0 := x0) (x1 := x1) c0 c1
  exact ⟨(World.cell?_alloc_lt _ o _ (by simpa using hs)).trans h0, (World.cell?_alloc_lt _ o _ (by simpa using hs)).trans h1⟩
theorem fin_rd {w : World} {B s : Nat} {x0 x1 u : Value} {xs : List Int} (o : Obj) (h : Rd w B u xs) (hs : ∀ k, u.ownBlock = some k → s < k) : Rd (((w.setCell ⟨s, 0, none⟩ x0).setCell ⟨s, 1, none⟩ x1).alloc o) B u xs := by
  have hne : u.ownBlock = none ∨ u.ownBlock ≠ some s := by
    by_cases e : u.ownBlock = none
    · exact .inl e
    · exact .inr (fun h => by have := hs _ h; omega)
  exact ((h.grown (grown_setCell _ _ _ _) hne).grown (grown_setCell _ _ _ _) hne).alloc o
theorem fin_below {w0 w : World} {B s : Nat} {x0 x1 : Value} (o : Obj) (h : Below B w0 w) (hs : B ≤ s) (hsz : B ≤ w.heap.size) : Below B w0 (((w.setCell ⟨s, 0, none⟩ x0).setCell ⟨s, 1, none⟩ x1).alloc o) :=
  ((h.setCell hs _).setCell hs _).alloc (by simpa using hsz) o

set_option maxHeartbeats 1000000 in
theorem findSources_any (g cap : Nat) (xs : List Int) (b : Int) (B : Nat) (w : World) (h : Rd w B (.slice (some ⟨g, 0, none⟩) xs.length cap) xs) (hx : ∀ x ∈ xs, 0 ≤ x ∧ x ≤ b - 1) (hb : 2 ≤ b) (hb' : b ≤ 16) (h1 : 1 ≤ xs.length) (h12 : xs.length ≤ 12) :
    Calls Try.prog 83 #[lng (.slice (some ⟨g, 0, none⟩) xs.length cap) b] w fun e w' => ∃ u, e = .returned (.agg #[.int .i64 (cntS b xs), u]) ∧ Rd w' w.heap.size u (fstS b xs) ∧ Below w.heap.size w w' := by
  obtain ⟨L, hL⟩ : ∃ L, L = xs.length := ⟨_, rfl⟩
  have HG := Lib.hid h.at.2.2.2.2.1
  have hgg := h.at.2.2.1
  have HX := Lib.hid hx
  obtain ⟨V, hV⟩ : ∃ V, V = vD b xs := ⟨_, rfl⟩
  obtain ⟨V0, V1⟩ := vD_bd hb hb' hx h12
  rw [← hV] at V0 V1
  have HV := Lib.hid (show hv b xs 0 = V by rw [hv_vs, hV]; simp [vD])
  obtain ⟨s0, hs0⟩ : ∃ s0, s0 = srcV b L V 1 := ⟨_, rfl⟩
  obtain ⟨s1, hs1⟩ : ∃ s1, s1 = srcV b (L - 1) V 1 := ⟨_, rfl⟩
  have n0 : 0 ≤ s0.1 := by rw [hs0]; exact srcV_nn _ _ _ _
  have n1 : 0 ≤ s1.1 := by rw [hs1]; exact srcV_nn _ _ _ _
  have m0 : s0.1 ≤ 281474976710656 := by rw [hs0]; exact srcV_le hb hb' (by omega) _ _ (by omega)
  have m1 : s1.1 ≤ 281474976710656 := by rw [hs1]; exact srcV_le hb hb' (by omega) _ _ (by omega)
  have hcn : cntS b xs = (if L = 1 then 0 else s1.1) + s0.1 := by
    unfold cntS sW
    rw [← hL, ← hV, ← hs0, ← hs1, if_neg (show ¬ L = 0 by omega)]
    by_cases e : L = 1
    · rw [if_pos (show L - 1 = 0 by omega), if_pos e]
    · rw [if_neg (show ¬ L - 1 = 0 by omega), if_neg e]
  have HCN := Lib.hid hcn
  clear hcn
  have HFN := Lib.hid (show fstS b xs = if L = 1 ∨ s1.1 = 0 then s0.2 else s1.2 by
    unfold fstS sW; rw [← hL, ← hV, ← hs0, ← hs1]
    by_cases e : L = 1
    · rw [if_pos (show L - 1 = 0 by omega), if_pos rfl, if_pos (.inl e)]
    · rw [if_neg (show ¬ L - 1 = 0 by omega)]
      by_cases e2 : s1.1 = 0
      · rw [if_pos e2, if_pos (.inr e2)]
      · rw [if_neg e2, if_neg (fun c => c.elim e e2)])
  have HL := Lib.hid hL
  rw [← hL] at h1 h12 ⊢
  obtain ⟨w1, hw1⟩ : ∃ w1, w1 = (w.alloc (.cells #[.slice (some ⟨g, 0, none⟩) L cap, .int .i64 b] 56)).alloc (.cells #[.int .i64 0, .slice none 0 0] 92) := ⟨_, rfl⟩
  have HW1 := Lib.hid hw1
  have hsz1 : w1.heap.size = w.heap.size + 2 := by rw [hw1, World.size_alloc, World.size_alloc]
  have HAL := Lib.hid (show Below w.heap.size w w1 by rw [hw1]; exact (alloc_below w _).alloc (by rw [World.size_alloc]; omega) _)
  have HCB := Lib.hid (show w1.cell? ⟨w.heap.size, 1, none⟩ = some (.int .i64 b) by rw [hw1]; simp [go_sem])
  have HC0 := Lib.hid (show w1.cell? ⟨w.heap.size + 1, 0, none⟩ = some (.int .i64 0) by rw [hw1]; simp [go_sem])
  have HC1 := Lib.hid (show w1.cell? ⟨w.heap.size + 1, 1, none⟩ = some (.slice none 0 0) by rw [hw1]; simp [go_sem])
  have HF := Lib.hid (show ∀ j, w1.frozen? ⟨w.heap.size + 1, j, none⟩ = false from fun j => by rw [hw1]; simp [go_sem])
  have HS0 := Lib.hid (show ∀ w', Calls Try.prog 103 #[.int .i64 V, .int .i64 (L : Int), .int .i64 b, .int .i64 1] w' fun e w'' => ∃ u, e = .returned (.agg #[.int .i64 s0.1, u]) ∧ Rd w'' w'.heap.size u s0.2 ∧ Below w'.heap.size w' w'' from fun w' => by rw [hs0]; exact sourcesOf_any b hb hb' L (by omega) V 1 w' V0 (by omega) (by omega) (by omega))
  have HS1 := Lib.hid (show ∀ w', Calls Try.prog 103 #[.int .i64 V, .int .i64 ((L : Int) - 1), .int .i64 b, .int .i64 1] w' fun e w'' => ∃ u, e = .returned (.agg #[.int .i64 s1.1, u]) ∧ Rd w'' w'.heap.size u s1.2 ∧ Below w'.heap.size w' w'' from fun w' => by rw [hs1, show (L : Int) - 1 = ((L - 1 : Nat) : Int) by omega]; exact sourcesOf_any b hb hb' (L - 1) (by omega) V 1 w' V0 (by omega) (by omega) (by omega))
  obtain ⟨CN, hCN⟩ : ∃ CN, CN = cntS b xs := ⟨_, rfl⟩
  obtain ⟨FN, hFN⟩ : ∃ FN, FN = fstS b xs := ⟨_, rfl⟩
  have HCV := Lib.hid (show CN = (if L = 1 then 0 else s1.1) + s0.1 from hCN.trans HCN.out)
  have HFV := Lib.hid (show FN = if L = 1 ∨ s1.1 = 0 then s0.2 else s1.2 from hFN.trans HFN.out)
  rw [← hCN, ← hFN]
  clear hCN hFN
  clear hw1 hs0 hs1 hV hL h hx
  go_enter Try.func83, Try.ntmps83
  go_wp2
  go_loop [3, 12] (fun s i => ∃ (k : Nat) (m : Int), k ≤ L ∧ i = .int .i64 (k : Int) ∧ s = .int .i64 m ∧ 0 ≤ m ∧ m ≤ 281474976710656 ∧ Hid (m ≤ b ^ k - 1) ∧ Hid (hv b (xs.drop k) m = V)) (fun _ i => L - (intOf i).toNat)
  case atStart => exact ⟨0, 0, Nat.zero_le _, rfl, rfl, by omega, by omega, Lib.hid (by simp), Lib.hid (by rw [List.drop_zero]; exact HV.out)⟩
  case round =>
    obtain ⟨k, m, hk, rfl, rfl, mm0, mm1, HM, HN⟩ := hrel
    by_cases hlt : k < L
    · have hkx : k < xs.length := by rw [← HL.out]; exact hlt
      have hcell := HG.out k hkx
      obtain ⟨d, hd⟩ : ∃ d, d = xs[k] := ⟨_, rfl⟩
      obtain ⟨d0, d1⟩ := HX.out d (by rw [hd]; exact List.getElem_mem hkx)
      rw [← hd] at hcell
      have HST := Lib.hid (show hv b (xs.drop (k + 1)) (m * b + d) = V by rw [hd, ← hv_step b xs k m hkx]; exact HN.out)
      obtain ⟨p, hp⟩ : ∃ p, m * b = p := ⟨_, rfl⟩
      have p0 : 0 ≤ p := by rw [← hp]; exact Int.mul_nonneg mm0 (by omega)
      have p1 : p ≤ 4503599627370496 := by rw [← hp]; exact Int.mul_le_mul mm1 hb' (by omega) (by omega)
      have hpw : p + d ≤ b ^ (k + 1) - 1 := by
        have e1 : m * b ≤ (b ^ k - 1) * b := Int.mul_le_mul_of_nonneg_right HM.out (by omega)
        have e2 : (b ^ k - 1) * b = b ^ (k + 1) - b := by rw [Int.pow_succ, Int.sub_mul]; omega
        omega
      have HPW := Lib.hid hpw
      have hpm : p + d ≤ 281474976710656 := by have := (pow_le13 hb hb' (show k + 1 ≤ 12 by omega)).2; omega
      have HPP := Lib.hid hp
      clear hd hpw
      go_wp2
      go_round
      case rel => exact ⟨k + 1, p + d, by omega, by go_num, by first | rfl | go_num, by omega, hpm, HPW, Lib.hid (by rw [← HPP.out]; exact HST.out)⟩
      case measure => simp [intOf]; omega
    · obtain rfl : k = L := by omega
      obtain rfl : m = V := by have := HN.out; rw [HL.out, List.drop_length] at this; exact this
      go_wp2_with fail
      rw [← HW1.out]
      refine (HS0.out _).mono ?_
      rintro e w2 ⟨u2, rfl, hr2, hb2⟩
      obtain ⟨a2, d2, rfl⟩ := hr2.shape'
      have R2 := Lib.hid (hr2.mono (show w.heap.size ≤ w1.heap.size by omega))
      have KB2 := Lib.hid hb2
      have B2 := Lib.hid (Below.step HAL.out HAL.out.size hb2)
      have cb2 := Below.keeps_cell hb2 HCB.out
      have c0 := Below.keeps_cell hb2 HC0.out
      have c1 := Below.keeps_cell hb2 HC1.out
      have hfz : ∀ j, w2.frozen? ⟨w.heap.size + 1, j, none⟩ = false := fun j => by rw [(below_cells hb2).2 _ _ (by omega)]; exact HF.out j
      have HFZ := Lib.hid hfz
      have hsz2 := hb2.size
      have hlow2 := fun k hk => (hr2.lt k hk).1
      have HLOW := Lib.hid hlow2
      have HZ2 := Lib.hid hr2
      clear hr2 hb2 hfz hlow2
      by_cases hL1 : k = 1
      · have HC1' := Lib.hid (show CN = s0.1 by rw [HCV.out, if_pos hL1, Int.zero_add])
        have HF1' := Lib.hid (show FN = s0.2 by rw [HFV.out, if_pos (.inl hL1)])
        clear HCV HFV
        subst hL1
        have f0 := HFZ.out 0
        have f1 := HFZ.out 1
        have hne1 : ¬ w.heap.size + 1 = w2.heap.size := by omega
        have hne2 : ¬ w2.heap.size = w.heap.size + 1 := by omega
        have hlt1 : w.heap.size + 1 < w2.heap.size := by omega
        go_wp2
        obtain ⟨e0, e1⟩ := fin_pair (x0 := .int .i64 s0.1) (x1 := .slice a2 s0.2.length d2) (.cells #[.int .i64 s0.1, .slice a2 s0.2.length d2] 92) c0 c1 hlt1
        refine bodyPost_ret (ret_src rfl _ _ (w.heap.size + 1) _ _ rfl e0 e1) rfl ?_
        exact ⟨_, by rw [HC1'.out], by rw [HF1'.out]; exact fin_rd _ R2.out (fun k hk => by have := HLOW.out k hk; omega), fin_below _ B2.out (by omega) (by omega)⟩
      · have hbe : ((k : Int) == 1) = false := beq_no (by omega)
        obtain ⟨w3, hw3⟩ : ∃ w3, w3 = w2.alloc (.cells #[.int .i64 s0.1, .slice a2 s0.2.length d2] 92) := ⟨_, rfl⟩
        have HW3 := Lib.hid hw3
        have hsz3 : w3.heap.size = w2.heap.size + 1 := by rw [hw3, World.size_alloc]
        have K3 := Lib.hid (show Below w2.heap.size w2 w3 by rw [hw3]; exact alloc_below _ _)
        have hF0 : w3.cell? ⟨w2.heap.size, 0, none⟩ = some (.int .i64 s0.1) := by rw [hw3]; simp [go_sem]
        have hF1 : w3.cell? ⟨w2.heap.size, 1, none⟩ = some (.slice a2 s0.2.length d2) := by rw [hw3]; simp [go_sem]
        have HF0 := Lib.hid hF0
        have HF1 := Lib.hid hF1
        have HC02 := Lib.hid c0
        have HC12 := Lib.hid c1
        have hne0 : ¬ w.heap.size = w2.heap.size := by omega
        have hne0' : ¬ w2.heap.size = w.heap.size := by omega
        have hlt0 : w.heap.size < w2.heap.size := by omega
        clear hw3 hF0 hF1 c0 c1
        go_wp2_with fail
        rw [← HW3.out]
        refine (HS1.out _).mono ?_
        rintro e w4 ⟨u4, rfl, hr4, hb4⟩
        obtain ⟨a4, d4, rfl⟩ := hr4.shape'
        have hsz4 := hb4.size
        have HLOW4 := Lib.hid (fun k hk => (hr4.lt k hk).1)
        have R4 := Lib.hid (hr4.mono (show w.heap.size ≤ w3.heap.size by omega))
        have R24 := Lib.hid ((R2.out.keep K3.out).keep hb4)
        have B4 := Lib.hid (Below.step (Below.step B2.out B2.out.size K3.out) (by omega) hb4)
        have g0 := Below.keeps_cell hb4 HF0.out
        have g1 := Below.keeps_cell hb4 HF1.out
        have c0 := Below.keeps_cell hb4 (Below.keeps_cell K3.out HC02.out)
        have c1 := Below.keeps_cell hb4 (Below.keeps_cell K3.out HC12.out)
        have hfz : ∀ j, w4.frozen? ⟨w.heap.size + 1, j, none⟩ = false := fun j => by rw [(below_cells hb4).2 _ _ (by omega), (below_cells K3.out).2 _ _ (by omega)]; exact HFZ.out j
        have f0 := hfz 0
        have f1 := hfz 1
        have hne1 : ¬ w.heap.size + 1 = w4.heap.size := by omega
        have hne2 : ¬ w4.heap.size = w.heap.size + 1 := by omega
        have hlt1 : w.heap.size + 1 < w4.heap.size := by omega
        have hne3 : ¬ w2.heap.size = w4.heap.size := by omega
        have hne4 : ¬ w4.heap.size = w2.heap.size := by omega
        have hlt3 : w2.heap.size < w4.heap.size := by omega
        have hne5 : ¬ w.heap.size + 1 = w2.heap.size := by omega
        have hne6 : ¬ w2.heap.size = w.heap.size + 1 := by omega
        clear hr4 hb4 hfz
        by_cases hz : s1.1 = 0
        · have hzb : (s1.1 == 0) = true := beq_yes hz
          have HR := Lib.hid (show (if k = 1 then 0 else s1.1) + s0.1 = s0.1 by rw [if_neg hL1, hz, Int.zero_add])
          have HRL := Lib.hid (show (if k = 1 ∨ s1.1 = 0 then s0.2 else s1.2) = s0.2 from if_pos (.inr hz))
          clear hz
          go_wp2
          obtain ⟨e0, e1⟩ := fin_pair (x0 := .int .i64 s0.1) (x1 := .slice a2 s0.2.length d2) (.cells #[.int .i64 s1.1, .slice a4 s1.2.length d4] 92) c0 c1 hlt1
          refine bodyPost_ret (ret_src rfl _ _ (w.heap.size + 1) _ _ rfl e0 e1) rfl ?_
          exact ⟨_, by rw [HCV.out, HR.out], by rw [HFV.out, HRL.out]; exact fin_rd _ R24.out (fun k hk => by have := HLOW.out k hk; omega), fin_below _ B4.out (by omega) (by omega)⟩
        · have hzb : (s1.1 == 0) = false := beq_no hz
          have HR := Lib.hid (show (if k = 1 then 0 else s1.1) + s0.1 = s1.1 + s0.1 by rw [if_neg hL1])
          have HRL := Lib.hid (show (if k = 1 ∨ s1.1 = 0 then s0.2 else s1.2) = s1.2 from if_neg (fun c => c.elim hL1 hz))
          clear hz
          go_wp2
          obtain ⟨e0, e1⟩ := fin_pair (x0 := .int .i64 (s1.1 + s0.1)) (x1 := .slice a4 s1.2.length d4) (.cells #[.int .i64 s1.1, .slice a4 s1.2.length d4] 92) c0 c1 hlt1
          refine bodyPost_ret (ret_src rfl _ _ (w.heap.size + 1) _ _ rfl e0 e1) rfl ?_
          exact ⟨_, by rw [HCV.out, HR.out], by rw [HFV.out, HRL.out]; exact fin_rd _ R4.out (fun k hk => by have := HLOW4.out k hk; omega), fin_below _ B4.out (by omega) (by omega)⟩

end Go.Proofs.Ytnggfcopndcppaa

/- from XNF -/
namespace Go.Proofs.Ytnggfcopndcppaa
open Go.RowKit
set_option linter.unusedVariables false
set_option linter.unusedSimpArgs false
set_option maxRecDepth 100000

/-- Sources are asked for. -/
def askS (xs : List Int) (b : Int) : Bool := okR b xs && decide (xs.length ≤ 12)
theorem askS_yes {xs : List Int} {b : Int} (h : okR b xs = true) (hl : xs.length ≤ 12) : askS xs b = true := by unfold askS; rw [h, decide_eq_true hl]; rfl
theorem askS_long {xs : List Int} {b : Int} (hl : ¬ xs.length ≤ 12) : askS xs b = false := by unfold askS; rw [decide_eq_false hl, Bool.and_false]
theorem askS_no {xs : List Int} {b : Int} (h : okR b xs = false) : askS xs b = false := by unfold askS; rw [h, Bool.false_and]

theorem rvAsked_any (v : Value) (xs : List Int) (b : Int) (B : Nat) (w : World) (h : Rd w B v xs) (hl : xs.length ≤ 1048576) :
    Calls Try.prog 84 #[v, .int .i64 b] w fun e w' => e = .returned (.bool (askS xs b)) ∧ w = w' := by
  have H := Lib.hid h
  obtain ⟨a, cap, rfl⟩ := h.sl.len
  clear h
  obtain ⟨q, hq⟩ : ∃ q, q = okR b xs := ⟨_, rfl⟩
  have HQ := Lib.hid hq
  cases q with
  | true =>
    by_cases h12 : xs.length ≤ 12
    · have HA := Lib.hid (askS_yes hq.symm h12)
      have HDI := Lib.hid (show decide ((xs.length : Int) ≤ 12) = true from decide_eq_true (by omega))
      clear hq
      go_enter Try.func84, Try.ntmps84
      go_wp2_with (go_at_call 45; refine (rvGood_any _ _ _ _ _ H.out hl).mono ?_; rw [← HQ.out]; rintro e w1 ⟨rfl, rfl⟩)
      go_ret
      exact ⟨by rw [HA.out]; show Ending.returned (.bool (decide ((xs.length : Int) ≤ 12))) = _; rw [HDI.out], rfl⟩
    · have HA := Lib.hid (askS_long (b := b) h12)
      have HDI := Lib.hid (show decide ((xs.length : Int) ≤ 12) = false from decide_eq_false (by omega))
      clear hq
      go_enter Try.func84, Try.ntmps84
      go_wp2_with (go_at_call 45; refine (rvGood_any _ _ _ _ _ H.out hl).mono ?_; rw [← HQ.out]; rintro e w1 ⟨rfl, rfl⟩)
      go_ret
      exact ⟨by rw [HA.out]; show Ending.returned (.bool (decide ((xs.length : Int) ≤ 12))) = _; rw [HDI.out], rfl⟩
  | false =>
    have HA := Lib.hid (askS_no hq.symm)
    clear hq
    go_enter Try.func84, Try.ntmps84
    go_wp2_with (go_at_call 45; refine (rvGood_any _ _ _ _ _ H.out hl).mono ?_; rw [← HQ.out]; rintro e w1 ⟨rfl, rfl⟩)
    go_ret
    exact ⟨by rw [HA.out]; rfl, rfl⟩

theorem gl_rev (xs : List Int) : gl (gF xs) xs.length = xs.reverse := by
  apply List.ext_getElem
  · rw [gl_len, List.length_reverse]
  · intro j h1 h2
    rw [gl_len] at h1
    have : (gl (gF xs) xs.length)[j]'(by rw [gl_len]; exact h1) = gF xs j := by simp [gl]
    rw [this]
    unfold gF
    rw [List.getD_eq_getElem?_getD, List.getElem?_eq_getElem h2]; rfl
theorem gl_snoc (g : Nat → Int) (w : Nat) : gl g (w + 1) = gl g w ++ [g w] := by unfold gl; rw [List.range_succ, List.map_append]; rfl

theorem gv_same (b : Int) (xs : List Int) : gv' b (gF xs) xs.length 0 = vD b xs := by
  unfold gv' vD; rw [gl_rev, Int.zero_mul, Int.add_zero]
theorem vD_top (b : Int) (xs : List Int) (W : Nat) (h : W + 1 = xs.length) : vD b xs = vs b (gl (gF xs) W) + xs.getD 0 0 * b ^ W := by
  unfold vD
  rw [← gl_rev, ← h, gl_snoc, vs_snoc, gl_len, gF_at xs 0 W (by omega), List.getD_eq_getElem?_getD, List.getElem?_eq_getElem (by omega)]; rfl
theorem gv_less (b : Int) (xs : List Int) (W : Nat) (h : W + 1 = xs.length) (h1 : xs.getD 0 0 = 1) : gv' b (gF xs) W 1 = vD b xs := by
  rw [vD_top b xs W h, h1]; rfl
theorem sol_none {b : Int} (hb : 2 ≤ b) {xs : List Int} (hx : ∀ x ∈ xs, 0 ≤ x ∧ x ≤ b - 1) (W : Nat) (h : W + 1 = xs.length) (h1 : 2 ≤ xs.getD 0 0) : solF b W (vD b xs) = none := by
  cases hs' : solF b W (vD b xs) with
  | none => rfl
  | some H =>
    have hv := vD_top b xs W h
    have h2 := vs_bd b hb (gl (gF xs) W) (gl_all (gF_all hb hx) W)
    have hp := pow_pos' b hb W
    have h3 : 2 * b ^ W ≤ xs.getD 0 0 * b ^ W := Int.mul_le_mul_of_nonneg_right h1 (by omega)
    obtain ⟨a1, a2⟩ := solF_sound hb W _ H (by omega) hs'
    have := (vlH_bd hb W H a1).2
    omega

theorem rvWays_no (gg c : Nat) (xs : List Int) (b : Int) (W B : Nat) (w : World) (h : Rd w B (.slice (some ⟨gg, 0, none⟩) xs.length c) xs) (hl : W + 1 = xs.length) (hW' : W ≤ 12) (h2 : 2 ≤ xs.getD 0 0) :
    Calls Try.prog 85 #[.slice (some ⟨gg, 0, none⟩) xs.length c, .int .i64 (W : Int), .int .i64 b] w fun e w' => e = .returned (.tuple #[.slice none 0 0, .bool false]) ∧ w = w' := by
  obtain ⟨x, hx⟩ : ∃ x, x = xs[0]'(by omega) := ⟨_, rfl⟩
  have hcell := h.at.2.2.2.2.1 0 (by omega)
  rw [← hx] at hcell
  have hx2 : 2 ≤ x := by rw [List.getD_eq_getElem?_getD, List.getElem?_eq_getElem (by omega)] at h2; rw [hx]; exact h2
  have hbe : (x == 1) = false := beq_no (by omega)
  obtain ⟨L, hL⟩ : ∃ L, L = xs.length := ⟨_, rfl⟩
  have hov : (L : Int) - (W : Int) = 1 := by omega
  rw [← hL]
  clear h hx h2 hL hl
  go_enter Try.func85, Try.ntmps85
  go_wp2_with (go_at_call 82; refine (l1In_yes _ _ _ _ (by omega) (by omega)).mono ?_; rintro e w1 ⟨rfl, rfl⟩)
  go_ret2
  exact ⟨rfl, rfl⟩

/-- The lists found: none, or one. -/
def Found (b : Int) (W : Nat) (V : Int) (w' : World) (B : Nat) (v : Value) : Prop :=
  (solF b W V = none ∧ ∃ a c, v = .slice a 0 c) ∨
  ∃ H gv cv gu cu, solF b W V = some H ∧ RH b W H ∧ v = .slice (some ⟨gv, 0, none⟩) 1 cv ∧ w'.cell? ⟨gv, 0, none⟩ = some (.slice (some ⟨gu, 0, none⟩) W cu) ∧ Rd w' B (.slice (some ⟨gu, 0, none⟩) W cu) (fl W H)

theorem found_of {b : Int} {W : Nat} {V : Int} {w' : World} {B : Nat} {v : Value} {vs : List Value} (hb : 2 ≤ b) (hV : 0 ≤ V) (hW : 1 ≤ W) (h : LLi w' B v vs (ways b W V)) : Found b W V w' B v := by
  cases hs' : solF b W V with
  | none =>
    left
    have hw : ways b W V = [] := by unfold ways; rw [hs']
    rw [hw] at h
    have h0 : vs = [] := List.eq_nil_of_length_eq_zero (by rw [h.len]; rfl)
    obtain ⟨a, c, hv, _⟩ := h.f.shape
    rw [h0] at hv
    exact ⟨hs', a, c, hv⟩
  | some H =>
    right
    have hw : ways b W V = [fl W H] := by unfold ways; rw [hs']
    rw [hw] at h
    obtain ⟨u, g, cap, h1, h2, h3, h4⟩ := h.get 0 (by simp)
    rcases h4.cases with ⟨_, hx⟩ | ⟨gu, cu, hu, _⟩
    · exfalso
      have := congrArg List.length hx
      simp [fl_len] at this; omega
    · simp only [List.getElem_cons_zero, fl_len] at hu h4
      subst hu
      exact ⟨H, g, cap, gu, cu, hs', (solF_sound hb W V H hV hs').1, by rw [h2]; rfl, h3, h4⟩

theorem rvWays_c (gg c : Nat) (xs : List Int) (b : Int) (W B : Nat) (w : World) (h : Rd w B (.slice (some ⟨gg, 0, none⟩) xs.length c) xs) (hl : W = xs.length ∨ W + 1 = xs.length) (hW : 1 ≤ W) (hl12 : xs.length ≤ 12) (hb : 2 ≤ b) (hb' : b ≤ 16) (hx : ∀ x ∈ xs, 0 ≤ x ∧ x ≤ b - 1) (h0 : 1 ≤ xs.getD 0 0 ∨ xs.length = 1) :
    Calls Try.prog 85 #[.slice (some ⟨gg, 0, none⟩) xs.length c, .int .i64 (W : Int), .int .i64 b] w fun e w' => ∃ v q, e = .returned (.tuple #[v, .bool q]) ∧ Found b W (vD b xs) w' w.heap.size v ∧ Below w.heap.size w w' := by
  have hV := (vD_bd hb hb' hx hl12).1
  rcases hl with rfl | hl
  · refine (rvWays_0 gg c xs b xs.length B w h (by omega) hW hl12 hb hb' hx).mono ?_
    rintro e w' ⟨v, vs', rfl, hll, hbl⟩
    rw [outs_all hb (gF_all hb hx) (by rw [gv_same]; exact hV), gv_same] at hll
    exact ⟨v, true, rfl, found_of hb hV hW hll, hbl⟩
  · by_cases h1 : xs.getD 0 0 = 1
    · refine (rvWays_1 gg c xs b W B w h hl hW (by omega) hb hb' hx h1).mono ?_
      rintro e w' ⟨v, vs', rfl, hll, hbl⟩
      rw [outs_all hb (gF_all hb hx) (by rw [gv_less b xs W hl h1]; exact hV), gv_less b xs W hl h1] at hll
      exact ⟨v, true, rfl, found_of hb hV hW hll, hbl⟩
    · have h2 : 2 ≤ xs.getD 0 0 := by omega
      refine (rvWays_no gg c xs b W B w h hl (by omega) h2).mono ?_
      rintro e w' ⟨rfl, rfl⟩
      exact ⟨_, false, rfl, .inl ⟨sol_none hb hx W hl h2, none, 0, rfl⟩, Below.refl _ _⟩

theorem sW_none {b : Int} {W : Nat} {V : Int} (h : solF b W V = none) : sW b W V = 0 := by
  unfold sW srcV; rw [h]; split <;> rfl
theorem sW_some {b : Int} {W : Nat} {V : Int} {H : List Int} (h : solF b W V = some H) (hW : 1 ≤ W) : sW b W V = cntH b W 1 H := by
  unfold sW srcV
  rw [if_neg (by omega), h]
  by_cases e : cntH b W 1 H = 0
  · simp [e]
  · simp [e]
theorem src_some {b : Int} {W : Nat} {V : Int} {H : List Int} (h : solF b W V = some H) (hc : ¬ cntH b W 1 H = 0) : (srcV b W V 1).2 = fstH b W 1 H := by
  unfold srcV
  rw [h]
  simp [hc]

/-- How many are counted behind k widths. -/
def cP (b : Int) (xs : List Int) : Nat → Int
  | 0 => 0
  | 1 => sW b (xs.length - 1) (vD b xs)
  | _ => cntS b xs
theorem cP_next (b : Int) (xs : List Int) (k : Nat) (hk : k < 2) (h1 : 1 ≤ xs.length) : cP b xs (k + 1) = cP b xs k + sW b (xs.length - 1 + k) (vD b xs) := by
  have : k = 0 ∨ k = 1 := by omega
  rcases this with rfl | rfl
  · simp [cP]
  · show cntS b xs = sW b (xs.length - 1) (vD b xs) + sW b (xs.length - 1 + 1) (vD b xs)
    rw [cntS, show xs.length - 1 + 1 = xs.length by omega]
theorem sW_bd {b : Int} (hb : 2 ≤ b) (hb' : b ≤ 16) {W : Nat} (hW : W ≤ 12) (V : Int) : 0 ≤ sW b W V ∧ sW b W V ≤ 281474976710656 := by
  unfold sW
  split
  · omega
  · exact ⟨srcV_nn _ _ _ _, srcV_le hb hb' hW _ _ (by omega)⟩
theorem cP_bd {b : Int} (hb : 2 ≤ b) (hb' : b ≤ 16) (xs : List Int) (hl : xs.length ≤ 12) (k : Nat) : 0 ≤ cP b xs k ∧ cP b xs k ≤ 562949953421312 := by
  have h1 := sW_bd hb hb' (show xs.length - 1 ≤ 12 by omega) (vD b xs)
  have h2 := sW_bd hb hb' hl (vD b xs)
  match k with
  | 0 => simp [cP]
  | 1 => rw [cP]; omega
  | k + 2 => show 0 ≤ cntS b xs ∧ cntS b xs ≤ _; rw [cntS]; omega

theorem Dg.head0 {b : Int} {xs : List Int} (h : okR b xs = true) : 1 ≤ xs.getD 0 0 ∨ xs.length = 1 := by
  have hd := okR_dg h
  have h2 : 2 ≤ b ∧ b ≤ 16 := ⟨hd.b2, hd.b16⟩
  have hal : allIn 0 (b - 1) xs = true := (allIn_iff _ _ _).2 hd.all
  have h3 := okR_rest h2 ⟨hd.l1, hd.l40⟩ hal
  rw [h] at h3
  have h4 := h3.symm
  rw [Bool.or_eq_true, decide_eq_true_eq, decide_eq_true_eq] at h4
  rcases h4 with h4 | h4
  · left
    rw [List.getD_eq_getElem?_getD, List.getElem?_eq_getElem (by have := hd.l1; omega)]
    show 1 ≤ xs[0]'_
    omega
  · exact .inr h4

def cntQ (xs : List Int) (b : Int) : Int := if askS xs b = true then cntS b xs else 0
abbrev VAL_CountSources (xs : List Int) (b : Int) : Value := .tuple #[.int .i64 (cntQ xs b), .bool (askS xs b)]
abbrev OK_FirstSource (xs : List Int) (b : Int) : Bool := askS xs b && decide (0 < cntS b xs)
def LF_FirstSource (xs : List Int) (b : Int) : List Int := if (askS xs b && decide (0 < cntS b xs)) = true then fstS b xs else []
theorem LF_FirstSource_len (xs : List Int) (b : Int) (hl : xs.length ≤ 1048576) : (LF_FirstSource xs b).length ≤ 2000000 := by
  unfold LF_FirstSource
  split
  · unfold fstS
    split
    · have := srcV_len b xs.length (vD b xs) 1; omega
    · have := srcV_len b (xs.length - 1) (vD b xs) 1; omega
  · simp

theorem spec_CountSources (v : Value) (xs : List Int) (b : Int) (B : Nat) (w : World) (h : Rd w B v xs) (hl : xs.length ≤ 1048576) :
    Calls Try.prog 38 #[v, .int .i64 b] w fun e w' => e = .returned (VAL_CountSources xs b) ∧ Below w.heap.size w w' := by
  have H := Lib.hid h
  obtain ⟨a, cap, rfl⟩ := h.sl.len
  rcases okR_cases b xs with ⟨ho, hd⟩ | ho
  · by_cases h12 : xs.length ≤ 12
    · have HA := Lib.hid (askS_yes ho h12)
      have HO := Lib.hid ho
      have H00 := Lib.hid (Dg.head0 ho)
      have hb := hd.b2
      have hb' := hd.b16
      have h1 := hd.l1
      have HX := Lib.hid hd.all
      clear hd ho
      obtain ⟨g, cap2, hv⟩ : ∃ g cap2, (Value.slice a xs.length cap) = .slice (some ⟨g, 0, none⟩) xs.length cap2 := by
        rcases h.cases with ⟨_, hx⟩ | ⟨g, cap2, hu, _⟩
        · exfalso; rw [hx] at h1; simp at h1
        · exact ⟨g, cap2, hu⟩
      rw [hv] at H ⊢
      clear h hv
      have HVAL := Lib.hid (show VAL_CountSources xs b = .tuple #[.int .i64 (cP b xs 2), .bool true] by unfold VAL_CountSources cntQ; rw [HA.out, if_pos rfl]; rfl)
      rw [HVAL.out]
      obtain ⟨L, hL⟩ : ∃ L, L = xs.length := ⟨_, rfl⟩
      have HL := Lib.hid hL
      rw [← hL] at h1 h12 hl ⊢
      clear hL
      go_enter Try.func38, Try.ntmps38
      go_wp2_with (go_at_call 84; refine (rvAsked_any _ _ _ _ _ (by have h9 := H.out; rw [← HL.out] at h9; exact h9) (by rw [← HL.out]; exact hl)).mono ?_; rw [HA.out]; rintro e w1 ⟨rfl, rfl⟩)
      go_loopw [6, 7] (fun x y wr => ∃ k : Nat, k ≤ 2 ∧ y = .int .i64 ((L : Int) - 1 + (k : Int)) ∧ x = .int .i64 (cP b xs k) ∧ Below w.heap.size w wr) (fun _ y _ => ((L : Int) + 1 - intOf y).toNat)
      case atStart => exact ⟨0, by omega, by go_num, rfl, Below.refl _ _⟩
      case round =>
        obtain ⟨k, hk, rfl, rfl, hbl⟩ := hrel
        have HB := Lib.hid hbl
        clear hbl
        obtain ⟨c0, hc0⟩ : ∃ c0, c0 = cP b xs k := ⟨_, rfl⟩
        obtain ⟨b0, b1⟩ := cP_bd hb hb' xs (by rw [← HL.out]; exact h12) k
        rw [← hc0] at b0 b1 ⊢
        by_cases hlt : k < 2
        · have hN := cP_next b xs k hlt (by rw [← HL.out]; exact h1)
          rw [← HL.out, ← hc0] at hN
          obtain ⟨W, hW⟩ : ∃ W, W = L - 1 + k := ⟨_, rfl⟩
          have hwi : (L : Int) - 1 + (k : Int) = (W : Int) := by omega
          have hW12 : W ≤ 12 := by omega
          have HWL := Lib.hid (show W = xs.length ∨ W + 1 = xs.length by rw [← HL.out]; omega)
          rw [← hW] at hN
          have HN := Lib.hid hN
          have hle : (W : Int) ≤ (L : Int) := by omega
          have hw2 : (W : Int) + 1 = (L : Int) - 1 + ((k + 1 : Nat) : Int) := by omega
          have HW2 := Lib.hid hw2
          rw [hwi]
          clear hc0 hN hW hwi hw2
          by_cases hW0 : W = 0
          · subst hW0
            have HZ := Lib.hid (show cP b xs (k + 1) = c0 by rw [HN.out]; simp [sW])
            go_wp2
            go_roundw
            case rel => exact ⟨k + 1, by omega, by rw [← HW2.out]; simp, by rw [HZ.out], HB.out⟩
            case measure => (simp [intOf]; try omega)
          · have hWb : ((W : Int) == 0) = false := beq_no (by omega)
            have hW1 : 1 ≤ W := by omega
            clear hW0
            go_wp2_with fail
            rw [HL.out]
            refine (rvWays_c g cap2 xs b W _ _ (H.out.keep HB.out) HWL.out hW1 (by rw [← HL.out]; exact h12) hb hb' HX.out H00.out).mono ?_
            rw [← HL.out]
            rintro e w2 ⟨v2, q2, rfl, hf, hb2⟩
            have HB2 := Lib.hid (Below.step HB.out HB.out.size hb2)
            clear hb2
            rcases hf with ⟨hs, a2, d2, rfl⟩ | ⟨Hh, gv, cv, gu, cu, hs, hrh, rfl, hcell, hrd⟩
            · have HZ := Lib.hid (show cP b xs (k + 1) = c0 by rw [HN.out, sW_none hs, Int.add_zero])
              clear hs
              go_wp2
              go_loop [6, 36] (fun x y => x = .int .i64 c0 ∧ y = .int .i64 0) (fun _ _ => 0)
              case atStart => exact ⟨rfl, rfl⟩
              case round =>
                obtain ⟨rfl, rfl⟩ := hrel
                go_wp2
                go_roundw
                case rel => exact ⟨k + 1, by omega, by rw [← HW2.out], by rw [HZ.out], HB2.out⟩
                case measure => (simp [intOf]; try omega)
            · obtain ⟨C, hC⟩ : ∃ C, C = cntH b W 1 Hh := ⟨_, rfl⟩
              have hsw := sW_some hs hW1
              have hsb := sW_bd hb hb' hW12 (vD b xs)
              rw [hsw, ← hC] at hsb
              obtain ⟨C0, C1⟩ := hsb
              have HZ := Lib.hid (show cP b xs (k + 1) = c0 + C by rw [HN.out, hsw, hC])
              have HC := Lib.hid hC
              have HRH := Lib.hid hrh
              have HRD := Lib.hid hrd
              clear hs hsw hC hrh hrd
              go_wp2
              go_loop [6, 36] (fun x y => (x = .int .i64 c0 ∧ y = .int .i64 0) ∨ (x = .int .i64 (c0 + C) ∧ y = .int .i64 1)) (fun _ y => (1 - intOf y).toNat)
              case atStart => exact .inl ⟨rfl, rfl⟩
              case round =>
                rcases hrel with ⟨rfl, rfl⟩ | ⟨rfl, rfl⟩
                · go_wp2_with (go_at_call 86; go_loud (refine (rvCount_any gu cu b W Hh _ _ HRD.out HRH.out hW1 hW12 hb hb').mono ?_; rw [← HC.out]; rintro e w3 ⟨rfl, rfl⟩))
                  go_round
                  case rel => first | exact .inr ⟨rfl, rfl⟩ | (right; exact ⟨by go_num, by go_num⟩) | simp
                  case measure => simp [intOf]
                · go_wp2
                  go_roundw
                  case rel => exact ⟨k + 1, by omega, by rw [← HW2.out], by rw [HZ.out], HB2.out⟩
                  case measure => (simp [intOf]; try omega)
        · obtain rfl : k = 2 := by omega
          have HC2 := Lib.hid hc0
          clear hc0
          go_wp2
          go_ret2
          exact ⟨by rw [← HC2.out]; rfl, HB.out⟩
    · have HA := Lib.hid (askS_long (b := b) h12)
      have HVAL := Lib.hid (show VAL_CountSources xs b = .tuple #[.int .i64 0, .bool false] by unfold VAL_CountSources cntQ; rw [HA.out]; rfl)
      rw [HVAL.out]
      clear ho hd h
      go_enter Try.func38, Try.ntmps38
      go_wp2_with (go_at_call 84; refine (rvAsked_any _ _ _ _ _ H.out hl).mono ?_; rw [HA.out]; rintro e w1 ⟨rfl, rfl⟩)
      go_ret2
      exact ⟨rfl, Below.refl _ _⟩
  · have HA := Lib.hid (askS_no ho)
    have HVAL := Lib.hid (show VAL_CountSources xs b = .tuple #[.int .i64 0, .bool false] by unfold VAL_CountSources cntQ; rw [HA.out]; rfl)
    rw [HVAL.out]
    clear ho h
    go_enter Try.func38, Try.ntmps38
    go_wp2_with (go_at_call 84; refine (rvAsked_any _ _ _ _ _ H.out hl).mono ?_; rw [HA.out]; rintro e w1 ⟨rfl, rfl⟩)
    go_ret2
    exact ⟨rfl, Below.refl _ _⟩

end Go.Proofs.Ytnggfcopndcppaa

/- from XNG -/
namespace Go.Proofs.Ytnggfcopndcppaa
open Go.RowKit
set_option linter.unusedVariables false
set_option linter.unusedSimpArgs false
set_option maxRecDepth 100000

theorem sW_nn (b : Int) (W : Nat) (V : Int) : 0 ≤ sW b W V := by
  unfold sW
  split
  · exact Int.le_refl 0
  · exact srcV_nn _ _ _ _

theorem fst_at {b : Int} {xs H : List Int} {k W : Nat} (hb : 2 ≤ b) (hk : k < 2) (hW : W = xs.length - 1 + k) (hW1 : 1 ≤ W) (h1 : 1 ≤ xs.length) (hc : cP b xs k = 0) (hs' : solF b W (vD b xs) = some H) (hn : ¬ cntH b W 1 H = 0) : fstS b xs = fstH b W 1 H ∧ 0 < cntS b xs := by
  have hsw := sW_some hs' hW1
  have hpos := cntH_nn b W 1 H
  have : k = 0 ∨ k = 1 := by omega
  rcases this with rfl | rfl
  · obtain rfl : W = xs.length - 1 := by omega
    have h2 := sW_nn b xs.length (vD b xs)
    refine ⟨?_, by unfold cntS; omega⟩
    unfold fstS
    rw [if_neg (by rw [hsw]; exact hn)]
    exact src_some hs' hn
  · obtain rfl : W = xs.length := by omega
    have h2 : sW b (xs.length - 1) (vD b xs) = 0 := hc
    refine ⟨?_, by unfold cntS; omega⟩
    unfold fstS
    rw [if_pos h2]
    exact src_some hs' hn

theorem spec_FirstSource (v : Value) (xs : List Int) (b : Int) (B : Nat) (w : World) (h : Rd w B v xs) (hl : xs.length ≤ 1048576) :
    Calls Try.prog 40 #[v, .int .i64 b] w fun e w' => ∃ u, e = .returned (.tuple #[u, .bool (OK_FirstSource xs b)]) ∧ Rd w' w.heap.size u (LF_FirstSource xs b) ∧ Below w.heap.size w w' := by
  have H := Lib.hid h
  obtain ⟨a, cap, rfl⟩ := h.sl.len
  rcases okR_cases b xs with ⟨ho, hd⟩ | ho
  · by_cases h12 : xs.length ≤ 12
    · have HA := Lib.hid (askS_yes ho h12)
      have HO := Lib.hid ho
      have H00 := Lib.hid (Dg.head0 ho)
      have hb := hd.b2
      have hb' := hd.b16
      have h1 := hd.l1
      have HX := Lib.hid hd.all
      clear hd ho
      obtain ⟨g, cap2, hv⟩ : ∃ g cap2, (Value.slice a xs.length cap) = .slice (some ⟨g, 0, none⟩) xs.length cap2 := by
        rcases h.cases with ⟨_, hx⟩ | ⟨g, cap2, hu, _⟩
        · exfalso; rw [hx] at h1; simp at h1
        · exact ⟨g, cap2, hu⟩
      rw [hv] at H ⊢
      clear h hv
      have HOK := Lib.hid (show OK_FirstSource xs b = decide (0 < cntS b xs) by unfold OK_FirstSource; rw [HA.out]; rfl)
      have HLF := Lib.hid (show LF_FirstSource xs b = if decide (0 < cntS b xs) = true then fstS b xs else [] by unfold LF_FirstSource; rw [HA.out]; rfl)
      rw [HOK.out, HLF.out]
      obtain ⟨L, hL⟩ : ∃ L, L = xs.length := ⟨_, rfl⟩
      have HL := Lib.hid hL
      rw [← hL] at h1 h12 hl ⊢
      obtain ⟨OKV, hOKV⟩ : ∃ q, q = decide (0 < cntS b xs) := ⟨_, rfl⟩
      obtain ⟨RL, hRL⟩ : ∃ l, l = if decide (0 < cntS b xs) = true then fstS b xs else [] := ⟨_, rfl⟩
      have HOKV := Lib.hid hOKV
      have HRL := Lib.hid hRL
      rw [← hRL, ← hOKV]
      clear hL hOKV hRL
      go_enter Try.func40, Try.ntmps40
      go_wp2_with (go_at_call 84; refine (rvAsked_any _ _ _ _ _ (by have h9 := H.out; rw [← HL.out] at h9; exact h9) (by rw [← HL.out]; exact hl)).mono ?_; rw [HA.out]; rintro e w1 ⟨rfl, rfl⟩)
      go_loopw [6] (fun y wr => ∃ k : Nat, k ≤ 2 ∧ y = .int .i64 ((L : Int) - 1 + (k : Int)) ∧ Hid (cP b xs k = 0) ∧ Below w.heap.size w wr) (fun y _ => ((L : Int) + 1 - intOf y).toNat)
      case atStart => exact ⟨0, by omega, by go_num, Lib.hid rfl, Below.refl _ _⟩
      case round =>
        obtain ⟨k, hk, rfl, HC0, hbl⟩ := hrel
        obtain ⟨wo, hwo⟩ : ∃ wo : World, wo = wr := ⟨_, rfl⟩
        rw [← hwo] at hbl ⊢
        clear hwo
        have HB := Lib.hid hbl
        clear hbl
        by_cases hlt : k < 2
        · have HN := Lib.hid (cP_next b xs k hlt (by rw [← HL.out]; exact h1))
          obtain ⟨W, hW⟩ : ∃ W, W = L - 1 + k := ⟨_, rfl⟩
          have hwi : (L : Int) - 1 + (k : Int) = (W : Int) := by omega
          have hW12 : W ≤ 12 := by omega
          have HWL := Lib.hid (show W = xs.length ∨ W + 1 = xs.length by rw [← HL.out]; omega)
          have HWX := Lib.hid (show W = xs.length - 1 + k by rw [← HL.out]; exact hW)
          have hle : (W : Int) ≤ (L : Int) := by omega
          have hw2 : (W : Int) + 1 = (L : Int) - 1 + ((k + 1 : Nat) : Int) := by omega
          have HW2 := Lib.hid hw2
          rw [hwi]
          clear hW hwi hw2
          by_cases hW0 : W = 0
          · subst hW0
            have HZ := Lib.hid (show cP b xs (k + 1) = 0 by rw [HN.out, HC0.out, ← HWX.out]; simp [sW])
            go_wp2
            go_roundw
            case rel => exact ⟨k + 1, by omega, by rw [← HW2.out]; simp, HZ, HB.out⟩
            case measure => (simp [intOf]; try omega)
          · have hWb : ((W : Int) == 0) = false := beq_no (by omega)
            have hW1 : 1 ≤ W := by omega
            clear hW0
            go_wp2_with fail
            rw [HL.out]
            refine (rvWays_c g cap2 xs b W _ _ (H.out.keep HB.out) HWL.out hW1 (by rw [← HL.out]; exact h12) hb hb' HX.out H00.out).mono ?_
            rw [← HL.out]
            rintro e w2 ⟨v2, q2, rfl, hf, hb2⟩
            have HB2 := Lib.hid (Below.step HB.out HB.out.size hb2)
            have HK2 := hb2.size
            clear hb2
            rcases hf with ⟨hs, a2, d2, rfl⟩ | ⟨Hh, gv, cv, gu, cu, hs, hrh, rfl, hcell, hrd⟩
            · have HZ := Lib.hid (show cP b xs (k + 1) = 0 by rw [HN.out, HC0.out, ← HWX.out, sW_none hs]; rfl)
              clear hs
              go_wp2
              go_loop [7, 37] (fun x y => x = .slice none 0 0 ∧ y = .int .i64 0) (fun _ _ => 0)
              case atStart => exact ⟨rfl, rfl⟩
              case round =>
                obtain ⟨rfl, rfl⟩ := hrel
                go_wp2
                go_roundw
                case rel => exact ⟨k + 1, by omega, by rw [← HW2.out], HZ, HB2.out⟩
                case measure => (simp [intOf]; try omega)
            · obtain ⟨C, hC⟩ : ∃ C, C = cntH b W 1 Hh := ⟨_, rfl⟩
              have hsw := sW_some hs hW1
              have hsb := sW_bd hb hb' hW12 (vD b xs)
              rw [hsw, ← hC] at hsb
              obtain ⟨C0, C1⟩ := hsb
              have HC := Lib.hid hC
              have HRH := Lib.hid hrh
              have HRD := Lib.hid hrd
              by_cases hcz : C = 0
              · have HZ := Lib.hid (show cP b xs (k + 1) = 0 by rw [HN.out, HC0.out, ← HWX.out, hsw, ← hC, hcz]; rfl)
                have hczb : (C == 0) = true := beq_yes hcz
                clear hs hsw hC hrh hrd hcz
                go_wp2
                go_loop [7, 37] (fun x y => x = .slice none 0 0 ∧ ∃ t : Nat, t ≤ 1 ∧ y = .int .i64 (t : Int)) (fun _ y => (1 - intOf y).toNat)
                case atStart => exact ⟨rfl, 0, by omega, rfl⟩
                case round =>
                  obtain ⟨rfl, t, ht, rfl⟩ := hrel
                  by_cases ht0 : t = 0
                  · subst ht0
                    go_wp2_with (go_at_call 86; go_loud (refine (rvCount_any gu cu b W Hh _ _ HRD.out HRH.out hW1 hW12 hb hb').mono ?_; rw [← HC.out]; rintro e w3 ⟨rfl, rfl⟩))
                    go_round
                    case rel => first | exact ⟨rfl, 1, by omega, by go_num⟩ | exact ⟨1, by omega, by go_num⟩ | (simp; done)
                    case measure => simp [intOf]
                  · obtain rfl : t = 1 := by omega
                    go_wp2
                    go_roundw
                    case rel => exact ⟨k + 1, by omega, by rw [← HW2.out], HZ, HB2.out⟩
                    case measure => (simp [intOf]; try omega)
              · have hczb : (C == 0) = false := beq_no hcz
                obtain ⟨hfs, hcs⟩ := fst_at hb hlt HWX.out hW1 (by rw [← HL.out]; exact h1) HC0.out hs (by rw [← hC]; exact hcz)
                have HQ := Lib.hid (show OKV = true by rw [HOKV.out]; exact decide_eq_true hcs)
                have HR := Lib.hid (show RL = fstH b W 1 Hh by rw [HRL.out, decide_eq_true hcs, if_pos rfl, hfs])
                clear hs hsw hC hrh hrd hcz hfs hcs
                have hsz2 := HB2.out.size
                go_wp2
                go_loopw [7, 37] (fun x y wr => (x = .slice none 0 0 ∧ y = .int .i64 0 ∧ wr = w2) ∨ (∃ g2 : Nat, x = .slice (some ⟨g2, 0, none⟩) W W ∧ y = .int .i64 1 ∧ Rd wr w.heap.size (.slice (some ⟨g2, 0, none⟩) W W) (fstH b W 1 Hh) ∧ Below w.heap.size w wr)) (fun _ y _ => (1 - intOf y).toNat)
                case atStart => exact .inl ⟨rfl, rfl, rfl⟩
                case round =>
                  rcases hrel with ⟨rfl, rfl, rfl⟩ | ⟨g2, rfl, rfl, hr3, hb3⟩
                  · go_wp2_with (first | (go_at_call 86; go_loud (refine (rvCount_any gu cu b W Hh _ _ HRD.out HRH.out hW1 hW12 hb hb').mono ?_; rw [← HC.out]; rintro e w3 ⟨rfl, rfl⟩)) | (go_at_call 87; go_loud (refine (rvFirst_any gu cu b W Hh _ _ HRD.out HRH.out hW1 hW12 hb hb').mono ?_; rintro e w3 ⟨g3, rfl, hr3, hb3⟩; have HR3 := Lib.hid (hr3.mono hsz2); have HB3 := Lib.hid (Below.step HB2.out hsz2 hb3); clear hr3 hb3)))
                    go_roundw
                    case rel => exact .inr ⟨g3, rfl, by go_num, HR3.out, HB3.out⟩
                    case measure => simp [intOf]
                  · have HR3 := Lib.hid hr3
                    have HB3 := Lib.hid hb3
                    clear hr3 hb3
                    have hWpos : (0 : Int) < (W : Int) := by omega
                    go_wp2
                    go_ret2
                    exact ⟨_, by rw [HQ.out]; rfl, by rw [HR.out]; exact HR3.out, HB3.out⟩
        · obtain rfl : k = 2 := by omega
          have HZ := Lib.hid (show cntS b xs = 0 from HC0.out)
          have HQ := Lib.hid (show OKV = false by rw [HOKV.out, HZ.out]; rfl)
          have HR := Lib.hid (show RL = [] by rw [HRL.out, HZ.out]; rfl)
          go_wp2
          go_ret2
          exact ⟨_, by rw [HQ.out]; rfl, by rw [HR.out]; exact Rd.nil _ _, HB.out⟩
    · have HA := Lib.hid (askS_long (b := b) h12)
      have HVAL := Lib.hid (show OK_FirstSource xs b = false by unfold OK_FirstSource; rw [HA.out]; rfl)
      have HLF := Lib.hid (show LF_FirstSource xs b = [] by unfold LF_FirstSource; rw [HA.out]; rfl)
      rw [HVAL.out, HLF.out]
      clear ho hd h
      go_enter Try.func40, Try.ntmps40
      go_wp2_with (go_at_call 84; refine (rvAsked_any _ _ _ _ _ H.out hl).mono ?_; rw [HA.out]; rintro e w1 ⟨rfl, rfl⟩)
      go_ret2
      exact ⟨_, rfl, Rd.nil _ _, Below.refl _ _⟩
  · have HA := Lib.hid (askS_no ho)
    have HVAL := Lib.hid (show OK_FirstSource xs b = false by unfold OK_FirstSource; rw [HA.out]; rfl)
    have HLF := Lib.hid (show LF_FirstSource xs b = [] by unfold LF_FirstSource; rw [HA.out]; rfl)
    rw [HVAL.out, HLF.out]
    clear ho h
    go_enter Try.func40, Try.ntmps40
    go_wp2_with (go_at_call 84; refine (rvAsked_any _ _ _ _ _ H.out hl).mono ?_; rw [HA.out]; rintro e w1 ⟨rfl, rfl⟩)
    go_ret2
    exact ⟨_, rfl, Rd.nil _ _, Below.refl _ _⟩

theorem cnt_nn {b : Int} (hb : 2 ≤ b) (hb' : b ≤ 16) {xs : List Int} (hl : xs.length ≤ 12) : 0 ≤ cntS b xs ∧ cntS b xs ≤ 562949953421312 := cP_bd hb hb' xs hl 2
theorem fst_nil {b : Int} (hb : 2 ≤ b) (hb' : b ≤ 16) {xs : List Int} (h1 : 1 ≤ xs.length) (hl : xs.length ≤ 12) (h : ¬ 0 < cntS b xs) : fstS b xs = [] := by
  have e1 := sW_bd hb hb' (show xs.length - 1 ≤ 12 by omega) (vD b xs)
  have e2 := sW_bd hb hb' hl (vD b xs)
  unfold cntS at h
  have z1 : sW b (xs.length - 1) (vD b xs) = 0 := by omega
  have z2 : sW b xs.length (vD b xs) = 0 := by omega
  unfold fstS
  rw [if_pos z1]
  unfold sW at z2
  rw [if_neg (by omega)] at z2
  exact srcV_nil z2

theorem impl_CountSources (v : Value) (xs : List Int) (b : Int) (B : Nat) (w : World) (h : Rd w B v xs) (hl : xs.length ≤ 1048576) :
    Calls Try.prog 37 #[v, .int .i64 b] w fun e w' => e = .returned (VAL_CountSources xs b) ∧ Below w.heap.size w w' := by
  have H := Lib.hid h
  obtain ⟨a, cap, rfl⟩ := h.sl.len
  rcases okR_cases b xs with ⟨ho, hd⟩ | ho
  · by_cases h12 : xs.length ≤ 12
    · have HA := Lib.hid (askS_yes ho h12)
      have HO := Lib.hid ho
      have hb := hd.b2
      have hb' := hd.b16
      have h1 := hd.l1
      have HX := Lib.hid hd.all
      have hd12 : decide ((12 : Int) < (xs.length : Int)) = false := decide_eq_false (by omega)
      have hi12 : ¬ (12 : Int) < (xs.length : Int) := by omega
      clear hd ho h
      have HVAL := Lib.hid (show VAL_CountSources xs b = .tuple #[.int .i64 (cntS b xs), .bool true] by unfold VAL_CountSources cntQ; rw [HA.out, if_pos rfl])
      rw [HVAL.out]
      obtain ⟨CN, hCN⟩ : ∃ CN, CN = cntS b xs := ⟨_, rfl⟩
      have HCN := Lib.hid hCN
      rw [← hCN]
      clear hCN
      have hfd0 : ∀ (x y : Value) (w' : World), (Instr.field 92 (.agg #[x, y]) 0).run Try.prog w' = .ok x w' := fun _ _ _ => by kernel_rfl
      have hfd1 : ∀ (x y : Value) (w' : World), (Instr.field 92 (.agg #[x, y]) 1).run Try.prog w' = .ok y w' := fun _ _ _ => by kernel_rfl
      go_enter Try.func37, Try.ntmps37
      go_wp2_with fail
      refine (long_yes _ _ _ _ _ H.out hl HO.out).mono ?_
      rintro e w1 ⟨g1, cap1, rfl, hr, hb1⟩
      have R1 := Lib.hid hr
      have B1 := Lib.hid hb1
      have HAL := Lib.hid (alloc_below w1 (.cells #[.slice (some ⟨g1, 0, none⟩) xs.length cap1, .int .i64 b] 56))
      have R2 := Lib.hid (R1.out.keep HAL.out)
      have B2 := Lib.hid (Below.step B1.out B1.out.size HAL.out)
      clear hr hb1
      go_wp2_with (go_at_call 83; go_loud (refine (findSources_any g1 cap1 xs b _ _ R2.out HX.out hb hb' h1 h12).mono ?_; rintro e w2 ⟨u2, rfl, hr2, hb2⟩; obtain ⟨a2, d2, rfl⟩ := hr2.shape'; have R3 := Lib.hid (hr2.mono B2.out.size); have B3 := Lib.hid (Below.step B2.out B2.out.size hb2); clear hr2 hb2))
      go_ret2
      exact ⟨by rw [HCN.out]; rfl, B3.out⟩
    · have HA := Lib.hid (askS_long (b := b) h12)
      have HVAL := Lib.hid (show VAL_CountSources xs b = .tuple #[.int .i64 0, .bool false] by unfold VAL_CountSources cntQ; rw [HA.out]; rfl)
      rw [HVAL.out]
      have hd12 : decide ((12 : Int) < (xs.length : Int)) = true := decide_eq_true (by omega)
      have h13 : (12 : Int) < (xs.length : Int) := by omega
      clear hd h h12
      have HO := Lib.hid ho
      clear ho
      go_enter Try.func37, Try.ntmps37
      go_wp2_with fail
      refine (long_yes _ _ _ _ _ H.out hl HO.out).mono ?_
      rintro e w1 ⟨g1, cap1, rfl, hr, hb1⟩
      have B1 := Lib.hid hb1
      have HAL := Lib.hid (alloc_below w1 (.cells #[.slice (some ⟨g1, 0, none⟩) xs.length cap1, .int .i64 b] 56))
      have B2 := Lib.hid (Below.step B1.out B1.out.size HAL.out)
      clear hr hb1
      go_wp2
      go_ret2
      exact ⟨rfl, B2.out⟩
  · have HA := Lib.hid (askS_no ho)
    have HVAL := Lib.hid (show VAL_CountSources xs b = .tuple #[.int .i64 0, .bool false] by unfold VAL_CountSources cntQ; rw [HA.out]; rfl)
    rw [HVAL.out]
    have HO := Lib.hid ho
    clear ho h
    go_enter Try.func37, Try.ntmps37
    go_wp2_with fail
    refine (long_no _ _ _ _ _ H.out hl HO.out).mono ?_
    rintro e w1 ⟨rfl, hb1⟩
    have B1 := Lib.hid hb1
    clear hb1
    have HAL := Lib.hid (alloc_below w1 (.cells #[.slice none 0 0, .int .i64 0] 56))
    have B2 := Lib.hid (Below.step B1.out B1.out.size HAL.out)
    go_wp2
    go_ret2
    exact ⟨rfl, B2.out⟩

theorem impl_FirstSource (v : Value) (xs : List Int) (b : Int) (B : Nat) (w : World) (h : Rd w B v xs) (hl : xs.length ≤ 1048576) :
    Calls Try.prog 39 #[v, .int .i64 b] w fun e w' => ∃ u, e = .returned (.tuple #[u, .bool (OK_FirstSource xs b)]) ∧ Rd w' w.heap.size u (LF_FirstSource xs b) ∧ Below w.heap.size w w' := by
  have H := Lib.hid h
  obtain ⟨a, cap, rfl⟩ := h.sl.len
  rcases okR_cases b xs with ⟨ho, hd⟩ | ho
  · by_cases h12 : xs.length ≤ 12
    · have HA := Lib.hid (askS_yes ho h12)
      have HO := Lib.hid ho
      have hb := hd.b2
      have hb' := hd.b16
      have h1 := hd.l1
      have HX := Lib.hid hd.all
      have hd12 : decide ((12 : Int) < (xs.length : Int)) = false := decide_eq_false (by omega)
      have hi12 : ¬ (12 : Int) < (xs.length : Int) := by omega
      clear hd ho h
      have HOK := Lib.hid (show OK_FirstSource xs b = decide (0 < cntS b xs) by unfold OK_FirstSource; rw [HA.out]; rfl)
      have HFN := fst_nil hb hb' h1 h12
      have HLF := Lib.hid (show LF_FirstSource xs b = fstS b xs by
        unfold LF_FirstSource
        rw [HA.out, Bool.true_and]
        by_cases e : 0 < cntS b xs
        · rw [decide_eq_true e, if_pos rfl]
        · rw [decide_eq_false e, if_neg (by simp), HFN e])
      rw [HOK.out]
      clear HFN
      obtain ⟨CN, hCN⟩ : ∃ CN, CN = cntS b xs := ⟨_, rfl⟩
      have HCN := Lib.hid hCN
      rw [← hCN]
      clear hCN
      have hfd0 : ∀ (x y : Value) (w' : World), (Instr.field 92 (.agg #[x, y]) 0).run Try.prog w' = .ok x w' := fun _ _ _ => by kernel_rfl
      have hfd1 : ∀ (x y : Value) (w' : World), (Instr.field 92 (.agg #[x, y]) 1).run Try.prog w' = .ok y w' := fun _ _ _ => by kernel_rfl
      go_enter Try.func39, Try.ntmps39
      go_wp2_with fail
      refine (long_yes _ _ _ _ _ H.out hl HO.out).mono ?_
      rintro e w1 ⟨g1, cap1, rfl, hr, hb1⟩
      have R1 := Lib.hid hr
      have B1 := Lib.hid hb1
      have HAL := Lib.hid (alloc_below w1 (.cells #[.slice (some ⟨g1, 0, none⟩) xs.length cap1, .int .i64 b] 56))
      have R2 := Lib.hid (R1.out.keep HAL.out)
      have B2 := Lib.hid (Below.step B1.out B1.out.size HAL.out)
      clear hr hb1
      go_wp2_with (go_at_call 83; go_loud (refine (findSources_any g1 cap1 xs b _ _ R2.out HX.out hb hb' h1 h12).mono ?_; rintro e w2 ⟨u2, rfl, hr2, hb2⟩; obtain ⟨a2, d2, rfl⟩ := hr2.shape'; have R3 := Lib.hid (hr2.mono B2.out.size); have B3 := Lib.hid (Below.step B2.out B2.out.size hb2); clear hr2 hb2))
      go_quiet (fail)
      go_wp2
      go_ret2
      exact ⟨_, by rw [HCN.out]; rfl, by rw [HLF.out]; exact (R3.out.alloc _).drewN _, below_dN (B3.out.alloc B3.out.size _) _⟩
    · have HA := Lib.hid (askS_long (b := b) h12)
      have HVAL := Lib.hid (show OK_FirstSource xs b = false by unfold OK_FirstSource; rw [HA.out]; rfl)
      have HLF := Lib.hid (show LF_FirstSource xs b = [] by unfold LF_FirstSource; rw [HA.out]; rfl)
      rw [HVAL.out, HLF.out]
      have hd12 : decide ((12 : Int) < (xs.length : Int)) = true := decide_eq_true (by omega)
      have h13 : (12 : Int) < (xs.length : Int) := by omega
      clear hd h h12
      have HO := Lib.hid ho
      clear ho
      go_enter Try.func39, Try.ntmps39
      go_wp2_with fail
      refine (long_yes _ _ _ _ _ H.out hl HO.out).mono ?_
      rintro e w1 ⟨g1, cap1, rfl, hr, hb1⟩
      have B1 := Lib.hid hb1
      have HAL := Lib.hid (alloc_below w1 (.cells #[.slice (some ⟨g1, 0, none⟩) xs.length cap1, .int .i64 b] 56))
      have B2 := Lib.hid (Below.step B1.out B1.out.size HAL.out)
      clear hr hb1
      go_wp2
      go_ret2
      exact ⟨_, rfl, Rd.nil _ _, B2.out⟩
  · have HA := Lib.hid (askS_no ho)
    have HVAL := Lib.hid (show OK_FirstSource xs b = false by unfold OK_FirstSource; rw [HA.out]; rfl)
    have HLF := Lib.hid (show LF_FirstSource xs b = [] by unfold LF_FirstSource; rw [HA.out]; rfl)
    rw [HVAL.out, HLF.out]
    have HO := Lib.hid ho
    clear ho h
    go_enter Try.func39, Try.ntmps39
    go_wp2_with fail
    refine (long_no _ _ _ _ _ H.out hl HO.out).mono ?_
    rintro e w1 ⟨rfl, hb1⟩
    have B1 := Lib.hid hb1
    clear hb1
    have HAL := Lib.hid (alloc_below w1 (.cells #[.slice none 0 0, .int .i64 0] 56))
    have B2 := Lib.hid (Below.step B1.out B1.out.size HAL.out)
    go_wp2
    go_ret2
    exact ⟨_, rfl, Rd.nil _ _, B2.out⟩

end Go.Proofs.Ytnggfcopndcppaa
