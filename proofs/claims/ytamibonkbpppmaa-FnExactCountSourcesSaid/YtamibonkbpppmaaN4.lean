/-
  The sources of a value: sourcesOf.
-/
import Derived.Test.YtamibonkbpppmaaN3
namespace Go.Proofs.Ytamibonkbpppmaa
open Go.RowKit
set_option linter.unusedVariables false
set_option linter.unusedSimpArgs false
set_option maxRecDepth 100000

theorem concat3_any (w : World) (g : Nat) (u0 u1 u2 : Value) (Y0 Y1 Y2 : List Int) (hg : w.heap.size = g) (r0 : Rd w 0 u0 Y0) (r1 : Rd w 0 u1 Y1) (r2 : Rd w 0 u2 Y2) (hp : 1 ≤ Y0.length) (h0 : Y0.length ≤ 100) (h1 : Y1.length ≤ 100) (h2 : Y2.length ≤ 100) :
    Calls Try.prog 76 #[.slice (some ⟨g, 0, none⟩) 3 3] (w.alloc (.cells #[u0, u1, u2] 22)) fun e w' => ∃ v, e = .returned v ∧ Rd w' w.heap.size v (Y0 ++ Y1 ++ Y2) ∧ Below (w.alloc (.cells #[u0, u1, u2] 22)).heap.size (w.alloc (.cells #[u0, u1, u2] 22)) w' := by
  subst hg
  refine (concatI_any w.heap.size 3 3 (fun i => match i with | 0 => u0 | 1 => u1 | _ => u2) (fun i => match i with | 0 => Y0 | 1 => Y1 | _ => Y2) _ (fun i hi => ?_) (fun i hi => ?_) ?_ (fun i hi => ?_) (by omega)).mono ?_
  · match i, hi with
    | 0, _ => simp [go_sem]
    | 1, _ => simp [go_sem]
    | 2, _ => simp [go_sem]
  · match i, hi with
    | 0, _ => exact r0.alloc _
    | 1, _ => exact r1.alloc _
    | 2, _ => exact r2.alloc _
  · simp [jnP]; omega
  · match i, hi with
    | 0, _ => simp [jnP]
    | 1, _ => simp [jnP]; omega
    | 2, _ => simp [jnP]; omega
    | 3, _ => simp [jnP]; omega
  · rintro e w' ⟨v, rfl, hr, hb⟩
    have hj : jnP (fun i => match i with | 0 => Y0 | 1 => Y1 | _ => Y2) 3 = Y0 ++ Y1 ++ Y2 := by simp [jnP]
    rw [hj] at hr
    exact ⟨v, rfl, hr.mono (by simp), hb⟩

theorem fstH_len (b : Int) : ∀ (w : Nat) (l : Int) (H : List Int), (fstH b w l H).length ≤ w
  | 0, _, _ => by simp [fstH]
  | 1, _, [] => by simp [fstH]
  | 1, _, _ :: _ => by simp [fstH]
  | w + 2, _, [] => by simp [fstH]
  | w + 2, _, _ :: H => by have := fstH_len b w 0 H; simp [fstH]; omega
theorem srcV_len (b : Int) (w : Nat) (v l : Int) : (srcV b w v l).2.length ≤ w := by
  unfold srcV
  split
  · split
    · simp
    · exact fstH_len b w l _
  · simp

set_option maxHeartbeats 4000000 in
/-- sourcesOf of two digits or more, if it is right for two digits less. -/
theorem sourcesOf_more (b v least : Int) (k : Nat) (w : World) (hk : k + 2 ≤ 12) (hb : 2 ≤ b) (hb' : b ≤ 16) (hv : 0 ≤ v) (hv' : v ≤ 1000000000000000000) (hl : 0 ≤ least) (hl' : least ≤ 1)
    (ih : ∀ (v' : Int) (w' : World), 0 ≤ v' → v' ≤ 1000000000000000000 → Calls Try.prog 63 #[.int .i64 v', .int .i64 (k : Int), .int .i64 b, .int .i64 0] w' fun e w'' => ∃ u, e = .returned (.agg #[.int .i64 (srcV b k v' 0).1, u]) ∧ Rd w'' w'.heap.size u (srcV b k v' 0).2 ∧ Below w'.heap.size w' w'') :
    Calls Try.prog 63 #[.int .i64 v, .int .i64 ((k + 2 : Nat) : Int), .int .i64 b, .int .i64 least] w fun e w' => ∃ u, e = .returned (.agg #[.int .i64 (srcV b (k + 2) v least).1, u]) ∧ Rd w' w.heap.size u (srcV b (k + 2) v least).2 ∧ Below w.heap.size w w' := by
  have HAL := Lib.hid (alloc_below w (.cells #[.int .i64 0, .slice none 0 0] 66))
  have HC0 := Lib.hid (show (w.alloc (.cells #[.int .i64 0, .slice none 0 0] 66)).cell? ⟨w.heap.size, 0, none⟩ = some (.int .i64 0) by simp [go_sem])
  have HC1 := Lib.hid (show (w.alloc (.cells #[.int .i64 0, .slice none 0 0] 66)).cell? ⟨w.heap.size, 1, none⟩ = some (.slice none 0 0) by simp [go_sem])
  have HF := Lib.hid (show ∀ j, (w.alloc (.cells #[.int .i64 0, .slice none 0 0] 66)).frozen? ⟨w.heap.size, j, none⟩ = false from fun j => by simp [go_sem])
  obtain ⟨w1, hw1⟩ : ∃ w1, w1 = w.alloc (.cells #[.int .i64 0, .slice none 0 0] 66) := ⟨_, rfl⟩
  have HW1 := Lib.hid hw1
  have hsz : w.heap.size < w1.heap.size := by rw [hw1, World.size_alloc]; omega
  rw [← hw1] at HAL HC0 HC1 HF
  have HS0 := Lib.hid (restV_0 hb k v least hv)
  obtain ⟨sv, hsv⟩ : ∃ sv, sv = srcV b (k + 2) v least := ⟨_, rfl⟩
  rw [← hsv] at HS0 ⊢
  clear hsv hw1
  have HIH := Lib.hid ih
  clear ih
  obtain ⟨K, hK⟩ : ∃ K : Int, K = ((k + 2 : Nat) : Int) := ⟨_, rfl⟩
  have hK2 : ¬ K < 2 := by omega
  have HPW := Lib.hid (show ∀ w', Calls Try.prog 75 #[.int .i64 b, .int .i64 ((k + 1 : Nat) : Int)] w' fun e w'' => e = .returned (.int .i64 (b ^ (k + 1))) ∧ w' = w'' from fun w' => powerOfBase_any b (k + 1) w' hb hb' (by omega))
  have HKM := Lib.hid (show K - 1 = ((k + 1 : Nat) : Int) by omega)
  have HK2 := Lib.hid (show K - 2 = ((k : Nat) : Int) by omega)
  have hKl : K ≤ 12 := by omega
  have hp0 : 0 ≤ v % b := Int.emod_nonneg v (by omega)
  have hp1 : v % b < b := Int.emod_lt_of_pos v (by omega)
  have hbz : ¬ b = 0 := by omega
  have hmd : Int.tmod v b = v % b := Int.tmod_eq_emod_of_nonneg hv
  obtain ⟨r, hr⟩ : ∃ r, r = v % b := ⟨_, rfl⟩
  have HR := Lib.hid hr
  rw [← hr] at hp0 hp1
  rw [← hK]
  have hK2' : 2 ≤ K := by omega
  clear hK
  go_enter Try.func63, Try.ntmps63
  go_wp2
  rw [← HW1.out]
  rw [← HR.out]
  clear hr
  go_loopw [9] (fun q wr => ∃ j : Nat, j ≤ 2 ∧ q = .int .i64 (r + (j : Int) * b) ∧ sv = restV b k v least j ∧ Below w1.heap.size w1 wr) (fun q _ => (100 - intOf q).toNat)
  case atStart => exact ⟨0, by omega, by simp, HS0.out, Below.refl _ _⟩
  case round =>
    obtain ⟨j, hj, rfl, hsj, hbl⟩ := hrel
    have HB := Lib.hid hbl
    have HSJ := Lib.hid hsj
    clear hbl hsj
    have hjb : 0 ≤ (j : Int) * b := Int.mul_nonneg (by omega) (by omega)
    obtain ⟨p, hp⟩ : ∃ p, p = r + (j : Int) * b := ⟨_, rfl⟩
    have HP := Lib.hid hp
    have hpz : 0 ≤ p := by omega
    rw [← hp]
    clear hp hjb
    by_cases hle : p ≤ 2 * (b - 1)
    · obtain ⟨P1, hP1⟩ : ∃ P1, P1 = b ^ (k + 1) := ⟨_, rfl⟩
      have HP1 := Lib.hid hP1
      have hP1b : 1 ≤ P1 ∧ P1 ≤ 281474976710656 := by rw [hP1]; exact pow_le13 hb hb' (by omega)
      clear hP1
      obtain ⟨X, hX⟩ : ∃ X, X = p * (P1 + 1) := ⟨_, rfl⟩
      have HXX := Lib.hid hX
      have hX0 : 0 ≤ X := by rw [hX]; exact Int.mul_nonneg hpz (by omega)
      have hX1 : X ≤ 8444249301319710 := by
        rw [hX]
        have h1 : p * (P1 + 1) ≤ 30 * (P1 + 1) := Int.mul_le_mul_of_nonneg_right (by omega) (by omega)
        omega
      have hXX : p * (P1 + 1) = X := hX.symm
      clear hX
      have HST := Lib.hid (restV_step b k v least j hb (by rw [← HR.out, ← HP.out]; exact hle))
      obtain ⟨rest, hrest⟩ : ∃ rest, rest = restV b k v least (j + 1) := ⟨_, rfl⟩
      have HRS := Lib.hid hrest
      have HNX := Lib.hid (show p + b = r + ((j + 1 : Nat) : Int) * b by rw [HP.out]; push_cast; rw [Int.add_mul]; omega)
      obtain ⟨Q, hQ⟩ : ∃ Q, Q = (v - X) / b := ⟨_, rfl⟩
      have HQ := Lib.hid hQ
      have HRN := Lib.hid (show sv = if v - X < 0 ∨ min (b - 1) p < max least (p - (b - 1)) then rest else if 0 < (srcV b k Q 0).1 then ((srcV b k Q 0).1 * (min (b - 1) p - max least (p - (b - 1)) + 1), max least (p - (b - 1)) :: ((srcV b k Q 0).2 ++ [p - max least (p - (b - 1))])) else rest by
        rw [HSJ.out, HST.out.2, ← HR.out, ← HP.out]
        unfold rndV
        rw [if_pos hle, ← HP1.out, hXX, ← HQ.out, HRS.out])
      have hQd : (v - X) / b = Q := hQ.symm
      clear hQ hrest
      have hdv : 0 ≤ v - X → Int.tdiv (v - X) b = (v - X) / b := fun h => Int.tdiv_eq_ediv_of_nonneg h
      go_wp2_with fail
      rw [HKM.out]
      refine (HPW.out _).mono ?_
      rw [← HP1.out]
      rintro e w2 ⟨rfl, rfl⟩
      by_cases hneg : v - X < 0
      · have HEV := Lib.hid (show sv = restV b k v least (j + 1) by rw [HRN.out, if_pos (.inl hneg), HRS.out])
        go_wp2
        go_roundw
        case rel => exact ⟨j + 1, by have := HST.out.1; omega, by rw [← HNX.out], HEV.out, HB.out⟩
        case measure => simp [intOf]; omega
      · by_cases hlh : min (b - 1) p < max least (p - (b - 1))
        · have HEV := Lib.hid (show sv = restV b k v least (j + 1) by rw [HRN.out, if_pos (.inr hlh), HRS.out])
          go_wp2
          go_roundw
          case rel => exact ⟨j + 1, by have := HST.out.1; omega, by rw [← HNX.out], HEV.out, HB.out⟩
          case measure => simp [intOf]; omega
        · have hneg0 : ¬ v - X < 0 := hneg
          have hQ0 : 0 ≤ Q := by rw [← hQd]; exact Int.ediv_nonneg (by omega) (by omega)
          have hQ1 : Q ≤ 1000000000000000000 := by
            have := Int.ediv_le_self b (show 0 ≤ v - X by omega)
            omega
          go_wp2_with fail
          rw [HK2.out]
          refine (HIH.out Q _ hQ0 hQ1).mono ?_
          rintro e w3 ⟨u3, rfl, hr3, hb3⟩
          obtain ⟨cn, hcn⟩ : ∃ cn, cn = (srcV b k Q 0).1 := ⟨_, rfl⟩
          obtain ⟨ys, hys⟩ : ∃ ys, ys = (srcV b k Q 0).2 := ⟨_, rfl⟩
          have hcn0 : 0 ≤ cn := by rw [hcn]; exact srcV_nn _ _ _ _
          have hcn1 : cn ≤ 281474976710656 := by rw [hcn]; exact srcV_le hb hb' (by omega) _ _ (by omega)
          have hyl : ys.length ≤ 100 := by rw [hys]; have := srcV_len b k Q 0; omega
          rw [← hcn, ← hys] at HRN
          rw [← hys] at hr3
          rw [← hcn]
          clear hcn hys
          obtain ⟨a3, d3, rfl⟩ := hr3.shape'
          have R3 := Lib.hid hr3
          have B3 := Lib.hid (Below.step HB.out HB.out.size hb3)
          clear hr3 hb3
          by_cases hc : 0 < cn
          · go_wp2_with fail
            obtain ⟨lo, hlo⟩ : ∃ lo, lo = max least (p - (b - 1)) := ⟨_, rfl⟩
            obtain ⟨hi, hhi⟩ : ∃ hi, hi = min (b - 1) p := ⟨_, rfl⟩
            have HEV := Lib.hid (show sv = (cn * (hi - lo + 1), lo :: (ys ++ [p - lo])) by rw [HRN.out, if_neg (by omega), if_pos hc, ← hlo, ← hhi])
            rw [← hlo] at hlh ⊢
            rw [← hhi] at hlh ⊢
            have hlo0 : 0 ≤ lo := by omega
            have hhi1 : hi ≤ 15 := by omega
            obtain ⟨cc, hcc⟩ : ∃ cc, cc = cn * (hi - lo + 1) := ⟨_, rfl⟩
            have hcc0 : 0 ≤ cc := by rw [hcc]; exact Int.mul_nonneg hcn0 (by omega)
            have hcc1 : cc ≤ 9007199254740992 := by
              rw [hcc]
              have h1 : cn * (hi - lo + 1) ≤ cn * 16 := Int.mul_le_mul_of_nonneg_left (by omega) hcn0
              omega
            have hccd : cn * (hi - lo + 1) = cc := hcc.symm
            rw [hccd] at HEV
            clear hcc hlo hhi HRN
            have A1 := Lib.hid (alloc_below w3 (.cells #[.int .i64 cn, .slice a3 ys.length d3] 66))
            have C13 := Lib.hid (show (w3.alloc (.cells #[.int .i64 cn, .slice a3 ys.length d3] 66)).cell? ⟨w3.heap.size, 0, none⟩ = some (.int .i64 cn) by simp [go_sem])
            obtain ⟨w4, hw4⟩ : ∃ w4, w4 = w3.alloc (.cells #[.int .i64 cn, .slice a3 ys.length d3] 66) := ⟨_, rfl⟩
            have hs4 : w4.heap.size = w3.heap.size + 1 := by rw [hw4, World.size_alloc]
            rw [← hw4] at A1 C13 ⊢
            clear hw4
            have q0 := (Rd.litB w4 0 lo (Nat.zero_le _)).alloc (.cells #[.int .i64 (p - lo)] 3)
            have q2 := Rd.litB (w4.alloc (.cells #[.int .i64 lo] 3)) 0 (p - lo) (Nat.zero_le _)
            have q1 := ((((R3.out.keep A1.out).mono (Nat.zero_le _)).alloc (.cells #[.int .i64 lo] 3)).alloc (.cells #[.int .i64 (p - lo)] 3))
            rw [World.size_alloc] at q2
            rw [hs4] at q0 q2
            have HCON := concat3_any _ (w3.heap.size + 1 + 1 + 1) _ _ _ _ _ _ (by rw [World.size_alloc, World.size_alloc, hs4]) q0 q1 q2 (by simp) (by simp) hyl (by simp)
            have K6 := Lib.hid (show Below w4.heap.size w4 (((w4.alloc (.cells #[.int .i64 lo] 3)).alloc (.cells #[.int .i64 (p - lo)] 3)).alloc (.cells #[.slice (some ⟨w3.heap.size + 1, 0, none⟩) 1 1, .slice a3 ys.length d3, .slice (some ⟨w3.heap.size + 1 + 1, 0, none⟩) 1 1] 22)) from bel_alloc (bel_alloc (bel_alloc (Below.refl _ _) _) _) _)
            refine HCON.mono ?_
            clear HCON q0 q1 q2
            rintro e w8 ⟨u8, rfl, hr8, hb8⟩
            obtain ⟨a8, d8, rfl⟩ := hr8.shape'
            have K8 := Lib.hid (bel_step K6.out hb8)
            have c13 := Below.keeps_cell K8.out C13.out
            have B8 := Lib.hid (Below.step (Below.step B3.out B3.out.size A1.out) (Below.step B3.out B3.out.size A1.out).size K8.out)
            have c0 := Below.keeps_cell B8.out HC0.out
            have c1 := Below.keeps_cell B8.out HC1.out
            have hfz : ∀ j, w8.frozen? ⟨w.heap.size, j, none⟩ = false := fun j => by rw [(below_cells B8.out).2 _ _ hsz]; exact HF.out j
            have f0 := hfz 0
            have f1 := hfz 1
            have B9 := Lib.hid (Below.step HAL.out HAL.out.size B8.out)
            obtain ⟨L, hL⟩ : ∃ L, L = [lo] ++ ys ++ [p - lo] := ⟨_, rfl⟩
            have HLL := Lib.hid (show L = lo :: (ys ++ [p - lo]) by rw [hL]; simp)
            rw [← hL] at hr8 ⊢
            clear hL
            have hlw : w.heap.size < ((w4.alloc (.cells #[.int .i64 lo] 3)).alloc (.cells #[.int .i64 (p - lo)] 3)).heap.size := by
              rw [World.size_alloc, World.size_alloc, hs4]
              have := B3.out.size
              omega
            have hne : (Value.slice a8 L.length d8).ownBlock = none ∨ (Value.slice a8 L.length d8).ownBlock ≠ some w.heap.size := by
              by_cases e : (Value.slice a8 L.length d8).ownBlock = none
              · exact .inl e
              · exact .inr (fun h => by have := (hr8.lt _ h).1; omega)
            have HRG := Lib.hid (show ∀ u q', Rd ((w8.setCell ⟨w.heap.size, 0, none⟩ u).setCell ⟨w.heap.size, 1, none⟩ q') w.heap.size (.slice a8 L.length d8) L from fun u q' => ((hr8.grown (grown_setCell _ _ _ _) hne).grown (grown_setCell _ _ _ _) hne).mono (by omega))
            have hsp := set_pair (x0 := .int .i64 cc) (x1 := .slice a8 L.length d8) c0 c1
            have HSP := Lib.hid hsp
            clear hsp hfz hne hr8 hb8 hlw
            go_wp2
            refine bodyPost_ret (ret_src rfl _ _ w.heap.size _ _ rfl HSP.out.1 HSP.out.2) rfl ?_
            rw [HEV.out]
            exact ⟨_, rfl, by rw [← HLL.out]; exact HRG.out _ _, (B9.out.setCell (Nat.le_refl _) _).setCell (Nat.le_refl _) _⟩
          · have HEV := Lib.hid (show sv = restV b k v least (j + 1) by rw [HRN.out, if_neg (by omega), if_neg hc, HRS.out])
            go_wp2
            go_roundw
            case rel => exact ⟨j + 1, by have := HST.out.1; omega, by rw [← HNX.out], HEV.out, B3.out.alloc B3.out.size _⟩
            case measure => simp [intOf]; omega
    · have HEV := Lib.hid (show sv = (0, []) by rw [HSJ.out]; exact restV_end b k v least j hb hj (by rw [← HR.out, ← HP.out]; omega))
      have c0 := Below.keeps_cell HB.out HC0.out
      have c1 := Below.keeps_cell HB.out HC1.out
      have hfz : ∀ j, wr.frozen? ⟨w.heap.size, j, none⟩ = false := fun j => by rw [(below_cells HB.out).2 _ _ hsz]; exact HF.out j
      have f0 := hfz 0
      have f1 := hfz 1
      have B2 := Lib.hid (Below.step HAL.out HAL.out.size HB.out)
      have hsp := set_pair (x0 := .int .i64 0) (x1 := .slice none 0 0) c0 c1
      have HSP := Lib.hid hsp
      clear hsp hfz
      go_wp2
      refine bodyPost_ret (ret_src rfl _ _ w.heap.size _ _ rfl HSP.out.1 HSP.out.2) rfl ?_
      rw [HEV.out]
      exact ⟨_, rfl, Rd.nil _ _, (B2.out.setCell (Nat.le_refl _) _).setCell (Nat.le_refl _) _⟩

theorem sourcesOf_any (b : Int) (hb : 2 ≤ b) (hb' : b ≤ 16) : ∀ (W : Nat), W ≤ 12 → ∀ (v least : Int) (w : World), 0 ≤ v → v ≤ 1000000000000000000 → 0 ≤ least → least ≤ 1 →
    Calls Try.prog 63 #[.int .i64 v, .int .i64 (W : Int), .int .i64 b, .int .i64 least] w fun e w' => ∃ u, e = .returned (.agg #[.int .i64 (srcV b W v least).1, u]) ∧ Rd w' w.heap.size u (srcV b W v least).2 ∧ Below w.heap.size w w' := by
  intro W
  induction W using Nat.strongRecOn with
  | _ W ih =>
    intro hW v least w hv hv' hl hl'
    by_cases h : W < 2
    · exact sourcesOf_two b v least W w h hb hb' hv hv' hl hl'
    · obtain ⟨k, rfl⟩ : ∃ k, W = k + 2 := ⟨W - 2, by omega⟩
      exact sourcesOf_more b v least k w hW hb hb' hv hv' hl hl' (fun v' w' h1 h2 => ih k (by omega) (by omega) v' 0 w' h1 h2 (by omega) (by omega))

end Go.Proofs.Ytamibonkbpppmaa
