/-
  Answers: how many numbers have each sum of squares; how many are happy.
-/
import Derived.Test.YtjfcbelbpgmokaaUO
namespace Go.Proofs.Ytjfcbelbpgmokaa
open Go.RowKit
set_option linter.unusedVariables false
set_option linter.unusedSimpArgs false
set_option maxRecDepth 100000

theorem pwSpread_any (k b : Nat) (w : World) (hb : 2 ≤ b) (hb' : b ≤ 10) (hk : k ≤ 12) :
    Calls Try.prog 22 #[.int .i64 (k : Int), .int .i64 (b : Int)] w fun e w' => ∃ u, e = .returned u ∧ Rd w' w.heap.size u (lst (k * ((b - 1) * (b - 1)) + 1) (sp b k)) ∧ Below w.heap.size w w' := by
  obtain ⟨c, hc⟩ : ∃ c, c = b - 1 := ⟨_, rfl⟩
  have hb1 : (b : Int) - 1 = (c : Int) := by omega
  obtain ⟨Q, hQ⟩ : ∃ Q, Q = c * c := ⟨_, rfl⟩
  obtain ⟨kc, hkc⟩ : ∃ kc, kc = k * c := ⟨_, rfl⟩
  obtain ⟨R, hR⟩ : ∃ R, R = kc * c := ⟨_, rfl⟩
  obtain ⟨K, hK⟩ : ∃ K, K = R + 1 := ⟨_, rfl⟩
  have HQ := Lib.hid hQ
  have hRQ : R = k * Q := by rw [hR, hkc, hQ, Nat.mul_assoc]
  have HRQ := Lib.hid hRQ
  have HK := Lib.hid hK
  have hQb : Q ≤ 81 := by rw [hQ]; exact Nat.mul_le_mul (show c ≤ 9 by omega) (show c ≤ 9 by omega)
  have hRb : R ≤ 972 := by rw [hRQ]; exact Nat.mul_le_mul hk hQb
  have hkcb : kc ≤ 108 := by rw [hkc]; exact Nat.mul_le_mul hk (show c ≤ 9 by omega)
  have p1 : (k : Int) * (c : Int) = (kc : Int) := by rw [hkc]; push_cast; rfl
  have p2 : (kc : Int) * (c : Int) = (R : Int) := by rw [hR]; push_cast; rfl
  have p3 : (R : Int) + 1 = (K : Int) := by omega
  have HSB := Lib.hid (fun (i : Nat) (hi : i ≤ 12) (s : Nat) => sp_bd hb hb' hi s)
  have HSF := Lib.hid (sp_far b)
  have HCB := Lib.hid hc
  rw [← hc, ← hQ] at HSF
  rw [← hc, ← hQ, ← hRQ, ← hK]
  clear hc hQ hkc hR hRQ hK
  have hK1 : 0 < K := by omega
  have HS0 := Lib.hid (show (List.replicate K (0 : Int)).set 0 1 = lst K (sp b 0) by
    rw [lst_rep]
    exact lst_set (v := 1) hK1 rfl (fun i _ hi => by show 0 = (if i = 0 then 1 else 0); rw [if_neg hi]))
  have HC0 := Lib.hid (fun (w1 : World) (hr1 : Rd w1 w.heap.size (.slice (some ⟨w.heap.size, 0, none⟩) K K) (List.replicate K 0)) => (show ∃ q : Int, w1.cell? ⟨w.heap.size, 0, none⟩ = some (.int .i64 q) from ⟨_, hr1.at.2.2.2.2.1 0 (by rw [List.length_replicate]; exact hK1)⟩))
  go_enter Try.func22, Try.ntmps22
  go_wp2_with (at_make; refine wpList_mkR rfl _ _ rfl .i64 .i64 _ _ K rfl rfl rfl rfl (by omega) ?_; intro w1 hr1 hg1 hb1'; obtain ⟨q0, hq0⟩ := HC0.out w1 hr1; have hfz0 := hr1.at.2.2.2.2.2 0; have H0 := Lib.hid (hr1.set 0 1).1; have HB0 := Lib.hid (hb1'.setCell (p := ⟨w.heap.size, 0, none⟩) (Nat.le_refl _) (.int .i64 1)); clear hr1 hg1 hb1')
  rw [HS0.out] at H0
  go_loopw [5, 6] (fun o i wr => ∃ (m : Nat) (u : Value), m ≤ k ∧ i = .int .i64 (m : Int) ∧ u = o ∧ Rd wr w.heap.size u (lst K (sp b m)) ∧ Below w.heap.size w wr) (fun _ i _ => k - (intOf i).toNat)
  case atStart => exact ⟨0, _, Nat.zero_le _, rfl, rfl, H0.out, HB0.out⟩
  case round =>
    obtain ⟨m, u, hm, rfl, rfl, hr, hbl⟩ := hrel
    obtain ⟨gu, cu, rfl⟩ : ∃ gu cu, u = .slice (some ⟨gu, 0, none⟩) K cu := by
      rcases hr.cases with ⟨_, hx⟩ | ⟨gu, cu, hu, _⟩
      · have := congrArg List.length hx; rw [lst_len] at this; simp at this; omega
      · rw [lst_len] at hu; exact ⟨gu, cu, hu⟩
    have HR := Lib.hid hr
    have HB := Lib.hid hbl
    have hgu := hr.at.2.2.1
    have hsz := hbl.size
    clear hr hbl
    by_cases hlt : m < k
    · obtain ⟨f, hf⟩ : ∃ f, f = sp b m := ⟨_, rfl⟩
      have HF := Lib.hid hf
      have HFB := Lib.hid (show ∀ s, f s ≤ 1000000000000 by rw [hf]; exact HSB.out m (by omega))
      have HFF := Lib.hid (show ∀ z, m * Q < z → f z = 0 by rw [hf]; exact fun z hz => HSF.out m z hz)
      have HMQ := Lib.hid (show m * Q + Q ≤ R by rw [HRQ.out, ← Nat.succ_mul]; exact Nat.mul_le_mul_right Q (by omega))
      rw [← hf] at HR
      clear hf
      go_wp2_with (at_make; refine wpList_mkR rfl _ _ rfl .i64 .i64 _ _ K rfl rfl rfl rfl (by omega) ?_; intro w1 hr1 hg1 hb1')
      obtain ⟨gl, hgl⟩ : ∃ gl, gl = wr.heap.size := ⟨_, rfl⟩
      rw [← hgl] at hr1
      have hne : gu ≠ gl := by omega
      have HL1 := Lib.hid (show Rd w1 w.heap.size (.slice (some ⟨gl, 0, none⟩) K K) (lst K (ac f b 0 0)) by
        have e : lst K (ac f b 0 0) = List.replicate K 0 := by rw [lst_rep]; exact lst_congr fun x _ => ac_zero f b x
        rw [e]; exact hr1.mono (by omega))
      have HO1 := Lib.hid (HR.out.keep hb1')
      have HB1 := Lib.hid (Below.step HB.out hsz hb1')
      rw [← hgl]
      clear hr1 hg1 hb1' hgl hgu hsz HB HR
      go_wp2
      go_loopw [32] (fun i wq => ∃ x : Nat, x ≤ K ∧ i = .int .i64 (x : Int) ∧ Rd wq w.heap.size (.slice (some ⟨gu, 0, none⟩) K cu) (lst K f) ∧ Rd wq w.heap.size (.slice (some ⟨gl, 0, none⟩) K K) (lst K (ac f b x 0)) ∧ Below w.heap.size w wq) (fun i _ => K - (intOf i).toNat)
      case atStart => exact ⟨0, Nat.zero_le _, rfl, HO1.out, HL1.out, HB1.out⟩
      case round =>
        obtain ⟨x, hx, rfl, ho, hl, hbl⟩ := hrel
        have HO := Lib.hid ho
        have HL := Lib.hid hl
        have HB := Lib.hid hbl
        clear ho hl hbl
        by_cases hlx : x < K
        · have hcx := HO.out.at.2.2.2.2.1 x (by rw [lst_len]; exact hlx)
          rw [lst_at] at hcx
          obtain ⟨v, hv⟩ : ∃ v, v = f x := ⟨_, rfl⟩
          have hvb : v ≤ 1000000000000 := by rw [hv]; exact HFB.out x
          have HV := Lib.hid hv
          rw [← hv] at hcx
          clear hv
          go_wp2
          go_loopw [10] (fun i wq => ∃ y : Nat, y ≤ b ∧ Hid (v = 0 → y = 0) ∧ i = .int .i64 (y : Int) ∧ Rd wq w.heap.size (.slice (some ⟨gu, 0, none⟩) K cu) (lst K f) ∧ Rd wq w.heap.size (.slice (some ⟨gl, 0, none⟩) K K) (lst K (ac f b x y)) ∧ Below w.heap.size w wq) (fun i _ => b - (intOf i).toNat)
          case atStart => exact ⟨0, Nat.zero_le _, Lib.hid (fun _ => rfl), rfl, HO.out, HL.out, HB.out⟩
          case round =>
            obtain ⟨y, hy, HV0, rfl, ho, hl, hbl⟩ := hrel
            have HO3 := Lib.hid ho
            have HL3 := Lib.hid hl
            have HB3 := Lib.hid hbl
            clear ho hl hbl
            by_cases hv0 : 0 < v
            · by_cases hly : y < b
              · have hyq : y * y ≤ Q := by rw [HQ.out, HCB.out]; exact Nat.mul_le_mul (by omega) (by omega)
                obtain ⟨u, hu⟩ : ∃ u, u = y * y := ⟨_, rfl⟩
                have hyu : (y : Int) * (y : Int) = (u : Int) := by rw [hu]; push_cast; rfl
                rw [← hu] at hyq
                have hxm : x ≤ m * Q := by
                  by_cases h : x ≤ m * Q
                  · exact h
                  · have := HFF.out x (by omega); rw [← HV.out] at this; omega
                obtain ⟨j, hj⟩ : ∃ j, j = x + u := ⟨_, rfl⟩
                have hji : (x : Int) + (u : Int) = (j : Int) := by omega
                have hxu : j < K := by have := HK.out; have := HMQ.out; omega
                have hgw := HL3.out.at.2.1
                have hcl := HL3.out.at.2.2.2.2.1 j (by rw [lst_len]; exact hxu)
                rw [lst_at] at hcl
                have hfl := HL3.out.at.2.2.2.2.2 j
                obtain ⟨z, hz⟩ : ∃ z, z = ac f b x y j := ⟨_, rfl⟩
                have hzb : z ≤ 10000000000000 := by have := ac_le HFB.out b x y j; rw [hz]; exact Nat.le_trans this (by have := Nat.mul_le_mul hb' (Nat.le_refl 1000000000000); omega)
                rw [← hz] at hcl
                obtain ⟨t, ht⟩ : ∃ t, t = z + v := ⟨_, rfl⟩
                have hzt : (z : Int) + (v : Int) = (t : Int) := by omega
                have htb : t ≤ 20000000000000 := by omega
                have HST := Lib.hid (show (lst K (ac f b x y)).set j (t : Int) = lst K (ac f b x (y + 1)) from by
                  refine lst_set hxu ?_ ?_
                  · rw [ac_step hly, ← hz, if_pos (by rw [hj, hu]), ← HV.out, ht]
                  · intro i _ hi
                    rw [ac_step hly, if_neg (by rw [← hu, ← hj]; exact hi)]; rfl)
                have H2 := Lib.hid (two_rows HO3.out HL3.out hne j (t : Int))
                have HB4 := Lib.hid (HB3.out.setCell (p := ⟨gl, j, none⟩) hgw (.int .i64 (t : Int)))
                rw [HST.out] at H2
                clear hz hu hgw HST hj ht hxm
                go_wp2
                go_roundw
                case rel => exact ⟨y + 1, by omega, Lib.hid (fun h => by omega), by go_num, H2.out.1, H2.out.2, HB4.out⟩
                case measure => simp [intOf]; omega
              · obtain rfl : y = b := by omega
                have HL4 := Lib.hid (show lst K (ac f y x y) = lst K (ac f y (x + 1) 0) from lst_congr fun s _ => ac_row f y x s)
                rw [HL4.out] at HL3
                go_wp2
                go_roundw
                case rel => exact ⟨x + 1, by omega, by go_num, HO3.out, HL3.out, HB3.out⟩
                case measure => simp [intOf]; omega
            · obtain rfl : v = 0 := by omega
              obtain rfl : y = 0 := HV0.out rfl
              have HL4 := Lib.hid (show lst K (ac f b x 0) = lst K (ac f b (x + 1) 0) from lst_congr fun s _ => ac_skip HV.out.symm b s)
              rw [HL4.out] at HL3
              go_wp2
              go_roundw
              case rel => exact ⟨x + 1, by omega, by go_num, HO3.out, HL3.out, HB3.out⟩
              case measure => simp [intOf]; omega
        · obtain rfl : x = K := by omega
          have HE := Lib.hid (show lst x (ac f b x 0) = lst x (sp b (m + 1)) from lst_congr fun s _ => by
            rw [ac_all (n := x) (fun z hz => HFF.out z (by have := HK.out; have := HMQ.out; omega)), HF.out]; rfl)
          rw [HE.out] at HL
          go_wp2
          go_roundw
          case rel => exact ⟨m + 1, _, by omega, by go_num, rfl, HL.out, HB.out⟩
          case measure => simp [intOf]; omega
    · obtain rfl : m = k := by omega
      go_wp2
      go_ret
      exact ⟨_, rfl, HR.out, HB.out⟩

end Go.Proofs.Ytjfcbelbpgmokaa
