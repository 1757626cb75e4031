/-
  How many numbers have each sum of squares: the program's and the model's lists.
-/
import Derived.Test.YtjfcbelbpgmokaaUN
namespace Go.Proofs.Ytjfcbelbpgmokaa
open Go.RowKit
set_option linter.unusedVariables false
set_option linter.unusedSimpArgs false
set_option maxRecDepth 100000

theorem two_rows {w : World} {B g h n m c e : Nat} {xs ys : List Int} (hx : Rd w B (.slice (some ⟨g, 0, none⟩) n c) xs) (hy : Rd w B (.slice (some ⟨h, 0, none⟩) m e) ys) (hne : g ≠ h) (j : Nat) (v : Int) :
    Rd (w.setCell ⟨h, j, none⟩ (.int .i64 v)) B (.slice (some ⟨g, 0, none⟩) n c) xs ∧ Rd (w.setCell ⟨h, j, none⟩ (.int .i64 v)) B (.slice (some ⟨h, 0, none⟩) m e) (ys.set j v) := by
  have h1 := hy.set j v
  refine ⟨hx.grown h1.2 (.inr ?_), h1.1⟩
  intro e
  simp [Value.ownBlock] at e
  exact hne e

theorem spreadP_any (g c b k : Nat) (w : World) (hT : Tp w g b 2) (hb : 2 ≤ b) (hb' : b ≤ 10) (hk : k ≤ 12) :
    Calls Try.prog 26 #[.slice (some ⟨g, 0, none⟩) b c, .int .i64 (k : Int)] w fun e w' => ∃ u, e = .returned u ∧ Rd w' w.heap.size u (lst (k * ((b - 1) * (b - 1)) + 1) (sp b k)) ∧ Below w.heap.size w w' := by
  have HT := Lib.hid hT
  have hb1 : (b : Int) - 1 = ((b - 1 : Nat) : Int) := by omega
  obtain ⟨Q, hQ⟩ : ∃ Q, Q = (b - 1) * (b - 1) := ⟨_, rfl⟩
  have HQ := Lib.hid hQ
  have hQ2 : (b - 1) ^ 2 = Q := by rw [Nat.pow_two, hQ]
  have HQ2 := Lib.hid hQ2
  have hQb : Q ≤ 81 := by rw [hQ]; exact Nat.mul_le_mul (show b - 1 ≤ 9 by omega) (show b - 1 ≤ 9 by omega)
  have HSB := Lib.hid (fun (i : Nat) (hi : i ≤ 12) (s : Nat) => sp_bd hb hb' hi s)
  have HSF := Lib.hid (sp_far b)
  rw [← hQ] at HSF ⊢
  clear hT hQ hQ2
  go_enter Try.func26, Try.ntmps26
  go_wp2
  go_loopw [5, 13] (fun o i wr => ∃ (m : Nat) (u : Value), m ≤ k ∧ i = .int .i64 (m : Int) ∧ u = o ∧ Rd wr w.heap.size u (lst (m * Q + 1) (sp b m)) ∧ Below w.heap.size w wr) (fun _ i _ => k - (intOf i).toNat)
  case atStart => exact ⟨0, _, Nat.zero_le _, rfl, rfl, by rw [Nat.zero_mul]; exact Rd.lit _ _, alloc_below _ _⟩
  case round =>
    obtain ⟨m, u, hm, rfl, rfl, hr, hbl⟩ := hrel
    obtain ⟨N, hN⟩ : ∃ N, N = m * Q + 1 := ⟨_, rfl⟩
    have hN9 : N ≤ 973 := by have := Nat.mul_le_mul (show m ≤ 12 by omega) hQb; omega
    rw [← hN] at hr
    obtain ⟨gu, cu, rfl⟩ : ∃ gu cu, u = .slice (some ⟨gu, 0, none⟩) N cu := by
      rcases hr.cases with ⟨_, hx⟩ | ⟨gu, cu, hu, _⟩
      · have := congrArg List.length hx; rw [lst_len] at this; simp at this; omega
      · rw [lst_len] at hu; exact ⟨gu, cu, hu⟩
    have HR := Lib.hid hr
    have HB := Lib.hid hbl
    have hgu := hr.at.2.2.1
    have HN := Lib.hid hN
    have hsz := hbl.size
    clear hr hbl hN
    by_cases hlt : m < k
    · obtain ⟨f, hf⟩ : ∃ f, f = sp b m := ⟨_, rfl⟩
      have HF := Lib.hid hf
      have HFB := Lib.hid (show ∀ s, f s ≤ 1000000000000 by rw [hf]; exact HSB.out m (by omega))
      have HFF := Lib.hid (show ∀ z, N ≤ z → f z = 0 by rw [hf]; intro z hz; exact HSF.out m z (by rw [HN.out] at hz; omega))
      rw [← hf] at HR
      clear hf
      have HTr := Lib.hid (HT.out.keepB HB.out HT.out.lt hsz)
      have hcq := HTr.out.cell (b - 1) (by omega)
      rw [HQ2.out] at hcq
      obtain ⟨K, hK⟩ : ∃ K, K = N + Q := ⟨_, rfl⟩
      have hKI : (N : Int) + (Q : Int) = (K : Int) := by omega
      have hKb : K ≤ 2000 := by omega
      have HK := Lib.hid hK
      clear hK
      go_wp2_with (at_make; refine wpList_mkR rfl _ _ rfl .i64 .i64 _ _ K rfl rfl (by omega) (by omega) (by omega) ?_; intro w1 hr1 hg1 hb1)
      obtain ⟨gl, hgl⟩ : ∃ gl, gl = wr.heap.size := ⟨_, rfl⟩
      rw [← hgl] at hr1
      have hne : gu ≠ gl := by omega
      have HL1 := Lib.hid (show Rd w1 w.heap.size (.slice (some ⟨gl, 0, none⟩) K K) (lst K (ac f b 0 0)) by
        have e : lst K (ac f b 0 0) = List.replicate K 0 := by rw [lst_rep]; exact lst_congr fun x _ => ac_zero f b x
        rw [e]; exact hr1.mono (by omega))
      have HO1 := Lib.hid (HR.out.keep hb1)
      have HB1 := Lib.hid (Below.step HB.out hsz hb1)
      rw [← hgl]
      clear hr1 hg1 hb1 HTr hcq
      clear hgu hsz HB HR hKI hgl
      go_wp2
      go_loopw [27] (fun i wq => ∃ x : Nat, x ≤ N ∧ i = .int .i64 (x : Int) ∧ Rd wq w.heap.size (.slice (some ⟨gu, 0, none⟩) N cu) (lst N f) ∧ Rd wq w.heap.size (.slice (some ⟨gl, 0, none⟩) K K) (lst K (ac f b x 0)) ∧ Below w.heap.size w wq) (fun i _ => N - (intOf i).toNat)
      case atStart => exact ⟨0, Nat.zero_le _, rfl, HO1.out, HL1.out, HB1.out⟩
      case round =>
        obtain ⟨x, hx, rfl, ho, hl, hbl⟩ := hrel
        have HO := Lib.hid ho
        have HL := Lib.hid hl
        have HB := Lib.hid hbl
        clear ho hl hbl
        by_cases hlx : x < N
        · have hcx := HO.out.at.2.2.2.2.1 x (by rw [lst_len]; exact hlx)
          rw [lst_at] at hcx
          obtain ⟨v, hv⟩ : ∃ v, v = f x := ⟨_, rfl⟩
          have hvb : v ≤ 1000000000000 := by rw [hv]; exact HFB.out x
          have HV := Lib.hid hv
          rw [← hv] at hcx
          clear hv
          go_wp2
          go_loopw [34] (fun i wq => ∃ y : Nat, y ≤ b ∧ i = .int .i64 (y : Int) ∧ Rd wq w.heap.size (.slice (some ⟨gu, 0, none⟩) N cu) (lst N f) ∧ Rd wq w.heap.size (.slice (some ⟨gl, 0, none⟩) K K) (lst K (ac f b x y)) ∧ Below w.heap.size w wq) (fun i _ => b - (intOf i).toNat)
          case atStart => exact ⟨0, Nat.zero_le _, rfl, HO.out, HL.out, HB.out⟩
          case round =>
            obtain ⟨y, hy, rfl, ho, hl, hbl⟩ := hrel
            have HO3 := Lib.hid ho
            have HL3 := Lib.hid hl
            have HB3 := Lib.hid hbl
            have hsz3 := hbl.size
            clear ho hl hbl
            by_cases hly : y < b
            · have hyq : y * y ≤ Q := by rw [HQ.out]; exact Nat.mul_le_mul (by omega) (by omega)
              have hct := (HT.out.keepB HB3.out HT.out.lt hsz3).cell y hly
              rw [Nat.pow_two] at hct
              obtain ⟨u, hu⟩ : ∃ u, u = y * y := ⟨_, rfl⟩
              rw [← hu] at hct hyq
              obtain ⟨j, hj⟩ : ∃ j, j = x + u := ⟨_, rfl⟩
              have hji : (x : Int) + (u : Int) = (j : Int) := by omega
              have hxu : j < K := by have := HK.out; omega
              have hgw := HL3.out.at.2.1
              have hcl := HL3.out.at.2.2.2.2.1 j (by rw [lst_len]; exact hxu)
              rw [lst_at] at hcl
              have hfl := HL3.out.at.2.2.2.2.2 j
              obtain ⟨z, hz⟩ : ∃ z, z = ac f b x y j := ⟨_, rfl⟩
              have hzb : z ≤ 10000000000000 := by have := ac_le HFB.out b x y j; rw [hz]; exact Nat.le_trans this (by have := Nat.mul_le_mul hb' (Nat.le_refl 1000000000000); omega)
              rw [← hz] at hcl
              obtain ⟨t, ht⟩ : ∃ t, t = z + v := ⟨_, rfl⟩
              have hzt : (z : Int) + (v : Int) = (t : Int) := by omega
              have htb : t ≤ 20000000000000 := by omega
              have HST := Lib.hid (show (lst K (ac f b x y)).set j (t : Int) = lst K (ac f b x (y + 1)) from by
                refine lst_set hxu ?_ ?_
                · rw [ac_step hly, ← hz, if_pos (by rw [hj, hu]), ← HV.out, ht]
                · intro i _ hi
                  rw [ac_step hly, if_neg (by rw [← hu, ← hj]; exact hi)]; rfl)
              have H2 := Lib.hid (two_rows HO3.out HL3.out hne j (t : Int))
              have HB4 := Lib.hid (HB3.out.setCell (p := ⟨gl, j, none⟩) hgw (.int .i64 (t : Int)))
              rw [HST.out] at H2
              clear hz hu hgw HST hj ht
              go_wp2
              go_roundw
              case rel => exact ⟨y + 1, by omega, by go_num, H2.out.1, H2.out.2, HB4.out⟩
              case measure => simp [intOf]; omega
            · obtain rfl : y = b := by omega
              have HL4 := Lib.hid (show lst K (ac f y x y) = lst K (ac f y (x + 1) 0) from lst_congr fun s _ => ac_row f y x s)
              rw [HL4.out] at HL3
              go_wp2
              go_roundw
              case rel => exact ⟨x + 1, by omega, by go_num, HO3.out, HL3.out, HB3.out⟩
              case measure => simp [intOf]; omega
        · obtain rfl : x = N := by omega
          have HE := Lib.hid (show lst K (ac f b x 0) = lst ((m + 1) * Q + 1) (sp b (m + 1)) from by
            have e : K = (m + 1) * Q + 1 := by rw [HK.out, HN.out, Nat.succ_mul]; omega
            rw [e]
            refine lst_congr fun s _ => ?_
            rw [ac_all HFF.out, HF.out]; rfl)
          rw [HE.out] at HL
          go_wp2
          go_roundw
          case rel => exact ⟨m + 1, _, by omega, by go_num, rfl, HL.out, HB.out⟩
          case measure => simp [intOf]; omega
    · obtain rfl : m = k := by omega
      have HE := Lib.hid (show Rd wr w.heap.size (.slice (some ⟨gu, 0, none⟩) N cu) (lst (m * Q + 1) (sp b m)) by rw [← HN.out]; exact HR.out)
      go_wp2
      go_ret
      exact ⟨_, rfl, HE.out, HB.out⟩

end Go.Proofs.Ytjfcbelbpgmokaa
