/-
  The next palindrome: the model's answer.
-/
import Derived.Test.YtjclbfjjakfjiaaZC
import Derived.Test.YtjclbfjjakfjiaaK
namespace Go.Proofs.Ytjclbfjjakfjiaa
open Go.RowKit
set_option linter.unusedVariables false
set_option linter.unusedSimpArgs false

theorem fst_small (b n : Int) (hb : 2 ≤ b) (hb' : b ≤ 16) (h0 : 0 ≤ n) (h1 : n ≤ 1000000000000) : 0 ≤ fstH b n ∧ fstH b n + 1 ≤ 1000000000000 := by
  obtain ⟨A, C, h⟩ := halves b n hb h0
  refine ⟨h.pos, ?_⟩
  unfold fstH
  cases hc : (dgs b n).length / 2 with
  | zero =>
    have hp := dgs_pos b n
    have hl := dgs_len b n
    have : n < b := by
      by_cases hbn : b ≤ n
      · rw [revD_big b n hb hbn] at hl
        have h3 := dgs_pos b (n / b)
        rw [dgs_len] at h3
        rw [List.length_cons] at hl
        omega
      · omega
    simp
    omega
  | succ k =>
    have hq : n / b ^ (k + 1) = n / b ^ k / b := by
      rw [Int.pow_succ, Int.ediv_ediv_of_nonneg (Int.pow_nonneg (by omega))]
    have h2 : 0 ≤ n / b ^ k := Int.ediv_nonneg h0 (Int.pow_nonneg (by omega))
    have h3 : n / b ^ k ≤ n := Int.ediv_le_self _ h0
    have h4 := div_half b (n / b ^ k) hb h2
    rw [hq]
    omega

theorem fst_num (b n : Int) (hb : 2 ≤ b) (hb' : b ≤ 16) (h0 : 0 ≤ n) (h1 : n ≤ 1000000000000) : numF b ((dgs b n).take (((dgs b n).length + 1) / 2)) 0 = some (fstH b n) := by
  have hs := fst_small b n hb hb' h0 h1
  rw [numF_val b hb _ 0 (fun x hx => (dgs_all b n hb h0 x (List.mem_of_mem_take hx)).1) (by omega) (by omega), fst_val b n hb h0, if_pos (by omega)]

theorem spec_next_in (n b : Int) (w : World) (h0 : 0 ≤ n) (h1 : n ≤ 1000000000000) (hb : 2 ≤ b) (hb' : b ≤ 16) (hq : Num n ∧ Bas b) :
    Calls Try.prog 7 #[.int .i64 n, .int .i64 b] w fun e w' => e = .returned (optRes (RNextPalindrome b n)) ∧ Below w.heap.size w w' := by
  have a1 : decide (Num n ∧ Bas b) = true := decide_eq_true hq
  obtain ⟨D, hD⟩ : ∃ D, D = dgs b n := ⟨_, rfl⟩
  obtain ⟨f, hf⟩ : ∃ f, f = fstH b n := ⟨_, rfl⟩
  obtain ⟨N, hN⟩ : ∃ N, N = dgs b (f + 1) := ⟨_, rfl⟩
  have hlen : D.length ≤ 40 := by rw [hD]; exact dgs_len40 b n hb h0 h1
  have hpos : 1 ≤ D.length := by rw [hD]; exact dgs_pos b n
  obtain ⟨f0, f1⟩ : 0 ≤ f ∧ f + 1 ≤ 1000000000000 := by rw [hf]; exact fst_small b n hb hb' h0 h1
  have hnl : N.length ≤ 40 := by rw [hN]; exact dgs_len40 b (f + 1) hb (by omega) f1
  have hnp : 1 ≤ N.length := by rw [hN]; exact dgs_pos b (f + 1)
  have HDA := Lib.hid (show ∀ x ∈ D, 0 ≤ x ∧ x ≤ b - 1 by rw [hD]; exact dgs_all b n hb h0)
  have HNA := Lib.hid (show ∀ x ∈ N, 0 ≤ x ∧ x ≤ b - 1 by rw [hN]; exact dgs_all b (f + 1) hb (by omega))
  have HFN := Lib.hid (show numF b (D.take ((D.length + 1) / 2)) 0 = some f by rw [hD, hf]; exact fst_num b n hb hb' h0 h1)
  have HA := Lib.hid (show ∀ m, numF b (mir D) 0 = some m → n < m → RNextPalindrome b n = some m by rw [hD]; exact fun m => next_a b n m hb h0)
  have HO := Lib.hid (show (∀ m, numF b (mir D) 0 = some m → m ≤ n) → RNextPalindrome b n = if (D.length + 1) / 2 < N.length then numF b (ends D.length) 0 else numF b (mir (N ++ D.drop ((D.length + 1) / 2))) 0 by rw [hN, hD, hf]; exact fun h => next_o b n hb h0 (fun m e => Int.not_lt.2 (h m e)))
  have HD := Lib.hid hD
  have HN := Lib.hid hN
  clear hD hN hf hq
  go_enter Try.func7, Try.ntmps7
  go_wp2_with fail
  refine (dgAsked_any _ _ _).mono ?_
  rintro e w0 ⟨rfl, rfl⟩
  go_wp2_with fail
  refine (dgOf_s _ _ _ h0 h1 hb hb').mono ?_
  rintro e w1 ⟨g, cap, rfl, hr, hbl⟩
  rw [← HD.out] at hr
  rw [← HD.out]
  have HB1 := Lib.hid hbl
  have HR1 := Lib.hid hr
  clear hbl hr
  go_wp2_with fail
  refine (dgMirrored_any _ D _ _ HR1.out hpos (by omega)).mono ?_
  rintro e w2 ⟨g2, cap2, rfl, hr, hbl⟩
  have HM2 := Lib.hid hr
  have HR2 := Lib.hid (HR1.out.keep hbl)
  have HB2 := Lib.hid (Below.step HB1.out HB1.out.size hbl)
  clear hbl hr
  go_wp2_with fail
  refine (dgFrom_any _ _ _ _ _ HM2.out (fun x hx => by have := HDA.out x (mir_mem hx); omega) hb hb' (by rw [mir_len]; omega)).mono ?_
  rintro e w3 ⟨rfl, rfl⟩
  obtain ⟨X, hX⟩ : ∃ X, X = numF b (mir D) 0 := ⟨_, rfl⟩
  have HX := Lib.hid hX
  rw [← HX.out]
  clear hX
  have hcap := HR2.out.at.2.2.2.1
  by_cases hgood : ∃ m, X = some m ∧ n < m
  · obtain ⟨m, rfl, hm⟩ := hgood
    have HF := Lib.hid (HA.out m HX.out.symm hm)
    have hm' : ¬ m ≤ n := by omega
    go_wp2
    go_ret2
    exact ⟨by rw [HF.out]; rfl, HB2.out⟩
  · have hall : ∀ m, X = some m → m ≤ n := fun m e => Int.not_lt.1 (fun hm => hgood ⟨m, e, hm⟩)
    have HF := Lib.hid (HO.out (fun m e => hall m (HX.out.trans e)))
    clear hgood HX HO HA
    have hhalf : (D.length + 1) / 2 ≤ D.length := by omega
    have HT := Lib.hid (HR2.out.take ((D.length + 1) / 2) hhalf)
    have HTA := Lib.hid (show ∀ x ∈ D.take ((D.length + 1) / 2), 0 ≤ x ∧ x ≤ b - 1 from fun x hx => HDA.out x (List.mem_of_mem_take hx))
    have HTL := Lib.hid (show (D.take ((D.length + 1) / 2)).length ≤ 1000000 by rw [List.length_take]; omega)
    have hf0 : 0 ≤ f + 1 := by omega
    have hsz2 := HB2.out.size
    cases X
    case' some m =>
      have hm : m ≤ n := hall m rfl
    all_goals
      clear hall
      go_wp2_with fail
      refine (dgFrom_any _ _ _ _ _ HT.out (fun x hx => by have := HTA.out x hx; omega) hb hb' HTL.out).mono ?_
      rintro e w3 ⟨rfl, rfl⟩
      rw [HFN.out]
      go_wp2_with fail
      refine (dgOf_s _ _ _ hf0 f1 hb hb').mono ?_
      rintro e w4 ⟨g4, cap4, rfl, hr, hbl⟩
      rw [← HN.out] at hr
      rw [← HN.out]
      have HR4 := Lib.hid (HR2.out.keep hbl)
      have HN4 := Lib.hid hr
      have HB4 := Lib.hid (Below.step HB2.out HB2.out.size hbl)
      have Z4 := HB4.out.size
      have Z42 := hbl.size
      have AP := Lib.hid (Rd.apart (u := .slice (some ⟨g, 0, none⟩) D.length cap) (fun k hk => (HR2.out.lt k hk).2) hr)
      clear hbl hr
      by_cases hlong : (D.length + 1) / 2 < N.length
      · have HF2 := Lib.hid (show RNextPalindrome b n = numF b (ends D.length) 0 by rw [HF.out, if_pos hlong])
        go_wp2_with (at_make; refine wpList_mkR rfl _ _ rfl .i64 .i64 _ _ (D.length + 1) rfl rfl (by omega) (by omega) (by omega) ?_; intro w5 hr5 hg5 hb5; (obtain ⟨q0, c0⟩ : ∃ q, w5.cell? ⟨w4.heap.size, 0, none⟩ = some (.int .i64 q) := ⟨_, hr5.at.2.2.2.2.1 0 (by simp)⟩); (obtain ⟨q1, c1⟩ : ∃ q, w5.cell? ⟨w4.heap.size, D.length, none⟩ = some (.int .i64 q) := ⟨_, hr5.at.2.2.2.2.1 D.length (by simp)⟩); have fz0 := hr5.at.2.2.2.2.2 0; have fz1 := hr5.at.2.2.2.2.2 D.length; have R5 := Lib.hid hr5; have B5 := Lib.hid (Below.step HB4.out Z4 hb5); clear hr5 hg5 hb5)
        have h2 := R5.out.set 0 1
        have h3 := h2.1.set D.length 1
        have R6 := Lib.hid h3.1
        have B6 := Lib.hid (B5.out.trans (grown_below (grown_trans h2.2 h3.2) B5.out.size (by omega)))
        have hel : (ends D.length).length = D.length + 1 := by unfold ends; simp
        have hea : ∀ x ∈ ends D.length, x = 0 ∨ x = 1 := by
          obtain ⟨k, hk⟩ : ∃ k, D.length = k + 1 := ⟨D.length - 1, by omega⟩
          rw [hk]
          exact ends_all k
        have HEA := Lib.hid hea
        clear h2 h3 hea
        refine (dgFrom_any _ (ends D.length) _ _ _ R6.out (fun x hx => by have := HEA.out x hx; omega) hb hb' (by omega)).mono ?_
        rintro e w7 ⟨rfl, rfl⟩
        clear hel
        rw [← HF2.out]
        go_wp2
        go_ret2
        exact ⟨rfl, B6.out⟩
      · have HF2 := Lib.hid (show RNextPalindrome b n = numF b (mir (N ++ D.drop ((D.length + 1) / 2))) 0 by rw [HF.out, if_neg hlong])
        by_cases hcl : (D.length + 1) / 2 < cap
        rotate_left
        · obtain rfl : cap = (D.length + 1) / 2 := by omega
          go_wp2_with (at_builtin; refine wpList_appS rfl (.tmp 69) (.tmp 72) rfl _ _ _ N (D.drop ((D.length + 1) / 2)) rfl rfl HN4.out (src_drop HR4.out ((D.length + 1) / 2) _ _ _ hhalf (fun h => by first | rfl | omega) (by omega)) (by simp; omega) Z42 ?_; intro v5 w5 hr5 hg5 hb5; have R5 := Lib.hid hr5; have B5 := Lib.hid (HB4.out.trans (hb5.mono hsz2)); clear hr5 hg5 hb5)
          obtain ⟨K, hK⟩ : ∃ K, K = N ++ D.drop ((D.length + 1) / 2) := ⟨_, rfl⟩
          have hKl : 1 ≤ K.length ∧ K.length ≤ 1000 := by rw [hK, List.length_append, List.length_drop]; omega
          have HKA := Lib.hid (show ∀ x ∈ K, 0 ≤ x ∧ x ≤ b - 1 from fun x hx => by
            rw [hK] at hx
            rcases List.mem_append.1 hx with hx | hx
            · exact HNA.out x hx
            · exact HDA.out x (List.mem_of_mem_drop hx))
          rw [← hK] at R5 HF2
          obtain ⟨k1, k2⟩ := hKl
          clear hK
          refine (dgMirrored_any _ K _ _ R5.out k1 (by omega)).mono ?_
          rintro e w6 ⟨g6, cap6, rfl, hr, hbl⟩
          have R6 := Lib.hid hr
          have B6 := Lib.hid (Below.step B5.out B5.out.size hbl)
          clear hr hbl
          go_wp2_with fail
          refine (dgFrom_any _ _ _ _ _ R6.out (fun x hx => by have := HKA.out x (mir_mem hx); omega) hb hb' (by rw [mir_len]; omega)).mono ?_
          rintro e w7 ⟨rfl, rfl⟩
          rw [← HF2.out]
          go_wp2
          go_ret2
          exact ⟨rfl, B6.out⟩
        · go_wp2_with (at_builtin; refine wpList_appS rfl (.tmp 69) (.tmp 72) rfl _ _ _ N (D.drop ((D.length + 1) / 2)) rfl rfl HN4.out (src_drop HR4.out ((D.length + 1) / 2) _ _ _ hhalf (fun h => by first | rfl | omega) (by omega)) (by simp; omega) Z42 ?_; intro v5 w5 hr5 hg5 hb5; have R5 := Lib.hid hr5; have B5 := Lib.hid (HB4.out.trans (hb5.mono hsz2)); clear hr5 hg5 hb5)
          obtain ⟨K, hK⟩ : ∃ K, K = N ++ D.drop ((D.length + 1) / 2) := ⟨_, rfl⟩
          have hKl : 1 ≤ K.length ∧ K.length ≤ 1000 := by rw [hK, List.length_append, List.length_drop]; omega
          have HKA := Lib.hid (show ∀ x ∈ K, 0 ≤ x ∧ x ≤ b - 1 from fun x hx => by
            rw [hK] at hx
            rcases List.mem_append.1 hx with hx | hx
            · exact HNA.out x hx
            · exact HDA.out x (List.mem_of_mem_drop hx))
          rw [← hK] at R5 HF2
          obtain ⟨k1, k2⟩ := hKl
          clear hK
          refine (dgMirrored_any _ K _ _ R5.out k1 (by omega)).mono ?_
          rintro e w6 ⟨g6, cap6, rfl, hr, hbl⟩
          have R6 := Lib.hid hr
          have B6 := Lib.hid (Below.step B5.out B5.out.size hbl)
          clear hr hbl
          go_wp2_with fail
          refine (dgFrom_any _ _ _ _ _ R6.out (fun x hx => by have := HKA.out x (mir_mem hx); omega) hb hb' (by rw [mir_len]; omega)).mono ?_
          rintro e w7 ⟨rfl, rfl⟩
          rw [← HF2.out]
          go_wp2
          go_ret2
          exact ⟨rfl, B6.out⟩

end Go.Proofs.Ytjclbfjjakfjiaa
