/-
  The next palindrome: the program's question.
-/
import Derived.Test.YtjclbfjjakfjiaaZB
import Derived.Test.YtjclbfjjakfjiaaB
import Derived.Test.YtjclbfjjakfjiaaH2
namespace Go.Proofs.Ytjclbfjjakfjiaa
open Go.RowKit
set_option linter.unusedVariables false
set_option linter.unusedSimpArgs false

theorem next_some {b n : Int} (hb : 2 ≤ b) (h0 : 0 ≤ n) (hc : cmpL (mir (dgs b (n + 1))) (dgs b (n + 1)) < 0) :
    ∃ j, j ≤ ((mir (dgs b (n + 1))).length - 1) / 2 ∧ (mir (dgs b (n + 1))).getD j 0 ≠ b - 1 := by
  have hla := dgs_all b (n + 1) hb (by omega)
  have hp := dgs_pos b (n + 1)
  obtain ⟨A, C, h⟩ := halves b (n + 1) hb (by omega)
  have hA := h.alen
  have hC := h.clen
  have hM0 : mir (dgs b (n + 1)) = A ++ (A.take C.length).reverse := by rw [h.eq, mir_app A C (by omega) (by omega)]
  rcases all_or b A with hall | hs
  · refine absurd hc (top_ge b _ _ (mir_len _) (fun x hx => ?_) (fun y hy => (hla y hy).2))
    rw [hM0] at hx
    rcases List.mem_append.1 hx with hx | hx
    · exact hall x hx
    · exact hall x (List.mem_of_mem_take (List.mem_reverse.1 hx))
  · obtain ⟨x, hx, hn⟩ := hs
    obtain ⟨j, hj, hjx⟩ := List.getElem_of_mem hx
    refine ⟨j, by rw [mir_len]; omega, ?_⟩
    rw [hM0, List.getD, List.getElem?_append_left hj, List.getElem?_eq_getElem hj, hjx]
    exact hn

theorem raiseAt_len (b : Int) : ∀ (i : Nat) (xs : List Int), (raiseAt b i xs).length = xs.length := by
  intro i
  induction i with
  | zero => intro xs; simp [raiseAt]
  | succ i ih =>
    intro xs
    rw [raiseAt]
    split
    · rw [ih]; simp
    · simp

theorem raiseAt_all (b : Int) (hb : 2 ≤ b) : ∀ (i : Nat) (xs : List Int), (∀ x ∈ xs, 0 ≤ x ∧ x ≤ b - 1) → ∀ x ∈ raiseAt b i xs, 0 ≤ x ∧ x ≤ b := by
  intro i
  induction i with
  | zero =>
    intro xs h x hx
    rw [raiseAt] at hx
    rcases List.mem_or_eq_of_mem_set hx with hx | rfl
    · have := h x hx; omega
    · cases xs with
      | nil => simp; omega
      | cons y ys => have := h y (by simp); simp; omega
  | succ i ih =>
    intro xs h x hx
    rw [raiseAt] at hx
    split at hx
    · refine ih _ (fun y hy => ?_) x hx
      rcases List.mem_or_eq_of_mem_set hy with hy | rfl
      · exact h y hy
      · omega
    · rcases List.mem_or_eq_of_mem_set hx with hx | rfl
      · have := h x hx; omega
      · by_cases hl : i + 1 < xs.length
        · have := h _ (getD_mem xs (i + 1) hl); omega
        · rw [List.getD, List.getElem?_eq_none (by omega)]; simp; omega

theorem nextPalindrome_any (n b : Int) (w : World) (h0 : 0 ≤ n) (h1 : n ≤ 1000000000000) (hb : 2 ≤ b) (hb' : b ≤ 16) :
    Calls Try.prog 16 #[.int .i64 b, .int .i64 n] w fun e w' => e = .returned (optRes (RNextPalindrome b n)) ∧ Below w.heap.size w w' := by
  obtain ⟨L, hL⟩ : ∃ L, L = dgs b (n + 1) := ⟨_, rfl⟩
  obtain ⟨M, hM⟩ : ∃ M, M = mir L := ⟨_, rfl⟩
  have hlen : L.length ≤ 40 := by rw [hL, dgs_len]; exact revD_len41 b (n + 1) hb (by omega) (by omega)
  have hpos : 1 ≤ L.length := by rw [hL]; exact dgs_pos b (n + 1)
  have hml : M.length = L.length := by rw [hM, mir_len]
  have HA := Lib.hid (show ∀ x ∈ M, 0 ≤ x ∧ x ≤ b - 1 from fun x hx => dgs_all b (n + 1) hb (by omega) x (by rw [← hL]; exact mir_mem (by rw [← hM]; exact hx)))
  have HN := Lib.hid (show cmpL M L < 0 → ∃ j, j ≤ (M.length - 1) / 2 ∧ M.getD j 0 ≠ b - 1 from fun hc => by rw [hM, hL] at hc ⊢; exact next_some hb h0 hc)
  have HL := Lib.hid hL
  have HM := Lib.hid hM
  have HML := Lib.hid hml
  have HR0 := Lib.hid (show RNextPalindrome b n = if cmpL M L < 0 then numF b (mir (raiseAt b ((M.length - 1) / 2) M)) 0 else numF b M 0 by rw [hM, hL]; rfl)
  have h01 : 0 ≤ n + 1 := by omega
  clear hL hM hml
  go_enter Try.func16, Try.ntmps16
  go_wp2_with fail
  refine (digits_any _ _ _ h01 (by omega) hb hb').mono ?_
  rintro e w1 ⟨g, cap, rfl, hr, hbl⟩
  rw [← HL.out] at hr
  rw [← HL.out]
  have HB := Lib.hid hbl
  have HR := Lib.hid hr
  clear hbl hr
  go_wp2_with fail
  refine (mirrored_any _ _ _ _ _ _ HR.out hpos (by omega)).mono ?_
  rintro e w2 ⟨g2, cap2, rfl, hr, hbl⟩
  rw [← HM.out] at hr
  have HR1 := Lib.hid (HR.out.keep hbl)
  have HR2 := Lib.hid hr
  have HB2 := Lib.hid (Below.step HB.out HB.out.size hbl)
  clear hbl hr
  go_wp2_with fail
  refine (compare_any _ _ M L _ HR2.out.sl HR1.out.sl (by rw [HML.out]; omega) HML.out).mono ?_
  rintro e w3 ⟨rfl, hbl⟩
  have HR3 := Lib.hid (HR2.out.keep hbl)
  have HB3 := Lib.hid (Below.step HB2.out HB2.out.size hbl)
  clear hbl
  by_cases hc : cmpL M L < 0
  · have HN2 := Lib.hid (HN.out hc)
    have HR0' := Lib.hid (show RNextPalindrome b n = numF b (mir (raiseAt b ((M.length - 1) / 2) M)) 0 by rw [HR0.out, if_pos hc])
    go_wp2_with fail
    refine (raiseFront_any _ _ _ _ M _ _ HR3.out (by rw [HML.out]; exact hpos) (by rw [HML.out]; omega) hb hb' HA.out HN2.out).mono ?_
    rintro e w4 ⟨rfl, hr, hg⟩
    have HR4 := Lib.hid hr
    have hg2 := HR2.out.at.2.1
    have HB4 := Lib.hid (HB3.out.trans (grown_below hg (by have := HB3.out.size; omega) (by have := HB.out.size; omega)))
    clear hr hg
    obtain ⟨K, hK⟩ : ∃ K, K = raiseAt b ((M.length - 1) / 2) M := ⟨_, rfl⟩
    have hKl : K.length = L.length := by rw [hK, raiseAt_len, HML.out]
    have HKA := Lib.hid (show ∀ x ∈ mir K, 0 ≤ x ∧ x ≤ b from fun x hx => raiseAt_all b hb _ M HA.out x (by rw [← hK]; exact mir_mem hx))
    rw [← hK] at HR4 HR0'
    have HKL := Lib.hid hKl
    clear hK hKl
    go_wp2_with fail
    refine (mirrored_any _ _ _ _ _ _ HR4.out (by rw [HKL.out]; exact hpos) (by rw [HKL.out]; omega)).mono ?_
    rintro e w5 ⟨g5, cap5, rfl, hr, hbl⟩
    have HR5 := Lib.hid hr
    have HB5 := Lib.hid (Below.step HB4.out HB4.out.size hbl)
    clear hbl hr
    go_wp2_with fail
    refine (number_any _ _ _ _ _ HR5.out (fun x hx => by have := HKA.out x hx; omega) hb hb' (by rw [mir_len, HKL.out]; omega)).mono ?_
    rintro e w6 ⟨rfl, rfl⟩
    rw [← HR0'.out]
    go_wp2
    go_ret2
    exact ⟨rfl, HB5.out⟩
  · have HR0' := Lib.hid (show RNextPalindrome b n = numF b M 0 by rw [HR0.out, if_neg hc])
    go_wp2_with fail
    refine (number_any _ _ _ _ _ HR3.out (fun x hx => by have := HA.out x hx; omega) hb hb' (by rw [HML.out]; omega)).mono ?_
    rintro e w6 ⟨rfl, rfl⟩
    rw [← HR0'.out]
    go_wp2
    go_ret2
    exact ⟨rfl, HB3.out⟩

end Go.Proofs.Ytjclbfjjakfjiaa
