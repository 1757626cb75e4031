/-
  The next palindrome: the program's way and the model's way are one.
-/
import Derived.Test.YtjclbfjjakfjiaaZA
namespace Go.Proofs.Ytjclbfjjakfjiaa
set_option linter.unusedVariables false
set_option linter.unusedSimpArgs false

theorem mir_mem {xs : List Int} {x : Int} (h : x ∈ mir xs) : x ∈ xs := by
  unfold mir at h
  rcases List.mem_append.1 h with h | h
  · exact List.mem_of_mem_take h
  · exact List.mem_of_mem_take (List.mem_reverse.1 h)

theorem mir_one (k : Nat) : mir (1 :: List.replicate (k + 1) (0 : Int)) = 1 :: (List.replicate k 0 ++ [1]) := by
  obtain ⟨p, q, hp, hq, hk⟩ : ∃ p q, (k + 2) / 2 = p + 1 ∧ k + 2 - (p + 1) = q + 1 ∧ q + p = k := ⟨(k + 2) / 2 - 1, k - ((k + 2) / 2 - 1), by omega, by omega, by omega⟩
  have e : (1 :: List.replicate (k + 1) (0 : Int)).length = k + 2 := by simp
  unfold mir
  rw [e, hp, hq, List.take_succ_cons, List.take_succ_cons, List.take_replicate, List.take_replicate, Nat.min_eq_left (by omega), Nat.min_eq_left (by omega), List.reverse_cons, List.reverse_replicate, List.cons_append, ← List.append_assoc, List.replicate_append_replicate, hk]

theorem ends_all (k : Nat) : ∀ x ∈ ends (k + 1), x = 0 ∨ x = 1 := by
  intro x hx
  rw [ends_eq] at hx
  simp at hx
  omega

theorem numF_over (b : Int) (hb : 2 ≤ b) (xs : List Int) (h : ∀ x ∈ xs, 0 ≤ x ∧ x ≤ b - 1) (hv : 1000000000000 < val b xs 0) : numF b xs 0 = none := by
  rw [numF_val b hb xs 0 (fun x hx => (h x hx).1) (by omega) (by omega), if_neg (by omega)]

theorem next_main (b n : Int) (hb : 2 ≤ b) (h0 : 0 ≤ n) :
    RNextPalindrome b n = if val b (mir (dgs b n)) 0 ≤ 1000000000000 ∧ n < val b (mir (dgs b n)) 0 then some (val b (mir (dgs b n)) 0)
      else if ((dgs b n).length + 1) / 2 < (dgs b (fstH b n + 1)).length then numF b (ends (dgs b n).length) 0
      else numF b (mir (dgs b (fstH b n + 1) ++ (dgs b n).drop (((dgs b n).length + 1) / 2))) 0 := by
  obtain ⟨A, C, h⟩ := halves b n hb h0
  have hda := dgs_all b n hb h0
  have hna := dgs_all b (fstH b n + 1) hb (by have := h.pos; omega)
  have hla := dgs_all b (n + 1) hb (by omega)
  have hp := dgs_pos b n
  have hA := h.alen
  have hC := h.clen
  have hM0 : mir (dgs b n) = A ++ (A.take C.length).reverse := by rw [h.eq, mir_app A C (by omega) (by omega)]
  have hmd : ∀ x ∈ mir (dgs b n), 0 ≤ x ∧ x ≤ b - 1 := fun x hx => hda x (mir_mem hx)
  have hml := mir_len (dgs b n)
  have hvn := val_dgs b hb _ n (Nat.le_refl _) h0
  have hvl := val_dgs b hb _ (n + 1) (Nat.le_refl _) (by omega)
  have hvf := val_dgs b hb _ (fstH b n) (Nat.le_refl _) h.pos
  have hvx := val_dgs b hb _ (fstH b n + 1) (Nat.le_refl _) (by have := h.pos; omega)
  rw [h.fst] at hvf
  have hdr := h.drop
  have hnum := numF_val b hb (mir (dgs b n)) 0 (fun x hx => (hmd x hx).1) (by omega) (by omega)
  have hf := dgs_inc b (fstH b n) hb h.pos
  rw [h.fst] at hf
  have hle : ¬ cmpL (dgs b n) (mir (dgs b n)) < 0 → ¬ (val b (mir (dgs b n)) 0 ≤ 1000000000000 ∧ n < val b (mir (dgs b n)) 0) := by
    intro hc
    rw [val_cmp b hb _ _ 0 hml.symm hda hmd (by omega), hvn] at hc
    omega
  rcases inc_halves b n hb h0 A C h with ⟨_, C', hL, hC'⟩ | ⟨hc, ha, hxl, hL⟩ | ⟨hc, ha, hxl, hL⟩
  · have hM : mir (dgs b (n + 1)) = mir (dgs b n) := by rw [hL, mir_app A C' (by omega) (by omega), hC', hM0]
    have hll : (mir (dgs b n)).length = (dgs b (n + 1)).length := by rw [← hM, mir_len]
    have hcv := val_cmp b hb (mir (dgs b n)) (dgs b (n + 1)) 0 hll hmd hla (by omega)
    rw [hvl] at hcv
    unfold RNextPalindrome
    simp only [hM]
    by_cases hlt : val b (mir (dgs b n)) 0 < n + 1
    · rw [if_pos (hcv.2 hlt), if_neg (by omega)]
      have hsome : ∃ x ∈ A, x ≠ b - 1 := by
        rcases all_or b A with hall | hs
        · refine absurd (hcv.2 hlt) (top_ge b _ _ hll (fun x hx => ?_) (fun y hy => (hla y hy).2))
          rw [hM0] at hx
          rcases List.mem_append.1 hx with hx | hx
          · exact hall x hx
          · exact hall x (List.mem_of_mem_take (List.mem_reverse.1 hx))
        · exact hs
      have hxl : (dgs b (fstH b n + 1)).length = A.length := by
        have := (incR_some b A.reverse [] (by obtain ⟨x, hx, hn⟩ := hsome; exact ⟨x, List.mem_reverse.2 hx, hn⟩)).2
        rw [hf, List.length_reverse, this, List.length_reverse]
      have hi : ((mir (dgs b n)).length - 1) / 2 + 1 = A.length := by rw [hml]; omega
      have hr := raiseAt_eq b (((mir (dgs b n)).length - 1) / 2) (mir (dgs b n)) (by rw [hml]; omega) (by
        obtain ⟨x, hx, hn⟩ := hsome
        obtain ⟨j, hj, hjx⟩ := List.getElem_of_mem hx
        refine ⟨j, by omega, ?_⟩
        rw [hM0, List.getD, List.getElem?_append_left hj, List.getElem?_eq_getElem hj, hjx]
        exact hn)
      rw [hi] at hr
      have ht : (mir (dgs b n)).take A.length = A := by rw [hM0, List.take_left']; rfl
      have hd : (mir (dgs b n)).drop A.length = (A.take C.length).reverse := by rw [hM0, List.drop_left']; rfl
      rw [ht, hd, ← hf] at hr
      rw [hr, if_neg (by rw [hxl]; omega), hdr, mir_app _ _ (by rw [hxl, List.length_reverse, List.length_take]; omega) (by rw [hxl, List.length_reverse, List.length_take]; omega), mir_app _ _ (by omega) (by omega)]
      congr 4
      rw [List.length_reverse, List.length_take]
      omega
    · rw [if_neg (fun hc => hlt (hcv.1 hc)), hnum]
      by_cases hlim : val b (mir (dgs b n)) 0 ≤ 1000000000000
      · rw [if_pos hlim, if_pos ⟨hlim, by omega⟩]
      · rw [if_neg hlim, if_neg (fun hc => hlim hc.1)]
        split
        · obtain ⟨k, hk⟩ : ∃ k, (dgs b n).length = k + 1 := ⟨(dgs b n).length - 1, by omega⟩
          refine (numF_over b hb _ (fun x hx => ?_) ?_).symm
          · rw [hk] at hx
            have := ends_all k x hx
            omega
          · rw [hk, ends_eq, val]
            have := val_lt b hb (mir (dgs b n)) (List.replicate k 0 ++ [1]) 0 (0 * b + 1) (by rw [hml, hk]; simp) hmd (fun y hy => by simp at hy; omega) (by omega) (by omega)
            omega
        · have hxl : (dgs b (fstH b n + 1)).length = A.length := by
            rcases all_or b A with hall | hs
            · have := incR_all b A.reverse [] (fun x hx => hall x (List.mem_reverse.1 hx))
              rw [List.append_nil] at this
              have hz : (dgs b (fstH b n + 1)).length = A.length + 1 := by rw [hf, this]; simp [incR]
              omega
            · have := (incR_some b A.reverse [] (by obtain ⟨x, hx, hn⟩ := hs; exact ⟨x, List.mem_reverse.2 hx, hn⟩)).2
              rw [hf, List.length_reverse, this, List.length_reverse]
          rw [hdr]
          have hma := mir_app (dgs b (fstH b n + 1)) C (by omega) (by omega)
          refine (numF_over b hb _ (fun x hx => ?_) ?_).symm
          · rcases List.mem_append.1 (mir_mem hx) with hx | hx
            · exact hna x hx
            · exact hda x (by rw [h.eq]; exact List.mem_append.2 (Or.inr hx))
          · have hAm : ∀ x ∈ A, 0 ≤ x ∧ x ≤ b - 1 := fun x hx => hda x (by rw [h.eq]; exact List.mem_append.2 (Or.inl hx))
            have := val_lt b hb ((A.take C.length).reverse) (((dgs b (fstH b n + 1)).take C.length).reverse) (fstH b n) (fstH b n + 1) (by simp [hxl]) (fun x hx => hAm x (List.mem_of_mem_take (List.mem_reverse.1 hx))) (fun x hx => hna x (List.mem_of_mem_take (List.mem_reverse.1 hx))) (by omega) h.pos
            rw [hM0, val_app, hvf] at hlim
            rw [hma, val_app, hvx]
            omega
  · have hM : mir (dgs b (n + 1)) = dgs b (fstH b n + 1) ++ ((dgs b (fstH b n + 1)).take C.length).reverse := by
      rw [hL, mir_app _ _ (by rw [List.length_replicate]; omega) (by rw [List.length_replicate]; omega), List.length_replicate]
    have hle2 := hle (by
      rw [hM0, h.eq, cmpL_app]
      exact top_ge b _ _ (by simp; omega) hc (fun y hy => (hda y (by rw [h.eq]; exact List.mem_append.2 (Or.inl (List.mem_of_mem_take (List.mem_reverse.1 hy))))).2))
    rw [if_neg hle2, if_neg (by rw [hxl]; omega), hdr, mir_app _ C (by omega) (by omega)]
    unfold RNextPalindrome
    simp only [hM]
    rw [if_neg]
    rw [hL, cmpL_app]
    exact zero_le _ _ (by simp; omega) (fun x hx => (hna x (List.mem_of_mem_take (List.mem_reverse.1 hx))).1) (fun y hy => List.eq_of_mem_replicate hy)
  · obtain ⟨k, hk⟩ : ∃ k, (dgs b n).length = k + 1 := ⟨(dgs b n).length - 1, by omega⟩
    have hle2 := hle (by
      refine top_ge b _ _ hml.symm (fun x hx => ?_) (fun y hy => (hmd y hy).2)
      rw [h.eq] at hx
      rcases List.mem_append.1 hx with hx | hx
      · exact ha x hx
      · exact hc x hx)
    rw [if_neg hle2, if_pos (by omega), hk, ends_eq]
    rw [hk] at hL
    have hM : mir (dgs b (n + 1)) = 1 :: (List.replicate k 0 ++ [1]) := by rw [hL, mir_one]
    unfold RNextPalindrome
    simp only [hM]
    rw [if_neg]
    rw [hL]
    have := cmpL_app [1] (List.replicate k 0 ++ [1]) (List.replicate (k + 1) 0)
    simp only [List.singleton_append] at this
    rw [this]
    exact zero_le _ _ (by simp) (fun x hx => by simp at hx; omega) (fun y hy => List.eq_of_mem_replicate hy)

theorem next_num (b n : Int) (hb : 2 ≤ b) (h0 : 0 ≤ n) : numF b (mir (dgs b n)) 0 = if val b (mir (dgs b n)) 0 ≤ 1000000000000 then some (val b (mir (dgs b n)) 0) else none :=
  numF_val b hb _ 0 (fun x hx => (dgs_all b n hb h0 x (mir_mem hx)).1) (by omega) (by omega)

theorem next_a (b n m : Int) (hb : 2 ≤ b) (h0 : 0 ≤ n) (h : numF b (mir (dgs b n)) 0 = some m) (hm : n < m) : RNextPalindrome b n = some m := by
  rw [next_num b n hb h0] at h
  split at h
  · rename_i hl
    cases h
    rw [next_main b n hb h0, if_pos ⟨hl, hm⟩]
  · cases h

theorem next_o (b n : Int) (hb : 2 ≤ b) (h0 : 0 ≤ n) (h : ∀ m, numF b (mir (dgs b n)) 0 = some m → ¬ n < m) : RNextPalindrome b n = if ((dgs b n).length + 1) / 2 < (dgs b (fstH b n + 1)).length then numF b (ends (dgs b n).length) 0
      else numF b (mir (dgs b (fstH b n + 1) ++ (dgs b n).drop (((dgs b n).length + 1) / 2))) 0 := by
  rw [next_main b n hb h0, if_neg]
  rintro ⟨h1, h2⟩
  refine h _ ?_ h2
  rw [next_num b n hb h0, if_pos h1]

end Go.Proofs.Ytjclbfjjakfjiaa
