/-
  Palindromes, plain: the next one is the least above a number; a number that is turned round twice.
-/
import Derived.Test.Ytjclbfjjakfjiaa1A
import Derived.Test.YtjclbfjjakfjiaaZB
namespace Go.Proofs.Ytjclbfjjakfjiaa
set_option linter.unusedVariables false
set_option linter.unusedSimpArgs false

theorem len_mono (b : Int) (hb : 2 ≤ b) : ∀ (k : Nat) (a c : Int), c.toNat ≤ k → 0 ≤ a → a ≤ c → (dgs b a).length ≤ (dgs b c).length
  | 0, a, c, hk, h0, h => by
    have e : a = c := by omega
    rw [e]; exact Nat.le_refl _
  | k + 1, a, c, hk, h0, h => by
    by_cases ha : b ≤ a
    · have hc : b ≤ c := by omega
      have h1 := div_lt b c hb hc
      have h2 := div_lt b a hb ha
      have h3 : a / b ≤ c / b := Int.ediv_le_ediv (by omega) h
      have := len_mono b hb k (a / b) (c / b) (by omega) h2.1 h3
      rw [dgs_bigA b a hb ha, dgs_bigA b c hb hc, List.length_append, List.length_append]
      simpa using this
    · rw [dgs_smallA b a ha]
      have := dgs_pos b c
      simpa using this
theorem val_zero (b : Int) (hb : 2 ≤ b) : ∀ (xs : List Int) (a : Int), (∀ x ∈ xs, 0 ≤ x) → val b (List.replicate xs.length 0) a ≤ val b xs a
  | [], a, _ => Int.le_refl _
  | x :: xs, a, h => by
    have h0 := h x (by simp)
    have ih := val_zero b hb xs (a * b + x) (fun y hy => h y (by simp [hy]))
    have hm : ∀ (zs : List Int) (a c : Int), a ≤ c → val b zs a ≤ val b zs c := by
      intro zs
      induction zs with
      | nil => intro a c h; exact h
      | cons z zs ih =>
        intro a c h
        have h1 : a * b ≤ c * b := Int.mul_le_mul_of_nonneg_right h (by omega)
        rw [val, val]
        exact ih _ _ (by omega)
    rw [List.length_cons, List.replicate_succ, val, val]
    exact Int.le_trans (hm _ _ _ (by omega)) ih
/-- A list that reads the same backwards is its first half mirrored. -/
theorem mir_pal {xs : List Int} (h : xs = xs.reverse) : mir xs = xs := by
  unfold mir
  have e : (xs.take (xs.length / 2)).reverse = xs.drop (xs.length - xs.length / 2) := by
    have h1 := congrArg (List.drop (xs.length - xs.length / 2)) h
    rw [h1, List.drop_reverse]
    congr 2
    omega
  rw [e, List.take_append_drop]
theorem pal_app (A : List Int) (c : Nat) (h1 : c ≤ A.length) (h2 : A.length ≤ c + 1) : A ++ (A.take c).reverse = (A ++ (A.take c).reverse).reverse := by
  rw [List.reverse_append, List.reverse_reverse]
  by_cases hc : A.length = c
  · rw [← hc, List.take_length]
  · have hl : A.length = c + 1 := by omega
    have e : A = A.take c ++ [A[c]'(by omega)] := by
      have := take_snoc' A c (by omega)
      rw [← this, ← hl, List.take_length]
    obtain ⟨T, hT⟩ : ∃ T, T = A.take c := ⟨_, rfl⟩
    rw [← hT] at e ⊢
    rw [e]
    simp
theorem areD_app {b : Int} {A C : List Int} (hA : areD b A = true) (hC : ∀ x ∈ C, 0 ≤ x ∧ x ≤ b - 1) (hh : A.headD 0 ≠ 0 ∨ C = []) : areD b (A ++ C) = true := by
  unfold areD at hA ⊢
  simp only [Bool.and_eq_true, Bool.or_eq_true, decide_eq_true_eq] at hA ⊢
  obtain ⟨⟨h1, h2⟩, h3⟩ := hA
  have hall := (allIn_iff 0 (b - 1) A).1 h3
  refine ⟨⟨by rw [List.length_append]; omega, ?_⟩, (allIn_iff 0 (b - 1) (A ++ C)).2 (fun x hx => ?_)⟩
  · rcases hh with hh | hh
    · right
      cases A with
      | nil => simp at h1
      | cons a t => simpa using hh
    · rw [hh, List.append_nil]; exact h2
  · rcases List.mem_append.1 hx with hx | hx
    · exact hall x hx
    · exact hC x hx
theorem head_pos {b H : Int} (hb : 2 ≤ b) (h : 1 ≤ H) : (dgs b H).headD 0 ≠ 0 := by
  have h1 : areD b (dgs b H) = true := by
    have hd := dgs_all b H hb (by omega)
    have hp := dgs_pos b H
    have : ∃ x, (dgs b H).head? = some x ∧ x ≠ 0 := by
      have key : ∀ (k : Nat) (n : Int), n.toNat ≤ k → 0 < n → ∃ x, (dgs b n).head? = some x ∧ x ≠ 0 := by
        intro k
        induction k with
        | zero => intro n hk hn; omega
        | succ k ih =>
          intro n hk hn
          by_cases hbn : b ≤ n
          · have h2 := div_lt b n hb hbn
            have h3 := div_pos b n hb hbn
            obtain ⟨x, e, hx⟩ := ih (n / b) (by omega) (by omega)
            refine ⟨x, ?_, hx⟩
            rw [dgs_bigA b n hb hbn, List.head?_append, e]
            rfl
          · rw [dgs_smallA b n hbn]
            exact ⟨n, rfl, by omega⟩
      exact key H.toNat H (Nat.le_refl _) (by omega)
    obtain ⟨x, e, hx⟩ := this
    have e2 : (dgs b H).headD 0 = x := by rw [List.headD_eq_head?_getD, e]; rfl
    unfold areD
    rw [(allIn_iff _ _ _).2 hd, decide_eq_true (show (dgs b H).length ≠ 0 by omega), e2, decide_eq_true hx]
    simp
  unfold areD at h1
  simp only [Bool.and_eq_true, Bool.or_eq_true, decide_eq_true_eq] at h1
  rcases h1.1.2 with h2 | h2
  · intro h0
    by_cases hbn : b ≤ H
    · rw [dgs_bigA b H hb hbn, List.length_append] at h2
      have := dgs_pos b (H / b)
      simp at h2
      rw [h2] at this
      simp at this
    · rw [dgs_smallA b H hbn] at h0
      simp at h0
      omega
  · exact h2

/-- The number whose first half is H and that reads the same backwards, of a length c behind it. -/
theorem half_num {b H r : Int} {c : Nat} (hb : 2 ≤ b) (hH : 0 ≤ H) (h1 : c ≤ (dgs b H).length) (h2 : (dgs b H).length ≤ c + 1) (hz : 1 ≤ H ∨ c = 0)
    (hr : numF b (dgs b H ++ ((dgs b H).take c).reverse) 0 = some r) : dgs b r = dgs b H ++ ((dgs b H).take c).reverse ∧ 0 ≤ r ∧ r ≤ 1000000000000 ∧ val b (((dgs b H).take c).reverse) H = r := by
  have hd := dgs_all b H hb hH
  have hA : areD b (dgs b H) = true := by
    by_cases h : 1 ≤ H
    · unfold areD
      rw [(allIn_iff _ _ _).2 hd, decide_eq_true (show (dgs b H).length ≠ 0 by have := dgs_pos b H; omega), decide_eq_true (head_pos hb h)]
      simp
    · have : H = 0 := by omega
      subst this
      rw [dgs_smallA b 0 (by omega)]
      unfold areD
      rw [(allIn_iff _ _ _).2 (fun x hx => by rw [List.mem_singleton.1 hx]; omega)]
      rfl
  have ha := areD_app hA (C := ((dgs b H).take c).reverse) (fun x hx => hd x (List.mem_of_mem_take (List.mem_reverse.1 hx))) (by
    rcases hz with h | h
    · exact .inl (head_pos hb h)
    · subst h; exact .inr rfl)
  obtain ⟨e1, e2, e3⟩ := num_digits hb ha hr
  refine ⟨e1, e2, e3, ?_⟩
  have hv := val_dgs b hb r.toNat r (Nat.le_refl _) e2
  rw [e1, val_app, val_dgs b hb H.toNat H (Nat.le_refl _) hH] at hv
  exact hv

/-- What the law asks of the next palindrome. -/
theorem next_least {b n r : Int} (hb : 2 ≤ b) (h0 : 0 ≤ n) (hr : RNextPalindrome b n = some r) :
    n < r ∧ r ≤ 1000000000000 ∧ dgs b r = (dgs b r).reverse ∧ ∀ p : Int, n < p → p ≤ 1000000000000 → dgs b p = (dgs b p).reverse → r ≤ p := by
  obtain ⟨A, C, hh⟩ := halves b n hb h0
  have hA := hh.alen
  have hC := hh.clen
  have hH := hh.pos
  have hp := dgs_pos b n
  obtain ⟨H, hHd⟩ : ∃ H, H = fstH b n := ⟨_, rfl⟩
  have hfst := hh.fst
  rw [← hHd] at hH hfst
  have hvn := val_dgs b hb n.toNat n (Nat.le_refl _) h0
  have hvH := val_dgs b hb H.toNat H (Nat.le_refl _) hH
  rw [hfst] at hvH
  rw [hh.eq, val_app, hvH] at hvn
  have hca : C.length ≤ A.length := by omega
  have hac : A.length ≤ C.length + 1 := by omega
  have hAd : ∀ x ∈ A, 0 ≤ x ∧ x ≤ b - 1 := by rw [← hfst]; exact dgs_all b H hb hH
  have hCd : ∀ x ∈ C, 0 ≤ x ∧ x ≤ b - 1 := fun x hx => dgs_all b n hb h0 x (by rw [hh.eq]; simp [hx])
  have hM : mir (dgs b n) = A ++ (A.take C.length).reverse := by rw [hh.eq, mir_app A C hca hac]
  have hz : 1 ≤ H ∨ C.length = 0 := by
    by_cases h : 1 ≤ H
    · exact .inl h
    · right
      have e : H = 0 := by omega
      rw [e, dgs_smallA b 0 (by omega)] at hfst
      have h1 : A.length = 1 := by rw [← hfst]; rfl
      by_cases hc : C.length = 0
      · exact hc
      · exfalso
        have hbn : b ≤ n := by
          by_cases h : b ≤ n
          · exact h
          · have := hh.eq
            rw [dgs_smallA b n h] at this
            have := congrArg List.length this
            rw [List.length_append] at this
            simp at this
            omega
        have := head_pos hb (show 1 ≤ n by omega)
        rw [hh.eq, ← hfst] at this
        simp at this
  -- a palindrome above n with as many digits
  have pal : ∀ p : Int, n < p → dgs b p = (dgs b p).reverse → (dgs b p).length = (dgs b n).length → H ≤ fstH b p ∧ p = val b (((dgs b (fstH b p)).take C.length).reverse) (fstH b p) ∧ (dgs b (fstH b p)).length = A.length ∧ 0 ≤ fstH b p := by
    intro p hnp hpp hlen
    have p0 : 0 ≤ p := by omega
    obtain ⟨A', C', hh'⟩ := halves b p hb p0
    have hA' := hh'.alen
    have hC' := hh'.clen
    rw [hlen] at hA' hC'
    have hCl : C'.length = C.length := by omega
    have hAl : A'.length = A.length := by omega
    have e : dgs b p = A' ++ (A'.take C'.length).reverse := by
      rw [← mir_app A' C' (by omega) (by omega), ← hh'.eq, mir_pal hpp]
    have hvp := val_dgs b hb p.toNat p (Nat.le_refl _) p0
    have hvH' := val_dgs b hb (fstH b p).toNat (fstH b p) (Nat.le_refl _) hh'.pos
    rw [hh'.fst] at hvH' ⊢
    refine ⟨?_, ?_, hAl, hh'.pos⟩
    · by_cases hlt : fstH b p < H
      · exfalso
        have hv2 := hvp
        rw [hh'.eq, val_app, hvH'] at hv2
        have := val_lt b hb C' C (fstH b p) H hCl (fun x hx => dgs_all b p hb p0 x (by rw [hh'.eq]; simp [hx])) hCd hlt hh'.pos
        omega
      · omega
    · rw [e, val_app, hvH', hCl] at hvp
      exact hvp.symm
  have revd : ∀ X : List Int, (∀ x ∈ X, 0 ≤ x ∧ x ≤ b - 1) → ∀ x ∈ (X.take C.length).reverse, 0 ≤ x ∧ x ≤ b - 1 := fun X hX x hx => hX x (List.mem_of_mem_take (List.mem_reverse.1 hx))
  rw [next_main b n hb h0] at hr
  by_cases hv : val b (mir (dgs b n)) 0 ≤ 1000000000000 ∧ n < val b (mir (dgs b n)) 0
  · rw [if_pos hv] at hr
    simp only [Option.some.injEq] at hr
    subst hr
    have hnum : numF b (dgs b H ++ ((dgs b H).take C.length).reverse) 0 = some (val b (mir (dgs b n)) 0) := by
      rw [hfst, ← hM, next_num b n hb h0, if_pos hv.1]
    obtain ⟨e1, e2, e3, e4⟩ := half_num hb hH (by rw [hfst]; exact hca) (by rw [hfst]; exact hac) hz hnum
    rw [hfst] at e1 e4
    refine ⟨hv.2, hv.1, by rw [e1]; exact pal_app A C.length hca hac, fun p hnp hp1 hpp => ?_⟩
    by_cases hlen : (dgs b p).length = (dgs b n).length
    · obtain ⟨q1, q2, q3, q4⟩ := pal p hnp hpp hlen
      by_cases he : fstH b p = H
      · rw [he, hfst] at q2
        rw [← e4]; omega
      · have := val_lt b hb (A.take C.length).reverse ((dgs b (fstH b p)).take C.length).reverse H (fstH b p) (by rw [List.length_reverse, List.length_reverse, List.length_take, List.length_take]; omega) (revd A hAd) (revd _ (dgs_all b _ hb q4)) (by omega) hH
        omega
    · by_cases hle : val b (mir (dgs b n)) 0 ≤ p
      · exact hle
      · exfalso
        have l1 := len_mono b hb _ p _ (Nat.le_refl _) (by omega) (show p ≤ val b (mir (dgs b n)) 0 by omega)
        have l2 := len_mono b hb _ n p (Nat.le_refl _) h0 (by omega)
        have l3 : (dgs b (val b (mir (dgs b n)) 0)).length = (dgs b n).length := by rw [e1, ← hM, mir_len]
        omega
  · rw [if_neg hv] at hr
    have hN0 : 0 ≤ H + 1 := by omega
    rw [← hHd] at hr
    -- no palindrome with the same first half
    have hno : ∀ p : Int, n < p → p ≤ 1000000000000 → fstH b p = H → p = val b (((dgs b (fstH b p)).take C.length).reverse) (fstH b p) → False := by
      intro p hnp hp1 he q2
      rw [he, hfst] at q2
      apply hv
      have : val b (mir (dgs b n)) 0 = p := by rw [hM, val_app, hvH]; exact q2.symm
      rw [this]
      exact ⟨hp1, hnp⟩
    by_cases hlong : ((dgs b n).length + 1) / 2 < (dgs b (H + 1)).length
    · rw [if_pos hlong] at hr
      obtain ⟨l, hl⟩ : ∃ l, (dgs b n).length = l + 1 := ⟨(dgs b n).length - 1, by omega⟩
      rw [hl, ends_eq] at hr
      have hza : ∀ x ∈ List.replicate l (0 : Int) ++ [1], 0 ≤ x ∧ x ≤ b - 1 := fun x hx => by
        rcases List.mem_append.1 hx with hx | hx
        · rw [List.eq_of_mem_replicate hx]; omega
        · rw [List.mem_singleton.1 hx]; omega
      have ha : areD b (1 :: (List.replicate l (0 : Int) ++ [1])) = true := by
        unfold areD
        rw [(allIn_iff _ _ _).2 (fun x hx => by
          rcases List.mem_cons.1 hx with rfl | hx
          · omega
          · exact hza x hx)]
        simp
      obtain ⟨e1, e2, e3⟩ := num_digits hb ha hr
      have er : val b (1 :: (List.replicate l (0 : Int) ++ [1])) 0 = r := by rw [← e1]; exact val_dgs b hb r.toNat r (Nat.le_refl _) e2
      have lr : (dgs b r).length = l + 2 := by rw [e1]; simp
      have hnr : n < r := by
        by_cases h : r ≤ n
        · have := len_mono b hb _ r n (Nat.le_refl _) e2 h
          omega
        · omega
      refine ⟨hnr, e3, by rw [e1]; simp [List.reverse_replicate], fun p hnp hp1 hpp => ?_⟩
      have p0 : 0 ≤ p := by omega
      by_cases hlen : (dgs b p).length = (dgs b n).length
      · exfalso
        obtain ⟨q1, q2, q3, q4⟩ := pal p hnp hpp hlen
        by_cases he : fstH b p = H
        · exact hno p hnp hp1 he q2
        · have := len_mono b hb _ (H + 1) (fstH b p) (Nat.le_refl _) hN0 (by omega)
          omega
      · have l2 := len_mono b hb _ n p (Nat.le_refl _) h0 (by omega)
        by_cases hle : r ≤ p
        · exact hle
        · exfalso
          have l1 := len_mono b hb _ p r (Nat.le_refl _) p0 (by omega)
          have lp : (dgs b p).length = l + 2 := by omega
          have hpd := dgs_all b p hb p0
          have hvp := val_dgs b hb p.toNat p (Nat.le_refl _) p0
          have hhp := head_pos hb (show 1 ≤ p by omega)
          obtain ⟨X, hX⟩ : ∃ X, X = dgs b p := ⟨_, rfl⟩
          rw [← hX] at hpp hpd hvp hhp lp
          match X, hpp, hpd, hvp, hhp, lp with
          | [], _, _, _, _, lp => simp at lp
          | x :: Y, hpp, hpd, hvp, hhp, lp =>
            have hYl : Y.length = l + 1 := by simpa using lp
            have hx0 := hpd x (by simp)
            have hx1 : x ≠ 0 := by simpa using hhp
            have hYd : ∀ y ∈ Y, 0 ≤ y ∧ y ≤ b - 1 := fun y hy => hpd y (by simp [hy])
            obtain ⟨Z, z, hZ⟩ : ∃ Z z, Y = Z ++ [z] := ⟨Y.dropLast, Y.getLast (by intro e; rw [e] at hYl; simp at hYl), (List.dropLast_concat_getLast _).symm⟩
            have hzx : z = x := by
              rw [hZ, List.reverse_cons, List.reverse_append] at hpp
              simp at hpp
              exact hpp.1.symm
            have hZl : Z.length = l := by rw [hZ] at hYl; simpa using hYl
            rw [val] at er hvp
            by_cases h1 : x = 1
            · subst h1
              rw [hZ, hzx, val_app] at hvp
              rw [val_app] at er
              have hz0 := val_zero b hb Z (0 * b + 1) (fun y hy => (hYd y (by rw [hZ]; simp [hy])).1)
              rw [hZl] at hz0
              have hm := Int.mul_le_mul_of_nonneg_right hz0 (show 0 ≤ b by omega)
              simp only [val] at hvp er
              omega
            · have := val_lt b hb (List.replicate l 0 ++ [1]) Y (0 * b + 1) (0 * b + x) (by simp [hYl]) hza hYd (by omega) (by omega)
              omega
    · rw [if_neg hlong] at hr
      have hNl : (dgs b (H + 1)).length = A.length := by
        have := len_mono b hb _ H (H + 1) (Nat.le_refl _) hH (by omega)
        rw [hfst] at this
        omega
      have hdr := hh.drop
      rw [hdr, mir_app _ C (by omega) (by omega)] at hr
      obtain ⟨e1, e2, e3, e4⟩ := half_num hb hN0 (by omega) (by omega) (.inl (by omega)) hr
      have hNd := dgs_all b (H + 1) hb hN0
      have hnr : n < r := by
        have := val_lt b hb C ((dgs b (H + 1)).take C.length).reverse H (H + 1) (by rw [List.length_reverse, List.length_take]; omega) hCd (revd _ hNd) (by omega) hH
        omega
      refine ⟨hnr, e3, by rw [e1]; exact pal_app _ C.length (by omega) (by omega), fun p hnp hp1 hpp => ?_⟩
      by_cases hlen : (dgs b p).length = (dgs b n).length
      · obtain ⟨q1, q2, q3, q4⟩ := pal p hnp hpp hlen
        by_cases he : fstH b p = H
        · exact absurd (hno p hnp hp1 he q2) id
        · by_cases he2 : fstH b p = H + 1
          · rw [he2] at q2
            omega
          · have := val_lt b hb ((dgs b (H + 1)).take C.length).reverse ((dgs b (fstH b p)).take C.length).reverse (H + 1) (fstH b p) (by rw [List.length_reverse, List.length_reverse, List.length_take, List.length_take]; omega) (revd _ hNd) (revd _ (dgs_all b _ hb q4)) (by omega) hN0
            omega
      · by_cases hle : r ≤ p
        · exact hle
        · exfalso
          have l1 := len_mono b hb _ p r (Nat.le_refl _) (by omega) (show p ≤ r by omega)
          have l2 := len_mono b hb _ n p (Nat.le_refl _) h0 (by omega)
          have l3 : (dgs b r).length = (dgs b n).length := by
            rw [e1, List.length_append, List.length_reverse, List.length_take]
            omega
          omega

/-- A number that does not end in 0 is turned round twice. -/
theorem turned_twice {b m k : Int} (hb : 2 ≤ b) (h0 : 0 ≤ m) (h1 : m ≤ 1000000000000) (hz : m % b ≠ 0) (hk : numF b (dgs b m).reverse 0 = some k) :
    dgs b k = (dgs b m).reverse ∧ 0 ≤ k ∧ k ≤ 1000000000000 ∧ numF b (dgs b k).reverse 0 = some m ∧ (dgs b k).sum = (dgs b m).sum ∧ ((dgs b m = (dgs b m).reverse) ↔ k = m) := by
  have hd := dgs_all b m hb h0
  have hlast : ∃ T, dgs b m = T ++ [m % b] := by
    by_cases hbm : b ≤ m
    · exact ⟨_, dgs_bigA b m hb hbm⟩
    · exact ⟨[], by rw [dgs_smallA b m hbm, mod_small b m hb h0 (by omega)]; rfl⟩
  obtain ⟨T, hT⟩ := hlast
  have ha : areD b (dgs b m).reverse = true := by
    unfold areD
    rw [(allIn_iff _ _ _).2 (fun x hx => hd x (List.mem_reverse.1 hx)), decide_eq_true (show (dgs b m).reverse.length ≠ 0 by rw [List.length_reverse]; have := dgs_pos b m; omega)]
    have : (dgs b m).reverse.headD 0 = m % b := by rw [hT, List.reverse_append]; rfl
    rw [this, decide_eq_true hz]
    simp
  obtain ⟨e1, e2, e3⟩ := num_digits hb ha hk
  have hn : numF b (dgs b m) 0 = some m := by
    rw [numF_val b hb _ 0 (fun x hx => (hd x hx).1) (by omega) (by omega), val_dgs b hb m.toNat m (Nat.le_refl _) h0, if_pos h1]
  refine ⟨e1, e2, e3, by rw [e1, List.reverse_reverse]; exact hn, by rw [e1, List.sum_reverse], fun h => ?_, fun h => ?_⟩
  · have e : dgs b k = dgs b m := by rw [e1]; exact h.symm
    have v1 := val_dgs b hb k.toNat k (Nat.le_refl _) e2
    have v2 := val_dgs b hb m.toNat m (Nat.le_refl _) h0
    rw [e, v2] at v1
    exact v1.symm
  · rw [← e1, h]

end Go.Proofs.Ytjclbfjjakfjiaa
