/-
  The counts of a number's digits: plain mathematics.
-/
import Derived.Test.YtecnalkjlilgmabCW
namespace Go.Proofs.Ytecnalkjlilgmab
set_option linter.unusedVariables false
set_option linter.unusedSimpArgs false

theorem sum_set1 (ys : List Int) (d : Nat) (h : d < ys.length) (v : Int) : (ys.set d v).sum = ys.sum - ys[d] + v := by
  induction ys generalizing d with
  | nil => simp at h
  | cons y ys ih =>
    cases d with
    | zero => simp; omega
    | succ d =>
      have := ih d (by simpa using h)
      simp only [List.set_cons_succ, List.sum_cons, List.getElem_cons_succ, this]
      omega

theorem cntF_sum : ∀ (xs ys : List Int), (∀ x ∈ xs, 0 ≤ x ∧ x < ys.length) → (cntF xs ys).sum = ys.sum + xs.length := by
  intro xs
  induction xs with
  | nil => intro ys _; simp [cntF]
  | cons d ds ih =>
    intro ys h
    obtain ⟨h0, h1⟩ := h d (by simp)
    have hd : d.toNat < ys.length := by omega
    rw [cntF, ih (bump ys d) (fun x hx => by rw [bump_len]; exact h x (by simp [hx]))]
    have : (bump ys d).sum = ys.sum + 1 := by
      unfold bump
      rw [sum_set1 ys d.toNat hd]
      simp [hd]
      omega
    rw [this, List.length_cons]
    push_cast
    omega

theorem bump_ge (ys : List Int) (d : Int) (t : Nat) : ys.getD t 0 ≤ (bump ys d).getD t 0 := by
  unfold bump
  by_cases ht : t < ys.length
  · by_cases e : d.toNat = t
    · subst e
      simp [ht]
      omega
    · simp [ht, List.getElem_set, e]
  · simp [Nat.not_lt.1 ht]

theorem cntF_ge : ∀ (xs ys : List Int) (t : Nat), ys.getD t 0 ≤ (cntF xs ys).getD t 0 := by
  intro xs
  induction xs with
  | nil => intro ys t; exact Int.le_refl _
  | cons d ds ih => intro ys t; rw [cntF]; exact Int.le_trans (bump_ge ys d t) (ih _ t)

theorem cntF_mem : ∀ (xs ys : List Int) (t : Nat), t < ys.length → (t : Int) ∈ xs → ys.getD t 0 + 1 ≤ (cntF xs ys).getD t 0 := by
  intro xs
  induction xs with
  | nil => intro ys t _ h; simp at h
  | cons d ds ih =>
    intro ys t ht h
    rw [cntF]
    by_cases e : d = (t : Int)
    · subst e
      refine Int.le_trans ?_ (cntF_ge ds _ t)
      rw [bump_nat ys t ht]
      simp [ht]
    · have h2 : (t : Int) ∈ ds := by
        rcases List.mem_cons.1 h with h | h
        · exact absurd h.symm e
        · exact h
      exact Int.le_trans (Int.add_le_add_right (bump_ge ys d t) 1) (ih _ t (by rw [bump_len]; exact ht) h2)

theorem cntF_nonneg : ∀ (xs ys : List Int), (∀ y ∈ ys, 0 ≤ y) → ∀ y ∈ cntF xs ys, 0 ≤ y := by
  intro xs
  induction xs with
  | nil => intro ys h; exact h
  | cons d ds ih =>
    intro ys h
    rw [cntF]
    refine ih _ (fun y hy => ?_)
    rcases List.mem_or_eq_of_mem_set hy with hy | rfl
    · exact h y hy
    · by_cases hd : d.toNat < ys.length
      · have h1 : ys.getD d.toNat 0 = ys[d.toNat] := by simp [hd]
        have := h _ (List.getElem_mem hd)
        rw [h1]; omega
      · have h1 : ys.getD d.toNat 0 = 0 := by simp [Nat.not_lt.1 hd]
        rw [h1]; omega

theorem revD_nonzero (b : Int) (hb : 2 ≤ b) : ∀ (k : Nat) (n : Int), n.toNat ≤ k → 1 ≤ n → ∃ x ∈ revD b n, x ≠ 0 := by
  intro k
  induction k with
  | zero => intro n hk h0; omega
  | succ k ih =>
    intro n hk h0
    by_cases h : b ≤ n
    · have h2 := div_lt b n hb h
      have h4 := div_pos b n hb h
      obtain ⟨x, hx, hx0⟩ := ih (n / b) (by omega) h4
      rw [revD_big b n hb h]
      exact ⟨x, by simp [hx], hx0⟩
    · rw [revD_small b n h]
      exact ⟨n, by simp, by omega⟩

theorem revD_pow (b : Int) (hb : 2 ≤ b) : ∀ (k : Nat) (n : Int), n.toNat ≤ k → 1 ≤ n → b ^ ((revD b n).length - 1) ≤ n := by
  intro k
  induction k with
  | zero => intro n hk h0; omega
  | succ k ih =>
    intro n hk h0
    by_cases h : b ≤ n
    · have h2 := div_lt b n hb h
      have h4 := div_pos b n hb h
      have h5 := ih (n / b) (by omega) h4
      have h6 := div_mod b n
      have h7 := mod_bd b n hb
      have hne : 1 ≤ (revD b (n / b)).length := by
        cases hh : revD b (n / b) with
        | nil => exact absurd hh (revD_ne _ _)
        | cons a t => simp
      rw [revD_big b n hb h, List.length_cons, Nat.add_sub_cancel]
      obtain ⟨m, hm⟩ : ∃ m, (revD b (n / b)).length = m + 1 := ⟨_, (Nat.succ_pred_eq_of_pos hne).symm⟩
      rw [hm] at h5 ⊢
      rw [Nat.add_sub_cancel] at h5
      rw [Int.pow_succ, Int.mul_comm]
      have h8 := Int.mul_le_mul_of_nonneg_left h5 (show 0 ≤ b by omega)
      omega
    · rw [revD_small b n h]
      simpa using h0

theorem ints_back (xs : List Int) (h : ∀ x ∈ xs, 0 ≤ x) : ints (xs.map Int.toNat) = xs := by
  induction xs with
  | nil => rfl
  | cons x xs ih =>
    have h0 := h x (by simp)
    have h1 := ih (fun y hy => h y (by simp [hy]))
    simp only [ints, List.map_cons, List.map_map] at h1 ⊢
    rw [h1]
    congr 1
    omega
theorem ints_sum (cs : List Nat) : (ints cs).sum = ((cs.sum : Nat) : Int) := by
  induction cs with
  | nil => rfl
  | cons c cs ih =>
    simp only [ints, List.map_cons, List.sum_cons] at ih ⊢
    rw [ih]
    push_cast
    rfl
theorem ints_toNat (cs : List Nat) : (ints cs).map Int.toNat = cs := by
  induction cs with
  | nil => rfl
  | cons c cs ih => simp only [ints, List.map_cons, List.map_map] at ih ⊢; rw [ih]; simp

theorem counts_ok (b n : Int) (hb : 2 ≤ b) (hb' : b ≤ 16) (n0 : 0 ≤ n) (n1 : n ≤ 1000000000000) :
    ∃ (c : Nat) (cs : List Nat), cnt b (dgs b n) = ints (c :: cs) ∧ (c :: cs).sum ≤ 40 ∧ (c :: cs).length ≤ 16 ∧ wP (c :: cs) 0 ≤ 100000000000000 ∧ (1 ≤ n → 1 ≤ cs.sum) := by
  have hall := dgs_all b n hb n0
  have hz : ∀ y ∈ List.replicate b.toNat (0 : Int), 0 ≤ y := fun y hy => by rw [(List.mem_replicate.1 hy).2]; omega
  have hnn := cntF_nonneg (dgs b n) _ hz
  have hlen : (cnt b (dgs b n)).length = b.toNat := cnt_len b _
  have hsum : (cnt b (dgs b n)).sum = ((dgs b n).length : Int) := by
    rw [cnt, cntF_sum _ _ (fun x hx => by have := hall x hx; simp; omega)]
    simp
  have hback : ints ((cnt b (dgs b n)).map Int.toNat) = cnt b (dgs b n) := ints_back _ hnn
  have h40 := dgs_len40 b n hb n0 n1
  cases hcs : (cnt b (dgs b n)).map Int.toNat with
  | nil =>
    have := congrArg List.length hcs
    rw [List.length_map, hlen] at this
    simp at this
    omega
  | cons c cs =>
    rw [hcs] at hback
    have hs1 : (c :: cs).sum = (dgs b n).length := by
      have := ints_sum (c :: cs)
      rw [hback, hsum] at this
      omega
    have hl1 : (c :: cs).length = b.toNat := by rw [← hcs, List.length_map, hlen]
    refine ⟨c, cs, hback.symm, by omega, by omega, ?_, ?_⟩
    · rw [wP_rP]
      refine Nat.le_trans (rP_le _) ?_
      rw [hl1, hs1]
      by_cases h1 : 1 ≤ n
      · have hp := revD_pow b hb n.toNat n (Nat.le_refl _) h1
        have hd : (dgs b n).length = ((revD b n).length - 1) + 1 := by
          rw [dgs_len]
          have := dgs_pos b n
          rw [dgs_len] at this
          omega
        rw [hd, Nat.pow_succ]
        have e : ((b.toNat ^ ((revD b n).length - 1) : Nat) : Int) = b ^ ((revD b n).length - 1) := by
          rw [Int.natCast_pow]
          congr 1
          omega
        have h2 : b.toNat ^ ((revD b n).length - 1) ≤ 1000000000000 := by
          have : ((b.toNat ^ ((revD b n).length - 1) : Nat) : Int) ≤ 1000000000000 := by rw [e]; omega
          omega
        have h3 : b.toNat ^ ((revD b n).length - 1) * b.toNat ≤ 1000000000000 * 16 := Nat.mul_le_mul h2 (by omega)
        omega
      · have h0 : n = 0 := by omega
        subst h0
        have hd : (dgs b 0).length = 1 := by rw [dgs_len, revD_zero b hb]; rfl
        rw [hd, Nat.pow_one]
        omega
    · intro h1
      obtain ⟨x, hx, hx0⟩ := revD_nonzero b hb n.toNat n (Nat.le_refl _) h1
      have hx' : x ∈ dgs b n := by simpa [dgs] using hx
      have hxb := hall x hx'
      obtain ⟨t, rfl⟩ : ∃ t : Nat, x = (t : Int) := ⟨x.toNat, by omega⟩
      have hm := cntF_mem (dgs b n) (List.replicate b.toNat 0) t (by simp; omega) hx'
      have hm2 : 1 ≤ (cnt b (dgs b n)).getD t 0 := by
        have hz0 : (List.replicate b.toNat (0 : Int)).getD t 0 = 0 := by simp [List.getElem?_replicate]; split <;> rfl
        rw [hz0] at hm
        simpa [cnt] using hm
      obtain ⟨u, rfl⟩ : ∃ u, t = u + 1 := ⟨t - 1, by omega⟩
      rw [← hback] at hm2
      have hu : u < cs.length := by
        rcases Nat.lt_or_ge u cs.length with h | h
        · exact h
        · simp [ints, h] at hm2
      have hm3 : 1 ≤ cs[u] := by
        simp [ints, hu] at hm2
        omega
      have h5 := nsum_drop cs u hu
      have h6 : cs.sum = (cs.take u).sum + (cs.drop u).sum := by rw [← List.sum_append, List.take_append_drop]
      omega

end Go.Proofs.Ytecnalkjlilgmab
