/-
  How many ways digits can stand in: binomial numbers, plain mathematics.
-/
import Derived.Test.YtecnalkjlilgmabQ
namespace Go.Proofs.Ytecnalkjlilgmab
set_option linter.unusedVariables false
set_option linter.unusedSimpArgs false

def fac : Nat → Nat
  | 0 => 1
  | n + 1 => (n + 1) * fac n
def bin : Nat → Nat → Nat
  | _, 0 => 1
  | 0, _ + 1 => 0
  | n + 1, k + 1 => bin n k + bin n (k + 1)

theorem fac_pos (n : Nat) : 0 < fac n := by
  induction n with
  | zero => decide
  | succ n ih => exact Nat.mul_pos (by omega) ih

theorem bin_zero (n : Nat) : bin n 0 = 1 := by cases n <;> rfl
theorem bin_gt : ∀ (n k : Nat), n < k → bin n k = 0 := by
  intro n
  induction n with
  | zero => intro k h; cases k with
    | zero => omega
    | succ k => rfl
  | succ n ih => intro k h; cases k with
    | zero => omega
    | succ k => rw [bin, ih k (by omega), ih (k + 1) (by omega)]
theorem bin_self (n : Nat) : bin n n = 1 := by
  induction n with
  | zero => rfl
  | succ n ih => rw [bin, ih, bin_gt n (n + 1) (by omega)]

/-- A row's steps. -/
theorem bin_up : ∀ (n k : Nat), bin (n + 1) (k + 1) * (k + 1) = bin n k * (n + 1) := by
  intro n
  induction n with
  | zero =>
    intro k
    cases k with
    | zero => rfl
    | succ k => simp [bin]
  | succ n ih =>
    intro k
    cases k with
    | zero =>
      have h := ih 0
      simp only [Nat.zero_add, Nat.mul_one, bin_zero] at h ⊢
      rw [bin, h, bin_zero]
      omega
    | succ k =>
      have h1 := ih k
      have h2 := ih (k + 1)
      have e1 : bin (n + 1 + 1) (k + 1 + 1) = bin (n + 1) (k + 1) + bin (n + 1) (k + 1 + 1) := rfl
      have e2 : bin (n + 1) (k + 1) = bin n k + bin n (k + 1) := rfl
      rw [e1, Nat.add_mul, h2]
      have e3 : bin (n + 1) (k + 1) * (k + 1 + 1) = bin (n + 1) (k + 1) * (k + 1) + bin (n + 1) (k + 1) := by rw [Nat.mul_add, Nat.mul_one]
      rw [e3, h1]
      have e4 : bin (n + 1) (k + 1) * (n + 1 + 1) = bin (n + 1) (k + 1) * (n + 1) + bin (n + 1) (k + 1) := by rw [Nat.mul_add, Nat.mul_one]
      rw [e4]
      have e5 : bin (n + 1) (k + 1) * (n + 1) = bin n k * (n + 1) + bin n (k + 1) * (n + 1) := by rw [e2, Nat.add_mul]
      rw [e5]
      omega

theorem bin_right : ∀ (n k : Nat), k ≤ n → bin n (k + 1) * (k + 1) = bin n k * (n - k) := by
  intro n k hk
  have h1 := bin_up n k
  have e1 : bin (n + 1) (k + 1) = bin n k + bin n (k + 1) := rfl
  rw [e1, Nat.add_mul] at h1
  have h2 : bin n k * (n + 1) = bin n k * (k + 1) + bin n k * (n - k) := by
    rw [← Nat.mul_add]
    congr 1
    omega
  omega

theorem bin_fac : ∀ (n c : Nat), bin (n + c) c * (fac c * fac n) = fac (n + c) := by
  intro n c
  induction c with
  | zero => simp [bin_zero, fac]
  | succ c ih =>
    have h := bin_up (n + c) c
    have e1 : fac (c + 1) = (c + 1) * fac c := rfl
    have e2 : fac (n + (c + 1)) = (n + c + 1) * fac (n + c) := rfl
    have e3 : bin (n + (c + 1)) (c + 1) = bin (n + c + 1) (c + 1) := rfl
    rw [e1, e2, e3, ← ih]
    calc bin (n + c + 1) (c + 1) * ((c + 1) * fac c * fac n) = (bin (n + c + 1) (c + 1) * (c + 1)) * (fac c * fac n) := by rw [Nat.mul_assoc, Nat.mul_assoc]
      _ = (bin (n + c) c * (n + c + 1)) * (fac c * fac n) := by rw [h]
      _ = (n + c + 1) * (bin (n + c) c * (fac c * fac n)) := by rw [Nat.mul_comm (bin (n + c) c) (n + c + 1), Nat.mul_assoc]

theorem bin_pow (m : Nat) : ∀ (n c : Nat), c ≤ n → bin n c * m ^ (n - c) ≤ (m + 1) ^ n := by
  intro n
  induction n with
  | zero => intro c h; obtain rfl : c = 0 := by omega
            simp [bin]
  | succ n ih =>
    intro c h
    cases c with
    | zero =>
      rw [bin_zero, Nat.one_mul]
      exact Nat.pow_le_pow_left (by omega) _
    | succ c =>
      have e1 : bin (n + 1) (c + 1) = bin n c + bin n (c + 1) := rfl
      rw [e1, Nat.add_mul, show n + 1 - (c + 1) = n - c by omega]
      have h1 := ih c (by omega)
      have h2 : bin n (c + 1) * m ^ (n - c) ≤ m * (m + 1) ^ n := by
        by_cases hc : c + 1 ≤ n
        · have := ih (c + 1) hc
          rw [show n - c = (n - (c + 1)) + 1 by omega, Nat.pow_succ, ← Nat.mul_assoc, Nat.mul_comm m]
          exact Nat.mul_le_mul_right _ this
        · rw [bin_gt n (c + 1) (by omega)]
          simp
      have h3 : (m + 1) ^ (n + 1) = (m + 1) ^ n + m * (m + 1) ^ n := by rw [Nat.pow_succ, Nat.mul_add, Nat.mul_one, Nat.mul_comm m]; omega
      omega

theorem bin_le (n c : Nat) : bin n c ≤ 2 ^ n := by
  by_cases h : c ≤ n
  · have := bin_pow 1 n c h
    simpa using this
  · rw [bin_gt n c (by omega)]
    exact Nat.zero_le _
theorem bin_ge (n c : Nat) (h : c ≤ n) : 1 ≤ bin n c := by
  have h1 := bin_fac (n - c) c
  rw [show n - c + c = n by omega] at h1
  rcases Nat.eq_zero_or_pos (bin n c) with h0 | h0
  · rw [h0] at h1
    have := fac_pos n
    omega
  · exact h0

/-- Ways as the model counts them: prefix by prefix. -/
def wP : List Nat → Nat → Nat
  | [], _ => 1
  | c :: cs, s => bin (s + c) c * wP cs (s + c)
/-- .. and as the program does: what is left. -/
def rP : List Nat → Nat → Nat
  | [], _ => 1
  | c :: cs, n => bin n c * rP cs (n - c)
def facs : List Nat → Nat
  | [] => 1
  | c :: cs => fac c * facs cs

theorem facs_pos (cs : List Nat) : 0 < facs cs := by
  induction cs with
  | nil => decide
  | cons c cs ih => exact Nat.mul_pos (fac_pos c) ih

theorem wP_fac : ∀ (cs : List Nat) (s : Nat), wP cs s * (fac s * facs cs) = fac (s + cs.sum) := by
  intro cs
  induction cs with
  | nil => intro s; simp [wP, facs]
  | cons c cs ih =>
    intro s
    have h1 := ih (s + c)
    have h2 := bin_fac s c
    rw [wP, facs, List.sum_cons, ← Nat.add_assoc, ← h1, ← h2]
    generalize bin (s + c) c = a
    generalize wP cs (s + c) = w
    generalize fac c = x
    generalize fac s = y
    generalize facs cs = z
    ac_rfl

theorem rP_fac : ∀ (cs : List Nat), rP cs cs.sum * facs cs = fac cs.sum := by
  intro cs
  induction cs with
  | nil => rfl
  | cons c cs ih =>
    have h2 := bin_fac cs.sum c
    rw [rP, facs, List.sum_cons, show c + cs.sum - c = cs.sum by omega, Nat.add_comm c, ← h2, ← ih]
    generalize bin (cs.sum + c) c = a
    generalize rP cs cs.sum = w
    generalize fac c = x
    generalize facs cs = z
    ac_rfl

theorem rP_le : ∀ (cs : List Nat), rP cs cs.sum ≤ cs.length ^ cs.sum := by
  intro cs
  induction cs with
  | nil => simp [rP]
  | cons c cs ih =>
    rw [rP, List.sum_cons, show c + cs.sum - c = cs.sum by omega, List.length_cons]
    have h := bin_pow cs.length (c + cs.sum) c (by omega)
    rw [show c + cs.sum - c = cs.sum by omega] at h
    exact Nat.le_trans (Nat.mul_le_mul_left _ ih) h

theorem wP_rP (cs : List Nat) : wP cs 0 = rP cs cs.sum := by
  have h1 := wP_fac cs 0
  have h2 := rP_fac cs
  rw [Nat.zero_add, ← h2] at h1
  simp only [fac, Nat.one_mul] at h1
  exact Nat.eq_of_mul_eq_mul_right (facs_pos cs) h1

theorem rP_ge : ∀ (cs : List Nat), 1 ≤ rP cs cs.sum := by
  intro cs
  have h := rP_fac cs
  rcases Nat.eq_zero_or_pos (rP cs cs.sum) with h0 | h0
  · rw [h0] at h
    have := fac_pos cs.sum
    omega
  · exact h0

/-- Both count the same. -/
theorem ways_same (c : Nat) (cs : List Nat) (hS : 1 ≤ cs.sum) (hc : 1 ≤ c) : wP (c :: cs) 0 = wP ((c - 1) :: cs) 0 + bin (c + cs.sum - 1) c * rP cs cs.sum := by
  obtain ⟨S, hS'⟩ : ∃ S, cs.sum = S + 1 := ⟨cs.sum - 1, by omega⟩
  obtain ⟨d, rfl⟩ : ∃ d, c = d + 1 := ⟨c - 1, by omega⟩
  simp only [wP, Nat.zero_add, bin_self, Nat.one_mul, Nat.add_sub_cancel]
  have hA := wP_fac cs (d + 1)
  have hB := wP_fac cs d
  have hR := rP_fac cs
  have hX := bin_fac S (d + 1)
  rw [hS'] at hA hB hR ⊢
  rw [show d + 1 + (S + 1) - 1 = S + (d + 1) by omega]
  have e1 : fac (d + 1) = (d + 1) * fac d := rfl
  have e2 : fac (S + 1) = (S + 1) * fac S := rfl
  have e3 : fac (d + 1 + (S + 1)) = (S + (d + 1) + 1) * fac (S + (d + 1)) := by rw [show d + 1 + (S + 1) = S + (d + 1) + 1 by omega]; rfl
  have e4 : fac (d + (S + 1)) = fac (S + (d + 1)) := by rw [show d + (S + 1) = S + (d + 1) by omega]
  have hpos : 0 < fac (d + 1) * facs cs := Nat.mul_pos (fac_pos _) (facs_pos _)
  apply Nat.eq_of_mul_eq_mul_right hpos
  rw [hA, Nat.add_mul, e3]
  have p1 : wP cs d * (fac (d + 1) * facs cs) = (d + 1) * fac (S + (d + 1)) := by
    rw [← e4, ← hB, e1]
    generalize wP cs d = w
    generalize fac d = x
    generalize facs cs = z
    ac_rfl
  have p2 : bin (S + (d + 1)) (d + 1) * rP cs (S + 1) * (fac (d + 1) * facs cs) = (S + 1) * fac (S + (d + 1)) := by
    rw [← hX]
    have : bin (S + (d + 1)) (d + 1) * rP cs (S + 1) * (fac (d + 1) * facs cs) = bin (S + (d + 1)) (d + 1) * fac (d + 1) * (rP cs (S + 1) * facs cs) := by ac_rfl
    rw [this, hR, e2]
    ac_rfl
  rw [p1, p2, ← Nat.add_mul]
  congr 1
  omega

theorem ways_same0 (cs : List Nat) : wP (0 :: cs) 0 = bin (0 + cs.sum - 1) 0 * rP cs cs.sum := by
  rw [bin_zero, Nat.one_mul, wP]
  simp only [Nat.add_zero, bin_zero, Nat.one_mul]
  exact wP_rP cs

theorem bin_mono (s : Nat) : ∀ (c j : Nat), j ≤ c → bin (s + j) j ≤ bin (s + c) c := by
  intro c
  induction c with
  | zero => intro j h; obtain rfl : j = 0 := by omega
            exact Nat.le_refl _
  | succ c ih =>
    intro j h
    by_cases e : j = c + 1
    · subst e; exact Nat.le_refl _
    · refine Nat.le_trans (ih j (by omega)) ?_
      have : bin (s + (c + 1)) (c + 1) = bin (s + c) c + bin (s + c) (c + 1) := rfl
      omega

/-- One step of choose. -/
theorem choose_step (n i : Nat) (h : i < n) : ((bin n i : Nat) : Int) * ((n : Int) - (i : Int)) / ((i : Int) + 1) = ((bin n (i + 1) : Nat) : Int) := by
  have h1 := bin_right n i (by omega)
  have h2 : ((bin n i : Nat) : Int) * ((n : Int) - (i : Int)) = ((bin n (i + 1) : Nat) : Int) * ((i : Int) + 1) := by
    have e : ((n : Int) - (i : Int)) = ((n - i : Nat) : Int) := by omega
    rw [e, ← Int.natCast_mul, ← h1]
    push_cast
    rfl
  rw [h2]
  exact Int.mul_ediv_cancel _ (by omega)

theorem choose_bd (n i : Nat) (hn : n ≤ 40) (h : i ≤ n) : 0 ≤ ((bin n i : Nat) : Int) * ((n : Int) - (i : Int)) ∧ ((bin n i : Nat) : Int) * ((n : Int) - (i : Int)) ≤ 100000000000000 := by
  have h1 : bin n i ≤ 2 ^ 40 := Nat.le_trans (bin_le n i) (Nat.pow_le_pow_right (by decide) hn)
  have e : ((n : Int) - (i : Int)) = ((n - i : Nat) : Int) := by omega
  have h2 : bin n i * (n - i) ≤ 2 ^ 40 * 40 := Nat.mul_le_mul h1 (by omega)
  rw [e, ← Int.natCast_mul]
  have h3 : (2 : Nat) ^ 40 * 40 = 43980465111040 := by decide
  omega

/-- One step of the model's count. -/
theorem ways_step (W s k : Nat) : ((W * bin (s + k) k : Nat) : Int) * ((s : Int) + (k : Int) + 1) / ((k : Int) + 1) = ((W * bin (s + (k + 1)) (k + 1) : Nat) : Int) := by
  have h1 := bin_up (s + k) k
  have h2 : ((W * bin (s + k) k : Nat) : Int) * ((s : Int) + (k : Int) + 1) = ((W * bin (s + (k + 1)) (k + 1) : Nat) : Int) * ((k : Int) + 1) := by
    have e1 : ((s : Int) + (k : Int) + 1) = ((s + k + 1 : Nat) : Int) := by omega
    have e2 : ((k : Int) + 1) = ((k + 1 : Nat) : Int) := by omega
    rw [e1, e2, ← Int.natCast_mul, ← Int.natCast_mul]
    congr 1
    rw [Nat.mul_assoc, ← h1, ← Nat.mul_assoc]
    rfl
  rw [h2]
  exact Int.mul_ediv_cancel _ (by omega)

theorem ways_bd (W s k M : Nat) (hW : W * bin (s + k) k ≤ M) (hM : M ≤ 100000000000000) (hs : s + k + 1 ≤ 1000) :
    0 ≤ ((W * bin (s + k) k : Nat) : Int) * ((s : Int) + (k : Int) + 1) ∧ ((W * bin (s + k) k : Nat) : Int) * ((s : Int) + (k : Int) + 1) ≤ 100000000000000000 := by
  have e1 : ((s : Int) + (k : Int) + 1) = ((s + k + 1 : Nat) : Int) := by omega
  have h2 : W * bin (s + k) k * (s + k + 1) ≤ 100000000000000 * 1000 := Nat.mul_le_mul (by omega) hs
  rw [e1, ← Int.natCast_mul]
  omega

theorem wP_step (cs : List Nat) (i s : Nat) (h : i < cs.length) : wP (cs.drop i) s = bin (s + cs[i]) cs[i] * wP (cs.drop (i + 1)) (s + cs[i]) := by
  rw [List.drop_eq_getElem_cons h]; rfl
theorem wP_pos : ∀ (cs : List Nat) (s : Nat), 1 ≤ wP cs s := by
  intro cs
  induction cs with
  | nil => intro s; exact Nat.le_refl _
  | cons c cs ih =>
    intro s
    have h1 := bin_ge (s + c) c (by omega)
    have h2 := ih (s + c)
    exact Nat.le_trans h1 (Nat.le_mul_of_pos_right _ h2)
theorem rP_step (cs : List Nat) (i n : Nat) (h : i < cs.length) : rP (cs.drop i) n = bin n cs[i] * rP (cs.drop (i + 1)) (n - cs[i]) := by
  rw [List.drop_eq_getElem_cons h]; rfl

theorem nsum_drop (cs : List Nat) (i : Nat) (h : i < cs.length) : (cs.drop i).sum = cs[i] + (cs.drop (i + 1)).sum := by
  rw [List.drop_eq_getElem_cons h, List.sum_cons]
theorem nsum_take (cs : List Nat) (i : Nat) (h : i < cs.length) : (cs.take (i + 1)).sum = (cs.take i).sum + cs[i] := by
  rw [List.take_add_one, List.getElem?_eq_getElem h, List.sum_append]; simp
theorem nsum_take_le (cs : List Nat) (i : Nat) : (cs.take i).sum ≤ cs.sum := by
  have h : cs.sum = (cs.take i).sum + (cs.drop i).sum := by rw [← List.sum_append, List.take_append_drop]
  omega

end Go.Proofs.Ytecnalkjlilgmab
