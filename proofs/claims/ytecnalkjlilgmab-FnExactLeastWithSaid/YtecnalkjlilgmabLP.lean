/-
  The least number with given counts: plain mathematics.
-/
import Derived.Test.YtecnalkjlilgmabCN
import Derived.Test.YtecnalkjlilgmabR2
namespace Go.Proofs.Ytecnalkjlilgmab
set_option linter.unusedVariables false
set_option linter.unusedSimpArgs false

/-- Each digit as often as it is counted. -/
def flat : List Nat → Nat → List Int
  | [], _ => []
  | c :: cs, d => List.replicate c (d : Int) ++ flat cs (d + 1)

theorem flat_step (cs : List Nat) (k s : Nat) (h : k < cs.length) : flat (cs.drop k) s = List.replicate cs[k] (s : Int) ++ flat (cs.drop (k + 1)) (s + 1) := by
  rw [List.drop_eq_getElem_cons h]; rfl
theorem flat_len : ∀ (cs : List Nat) (s : Nat), (flat cs s).length = cs.sum := by
  intro cs
  induction cs with
  | nil => intro s; rfl
  | cons c cs ih => intro s; simp [flat, ih]
theorem flat_mem : ∀ (cs : List Nat) (s : Nat) (x : Int), x ∈ flat cs s → (s : Int) ≤ x ∧ x < (s : Int) + cs.length := by
  intro cs
  induction cs with
  | nil => intro s x h; simp [flat] at h
  | cons c cs ih =>
    intro s x h
    rw [flat, List.mem_append] at h
    rcases h with h | h
    · have := (List.mem_replicate.1 h).2
      simp
      omega
    · have := ih (s + 1) x h
      simp
      omega
theorem flat_none : ∀ (cs : List Nat) (s : Nat), (∀ j (h : j < cs.length), cs[j] = 0) → flat cs s = [] := by
  intro cs
  induction cs with
  | nil => intro s _; rfl
  | cons c cs ih =>
    intro s h
    have h0 := h 0 (by simp)
    simp at h0
    subst h0
    rw [flat, ih (s + 1) (fun j hj => by have := h (j + 1) (by simpa using hj); simpa using this)]
    rfl
theorem flat_first : ∀ (cs : List Nat) (s p : Nat) (hp : p < cs.length), (∀ j (h : j < cs.length), j < p → cs[j] = 0) → 0 < cs[p] → flat cs s = ((s + p : Nat) : Int) :: flat (cs.set p (cs[p] - 1)) s := by
  intro cs
  induction cs with
  | nil => intro s p hp; simp at hp
  | cons c cs ih =>
    intro s p hp h hpos
    cases p with
    | zero =>
      obtain ⟨c', rfl⟩ : ∃ c', c = c' + 1 := ⟨c - 1, by simp at hpos; omega⟩
      simp [flat, List.replicate_succ]
    | succ p =>
      have h0 := h 0 (by simp) (by omega)
      simp at h0
      subst h0
      have hp' : p < cs.length := by simpa using hp
      have := ih (s + 1) p hp' (fun j hj hjp => by have := h (j + 1) (by simpa using hj) (by omega); simpa using this) (by simpa using hpos)
      simp only [flat, List.replicate_zero, List.nil_append, List.set_cons_succ, List.getElem_cons_succ]
      rw [this]
      congr 1
      omega

/-- The digits of the least number: none if there is no digit but zeros, and not just one. -/
def lead : List Nat → List Int
  | [] => []
  | c :: cs => match flat cs 1 with
    | [] => if c = 1 then [0] else []
    | f :: t => f :: (List.replicate c 0 ++ t)

/-- What LeastWith answers. -/
def RLeast (b : Int) (cs : List Nat) : Option Int := if cs.sum ≤ 40 ∧ (lead cs).length ≠ 0 then numF b (lead cs) 0 else none

theorem lead_cons {c : Nat} {cs : List Nat} {f : Int} {t : List Int} (h : flat cs 1 = f :: t) : lead (c :: cs) = f :: (List.replicate c 0 ++ t) := by
  simp [lead, h]
theorem lead_nil {c : Nat} {cs : List Nat} (h : flat cs 1 = []) : lead (c :: cs) = if c = 1 then [0] else [] := by
  simp [lead, h]

/-- Too many digits: a number beyond the limit. -/
theorem numF_big (b : Int) (hb : 2 ≤ b) : ∀ (xs : List Int) (n : Int), (∀ x ∈ xs, 0 ≤ x) → 1 ≤ n → n ≤ 1000000000000 → 1000000000000 < n * 2 ^ xs.length → numF b xs n = none := by
  intro xs
  induction xs with
  | nil =>
    intro n _ hn hk hbig
    simp at hbig
    omega
  | cons d ds ih =>
    intro n h hn hk hbig
    rw [numF]
    have hd := h d (by simp)
    have h2 : 2 * n ≤ n * b := by rw [Int.mul_comm 2 n]; exact Int.mul_le_mul_of_nonneg_left hb (by omega)
    split
    · rfl
    · refine ih (n * b + d) (fun x hx => h x (by simp [hx])) (by omega) (by omega) ?_
      rw [List.length_cons, Int.pow_succ] at hbig
      have h3 : (2 * n) * 2 ^ ds.length ≤ (n * b + d) * 2 ^ ds.length := Int.mul_le_mul_of_nonneg_right (by omega) (Int.pow_nonneg (by decide))
      have h4 : n * (2 ^ ds.length * 2) = (2 * n) * 2 ^ ds.length := by
        rw [Int.mul_comm (2 ^ ds.length) 2, ← Int.mul_assoc, Int.mul_comm n 2]
      omega

theorem two40 (k : Nat) (h : 40 ≤ k) : (1099511627776 : Int) ≤ 2 ^ k := by
  obtain ⟨m, rfl⟩ : ∃ m, k = 40 + m := ⟨k - 40, by omega⟩
  rw [Int.pow_add]
  have h1 : (2 : Int) ^ 40 = 1099511627776 := by decide
  have h2 : (1 : Int) ≤ 2 ^ m := Int.pow_pos (by decide)
  rw [h1]
  omega

/-- What the program's list, its first digit exchanged, gives. -/
theorem least_prog (b : Int) (hb : 2 ≤ b) (c : Nat) (cs : List Nat) (f : Int) (t : List Int) (hlen : ((c :: cs).length : Int) = b) (hf : flat cs 1 = f :: t) :
    numD b (f :: (List.replicate c 0 ++ t)) = RLeast b (c :: cs) := by
  have hmem : ∀ x ∈ f :: t, 1 ≤ x ∧ x ≤ b - 1 := by
    intro x hx
    rw [← hf] at hx
    have := flat_mem cs 1 x hx
    simp at hlen
    omega
  have hall : ∀ x ∈ f :: (List.replicate c 0 ++ t), 0 ≤ x ∧ x ≤ b - 1 := by
    intro x hx
    rcases List.mem_cons.1 hx with rfl | hx
    · have := hmem x (by simp); omega
    · rcases List.mem_append.1 hx with hx | hx
      · have := (List.mem_replicate.1 hx).2; omega
      · have := hmem x (by simp [hx]); omega
  have hf1 := hmem f (by simp)
  have hA : areD b (f :: (List.replicate c 0 ++ t)) = true := by
    have h1 : allIn 0 (b - 1) (f :: (List.replicate c 0 ++ t)) = true := (allIn_iff _ _ _).2 hall
    have h2 : f ≠ 0 := by omega
    simp [areD, h1, h2]
  have hs : (c :: cs).sum = c + (t.length + 1) := by
    have := flat_len cs 1
    rw [hf] at this
    simp at this ⊢
    omega
  rw [numD, if_pos hA, RLeast, lead_cons hf]
  by_cases h40 : (c :: cs).sum ≤ 40
  · rw [if_pos ⟨h40, by simp⟩]
  · rw [if_neg (fun h => h40 h.1), numF]
    have e : (0 : Int) * b + f = f := by omega
    rw [e]
    split
    · rfl
    · refine numF_big b hb _ f (fun x hx => (hall x (by simp only [List.mem_cons]; exact .inr hx)).1) hf1.1 (by omega) ?_
      have h2 := two40 (List.replicate c (0 : Int) ++ t).length (by simp; omega)
      have h3 : 1 * 2 ^ (List.replicate c (0 : Int) ++ t).length ≤ f * 2 ^ (List.replicate c (0 : Int) ++ t).length := Int.mul_le_mul_of_nonneg_right hf1.1 (by omega)
      omega

theorem least_prog0 (b : Int) (hb : 2 ≤ b) (c : Nat) (cs : List Nat) (hf : flat cs 1 = []) : numD b (List.replicate c 0) = RLeast b (c :: cs) := by
  have hs : (c :: cs).sum = c := by
    have := flat_len cs 1
    rw [hf] at this
    simp at this ⊢
    omega
  rw [RLeast, lead_nil hf, hs]
  by_cases h1 : c = 1
  · subst h1
    have : areD b [0] = true := by simp [areD, allIn]; omega
    simp [numD, this]
  · have : areD b (List.replicate c 0) = false := by
      rcases Nat.eq_zero_or_pos c with h0 | h0
      · subst h0; rfl
      · obtain ⟨d, rfl⟩ : ∃ d, c = d + 2 := ⟨c - 2, by omega⟩
        simp [areD, List.replicate_succ]
    simp [numD, this, h1]

/-- The exchange. -/
theorem swap_first (c : Nat) (f : Int) (t : List Int) : ((List.replicate c 0 ++ f :: t).set 0 f).set c (if c = 0 then f else 0) = f :: (List.replicate c 0 ++ t) := by
  cases c with
  | zero => simp
  | succ c =>
    simp only [List.replicate_succ, List.cons_append, List.set_cons_zero, List.set_cons_succ]
    congr 1
    rw [List.set_append, if_neg (by simp), List.length_replicate, Nat.sub_self, List.set_cons_zero]
    rw [if_neg (by omega)]
    have : (0 : Int) :: (List.replicate c 0 ++ t) = List.replicate c 0 ++ (0 :: t) := by
      rw [← List.cons_append, ← List.replicate_succ, List.replicate_succ', List.append_assoc]
      rfl
    exact this.symm

end Go.Proofs.Ytecnalkjlilgmab
