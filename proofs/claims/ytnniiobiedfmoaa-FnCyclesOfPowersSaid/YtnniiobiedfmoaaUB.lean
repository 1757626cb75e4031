/-
  Runs into cycles, from a number on: plain mathematics. Where numbers begin to fall.
-/
import Derived.Test.YtnniiobiedfmoaaUA
namespace Go.Proofs.Ytnniiobiedfmoaa
set_option linter.unusedVariables false
set_option linter.unusedSimpArgs false

/-- Is the number behind k + 1 steps among the k + 1 before it? -/
def bk (f : Nat → Nat) (x k : Nat) : Bool := (List.range (k + 1)).any fun i => it f i x == it f (k + 1) x
theorem bk_iff {f : Nat → Nat} {x k : Nat} : bk f x k = true ↔ ∃ i, i ≤ k ∧ it f i x = it f (k + 1) x := by
  simp only [bk, List.any_eq_true, List.mem_range, beq_iff_eq]
  constructor
  · rintro ⟨i, h1, h2⟩; exact ⟨i, by omega, h2⟩
  · rintro ⟨i, h1, h2⟩; exact ⟨i, by omega, h2⟩

/-- How many numbers a run has whose numbers behind the first are below M. -/
def rl (f : Nat → Nat) (M x : Nat) : Nat := fst (bk f x) M + 1
/-- How many of them are not on the cycle. -/
def tl (f : Nat → Nat) (M x : Nat) : Nat := fst (fun i => it f i x == it f (rl f M x) x) M

theorem rl_ex {f : Nat → Nat} {M x : Nat} (h : ∀ k, it f (k + 1) x < M) : ∃ k, k ≤ M ∧ bk f x k = true := by
  obtain ⟨i, j, h1, h2, h3⟩ := pigeon M (fun i => it f (i + 1) x) (fun i _ => h i)
  exact ⟨j, h2, bk_iff.2 ⟨i + 1, by omega, h3⟩⟩

theorem rl_spec {f : Nat → Nat} {M x : Nat} (h : ∀ k, it f (k + 1) x < M) : 1 ≤ rl f M x ∧ rl f M x ≤ M + 1 ∧ tl f M x < rl f M x ∧ it f (tl f M x) x = it f (rl f M x) x ∧
    (∀ i, i < tl f M x → it f i x ≠ it f (rl f M x) x) ∧ (∀ i j, i < j → j < rl f M x → it f i x ≠ it f j x) := by
  obtain ⟨h1, h2, h3⟩ := fst_spec M (bk f x) (rl_ex h)
  obtain ⟨i, h4, h5⟩ := bk_iff.1 h2
  have e : rl f M x = fst (bk f x) M + 1 := rfl
  obtain ⟨k1, k2, k3⟩ := fst_spec M (fun i => it f i x == it f (rl f M x) x) ⟨i, by omega, by rw [e]; simpa using h5⟩
  have k2' : it f (tl f M x) x = it f (rl f M x) x := eq_of_beq k2
  refine ⟨by omega, by omega, ?_, k2', ?_, ?_⟩
  · have : ¬ i < tl f M x := fun hi => by
      have h7 : (it f i x == it f (rl f M x) x) = false := k3 i hi
      rw [e, h5] at h7
      simp at h7
    omega
  · intro j hj he
    have h7 : (it f j x == it f (rl f M x) x) = false := k3 j hj
    rw [he] at h7
    simp at h7
  · intro a b hab hb he
    have := h3 (b - 1) (by omega)
    rw [← Bool.not_eq_true, bk_iff] at this
    exact this ⟨a, by omega, by rw [show b - 1 + 1 = b from by omega]; exact he⟩

/-- The run is over where a number comes again. -/
theorem rl_at {f : Nat → Nat} {M x k i : Nat} (h : ∀ k, it f (k + 1) x < M) (hk : k ≤ rl f M x) (hi : i < k) (he : it f i x = it f k x) : k = rl f M x ∧ i = tl f M x := by
  obtain ⟨h1, h2, h3, h4, h5, h6⟩ := rl_spec h
  have hk2 : k = rl f M x := by
    by_cases hlt : k < rl f M x
    · exact absurd he (h6 i k hi hlt)
    · omega
  subst hk2
  refine ⟨rfl, ?_⟩
  by_cases ha : i < tl f M x
  · exact absurd he (h5 i ha)
  · by_cases hb : tl f M x < i
    · exact absurd (h4.trans he.symm) (h6 _ _ hb hi)
    · omega

theorem rl_on {f : Nat → Nat} {M x k : Nat} (h : ∀ k, it f (k + 1) x < M) (hk : k ≤ rl f M x) (hn : ∀ i, i < k → it f i x ≠ it f k x) : k < rl f M x := by
  obtain ⟨h1, h2, h3, h4, h5, h6⟩ := rl_spec h
  by_cases he : k = rl f M x
  · subst he
    exact absurd h4 (hn _ h3)
  · omega

/-- The numbers of a run. -/
def run (f : Nat → Nat) (M x : Nat) : List Int := (List.range (rl f M x)).map fun j => ((it f j x : Nat) : Int)

/-- The bound of all numbers behind the first of a run. -/
def PM : Nat := 1012501
theorem it_ps {b p x : Nat} (hb : 2 ≤ b) (hb' : b ≤ 16) (hp : p ≤ 4) (hx : x ≤ 1000000000000) (k : Nat) : it (ps b p) (k + 1) x < PM := by
  have h : ∀ k, it (ps b p) k x ≤ 1000000000000 := by
    intro k
    induction k with
    | zero => exact hx
    | succ k ih => have := ps_le4 hb hb' hp ih; show ps b p (it (ps b p) k x) ≤ _; omega
  have := ps_le4 hb hb' hp (h k)
  show ps b p (it (ps b p) k x) < 1012501
  omega
theorem it_ps_le {b p x : Nat} (hb : 2 ≤ b) (hb' : b ≤ 16) (hp : p ≤ 4) (hx : x ≤ 1000000000000) : ∀ k, it (ps b p) k x ≤ 1000000000000
  | 0 => hx
  | k + 1 => by have := it_ps hb hb' hp hx k; unfold PM at this; omega

/-- Do numbers with k + 1 digits fall? -/
def fallsAt (b p k : Nat) : Bool := decide ((k + 1) * (b - 1) ^ p < b ^ k)
/-- The least number of digits from which on they do. -/
def ff (b p : Nat) : Nat := fst (fallsAt b p) 40 + 1
/-- The greatest power sum of the numbers with fewer digits. -/
def gs (b p : Nat) : Nat := (ff b p - 1) * (b - 1) ^ p

/-- A power, or 10^18 if it is greater. -/
def lim (x : Nat) : Nat → Nat → Nat
  | 0, out => out
  | p + 1, out => if 1000000000000000000 / x < out then 1000000000000000000 else lim x p (out * x)
/-- The model's search. -/
def fsp (b p : Nat) : Nat → Nat → Nat → Nat
  | 0, _, k => k
  | n + 1, last, k => fsp b p n (last + 1) (if lim b (last - 1) 1 ≤ last * (b - 1) ^ p then last + 1 else k)

def ffOk (b p : Nat) : Bool := decide (fsp b p 40 1 1 = ff b p) && fallsAt b p (ff b p - 1) && decide (2 ≤ ff b p) && decide (ff b p ≤ 40) && decide (b ^ (ff b p - 1) ≤ 1000000000000000) &&
  (List.range (ff b p - 1)).all (fun j => !fallsAt b p j)
theorem ff_allB : (List.range 15).all (fun b => (List.range 8).all fun p => ffOk (b + 2) (p + 1)) = true := by decide +kernel
theorem ff_all (b p : Nat) (hb : 2 ≤ b) (hb' : b ≤ 16) (hp : 1 ≤ p) (hp' : p ≤ 8) : fsp b p 40 1 1 = ff b p ∧ fallsAt b p (ff b p - 1) = true ∧ 2 ≤ ff b p ∧ ff b p ≤ 40 ∧ b ^ (ff b p - 1) ≤ 1000000000000000 ∧
    (List.range (ff b p - 1)).all (fun j => !fallsAt b p j) = true := by
  have h := ff_allB
  simp only [List.all_eq_true, List.mem_range] at h
  have h1 : ffOk (b - 2 + 2) (p - 1 + 1) = true := h (b - 2) (by omega) (p - 1) (by omega)
  rw [show b - 2 + 2 = b from by omega, show p - 1 + 1 = p from by omega] at h1
  unfold ffOk at h1
  simp only [Bool.and_eq_true, decide_eq_true_eq] at h1
  obtain ⟨⟨⟨⟨⟨a1, a2⟩, a3⟩, a4⟩, a5⟩, a6⟩ := h1
  exact ⟨a1, a2, a3, a4, a5, a6⟩

theorem ff_spec {b p : Nat} (hb : 2 ≤ b) (hb' : b ≤ 16) (hp : 1 ≤ p) (hp' : p ≤ 8) : 2 ≤ ff b p ∧ ff b p ≤ 40 ∧ ff b p * (b - 1) ^ p < b ^ (ff b p - 1) ∧ b ^ (ff b p - 1) ≤ 1000000000000000 ∧ (∀ j, 1 ≤ j → j < ff b p → b ^ (j - 1) ≤ j * (b - 1) ^ p) ∧ fsp b p 40 1 1 = ff b p := by
  obtain ⟨h1, h2, h3, h4, h5, h6⟩ := ff_all b p hb hb' hp hp'
  refine ⟨h3, h4, ?_, h5, fun j hj1 hj2 => ?_, h1⟩
  · simp only [fallsAt, decide_eq_true_eq] at h2
    rwa [show ff b p - 1 + 1 = ff b p from by omega] at h2
  · simp only [List.all_eq_true, List.mem_range, Bool.not_eq_true', fallsAt, decide_eq_false_iff_not] at h6
    have := h6 (j - 1) (by omega)
    rw [show j - 1 + 1 = j from by omega] at this
    omega

end Go.Proofs.Ytnniiobiedfmoaa
