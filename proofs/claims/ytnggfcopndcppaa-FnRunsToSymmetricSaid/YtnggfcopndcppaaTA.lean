/-
  Sums of places with carries: plain mathematics of numbers added to themselves backwards.
-/
import Derived.Test.YtnggfcopndcppaaW
namespace Go.Proofs.Ytnggfcopndcppaa
set_option linter.unusedVariables false
set_option linter.unusedSimpArgs false

/-- What is carried out of places with given sums. -/
def coA (b : Int) : List Int → Int → Int
  | [], c => c
  | s :: ss, c => coA b ss ((s + c) / b)
/-- What is carried from each place. -/
def cyA (b : Int) : List Int → Int → List Int
  | [], _ => []
  | s :: ss, c => ((s + c) / b) :: cyA b ss ((s + c) / b)
/-- What stays at each place. -/
def dgA (b : Int) : List Int → Int → List Int
  | [], _ => []
  | s :: ss, c => ((s + c) % b) :: dgA b ss ((s + c) / b)

theorem coA_snoc (b : Int) (ss : List Int) (s c : Int) : coA b (ss ++ [s]) c = (s + coA b ss c) / b := by
  induction ss generalizing c with
  | nil => rfl
  | cons a t ih => exact ih _
theorem cyA_snoc (b : Int) (ss : List Int) (s c : Int) : cyA b (ss ++ [s]) c = cyA b ss c ++ [(s + coA b ss c) / b] := by
  induction ss generalizing c with
  | nil => rfl
  | cons a t ih => simp only [List.cons_append, cyA, coA, ih]
theorem dgA_snoc (b : Int) (ss : List Int) (s c : Int) : dgA b (ss ++ [s]) c = dgA b ss c ++ [(s + coA b ss c) % b] := by
  induction ss generalizing c with
  | nil => rfl
  | cons a t ih => simp only [List.cons_append, dgA, coA, ih]
theorem cyA_len (b : Int) (ss : List Int) (c : Int) : (cyA b ss c).length = ss.length := by
  induction ss generalizing c with
  | nil => rfl
  | cons a t ih => simp only [cyA, List.length_cons, ih]
theorem dgA_len (b : Int) (ss : List Int) (c : Int) : (dgA b ss c).length = ss.length := by
  induction ss generalizing c with
  | nil => rfl
  | cons a t ih => simp only [dgA, List.length_cons, ih]

/-- The sums of the places, the last one first: each digit f times and that at the other end g times. -/
def smA (f g : Int) (xs : List Int) : List Int := List.zipWith (fun x y => f * x + g * y) xs.reverse xs

theorem smA_len (f g : Int) (xs : List Int) : (smA f g xs).length = xs.length := by simp [smA]
theorem smA_at (f g : Int) (xs : List Int) (k : Nat) (h : k < xs.length) : (smA f g xs)[k]'(by rw [smA_len]; exact h) = f * xs[xs.length - 1 - k] + g * xs[k] := by
  simp [smA]

/-- Sums that two digits, or two and their opposites, can have. -/
def InS (b : Int) (ss : List Int) : Prop := ∀ s ∈ ss, 1 - b ≤ s ∧ s ≤ 2 * b - 2

theorem divA (b s c : Int) (hb : 2 ≤ b) (h1 : 1 - b ≤ s) (h2 : s ≤ 2 * b - 2) (h3 : -1 ≤ c) (h4 : c ≤ 1) : -1 ≤ (s + c) / b ∧ (s + c) / b ≤ 1 := by
  constructor
  · rw [Int.le_ediv_iff_mul_le (by omega)]; omega
  · have : (s + c) / b < 2 := Int.ediv_lt_of_lt_mul (by omega) (by omega)
    omega

theorem coA_bd (b : Int) (hb : 2 ≤ b) (ss : List Int) (c : Int) (h : InS b ss) (h3 : -1 ≤ c) (h4 : c ≤ 1) : -1 ≤ coA b ss c ∧ coA b ss c ≤ 1 := by
  induction ss generalizing c with
  | nil => exact ⟨h3, h4⟩
  | cons a t ih =>
    have h1 := h a (by simp)
    have h2 := divA b a c hb h1.1 h1.2 h3 h4
    exact ih _ (fun s hs => h s (by simp [hs])) h2.1 h2.2

/-- Go's rounding: one base more makes a place a number that is no less than 0. -/
theorem div_up (b p : Int) (hb : 2 ≤ b) : (p + b) / b - 1 = p / b := by
  have h := Int.add_mul_ediv_right p 1 (show b ≠ 0 by omega)
  rw [Int.one_mul] at h
  omega
theorem mod_up (b p : Int) : p - p / b * b = p % b := by
  rw [Int.emod_def, Int.mul_comm]

theorem smA_in (b f g : Int) (xs : List Int) (hx : ∀ x ∈ xs, 0 ≤ x ∧ x ≤ b - 1) (hf : f = 1 ∨ f = -1) (hg : g = 1 ∨ g = -1) (hfg : f = 1 ∨ g = 1) : InS b (smA f g xs) := by
  intro s hs
  obtain ⟨k, hk, rfl⟩ := List.getElem_of_mem hs
  rw [smA_len] at hk
  rw [smA_at f g xs k hk]
  have h1 := hx _ (List.getElem_mem (show k < xs.length from hk))
  have h2 := hx _ (List.getElem_mem (show xs.length - 1 - k < xs.length by omega))
  rcases hf with rfl | rfl <;> rcases hg with rfl | rfl <;> omega

theorem smA_pos (b : Int) (xs : List Int) (hx : ∀ x ∈ xs, 0 ≤ x ∧ x ≤ b - 1) : ∀ s ∈ smA 1 1 xs, 0 ≤ s ∧ s ≤ 2 * b - 2 := by
  intro s hs
  obtain ⟨k, hk, rfl⟩ := List.getElem_of_mem hs
  rw [smA_len] at hk
  rw [smA_at 1 1 xs k hk]
  have h1 := hx _ (List.getElem_mem (show k < xs.length from hk))
  have h2 := hx _ (List.getElem_mem (show xs.length - 1 - k < xs.length by omega))
  omega

theorem coA_pos (b : Int) (hb : 2 ≤ b) (ss : List Int) (c : Int) (h : ∀ s ∈ ss, 0 ≤ s ∧ s ≤ 2 * b - 2) (h3 : 0 ≤ c) (h4 : c ≤ 1) : 0 ≤ coA b ss c ∧ coA b ss c ≤ 1 := by
  induction ss generalizing c with
  | nil => exact ⟨h3, h4⟩
  | cons a t ih =>
    have h1 := h a (by simp)
    have h2 := divA b a c hb (by omega) h1.2 (by omega) h4
    exact ih _ (fun s hs => h s (by simp [hs])) (Int.ediv_nonneg (by omega) (by omega)) h2.2

theorem dgA_all (b : Int) (hb : 2 ≤ b) (ss : List Int) (c : Int) : ∀ x ∈ dgA b ss c, 0 ≤ x ∧ x ≤ b - 1 := by
  induction ss generalizing c with
  | nil => simp [dgA]
  | cons a t ih =>
    intro x hx
    rcases List.mem_cons.1 hx with rfl | hx
    · have h1 := Int.emod_nonneg (a + c) (show b ≠ 0 by omega)
      have h2 := Int.emod_lt_of_pos (a + c) (show 0 < b by omega)
      omega
    · exact ih _ x hx

theorem cyA_all (b : Int) (hb : 2 ≤ b) (ss : List Int) (c : Int) (h : ∀ s ∈ ss, 0 ≤ s ∧ s ≤ 2 * b - 2) (h3 : 0 ≤ c) (h4 : c ≤ 1) : ∀ x ∈ cyA b ss c, 0 ≤ x ∧ x ≤ 1 := by
  induction ss generalizing c with
  | nil => simp [cyA]
  | cons a t ih =>
    have h1 := h a (by simp)
    have h2 := divA b a c hb (by omega) h1.2 (by omega) h4
    have h0 : 0 ≤ (a + c) / b := Int.ediv_nonneg (by omega) (by omega)
    intro x hx
    rcases List.mem_cons.1 hx with rfl | hx
    · exact ⟨h0, h2.2⟩
    · exact ih _ (fun s hs => h s (by simp [hs])) h0 h2.2 x hx

/-- The last thing that is carried goes out. -/
theorem cyA_last (b : Int) (ss : List Int) (c : Int) (h : ss ≠ []) : (cyA b ss c)[ss.length - 1]? = some (coA b ss c) := by
  induction ss generalizing c with
  | nil => exact absurd rfl h
  | cons a t ih =>
    cases t with
    | nil => rfl
    | cons d u =>
      have := ih ((a + c) / b) (by simp)
      simpa [cyA, coA] using this

/-- A list written from its end on. -/
theorem backfill (n k : Nat) (ds : List Int) (d : Int) (hd : ds.length = k) (hk : k < n) :
    (List.replicate (n - k) (0 : Int) ++ ds.reverse).set (n - 1 - k) d = List.replicate (n - (k + 1)) 0 ++ (ds ++ [d]).reverse := by
  rw [List.set_append, if_pos (by simp; omega), List.reverse_append]
  rw [show n - k = (n - 1 - k) + 1 from by omega, List.replicate_succ', List.set_append, if_neg (by simp), List.length_replicate, Nat.sub_self]
  rw [show n - (k + 1) = n - 1 - k from by omega]
  simp
theorem frontfill (n k : Nat) (cs : List Int) (d : Int) (hd : cs.length = k) (hk : k < n) :
    (cs ++ List.replicate (n - k) (0 : Int)).set k d = (cs ++ [d]) ++ List.replicate (n - (k + 1)) 0 := by
  rw [List.set_append, if_neg (by omega), hd, Nat.sub_self]
  rw [show n - k = (n - (k + 1)) + 1 from by omega, List.replicate_succ]
  simp

end Go.Proofs.Ytnggfcopndcppaa
