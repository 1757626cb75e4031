/-
  Plain mathematics of maps of the numbers below n to themselves: steps, numbers on cycles, depths, periods.
-/
import Derived.Test.YtnggfcopndcppaaW2
namespace Go.Proofs.Ytnggfcopndcppaa
set_option linter.unusedVariables false
set_option linter.unusedSimpArgs false

/-- k steps. -/
def it (f : Nat → Nat) : Nat → Nat → Nat
  | 0, x => x
  | k + 1, x => f (it f k x)

theorem it_add (f : Nat → Nat) (a b x : Nat) : it f (a + b) x = it f a (it f b x) := by
  induction a with
  | zero => simp [it]
  | succ a ih => rw [Nat.succ_add]; simp only [it, ih]

theorem it_in (f : Nat → Nat) (k x : Nat) : it f (k + 1) x = it f k (f x) := it_add f k 1 x

/-- A map of the numbers below n to themselves. -/
def Into (f : Nat → Nat) (n : Nat) : Prop := ∀ j, j < n → f j < n

theorem it_lt {f : Nat → Nat} {n : Nat} (h : Into f n) (k : Nat) {x : Nat} (hx : x < n) : it f k x < n := by
  induction k with
  | zero => exact hx
  | succ k ih => exact h _ ih

theorem it_into {f : Nat → Nat} {n : Nat} (h : Into f n) (k : Nat) : Into (it f k) n := fun x hx => it_lt h k hx

theorem it_mul {f : Nat → Nat} {p y : Nat} (h : it f p y = y) (k : Nat) : it f (k * p) y = y := by
  induction k with
  | zero => simp [it]
  | succ k ih => rw [Nat.succ_mul, Nat.add_comm, it_add, ih, h]

theorem pigeon : ∀ (n : Nat) (g : Nat → Nat), (∀ i, i ≤ n → g i < n) → ∃ i j, i < j ∧ j ≤ n ∧ g i = g j
  | 0, g, h => absurd (h 0 (Nat.le_refl _)) (Nat.not_lt_zero _)
  | n + 1, g, h => by
    by_cases hc : ∃ i, i ≤ n ∧ g i = g (n + 1)
    · obtain ⟨i, hi, he⟩ := hc
      exact ⟨i, n + 1, by omega, Nat.le_refl _, he⟩
    · have hv := h (n + 1) (Nat.le_refl _)
      obtain ⟨i, j, h1, h2, h3⟩ := pigeon n (fun i => if g i < g (n + 1) then g i else g i - 1) (fun i hi => by
        have h1 := h i (by omega)
        have h2 : g i ≠ g (n + 1) := fun e => hc ⟨i, hi, e⟩
        show (if g i < g (n + 1) then g i else g i - 1) < n
        split <;> omega)
      have hi2 : g i ≠ g (n + 1) := fun e => hc ⟨i, by omega, e⟩
      have hj2 : g j ≠ g (n + 1) := fun e => hc ⟨j, by omega, e⟩
      refine ⟨i, j, h1, by omega, ?_⟩
      split at h3 <;> split at h3 <;> omega

theorem per_ex {f : Nat → Nat} {n x : Nat} (h : Into f n) (hx : x < n) : ∃ p, 1 ≤ p ∧ p ≤ n ∧ it f p (it f n x) = it f n x := by
  obtain ⟨i, j, h1, h2, h3⟩ := pigeon n (fun i => it f i x) (fun i _ => it_lt h i hx)
  refine ⟨j - i, by omega, by omega, ?_⟩
  have e1 : it f n x = it f (n - i) (it f i x) := by rw [← it_add]; congr 1; omega
  have e2 : it f (j - i) (it f n x) = it f (n - i) (it f j x) := by rw [← it_add, ← it_add]; congr 1; omega
  rw [e2, e1, h3]

/-- Is y where n steps lead from somewhere? -/
def cyc (f : Nat → Nat) (n y : Nat) : Bool := (List.range n).any fun x => it f n x == y

theorem cyc_iff {f : Nat → Nat} {n y : Nat} : cyc f n y = true ↔ ∃ x, x < n ∧ it f n x = y := by simp [cyc]

theorem cyc_lt {f : Nat → Nat} {n y : Nat} (h : Into f n) (hc : cyc f n y = true) : y < n := by
  obtain ⟨x, hx, rfl⟩ := cyc_iff.1 hc
  exact it_lt h n hx

theorem cyc_at {f : Nat → Nat} {n x : Nat} (hx : x < n) : cyc f n (it f n x) = true := cyc_iff.2 ⟨x, hx, rfl⟩

theorem cyc_per {f : Nat → Nat} {n y : Nat} (h : Into f n) (hc : cyc f n y = true) : ∃ p, 1 ≤ p ∧ p ≤ n ∧ it f p y = y := by
  obtain ⟨x, hx, rfl⟩ := cyc_iff.1 hc
  exact per_ex h hx

theorem cyc_of_per {f : Nat → Nat} {n y p : Nat} (h : Into f n) (hy : y < n) (hp : 1 ≤ p) (he : it f p y = y) : cyc f n y = true := by
  refine cyc_iff.2 ⟨it f (n * p - n) y, it_lt h _ hy, ?_⟩
  rw [← it_add]
  have hle : n ≤ n * p := Nat.le_mul_of_pos_right n hp
  rw [show n + (n * p - n) = n * p from by omega]
  exact it_mul he n

theorem cyc_step {f : Nat → Nat} {n y : Nat} (h : Into f n) (hc : cyc f n y = true) : cyc f n (f y) = true := by
  obtain ⟨x, hx, rfl⟩ := cyc_iff.1 hc
  refine cyc_iff.2 ⟨f x, h _ hx, ?_⟩
  rw [← it_in]; rfl

theorem cyc_it {f : Nat → Nat} {n y : Nat} (h : Into f n) (hc : cyc f n y = true) (k : Nat) : cyc f n (it f k y) = true := by
  induction k with
  | zero => exact hc
  | succ k ih => exact cyc_step h ih

theorem cyc_late {f : Nat → Nat} {n x : Nat} (h : Into f n) (hx : x < n) {k : Nat} (hk : n ≤ k) : cyc f n (it f k x) = true := by
  rw [show k = (k - n) + n from by omega, it_add]
  exact cyc_it h (cyc_at hx) _

/-- The least k up to N with p k (N + 1 if there is none). -/
def fst (p : Nat → Bool) : Nat → Nat
  | 0 => if p 0 then 0 else 1
  | N + 1 => if p 0 then 0 else fst (fun k => p (k + 1)) N + 1

theorem fst_eq : ∀ (N : Nat) (p : Nat → Bool) (k : Nat), k ≤ N → p k = true → (∀ j, j < k → p j = false) → fst p N = k
  | 0, p, k, hk, h1, h2 => by
    obtain rfl : k = 0 := by omega
    simp [fst, h1]
  | N + 1, p, 0, hk, h1, h2 => by simp [fst, h1]
  | N + 1, p, k + 1, hk, h1, h2 => by
    rw [fst, h2 0 (by omega)]
    simp only [Bool.false_eq_true, if_false]
    rw [fst_eq N (fun k => p (k + 1)) k (by omega) h1 (fun j hj => h2 (j + 1) (by omega))]

theorem fst_spec : ∀ (N : Nat) (p : Nat → Bool), (∃ k, k ≤ N ∧ p k = true) → fst p N ≤ N ∧ p (fst p N) = true ∧ ∀ j, j < fst p N → p j = false
  | 0, p, ⟨k, hk, h⟩ => by
    obtain rfl : k = 0 := by omega
    simp [fst, h]
  | N + 1, p, ⟨k, hk, h⟩ => by
    rw [fst]
    by_cases h0 : p 0 = true
    · simp [h0]
    · have h0' : p 0 = false := by simpa using h0
      rw [h0']
      simp only [Bool.false_eq_true, if_false]
      have hk0 : k ≠ 0 := fun e => h0 (e ▸ h)
      obtain ⟨h1, h2, h3⟩ := fst_spec N (fun k => p (k + 1)) ⟨k - 1, by omega, by
        show p (k - 1 + 1) = true
        rw [show k - 1 + 1 = k from by omega]; exact h⟩
      refine ⟨by omega, h2, fun j hj => ?_⟩
      cases j with
      | zero => exact h0'
      | succ j => exact h3 j (by omega)

/-- The depth of x: how many steps lead from it to the first number on a cycle. -/
def dep (f : Nat → Nat) (n x : Nat) : Nat := fst (fun k => cyc f n (it f k x)) n

theorem dep_spec {f : Nat → Nat} {n x : Nat} (hx : x < n) : dep f n x ≤ n ∧ cyc f n (it f (dep f n x) x) = true ∧ ∀ j, j < dep f n x → cyc f n (it f j x) = false :=
  fst_spec n (fun k => cyc f n (it f k x)) ⟨n, Nat.le_refl _, cyc_at hx⟩

theorem dep_eq {f : Nat → Nat} {n x k : Nat} (hx : x < n) (h1 : cyc f n (it f k x) = true) (h2 : ∀ j, j < k → cyc f n (it f j x) = false) : dep f n x = k := by
  refine fst_eq n _ k ?_ h1 h2
  have : ¬ n < k := fun h => by have := h2 n h; rw [cyc_at hx] at this; cases this
  omega

theorem cyc_iff_dep {f : Nat → Nat} {n x k : Nat} (h : Into f n) (hx : x < n) : cyc f n (it f k x) = true ↔ dep f n x ≤ k := by
  obtain ⟨h1, h2, h3⟩ := dep_spec (f := f) hx
  constructor
  · intro hc
    by_cases hk : k < dep f n x
    · rw [h3 k hk] at hc; cases hc
    · omega
  · intro hk
    rw [show k = (k - dep f n x) + dep f n x from by omega, it_add]
    exact cyc_it h h2 _

/-- The number of numbers on the cycle of y. -/
def per (f : Nat → Nat) (n y : Nat) : Nat := fst (fun k => it f (k + 1) y == y) n + 1

theorem per_spec {f : Nat → Nat} {n y : Nat} (h : Into f n) (hc : cyc f n y = true) : 1 ≤ per f n y ∧ per f n y ≤ n ∧ it f (per f n y) y = y ∧ ∀ j, 1 ≤ j → j < per f n y → it f j y ≠ y := by
  obtain ⟨p, h1, h2, h3⟩ := cyc_per h hc
  obtain ⟨e1, e2, e3⟩ := fst_spec n (fun k => it f (k + 1) y == y) ⟨p - 1, by omega, by
    show (it f (p - 1 + 1) y == y) = true
    rw [show p - 1 + 1 = p from by omega, h3]; simp⟩
  have hmin : ∀ j, 1 ≤ j → j < per f n y → it f j y ≠ y := fun j hj1 hj2 he => by
    have := e3 (j - 1) (by unfold per at hj2; omega)
    simp only [show j - 1 + 1 = j from by omega, he] at this
    simp at this
  have h5 : it f (per f n y) y = y := by simpa [per] using e2
  refine ⟨by unfold per; omega, ?_, h5, hmin⟩
  by_cases hp : p < per f n y
  · exact absurd h3 (hmin p h1 hp)
  · omega

theorem per_eq {f : Nat → Nat} {n y k : Nat} (h : Into f n) (hc : cyc f n y = true) (h1 : 1 ≤ k) (h2 : it f k y = y) (h3 : ∀ j, 1 ≤ j → j < k → it f j y ≠ y) : per f n y = k := by
  obtain ⟨p1, p2, p3, p4⟩ := per_spec h hc
  by_cases ha : per f n y < k
  · exact absurd p3 (h3 _ p1 ha)
  · by_cases hb : k < per f n y
    · exact absurd h2 (p4 _ h1 hb)
    · omega

theorem it_mod {f : Nat → Nat} {p y : Nat} (h : it f p y = y) (k : Nat) : it f k y = it f (k % p) y := by
  have := Nat.mod_add_div k p
  conv => lhs; rw [← this]
  rw [it_add, Nat.mul_comm, it_mul h]

theorem per_mod {f : Nat → Nat} {n y : Nat} (h : Into f n) (hc : cyc f n y = true) (k : Nat) : it f k y = y ↔ k % per f n y = 0 := by
  obtain ⟨p1, p2, p3, p4⟩ := per_spec h hc
  rw [it_mod p3 k]
  have hlt := Nat.mod_lt k (show per f n y > 0 by omega)
  constructor
  · intro he
    by_cases h0 : k % per f n y = 0
    · exact h0
    · exact absurd he (p4 _ (by omega) hlt)
  · intro h0
    rw [h0]; rfl

/-- On a cycle no two places within a round are the same. -/
theorem per_inj {f : Nat → Nat} {n y : Nat} (h : Into f n) (hc : cyc f n y = true) {i j : Nat} (hij : i < j) (hj : j < per f n y) : it f i y ≠ it f j y := by
  obtain ⟨p1, p2, p3, p4⟩ := per_spec h hc
  intro he
  have e1 : it f (per f n y - j) (it f i y) = it f (per f n y - j) (it f j y) := by rw [he]
  rw [← it_add, ← it_add, show per f n y - j + j = per f n y from by omega, p3] at e1
  exact p4 _ (by omega) (by omega) e1

/-- The numbers on the cycle of y, from it on. -/
def rnd (f : Nat → Nat) (n y : Nat) : List Nat := (List.range (per f n y)).map fun j => it f j y

theorem mem_rnd {f : Nat → Nat} {n y z : Nat} : z ∈ rnd f n y ↔ ∃ j, j < per f n y ∧ it f j y = z := by simp [rnd]

theorem rnd_len (f : Nat → Nat) (n y : Nat) : (rnd f n y).length = per f n y := by simp [rnd]

theorem mem_rnd_any {f : Nat → Nat} {n y : Nat} (h : Into f n) (hc : cyc f n y = true) (k : Nat) : it f k y ∈ rnd f n y := by
  obtain ⟨p1, p2, p3, p4⟩ := per_spec h hc
  rw [it_mod p3 k]
  exact mem_rnd.2 ⟨_, Nat.mod_lt _ (by omega), rfl⟩

theorem rnd_back {f : Nat → Nat} {n y z : Nat} (h : Into f n) (hc : cyc f n y = true) (hz : z ∈ rnd f n y) : y ∈ rnd f n z ∧ cyc f n z = true := by
  obtain ⟨j, hj, rfl⟩ := mem_rnd.1 hz
  obtain ⟨p1, p2, p3, p4⟩ := per_spec h hc
  have hcz := cyc_it h hc j
  refine ⟨?_, hcz⟩
  have := mem_rnd_any h hcz (per f n y - j)
  rw [← it_add, show per f n y - j + j = per f n y from by omega, p3] at this
  exact this

theorem rnd_trans {f : Nat → Nat} {n x y z : Nat} (h : Into f n) (hc : cyc f n x = true) (h1 : y ∈ rnd f n x) (h2 : z ∈ rnd f n y) : z ∈ rnd f n x := by
  obtain ⟨j, hj, rfl⟩ := mem_rnd.1 h1
  obtain ⟨k, hk, rfl⟩ := mem_rnd.1 h2
  rw [← it_add]
  exact mem_rnd_any h hc _

theorem rnd_nodup {f : Nat → Nat} {n y : Nat} (h : Into f n) (hc : cyc f n y = true) : (rnd f n y).Nodup := by
  rw [List.nodup_iff_pairwise_ne, rnd, List.pairwise_map]
  refine (List.pairwise_lt_range (n := per f n y)).imp_of_mem ?_
  intro a b ha hb hab
  exact per_inj h hc hab (List.mem_range.1 hb)

/-- The numbers with which their cycles begin: the least ones on them. -/
def lead (f : Nat → Nat) (n x : Nat) : Bool := cyc f n x && (List.range n).all fun j => decide (x ≤ it f j x)

theorem lead_iff {f : Nat → Nat} {n x : Nat} (h : Into f n) : lead f n x = true ↔ cyc f n x = true ∧ ∀ z ∈ rnd f n x, x ≤ z := by
  unfold lead
  rw [Bool.and_eq_true]
  constructor
  · rintro ⟨h1, h2⟩
    refine ⟨h1, fun z hz => ?_⟩
    obtain ⟨j, hj, rfl⟩ := mem_rnd.1 hz
    obtain ⟨p1, p2, p3, p4⟩ := per_spec h h1
    simp only [List.all_eq_true, List.mem_range, decide_eq_true_eq] at h2
    exact h2 j (by omega)
  · rintro ⟨h1, h2⟩
    refine ⟨h1, ?_⟩
    simp only [List.all_eq_true, List.mem_range, decide_eq_true_eq]
    intro j hj
    exact h2 _ (mem_rnd_any h h1 j)

/-- Whether a number is on a cycle with a number below x. -/
def seenB (f : Nat → Nat) (n x y : Nat) : Bool := cyc f n y && (rnd f n y).any fun z => decide (z < x)

/-- All cycles, each with its least number first, ordered by these: those that begin below x. -/
def cycsTo (f : Nat → Nat) (n x : Nat) : List (List Nat) := ((List.range x).filter (lead f n)).map (rnd f n)
def cycs (f : Nat → Nat) (n : Nat) : List (List Nat) := cycsTo f n n

theorem cycsTo_succ (f : Nat → Nat) (n x : Nat) : cycsTo f n (x + 1) = if lead f n x = true then cycsTo f n x ++ [rnd f n x] else cycsTo f n x := by
  unfold cycsTo
  rw [List.range_succ, List.filter_append, List.map_append]
  by_cases hl : lead f n x = true
  · simp [hl]
  · simp [hl]

theorem lead_seen {f : Nat → Nat} {n x : Nat} (h : Into f n) : lead f n x = (cyc f n x && !seenB f n x x) := by
  rw [Bool.eq_iff_iff, lead_iff h]
  unfold seenB
  cases hc : cyc f n x
  · simp
  · simp

theorem seenB_zero (f : Nat → Nat) (n y : Nat) : seenB f n 0 y = false := by simp [seenB]

theorem seenB_succ {f : Nat → Nat} {n x y : Nat} (h : Into f n) (hx : x < n) : seenB f n (x + 1) y = true ↔ seenB f n x y = true ∨ (cyc f n x = true ∧ y ∈ rnd f n x) := by
  unfold seenB
  simp only [Bool.and_eq_true, List.any_eq_true, decide_eq_true_eq]
  constructor
  · rintro ⟨hc, z, hz, hlt⟩
    by_cases he : z = x
    · subst he
      obtain ⟨h1, h2⟩ := rnd_back h hc hz
      exact .inr ⟨h2, h1⟩
    · exact .inl ⟨hc, z, hz, by omega⟩
  · rintro (⟨hc, z, hz, hlt⟩ | ⟨hc, hy⟩)
    · exact ⟨hc, z, hz, by omega⟩
    · obtain ⟨h1, h2⟩ := rnd_back h hc hy
      exact ⟨h2, x, h1, by omega⟩

/-- A number whose cycle was seen has its whole cycle seen. -/
theorem seenB_skip {f : Nat → Nat} {n x y : Nat} (h : Into f n) (hx : x < n) (hl : lead f n x = false) : seenB f n (x + 1) y = seenB f n x y := by
  rw [Bool.eq_iff_iff, seenB_succ h hx]
  constructor
  · rintro (h1 | ⟨hc, hy⟩)
    · exact h1
    · rw [lead_seen h, hc] at hl
      simp only [Bool.true_and, Bool.not_eq_false'] at hl
      unfold seenB at hl ⊢
      simp only [Bool.and_eq_true, List.any_eq_true, decide_eq_true_eq] at hl ⊢
      obtain ⟨_, z, hz, hlt⟩ := hl
      obtain ⟨h1, h2⟩ := rnd_back h hc hy
      exact ⟨h2, z, rnd_trans h h2 h1 hz, hlt⟩
  · exact .inl

theorem seenB_all {f : Nat → Nat} {n y : Nat} (h : Into f n) (hy : cyc f n y = true) : seenB f n n y = true := by
  unfold seenB
  simp only [Bool.and_eq_true, List.any_eq_true, decide_eq_true_eq]
  exact ⟨hy, y, mem_rnd_any h hy 0, cyc_lt h hy⟩

end Go.Proofs.Ytnggfcopndcppaa
