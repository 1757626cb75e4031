/-
  Digits raised to the greatest one before them; persistence: plain mathematics.
-/
import Derived.Test.YtedpplonclonkaaWP
import Derived.Test.YtedpplonclonkaaZ
namespace Go.Proofs.Ytedpplonclonkaa
open Go.RowKit
set_option linter.unusedVariables false
set_option linter.unusedSimpArgs false

/-- Each number of a list raised to the greatest one before it, from c on; the greatest one of all. -/
def cml : Int → List Int → List Int
  | _, [] => []
  | c, x :: xs => max c x :: cml (max c x) xs
def mxl : Int → List Int → Int
  | c, [] => c
  | c, x :: xs => mxl (max c x) xs

theorem cml_len : ∀ (xs : List Int) (c : Int), (cml c xs).length = xs.length
  | [], c => rfl
  | x :: xs, c => by rw [cml, List.length_cons, cml_len xs, List.length_cons]

theorem cml_snoc (x : Int) : ∀ (xs : List Int) (c : Int), cml c (xs ++ [x]) = cml c xs ++ [max (mxl c xs) x]
  | [], c => rfl
  | y :: xs, c => by rw [List.cons_append, cml, cml_snoc x xs, cml, mxl, List.cons_append]

theorem mxl_snoc (x : Int) : ∀ (xs : List Int) (c : Int), mxl c (xs ++ [x]) = max (mxl c xs) x
  | [], c => rfl
  | y :: xs, c => by rw [List.cons_append, mxl, mxl_snoc x xs, mxl]

theorem cml_at : ∀ (xs : List Int) (c : Int) (k : Nat) (h : k < xs.length), (cml c xs)[k]'(by rw [cml_len]; exact h) = max (mxl c (xs.take k)) xs[k]
  | x :: xs, c, 0, h => rfl
  | x :: xs, c, k + 1, h => by
    have := cml_at xs (max c x) k (by simpa using h)
    simpa [cml, mxl] using this

theorem mxl_take : ∀ (xs : List Int) (c : Int) (k : Nat) (h : k < xs.length), mxl c (xs.take (k + 1)) = (cml c xs)[k]'(by rw [cml_len]; exact h)
  | x :: xs, c, 0, h => by simp [mxl, cml]
  | x :: xs, c, k + 1, h => by
    have := mxl_take xs (max c x) k (by simpa using h)
    simpa [cml, mxl] using this

/-- The next place: the greater one of the one before and of this one. -/
theorem cml_next (xs : List Int) (c : Int) (k : Nat) (h : k + 1 < xs.length) : (cml c xs)[k + 1]'(by rw [cml_len]; exact h) = max ((cml c xs)[k]'(by rw [cml_len]; omega)) xs[k + 1] := by
  rw [cml_at xs c (k + 1) h, mxl_take xs c k (by omega)]

theorem cml_all (m : Int) : ∀ (xs : List Int) (c : Int), 0 ≤ c → c ≤ m → (∀ x ∈ xs, 0 ≤ x ∧ x ≤ m) → ∀ y ∈ cml c xs, 0 ≤ y ∧ y ≤ m
  | [], c, h0, h1, h, y, hy => by simp [cml] at hy
  | x :: xs, c, h0, h1, h, y, hy => by
    have hx := h x (by simp)
    rw [cml, List.mem_cons] at hy
    rcases hy with rfl | hy
    · omega
    · exact cml_all m xs (max c x) (by omega) (by omega) (fun z hz => h z (by simp [hz])) y hy

theorem cm_val (b : Int) (hb : 2 ≤ b) : ∀ (k : Nat) (n : Int), n.toNat ≤ k → 0 ≤ n → val b (cml 0 (dgs b n)) 0 = cm b n ∧ mxl 0 (dgs b n) = cm b n % b := by
  intro k
  induction k with
  | zero =>
    intro n hk h0
    obtain rfl : n = 0 := by omega
    rw [dgs_small b 0 (by omega), cm_small (by omega)]
    simp [cml, mxl, val]
  | succ k ih =>
    intro n hk h0
    by_cases h : b ≤ n
    · have h2 := div_lt b n hb h
      obtain ⟨i1, i2⟩ := ih (n / b) (by omega) h2.1
      obtain ⟨m0, m1⟩ := mod_bd b n hb
      obtain ⟨t0, t1⟩ := mod_bd b (cm b (n / b)) hb
      rw [dgs_big b n hb h, cml_snoc, mxl_snoc, val_app, i1, i2, cm_big hb h]
      obtain ⟨s1, s2⟩ := split_div (b := b) (q := cm b (n / b)) (x := max (cm b (n / b) % b) (n % b)) hb (by omega) (by omega)
      rw [s2]
      exact ⟨rfl, rfl⟩
    · rw [dgs_small b n h, cm_small h]
      have : n % b = n := mod_small b n hb h0 (by omega)
      rw [this]
      refine ⟨?_, ?_⟩
      · simp [cml, val]; omega
      · simp [mxl]; omega

theorem cm_numF (b n : Int) (hb : 2 ≤ b) (h0 : 0 ≤ n) (h : cm b n ≤ 1000000000000) : numF b (cml 0 (dgs b n)) 0 = some (cm b n) := by
  have hv := (cm_val b hb _ n (Nat.le_refl _) h0).1
  have hall := cml_all (b - 1) (dgs b n) 0 (by omega) (by omega) (dgs_all b n hb h0)
  rw [numF_val b hb _ 0 (fun x hx => (hall x hx).1) (by omega) (by omega), hv, if_pos h]

/-- The persistence. -/
def per (b n : Int) : Int := ((pru b n).length : Int) - 1
/-- The numbers with the persistence k. -/
def perIs (b k n : Int) : Bool := decide (per b n = k)

theorem per_small {b n k : Int} (hk : 2 ≤ k) (h : ¬ b ≤ n) : perIs b k n = false := by
  apply decide_eq_false
  unfold per pru
  rw [ru_end h]; simp; omega

theorem ris_big {b n : Int} (hb : 2 ≤ b) (h : b ≤ n) (hr : ris b n = true) : b + 1 ≤ n := by
  by_cases he : n = b
  · subst he
    have := ((ris_iff hb (by omega)).1 hr).2.2
    rw [Int.emod_self] at this; omega
  · omega

theorem ris_first {b : Int} (hb : 2 ≤ b) : ris b (b + 1) = true := by
  have h1 : ris b 1 = true := by
    have := ris_mk (b := b) (q := 0) (x := 1) hb (by omega) (ris_zero b) (by simp) (by omega) (by omega)
    simpa using this
  have := ris_mk (b := b) (q := 1) (x := 1) hb (by omega) h1 (by rw [Int.emod_eq_of_lt (by omega) (by omega)]; omega) (by omega) (by omega)
  rwa [Int.one_mul] at this

/-- What LeastPersistent finds: 0 if there is none. -/
def Lper (b k r : Int) : Prop := IsM (perIs b k) (St b 0 1 10000000) r

theorem st_top {b m : Int} (hb : 2 ≤ b) : St b 0 1 10000000 m ↔ (m ≤ 10000000 ∧ 0 < m ∧ ris b m = true) :=
  ⟨fun h => ⟨h.1, h.2.2.1, h.2.1⟩, fun h => ⟨h.1, ext_top hb h.2.1 h.2.2⟩⟩

/-- The search in order: no number before n is of the kind. -/
theorem lper_found {b k n : Int} (hb : 2 ≤ b) (hn : 0 < n) (hm : n ≤ 10000000) (hr : ris b n = true) (hp : perIs b k n = true) (hno : ∀ m, 0 < m → m < n → ris b m = true → perIs b k m = false) : Lper b k n := by
  refine .inr ⟨hn, (st_top hb).2 ⟨hm, hn, hr⟩, hp, fun m hs hpm => ?_⟩
  obtain ⟨s1, s2, s3⟩ := (st_top hb).1 hs
  by_cases hlt : m < n
  · have := hno m s2 hlt s3; rw [hpm] at this; cases this
  · omega
theorem lper_none {b k n : Int} (hb : 2 ≤ b) (hm : ¬ n ≤ 10000000) (hno : ∀ m, 0 < m → m < n → ris b m = true → perIs b k m = false) : Lper b k 0 := by
  refine .inl ⟨rfl, fun m hs => ?_⟩
  obtain ⟨s1, s2, s3⟩ := (st_top hb).1 hs
  exact hno m s2 (by omega) s3
theorem no_next {b k n : Int} (hb : 2 ≤ b) (hn : 0 ≤ n) (hr : ris b n = true) (hp : perIs b k n = false) (hno : ∀ m, 0 < m → m < n → ris b m = true → perIs b k m = false) : ∀ m, 0 < m → m < nr b n → ris b m = true → perIs b k m = false := by
  intro m m0 hlt hrm
  by_cases h1 : m < n
  · exact hno m m0 h1 hrm
  · by_cases h2 : m = n
    · rw [h2]; exact hp
    · have := (nr_spec hb _ n (Nat.le_refl _) hn hr).2.2.2 m (by omega) hrm
      omega
theorem no_first {b k : Int} (hb : 2 ≤ b) (hk : 2 ≤ k) : ∀ m, 0 < m → m < b + 1 → ris b m = true → perIs b k m = false := by
  intro m m0 hlt hrm
  by_cases h : b ≤ m
  · have := ris_big hb h hrm; omega
  · exact per_small hk h

end Go.Proofs.Ytedpplonclonkaa
