/-
  Joint text of 5R (written by wip/tools/merge.py).
-/
import Derived.Test.Ytnggfcopndcppaa5A
import Derived.Test.YtnggfcopndcppaaTK5
import Derived.Test.YtnggfcopndcppaaT9
/- from X5R -/
namespace Go.Proofs.Ytnggfcopndcppaa
set_option linter.unusedVariables false
set_option linter.unusedSimpArgs false
set_option maxRecDepth 100000

/-- A run's rows. -/
structure RowF (b : Int) (ls : List (List Int)) : Prop where
  pos : 1 ≤ ls.length
  ok : ∀ k, k < ls.length → okR b (ls.getD k []) = true
  next : ∀ k, k + 1 < ls.length → palB (ls.getD k []) = false ∧ ls.getD (k + 1) [] = rvA b (ls.getD k []) ∧ (rvA b (ls.getD k [])).length ≤ 40
theorem row_one {b : Int} {x : List Int} (h : okR b x = true) : RowF b [x] :=
  ⟨by simp, fun k hk => by have : k = 0 := by simpa using hk
                           subst this; exact h, fun k hk => by simp at hk⟩
theorem rvR_rows {b : Int} : ∀ (m : Nat) (x : List Int), okR b x = true → RowF b (rvR b m x)
  | 0, x, h => row_one h
  | m + 1, x, h => by
    cases hp : palB x with
    | true => rw [rvR_pal hp]; exact row_one h
    | false =>
      by_cases hl : (rvA b x).length ≤ 40
      · rw [rvR_go hp hl]
        obtain ⟨r1, r2, r3⟩ := rvR_rows m (rvA b x) (okR_sum h hl)
        have hhd : (rvR b m (rvA b x)).getD 0 [] = rvA b x := by
          cases m with
          | zero => rfl
          | succ m =>
            unfold rvR
            split
            · rfl
            · split <;> rfl
        refine ⟨by simp, fun k hk => ?_, fun k hk => ?_⟩
        · cases k with
          | zero => exact h
          | succ k => rw [List.getD_cons_succ]; exact r2 k (by simpa using hk)
        · cases k with
          | zero => rw [List.getD_cons_succ, List.getD_cons_zero, hhd]; exact ⟨hp, rfl, hl⟩
          | succ k => rw [List.getD_cons_succ, List.getD_cons_succ]; exact r3 k (by simpa using hk)
      · rw [rvR_long (by omega)]; exact row_one h
/-- How many times are needed: the last row is symmetric, or none is. -/
theorem rvT_last {b : Int} {m : Nat} {x : List Int} : rvT b m x = if palB ((rvR b m x).getD ((rvR b m x).length - 1) []) = true then some ((rvR b m x).length - 1) else none := by
  unfold rvT
  have : (rvR b m x).getLastD [] = (rvR b m x).getD ((rvR b m x).length - 1) [] := by
    have hl := (rvR_len b m x).1
    rw [List.getLastD_eq_getLast?, List.getLast?_eq_getElem?, List.getD_eq_getElem?_getD]
  rw [this]

/-! Spreads. -/
theorem sum_set1 : ∀ (xs : List Int) (i : Nat), i < xs.length → (xs.set i (xs.getD i 0 + 1)).sum = xs.sum + 1
  | [], i, h => by simp at h
  | x :: xs, 0, _ => by simp only [List.set_cons_zero, List.getD_cons_zero, List.sum_cons]; omega
  | x :: xs, i + 1, h => by
    have ih := sum_set1 xs i (by simpa using h)
    rw [List.set_cons_succ, List.sum_cons, List.getD_cons_succ, ih, List.sum_cons]
    omega
theorem spr_sum (V : Nat) (b : Int) (m : Nat) : ∀ n, (sprN V b m n).sum = (n : Int)
  | 0 => by
    have : ∀ k : Nat, (List.replicate k (0 : Int)).sum = 0 := fun k => by
      induction k with
      | zero => rfl
      | succ k ih => rw [List.replicate_succ, List.sum_cons, ih]; rfl
    exact this _
  | n + 1 => by
    have hl := ixT_lt V b m n
    rw [sprN, sum_set1 _ _ (by rw [sprN_len]; exact hl), spr_sum V b m n]
    omega
theorem spr_pos (V : Nat) (b : Int) (m k : Nat) (hk : k < m + 2) : ∀ n, 0 < (sprN V b m n).getD k 0 ↔ ∃ i, i < n ∧ ixT m (tmW V b m i) = k
  | 0 => by
    constructor
    · intro h
      simp only [sprN] at h
      rw [List.getD_eq_getElem?_getD, List.getElem?_replicate] at h
      split at h <;> simp at h
    · rintro ⟨i, hi, _⟩; omega
  | n + 1 => by
    have ih := spr_pos V b m k hk n
    have hb := (sprN_bd V b m n k).1
    rw [sprN, List.getD_eq_getElem?_getD, List.getElem?_set]
    by_cases he : ixT m (tmW V b m n) = k
    · rw [if_pos he, if_pos (by rw [sprN_len, he]; exact hk), he]
      constructor
      · intro _; exact ⟨n, by omega, he⟩
      · intro _; show 0 < _ + 1; omega
    · rw [if_neg he, ← List.getD_eq_getElem?_getD, ih]
      constructor
      · rintro ⟨i, hi, e⟩; exact ⟨i, by omega, e⟩
      · rintro ⟨i, hi, e⟩
        by_cases hin : i = n
        · subst hin; exact absurd e he
        · exact ⟨i, by omega, e⟩
/-- What the law asks of a spread: T the greatest number of times. -/
structure SprF (V : Nat) (b : Int) (m : Nat) (L : List Int) (T : Nat) : Prop where
  len : L.length = m + 2
  sum : L.sum = (b - 1) * b ^ (V - 1)
  bd : ∀ x ∈ L, 0 ≤ x ∧ x ≤ 20000
  top : T ≤ m ∧ 0 < L.getD T 0
  none : ∀ k, T < k → k ≤ m → ¬ 0 < L.getD k 0
theorem spr_facts {V : Nat} {b : Int} (h : Sp V b) (m : Nat) : SprF V b m (sprN V b m (cnN V b)) ((slwN V b m (cnN V b)).2).toNat := by
  obtain ⟨s1, s2, s3, _, s5⟩ := slw_end h m
  obtain ⟨c1, c2, c3⟩ := h.cn
  have hb := (tmZ_bd V b m (slwN V b m (cnN V b)).1).2
  refine ⟨sprN_len _ _ _ _, by rw [spr_sum, c1], fun x hx => ?_, ⟨by omega, ?_⟩, fun k hk hkm => ?_⟩
  · obtain ⟨j, hj, rfl⟩ := List.getElem_of_mem hx
    have := sprN_bd V b m (cnN V b) j
    rw [List.getD_eq_getElem?_getD, List.getElem?_eq_getElem hj] at this
    simp only [Option.getD_some] at this
    omega
  · refine (spr_pos V b m _ (by omega) _).2 ⟨(slwN V b m (cnN V b)).1, s2, ?_⟩
    rcases tmZ_cases V b m (slwN V b m (cnN V b)).1 with ⟨e, _⟩ | ⟨k, e1, e2, _⟩
    · omega
    · rw [e2]; omega
  · intro hp
    obtain ⟨i, hi, e⟩ := (spr_pos V b m k (by omega) _).1 hp
    have h5 := s5 i hi
    rcases tmZ_cases V b m i with ⟨_, e2⟩ | ⟨q, e1, e2, _⟩
    · omega
    · omega

/-! Words that never get there. -/
def nvS (k : Nat) : Nat → List Int
  | 0 => nvW k
  | i + 1 => rvA 2 (nvS k i)
theorem nv_tab : (List.range 18).all (fun k => decide (k < 2) || (decide (nvS k 4 = nvW (k + 1)) && (List.range 5).all fun i => !(palB (nvS k i)) && okR 2 (nvS k i))) = true := by decide +kernel
theorem nv_facts {k : Nat} (h1 : 2 ≤ k) (h2 : k ≤ 17) : nvS k 4 = nvW (k + 1) ∧ ∀ i, i ≤ 4 → palB (nvS k i) = false ∧ okR 2 (nvS k i) = true := by
  have h := List.all_eq_true.1 nv_tab k (List.mem_range.2 (by omega))
  rw [decide_eq_false (show ¬ k < 2 by omega), Bool.false_or, Bool.and_eq_true] at h
  refine ⟨of_decide_eq_true h.1, fun i hi => ?_⟩
  have h3 := List.all_eq_true.1 h.2 i (List.mem_range.2 (by omega))
  rw [Bool.and_eq_true] at h3
  exact ⟨by simpa using h3.1, h3.2⟩
end Go.Proofs.Ytnggfcopndcppaa
