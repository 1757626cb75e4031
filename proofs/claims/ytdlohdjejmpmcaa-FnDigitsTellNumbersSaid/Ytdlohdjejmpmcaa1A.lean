/-
  Digits tell numbers, plain: digital roots by remainders; digits of the number that they make; sums of counts.
-/
import Derived.Test.YtdlohdjejmpmcaaD2
import Derived.Test.YtdlohdjejmpmcaaZ
import Derived.Test.YtdlohdjejmpmcaaDR
import Derived.Test.YtdlohdjejmpmcaaPN
import Derived.Test.YtdlohdjejmpmcaaQ
namespace Go.Proofs.Ytdlohdjejmpmcaa
set_option linter.unusedVariables false
set_option linter.unusedSimpArgs false

theorem dgs_bigA (b n : Int) (hb : 2 ≤ b) (h : b ≤ n) : dgs b n = dgs b (n / b) ++ [n % b] := by
  rw [dgs, dgs, revD_big b n hb h, List.reverse_cons]
theorem dgs_smallA (b n : Int) (h : ¬ b ≤ n) : dgs b n = [n] := by
  rw [dgs, revD_small b n h]; rfl
/-- A number and the sum of its digits leave the same by b - 1. -/
theorem sum_mod (b : Int) (hb : 2 ≤ b) : ∀ (k : Nat) (n : Int), n.toNat ≤ k → 0 ≤ n → ∃ q, n - (dgs b n).sum = (b - 1) * q
  | 0, n, hk, h0 => ⟨0, by rw [dgs_smallA b n (by omega)]; simp⟩
  | k + 1, n, hk, h0 => by
    by_cases h : b ≤ n
    · have h2 := div_lt b n hb h
      obtain ⟨q, hq⟩ := sum_mod b hb k (n / b) (by omega) h2.1
      refine ⟨n / b + q, ?_⟩
      have h6 := div_mod b n
      rw [dgs_bigA b n hb h, List.sum_append, Int.mul_add, ← hq, Int.sub_mul]
      simp
      omega
    · exact ⟨0, by rw [dgs_smallA b n h]; simp⟩
theorem sum_posA (b : Int) (hb : 2 ≤ b) : ∀ (k : Nat) (n : Int), n.toNat ≤ k → 0 < n → 0 < (dgs b n).sum
  | 0, n, hk, h0 => by omega
  | k + 1, n, hk, h0 => by
    by_cases h : b ≤ n
    · have h2 := div_lt b n hb h
      have h3 := div_pos b n hb h
      have h4 := mod_bd b n hb
      have := sum_posA b hb k (n / b) (by omega) (by omega)
      rw [dgs_bigA b n hb h, List.sum_append]
      simp
      omega
    · rw [dgs_smallA b n h]; simpa using h0
/-- The digital root: below the base, the same by b - 1, 0 for 0 alone. -/
theorem dr_facts (b : Int) (hb : 2 ≤ b) : ∀ (k : Nat) (n : Int), n.toNat ≤ k → 0 ≤ n → 0 ≤ dr b n ∧ dr b n < b ∧ (∃ q, n - dr b n = (b - 1) * q) ∧ (0 < n → dr b n ≠ 0)
  | 0, n, hk, h0 => by
    rw [dr_end b n (by omega)]
    exact ⟨h0, by omega, ⟨0, by simp⟩, fun h => by omega⟩
  | k + 1, n, hk, h0 => by
    by_cases h : b ≤ n
    · obtain ⟨s0, s1, s2⟩ := dgs_sum b n hb h0
      have s3 := s2 h
      obtain ⟨h1, h2, ⟨q, hq⟩, h4⟩ := dr_facts b hb k _ (show (dgs b n).sum.toNat ≤ k by omega) s0
      obtain ⟨q', hq'⟩ := sum_mod b hb n.toNat n (Nat.le_refl _) h0
      rw [dr_step b n hb h]
      refine ⟨h1, h2, ⟨q' + q, by rw [Int.mul_add, ← hq, ← hq']; omega⟩, fun _ => h4 (sum_posA b hb n.toNat n (Nat.le_refl _) (by omega))⟩
    · rw [dr_end b n h]
      exact ⟨h0, by omega, ⟨0, by simp⟩, fun h => by omega⟩
theorem dr_mod {b n : Int} (hb : 2 ≤ b) (h0 : 0 ≤ n) : (n - dr b n) % (b - 1) = 0 := by
  obtain ⟨_, _, ⟨q, hq⟩, _⟩ := dr_facts b hb n.toNat n (Nat.le_refl _) h0
  rw [hq]
  exact Int.mul_emod_right _ _
/-- Digits of the number that they make. -/
theorem dgs_val (b : Int) (hb : 2 ≤ b) : ∀ (k : Nat) (ds : List Int), ds.length = k → ds ≠ [] → (∀ x ∈ ds, 0 ≤ x ∧ x ≤ b - 1) → (ds.length = 1 ∨ ds.headD 0 ≠ 0) → dgs b (val b ds 0) = ds
  | 0, ds, hk, hne, _, _ => absurd (List.eq_nil_of_length_eq_zero hk) hne
  | k + 1, ds, hk, hne, hall, hhd => by
    obtain ⟨init, d, rfl⟩ : ∃ init d, ds = init ++ [d] := ⟨ds.dropLast, ds.getLast hne, (List.dropLast_concat_getLast hne).symm⟩
    have hd := hall d (by simp)
    have hv : val b (init ++ [d]) 0 = val b init 0 * b + d := by rw [val_app]; rfl
    rw [hv]
    by_cases hi : init = []
    · subst hi
      have : val b [] 0 = 0 := rfl
      rw [this, Int.zero_mul, Int.zero_add, dgs_smallA b d (by omega)]
      rfl
    · have hl : init.length = k := by rw [List.length_append] at hk; simpa using hk
      have hpos : 1 ≤ init.length := by cases init with
        | nil => exact absurd rfl hi
        | cons a t => simp
      have hh : init.headD 0 ≠ 0 := by
        rcases hhd with h1 | h1
        · exact absurd (by simpa using h1) hi
        · cases init with
          | nil => exact absurd rfl hi
          | cons a t => simpa using h1
      have hia : ∀ x ∈ init, 0 ≤ x ∧ x ≤ b - 1 := fun x hx => hall x (by simp [hx])
      have ih := dgs_val b hb k init hl hi hia (.inr hh)
      have hge : 1 ≤ val b init 0 := by
        cases init with
        | nil => exact absurd rfl hi
        | cons a t =>
          have ha := hia a (by simp)
          have h0 : a ≠ 0 := by simpa using hh
          have := val_ge b hb t (0 * b + a) (fun x hx => (hia x (by simp [hx])).1) (by omega)
          rw [val]
          omega
      have hbig : b ≤ val b init 0 * b + d := by
        have : 1 * b ≤ val b init 0 * b := Int.mul_le_mul_of_nonneg_right hge (by omega)
        omega
      have hdiv : (val b init 0 * b + d) / b = val b init 0 := by
        rw [Int.add_comm, Int.add_mul_ediv_right _ _ (by omega), Int.ediv_eq_zero_of_lt hd.1 (by omega), Int.zero_add]
      have hmod : (val b init 0 * b + d) % b = d := by
        rw [Int.add_comm, Int.add_mul_emod_self_right, Int.emod_eq_of_lt hd.1 (by omega)]
      rw [dgs_bigA b _ hb hbig, hdiv, hmod, ih]
theorem num_digits {b m : Int} {ds : List Int} (hb : 2 ≤ b) (ha : areD b ds = true) (h : numF b ds 0 = some m) : dgs b m = ds ∧ 0 ≤ m ∧ m ≤ 1000000000000 := by
  unfold areD at ha
  simp only [Bool.and_eq_true, Bool.or_eq_true, decide_eq_true_eq] at ha
  obtain ⟨⟨h1, h2⟩, h3⟩ := ha
  have hall := (allIn_iff 0 (b - 1) ds).1 h3
  rw [numF_val b hb ds 0 (fun x hx => (hall x hx).1) (by omega) (by omega)] at h
  split at h
  · rename_i hle
    simp only [Option.some.injEq] at h
    subst h
    exact ⟨dgs_val b hb _ ds rfl (fun e => h1 (by rw [e]; rfl)) hall h2, val_ge b hb ds 0 (fun x hx => (hall x hx).1) (by omega), hle⟩
  · cases h

/-- All digits are counted. -/
theorem sum_set1 : ∀ (ys : List Int) (i : Nat) (h : i < ys.length), (ys.set i (ys[i] + 1)).sum = ys.sum + 1
  | y :: ys, 0, _ => by simp; omega
  | y :: ys, i + 1, h => by
    have := sum_set1 ys i (by simpa using h)
    simp [this]; omega
theorem cntF_sum : ∀ (xs ys : List Int), (∀ x ∈ xs, 0 ≤ x ∧ x < ys.length) → (cntF xs ys).sum = ys.sum + xs.length
  | [], ys, _ => by simp [cntF]
  | d :: ds, ys, h => by
    have hd := h d (by simp)
    have hl : d.toNat < ys.length := by omega
    have hb : bump ys d = ys.set d.toNat (ys[d.toNat] + 1) := by simp [bump, hl]
    rw [cntF, cntF_sum ds _ (fun x hx => by rw [bump_len]; exact h x (by simp [hx])), hb, sum_set1 ys _ hl]
    simp; omega
theorem cnt_sum {b : Int} {xs : List Int} (hb : 0 ≤ b) (h : ∀ x ∈ xs, 0 ≤ x ∧ x ≤ b - 1) : (cnt b xs).sum = xs.length := by
  rw [cnt, cntF_sum xs _ (fun x hx => by have := h x hx; simp; omega)]
  simp

end Go.Proofs.Ytdlohdjejmpmcaa
