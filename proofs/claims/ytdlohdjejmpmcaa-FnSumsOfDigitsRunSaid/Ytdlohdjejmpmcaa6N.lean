/-
  Joint text of 1A 6A 6S 6D 6M (written by wip/tools/merge.py).
-/
import Derived.Test.YtdlohdjejmpmcaaD2
import Derived.Test.YtdlohdjejmpmcaaZ
import Derived.Test.YtdlohdjejmpmcaaDR
import Derived.Test.YtdlohdjejmpmcaaPN
import Derived.Test.YtdlohdjejmpmcaaQ
import Derived.Test.YtdlohdjejmpmcaaWB
import Derived.Test.Ytdlohdjejmpmcaa0G
import Derived.Test.Ytdlohdjejmpmcaa0D
import Derived.Test.YtdlohdjejmpmcaaWE
import Derived.Test.YtdlohdjejmpmcaaWF
import Derived.Test.YtdlohdjejmpmcaaWH
import Derived.Test.YtdlohdjejmpmcaaWG
import Derived.Test.YtdlohdjejmpmcaaWJ
import Derived.Test.YtdlohdjejmpmcaaG
import Derived.Test.YtdlohdjejmpmcaaG3
/- from X1A -/
namespace Go.Proofs.Ytdlohdjejmpmcaa
set_option linter.unusedVariables false
set_option linter.unusedSimpArgs false

theorem dgs_bigA (b n : Int) (hb : 2 ≤ b) (h : b ≤ n) : dgs b n = dgs b (n / b) ++ [n % b] := by
  rw [dgs, dgs, revD_big b n hb h, List.reverse_cons]
theorem dgs_smallA (b n : Int) (h : ¬ b ≤ n) : dgs b n = [n] := by
  rw [dgs, revD_small b n h]; rfl
/-- A number and the sum of its digits leave the same by b - 1. -/
theorem sum_mod (b : Int) (hb : 2 ≤ b) : ∀ (k : Nat) (n : Int), n.toNat ≤ k → 0 ≤ n → ∃ q, n - (dgs b n).sum = (b - 1) * q
  | 0, n, hk, h0 => ⟨0, by rw [dgs_smallA b n (by omega)]; simp⟩
  | k + 1, n, hk, h0 => by
    by_cases h : b ≤ n
    · have h2 := div_lt b n hb h
      obtain ⟨q, hq⟩ := sum_mod b hb k (n / b) (by omega) h2.1
      refine ⟨n / b + q, ?_⟩
      have h6 := div_mod b n
      rw [dgs_bigA b n hb h, List.sum_append, Int.mul_add, ← hq, Int.sub_mul]
      simp
      omega
    · exact ⟨0, by rw [dgs_smallA b n h]; simp⟩
theorem sum_posA (b : Int) (hb : 2 ≤ b) : ∀ (k : Nat) (n : Int), n.toNat ≤ k → 0 < n → 0 < (dgs b n).sum
  | 0, n, hk, h0 => by omega
  | k + 1, n, hk, h0 => by
    by_cases h : b ≤ n
    · have h2 := div_lt b n hb h
      have h3 := div_pos b n hb h
      have h4 := mod_bd b n hb
      have := sum_posA b hb k (n / b) (by omega) (by omega)
      rw [dgs_bigA b n hb h, List.sum_append]
      simp
      omega
    · rw [dgs_smallA b n h]; simpa using h0
/-- The digital root: below the base, the same by b - 1, 0 for 0 alone. -/
theorem dr_facts (b : Int) (hb : 2 ≤ b) : ∀ (k : Nat) (n : Int), n.toNat ≤ k → 0 ≤ n → 0 ≤ dr b n ∧ dr b n < b ∧ (∃ q, n - dr b n = (b - 1) * q) ∧ (0 < n → dr b n ≠ 0)
  | 0, n, hk, h0 => by
    rw [dr_end b n (by omega)]
    exact ⟨h0, by omega, ⟨0, by simp⟩, fun h => by omega⟩
  | k + 1, n, hk, h0 => by
    by_cases h : b ≤ n
    · obtain ⟨s0, s1, s2⟩ := dgs_sum b n hb h0
      have s3 := s2 h
      obtain ⟨h1, h2, ⟨q, hq⟩, h4⟩ := dr_facts b hb k _ (show (dgs b n).sum.toNat ≤ k by omega) s0
      obtain ⟨q', hq'⟩ := sum_mod b hb n.toNat n (Nat.le_refl _) h0
      rw [dr_step b n hb h]
      refine ⟨h1, h2, ⟨q' + q, by rw [Int.mul_add, ← hq, ← hq']; omega⟩, fun _ => h4 (sum_posA b hb n.toNat n (Nat.le_refl _) (by omega))⟩
    · rw [dr_end b n h]
      exact ⟨h0, by omega, ⟨0, by simp⟩, fun h => by omega⟩
theorem dr_mod {b n : Int} (hb : 2 ≤ b) (h0 : 0 ≤ n) : (n - dr b n) % (b - 1) = 0 := by
  obtain ⟨_, _, ⟨q, hq⟩, _⟩ := dr_facts b hb n.toNat n (Nat.le_refl _) h0
  rw [hq]
  exact Int.mul_emod_right _ _
/-- Digits of the number that they make. -/
theorem dgs_val (b : Int) (hb : 2 ≤ b) : ∀ (k : Nat) (ds : List Int), ds.length = k → ds ≠ [] → (∀ x ∈ ds, 0 ≤ x ∧ x ≤ b - 1) → (ds.length = 1 ∨ ds.headD 0 ≠ 0) → dgs b (val b ds 0) = ds
  | 0, ds, hk, hne, _, _ => absurd (List.eq_nil_of_length_eq_zero hk) hne
  | k + 1, ds, hk, hne, hall, hhd => by
    obtain ⟨init, d, rfl⟩ : ∃ init d, ds = init ++ [d] := ⟨ds.dropLast, ds.getLast hne, (List.dropLast_concat_getLast hne).symm⟩
    have hd := hall d (by simp)
    have hv : val b (init ++ [d]) 0 = val b init 0 * b + d := by rw [val_app]; rfl
    rw [hv]
    by_cases hi : init = []
    · subst hi
      have : val b [] 0 = 0 := rfl
      rw [this, Int.zero_mul, Int.zero_add, dgs_smallA b d (by omega)]
      rfl
    · have hl : init.length = k := by rw [List.length_append] at hk; simpa using hk
      have hpos : 1 ≤ init.length := by cases init with
        | nil => exact absurd rfl hi
        | cons a t => simp
      have hh : init.headD 0 ≠ 0 := by
        rcases hhd with h1 | h1
        · exact absurd (by simpa using h1) hi
        · cases init with
          | nil => exact absurd rfl hi
          | cons a t => simpa using h1
      have hia : ∀ x ∈ init, 0 ≤ x ∧ x ≤ b - 1 := fun x hx => hall x (by simp [hx])
      have ih := dgs_val b hb k init hl hi hia (.inr hh)
      have hge : 1 ≤ val b init 0 := by
        cases init with
        | nil => exact absurd rfl hi
        | cons a t =>
          have ha := hia a (by simp)
          have h0 : a ≠ 0 := by simpa using hh
          have := val_ge b hb t (0 * b + a) (fun x hx => (hia x (by simp [hx])).1) (by omega)
          rw [val]
          omega
      have hbig : b ≤ val b init 0 * b + d := by
        have : 1 * b ≤ val b init 0 * b := Int.mul_le_mul_of_nonneg_right hge (by omega)
        omega
      have hdiv : (val b init 0 * b + d) / b = val b init 0 := by
        rw [Int.add_comm, Int.add_mul_ediv_right _ _ (by omega), Int.ediv_eq_zero_of_lt hd.1 (by omega), Int.zero_add]
      have hmod : (val b init 0 * b + d) % b = d := by
        rw [Int.add_comm, Int.add_mul_emod_self_right, Int.emod_eq_of_lt hd.1 (by omega)]
      rw [dgs_bigA b _ hb hbig, hdiv, hmod, ih]
theorem num_digits {b m : Int} {ds : List Int} (hb : 2 ≤ b) (ha : areD b ds = true) (h : numF b ds 0 = some m) : dgs b m = ds ∧ 0 ≤ m ∧ m ≤ 1000000000000 := by
  unfold areD at ha
  simp only [Bool.and_eq_true, Bool.or_eq_true, decide_eq_true_eq] at ha
  obtain ⟨⟨h1, h2⟩, h3⟩ := ha
  have hall := (allIn_iff 0 (b - 1) ds).1 h3
  rw [numF_val b hb ds 0 (fun x hx => (hall x hx).1) (by omega) (by omega)] at h
  split at h
  · rename_i hle
    simp only [Option.some.injEq] at h
    subst h
    exact ⟨dgs_val b hb _ ds rfl (fun e => h1 (by rw [e]; rfl)) hall h2, val_ge b hb ds 0 (fun x hx => (hall x hx).1) (by omega), hle⟩
  · cases h

/-- All digits are counted. -/
theorem sum_set1 : ∀ (ys : List Int) (i : Nat) (h : i < ys.length), (ys.set i (ys[i] + 1)).sum = ys.sum + 1
  | y :: ys, 0, _ => by simp; omega
  | y :: ys, i + 1, h => by
    have := sum_set1 ys i (by simpa using h)
    simp [this]; omega
theorem cntF_sum : ∀ (xs ys : List Int), (∀ x ∈ xs, 0 ≤ x ∧ x < ys.length) → (cntF xs ys).sum = ys.sum + xs.length
  | [], ys, _ => by simp [cntF]
  | d :: ds, ys, h => by
    have hd := h d (by simp)
    have hl : d.toNat < ys.length := by omega
    have hb : bump ys d = ys.set d.toNat (ys[d.toNat] + 1) := by simp [bump, hl]
    rw [cntF, cntF_sum ds _ (fun x hx => by rw [bump_len]; exact h x (by simp [hx])), hb, sum_set1 ys _ hl]
    simp; omega
theorem cnt_sum {b : Int} {xs : List Int} (hb : 0 ≤ b) (h : ∀ x ∈ xs, 0 ≤ x ∧ x ≤ b - 1) : (cnt b xs).sum = xs.length := by
  rw [cnt, cntF_sum xs _ (fun x hx => by have := h x hx; simp; omega)]
  simp

end Go.Proofs.Ytdlohdjejmpmcaa

/- from X6A -/
namespace Go.Proofs.Ytdlohdjejmpmcaa
set_option linter.unusedVariables false
set_option linter.unusedSimpArgs false

theorem hshF_least (b : Int) : ∀ (f : Nat) (m r : Int), hshF b f m = some r → m ≤ r ∧ r < m + f ∧ hsh b r = true ∧ ∀ k, m ≤ k → k < r → hsh b k = false
  | 0, m, r, h => by simp [hshF] at h
  | f + 1, m, r, h => by
    by_cases hh : hsh b m = true
    · rw [hshF, if_pos hh] at h
      simp only [Option.some.injEq] at h
      subst h
      exact ⟨Int.le_refl _, by omega, hh, fun k h1 h2 => by omega⟩
    · rw [hshF, if_neg hh] at h
      obtain ⟨h1, h2, h3, h4⟩ := hshF_least b f (m + 1) r h
      refine ⟨by omega, by omega, h3, fun k k1 k2 => ?_⟩
      by_cases hk : k = m
      · subst hk; simpa using hh
      · exact h4 k (by omega) k2
/-- The next number divided by its digit sum: none lies between. -/
theorem nexH_least {b n m : Int} (h : nexH b (n + 1) = some m) : n < m ∧ m ≤ 1000000000000 ∧ hsh b m = true ∧ ∀ k, n < k → k < m → hsh b k = false := by
  obtain ⟨h1, h2, h3, h4⟩ := hshF_least b _ _ _ h
  exact ⟨by omega, by omega, h3, fun k k1 k2 => h4 k (by omega) k2⟩
theorem spn_mem (b : Int) : ∀ (k : Nat) (x : Int), x ∈ spn b k → 1 ≤ x ∧ x ≤ k ∧ spt b x = true
  | 0, x, h => by simp [spn] at h
  | k + 1, x, h => by
    rw [spn] at h
    split at h
    · rename_i hs
      rcases List.mem_append.1 h with h | h
      · obtain ⟨h1, h2, h3⟩ := spn_mem b k x h
        exact ⟨h1, by omega, h3⟩
      · obtain rfl := List.mem_singleton.1 h
        exact ⟨by omega, by omega, hs⟩
    · obtain ⟨h1, h2, h3⟩ := spn_mem b k x h
      exact ⟨h1, by omega, h3⟩
theorem spn_rise (b : Int) : ∀ k : Nat, (spn b k).Pairwise (· < ·)
  | 0 => by simp [spn]
  | k + 1 => by
    have ih := spn_rise b k
    rw [spn]
    split
    · refine List.pairwise_append.2 ⟨ih, by simp, fun x hx y hy => ?_⟩
      obtain rfl := List.mem_singleton.1 hy
      have := (spn_mem b k x hx).2.1
      omega
    · exact ih
/-- A number that is its digit sum times its digit product is divided by its digit sum. -/
theorem spt_hsh {b x : Int} (hb : 2 ≤ b) (hb' : b ≤ 16) (h1 : 1 ≤ x) (h2 : x ≤ 20000) (h : spt b x = true) : hsh b x = true := by
  obtain ⟨p0, p1, _⟩ := pd_lt b x hb hb' (by omega) (by omega)
  obtain ⟨s0, _, s1, _⟩ := sd_bd b x hb hb' (by omega) (by omega)
  have m0 : 0 ≤ pd b x * sd b x := Int.mul_nonneg p0 s0
  have m1 : pd b x * sd b x ≤ 20000 * 600 := by
    have := Int.mul_le_mul (show pd b x ≤ 20000 by omega) s1 s0 (by omega)
    exact this
  have hx : x = pd b x * sd b x := by
    have := of_decide_eq_true h
    rwa [wrap_id (by omega) (by omega)] at this
  unfold hsh
  have hd : x % sd b x = 0 := by
    have e : x % sd b x = (pd b x * sd b x) % sd b x := congrArg (· % sd b x) hx
    rw [e]
    exact Int.mul_emod_left _ _
  rw [decide_eq_true (show 0 < x by omega), decide_eq_true hd]
  rfl

end Go.Proofs.Ytdlohdjejmpmcaa

/- from X6S -/
namespace Go.Proofs.Ytdlohdjejmpmcaa
set_option linter.unusedVariables false
set_option linter.unusedSimpArgs false

/-- The digit sum, reckoned. -/
def sdN (b : Nat) : Nat → Nat → Nat
  | 0, n => n
  | f + 1, n => if n < b then n else n % b + sdN b f (n / b)
theorem sd_sdN (b : Nat) (hb : 2 ≤ b) : ∀ (f n : Nat), n < 2 ^ (f + 1) → sd (b : Int) (n : Int) = (sdN b f n : Int)
  | 0, n, h => by
    unfold sd
    rw [dgs_smallA (b : Int) (n : Int) (by simp at h; omega)]
    simp [sdN]
  | f + 1, n, h => by
    by_cases hn : n < b
    · unfold sd
      rw [dgs_smallA (b : Int) (n : Int) (by omega), sdN, if_pos hn]
      simp
    · have hd : n / b < 2 ^ (f + 1) := by
        rw [Nat.div_lt_iff_lt_mul (by omega)]
        have h2 : 2 ^ (f + 1 + 1) = 2 ^ (f + 1) * 2 := Nat.pow_succ 2 (f + 1)
        have h3 : 2 ^ (f + 1) * 2 ≤ 2 ^ (f + 1) * b := Nat.mul_le_mul_left _ hb
        omega
      have ih := sd_sdN b hb f (n / b) hd
      unfold sd at ih ⊢
      rw [dgs_bigA (b : Int) (n : Int) (by omega) (by omega), List.sum_append, sdN, if_neg hn]
      have e1 : ((n : Int) / (b : Int)) = ((n / b : Nat) : Int) := by omega
      have e2 : ((n : Int) % (b : Int)) = ((n % b : Nat) : Int) := by omega
      rw [e1, ih, e2]
      simp
      omega
theorem tabS : ∀ b : Fin 17, 2 ≤ b.val → sdN b.val 9 b.val = 1 ∧ sdN b.val 9 (2 * b.val - 1) = b.val ∧ sdN b.val 9 (2 * b.val * b.val - 1) = 2 * b.val - 1 ∧ (∀ n : Fin (2 * b.val - 1), sdN b.val 9 n.val < b.val) ∧ (∀ n : Fin (2 * b.val * b.val - 1), sdN b.val 9 n.val < 2 * b.val - 1) := by decide +kernel
theorem lspV : ∀ b : Int, 2 ≤ b → b ≤ 16 → lsp b 2 = some (2 * b - 1) ∧ lsp b 3 = some (2 * b * b - 1) := by
  intro b hb hb'
  have hc : b = 2 ∨ b = 3 ∨ b = 4 ∨ b = 5 ∨ b = 6 ∨ b = 7 ∨ b = 8 ∨ b = 9 ∨ b = 10 ∨ b = 11 ∨ b = 12 ∨ b = 13 ∨ b = 14 ∨ b = 15 ∨ b = 16 := by omega
  rcases hc with rfl | rfl | rfl | rfl | rfl | rfl | rfl | rfl | rfl | rfl | rfl | rfl | rfl | rfl | rfl <;> exact ⟨by decide +kernel, by decide +kernel⟩
theorem sq_bd {b : Nat} (h : b ≤ 16) : 2 * b * b ≤ 512 := by
  have h1 : 2 * b ≤ 32 := by omega
  exact Nat.le_trans (Nat.mul_le_mul h1 h) (by omega)
theorem least_facts {b : Int} (hb : 2 ≤ b) (hb' : b ≤ 16) : sd b b = 1 ∧ sd b (2 * b - 1) = b ∧ sd b (2 * b * b - 1) = 2 * b - 1 ∧ (∀ n : Int, 0 ≤ n → b ≤ sd b n → 2 * b - 1 ≤ n) ∧ (∀ n : Int, 0 ≤ n → 2 * b - 1 ≤ sd b n → 2 * b * b - 1 ≤ n) := by
  obtain ⟨B, rfl⟩ : ∃ B : Nat, b = (B : Int) := ⟨b.toNat, by omega⟩
  have hB : 2 ≤ B := by omega
  have hB2 : B ≤ 16 := by omega
  have hsq := sq_bd hB2
  have hsq0 : 2 * B ≤ 2 * B * B := Nat.le_mul_of_pos_right _ (by omega)
  obtain ⟨t1, t2, t3, t4, t5⟩ := tabS ⟨B, by omega⟩ hB
  have ev : ∀ n : Nat, n < 1024 → sd (B : Int) (n : Int) = (sdN B 9 n : Int) := fun n hn => sd_sdN B hB 9 n hn
  have c2 : (2 * (B : Int) - 1) = ((2 * B - 1 : Nat) : Int) := by omega
  have c3 : (2 * (B : Int) * (B : Int) - 1) = ((2 * B * B - 1 : Nat) : Int) := by
    have : ((2 * B * B : Nat) : Int) = 2 * (B : Int) * (B : Int) := by simp
    omega
  simp only at t1 t2 t3
  refine ⟨by rw [ev B (by omega), t1]; rfl, by rw [c2, ev _ (by omega), t2], by rw [c3, ev _ (by omega), t3]; omega, fun n h0 h1 => ?_, fun n h0 h1 => ?_⟩
  · rw [c2]
    obtain ⟨N, rfl⟩ : ∃ N : Nat, n = (N : Int) := ⟨n.toNat, by omega⟩
    by_cases h : N < 2 * B - 1
    · exfalso
      have := t4 ⟨N, h⟩
      simp only at this
      rw [ev N (by omega)] at h1
      omega
    · omega
  · rw [c3]
    obtain ⟨N, rfl⟩ : ∃ N : Nat, n = (N : Int) := ⟨n.toNat, by omega⟩
    by_cases h : N < 2 * B * B - 1
    · exfalso
      have := t5 ⟨N, h⟩
      simp only at this
      rw [ev N (by omega), c2] at h1
      omega
    · omega

theorem sru_big {b n : Int} (hb : 2 ≤ b) (hb' : b ≤ 16) (h0 : 0 ≤ n) (h1 : n ≤ 1000000000000) (h : b ≤ n) : sru b n = n :: sru b (sd b n) := by
  obtain ⟨s0, _, _, s3⟩ := sd_bd b n hb hb' h0 h1
  exact ru_step h s0 (s3 h)
theorem sru_end {b n : Int} (h : ¬ b ≤ n) : sru b n = [n] := ru_end h
/-- A run of digit sums: each number's sum stands behind it, the digital root last. -/
structure Srn (b n : Int) : Prop where
  first : (sru b n)[0]? = some n
  last : (sru b n)[(sru b n).length - 1]? = some (dr b n)
  pos : 1 ≤ (sru b n).length
  all : ∀ x ∈ sru b n, 0 ≤ x ∧ x ≤ 1000000000000
  step : ∀ (k : Nat) (x : Int), (sru b n)[k]? = some x → k + 1 < (sru b n).length → (sru b n)[k + 1]? = some (sd b x) ∧ sd b x < x
theorem srn (b : Int) (hb : 2 ≤ b) (hb' : b ≤ 16) : ∀ (f : Nat) (n : Int), n.toNat ≤ f → 0 ≤ n → n ≤ 1000000000000 → Srn b n
  | f, n, hf, h0, h1 => by
    by_cases h : b ≤ n
    · obtain ⟨s0, s1, _, s3⟩ := sd_bd b n hb hb' h0 h1
      have s4 := s3 h
      match f, hf with
      | 0, hf => omega
      | f + 1, hf =>
        have ih := srn b hb hb' f (sd b n) (by omega) s0 (by omega)
        have e := sru_big hb hb' h0 h1 h
        have hp := ih.pos
        refine ⟨by rw [e]; rfl, ?_, by rw [e]; simp, fun x hx => ?_, fun k x hk hl => ?_⟩
        · rw [e, dr_step b n hb h]
          have hl := ih.last
          have : (n :: sru b (sd b n)).length - 1 = ((sru b (sd b n)).length - 1) + 1 := by simp; omega
          rw [this, List.getElem?_cons_succ]
          exact hl
        · rw [e] at hx
          rcases List.mem_cons.1 hx with rfl | hx
          · exact ⟨h0, h1⟩
          · exact ih.all x hx
        · rw [e] at hk hl ⊢
          cases k with
          | zero =>
            simp only [List.getElem?_cons_zero, Option.some.injEq] at hk
            subst hk
            exact ⟨by rw [List.getElem?_cons_succ]; exact ih.first, s4⟩
          | succ j =>
            rw [List.getElem?_cons_succ] at hk ⊢
            exact ih.step j x hk (by simpa using hl)
    · have e := sru_end h
      rw [← dr_end b n h] 
      refine ⟨by rw [dr_end b n h, e]; rfl, by rw [dr_end b n h, e, dr_end b n h]; rfl, by rw [dr_end b n h, e]; simp, fun x hx => ?_, fun k x hk hl => ?_⟩
      · rw [dr_end b n h, e] at hx
        rw [List.mem_singleton.1 hx]
        exact ⟨h0, h1⟩
      · rw [dr_end b n h, e] at hl
        simp at hl
theorem rbr_dr {b n : Int} (hb : 2 ≤ b) (h0 : 0 ≤ n) : rbr b n = dr b n := by
  obtain ⟨r0, r1, ⟨q, hq⟩, r3⟩ := dr_facts b hb n.toNat n (Nat.le_refl _) h0
  unfold rbr
  by_cases hz : n = 0
  · rw [if_pos hz, hz, dr_end b 0 (by omega)]
  · rw [if_neg hz]
    have h := r3 (by omega)
    have e : n - 1 = (dr b n - 1) + (b - 1) * q := by omega
    rw [e, Int.add_mul_emod_self_left, Int.emod_eq_of_lt (by omega) (by omega)]
    omega
/-- The least number with so many sums is no greater than any. -/
theorem lsp_least {b n m : Int} {p : Nat} (hb : 2 ≤ b) (hb' : b ≤ 16) (h0 : 0 ≤ n) (h1 : n ≤ 1000000000000) (hp : p ≤ 3) (hl : (sru b n).length = p + 1) (hm : lsp b p = some m) : m ≤ n := by
  obtain ⟨f1, f2, f3, f4, f5⟩ := least_facts hb hb'
  obtain ⟨v2, v3⟩ := lspV b hb hb'
  have big : ∀ x : Int, 1 < (sru b x).length → b ≤ x := fun x hx => by
    by_cases h : b ≤ x
    · exact h
    · rw [sru_end h] at hx; simp at hx
  have nx : ∀ (x : Int) (k : Nat), 0 ≤ x → x ≤ 1000000000000 → (sru b x).length = k + 2 → (sru b (sd b x)).length = k + 1 ∧ 0 ≤ sd b x ∧ sd b x ≤ 1000000000000 := fun x k x0 x1 hx => by
    have hbx := big x (by omega)
    obtain ⟨s0, s1, _, _⟩ := sd_bd b x hb hb' x0 x1
    rw [sru_big hb hb' x0 x1 hbx] at hx
    simp at hx
    exact ⟨hx, s0, by omega⟩
  match p, hp, hl, hm with
  | 0, _, hl, hm => simp only [lsp, Option.some.injEq] at hm; omega
  | 1, _, hl, hm =>
    simp only [lsp, Option.some.injEq] at hm
    have := big n (by omega)
    omega
  | 2, _, hl, hm =>
    rw [v2] at hm
    simp only [Option.some.injEq] at hm
    obtain ⟨l1, s0, s1⟩ := nx n 1 h0 h1 hl
    have := f4 n h0 (big _ (by omega))
    omega
  | 3, _, hl, hm =>
    rw [v3] at hm
    simp only [Option.some.injEq] at hm
    obtain ⟨l1, s0, s1⟩ := nx n 2 h0 h1 hl
    obtain ⟨l2, s2, s3⟩ := nx _ 1 s0 s1 l1
    have := f5 n h0 (f4 _ s0 (big _ (by omega)))
    omega
/-- .. and has so many. -/
theorem lsp_has {b m : Int} {p : Nat} (hb : 2 ≤ b) (hb' : b ≤ 16) (hp : p ≤ 3) (hm : lsp b p = some m) : (sru b m).length = p + 1 ∧ 0 ≤ m ∧ m ≤ 1000000000000 := by
  obtain ⟨f1, f2, f3, _, _⟩ := least_facts hb hb'
  obtain ⟨v2, v3⟩ := lspV b hb hb'
  obtain ⟨B, rfl⟩ : ∃ B : Nat, b = (B : Int) := ⟨b.toNat, by omega⟩
  have hsq := sq_bd (show B ≤ 16 by omega)
  have hsq0 : 2 * B ≤ 2 * B * B := Nat.le_mul_of_pos_right _ (by omega)
  have c3 : 2 * (B : Int) * (B : Int) = ((2 * B * B : Nat) : Int) := by simp
  have l1 : (sru (B : Int) 1).length = 1 := by rw [sru_end (by omega)]; rfl
  have lb : (sru (B : Int) (B : Int)).length = 2 := by rw [sru_big hb hb' (by omega) (by omega) (Int.le_refl _), f1, List.length_cons, l1]
  have l2 : (sru (B : Int) (2 * (B : Int) - 1)).length = 3 := by rw [sru_big hb hb' (by omega) (by omega) (by omega), f2, List.length_cons, lb]
  have l3 : (sru (B : Int) (2 * (B : Int) * (B : Int) - 1)).length = 4 := by rw [sru_big hb hb' (by omega) (by omega) (by omega), f3, List.length_cons, l2]
  match p, hp, hm with
  | 0, _, hm => simp only [lsp, Option.some.injEq] at hm; subst hm; exact ⟨by rw [sru_end (by omega)]; rfl, by omega, by omega⟩
  | 1, _, hm => simp only [lsp, Option.some.injEq] at hm; subst hm; exact ⟨lb, by omega, by omega⟩
  | 2, _, hm => rw [v2] at hm; simp only [Option.some.injEq] at hm; subst hm; exact ⟨l2, by omega, by omega⟩
  | 3, _, hm => rw [v3] at hm; simp only [Option.some.injEq] at hm; subst hm; exact ⟨l3, by omega, by omega⟩

end Go.Proofs.Ytdlohdjejmpmcaa

/- from X6D -/
namespace Go.Proofs.Ytdlohdjejmpmcaa
open Go.RowKit
set_option linter.unusedVariables false
set_option linter.unusedSimpArgs false
set_option maxRecDepth 100000

theorem draw_ProductRun (v : Value) (xs : List Int) (w : World) (h : Sb w v xs) (hs : xs.length ≤ 1048576) :
    Calls Try.prog 83 #[v] w fun e w' => ∃ z y : Int, e = .returned (.tuple #[.int .i64 z, .int .i64 y]) ∧ Below w.heap.size w w' := by
  have HC := Lib.hid (Cu.start h hs)
  obtain ⟨a, cap, rfl⟩ := h.len
  have HB := Lib.hid (alloc_below w (.cells #[.slice a xs.length cap, .int .i64 0, .int .u64 0] 47))
  clear h
  go_enter Try.func83, Try.ntmps83
  go_wp2_with fail
  refine (numberD_any w.heap.size _ xs _ _ HC.out (by omega)).mono ?_
  rintro e w1 ⟨z, rfl, hc, hg⟩
  have C1 := Lib.hid hc
  have HB1 := Lib.hid (HB.out.trans (grown_below hg (by simp) (Nat.le_refl _)))
  clear hc hg
  go_wp2_with (go_at_call 53; refine (base_any w.heap.size _ xs _ _ C1.out (by omega)).mono ?_; rintro e w2 ⟨y, rfl, hc, hg⟩; have HB2 := Lib.hid (HB1.out.trans (grown_below hg HB1.out.size (Nat.le_refl _))); clear hc hg)
  go_ret2
  exact ⟨_, _, rfl, HB2.out⟩
theorem draw_NextHarshad (v : Value) (xs : List Int) (w : World) (h : Sb w v xs) (hs : xs.length ≤ 1048576) :
    Calls Try.prog 42 #[v] w fun e w' => ∃ z y : Int, e = .returned (.tuple #[.int .i64 z, .int .i64 y]) ∧ Below w.heap.size w w' := by
  have HD := Lib.hid (draw_ProductRun v xs w h hs)
  clear h
  go_enter Try.func42, Try.ntmps42
  go_wp2_with fail
  refine HD.out.mono ?_
  rintro e w1 ⟨z, y, rfl, hb⟩
  have HB := Lib.hid hb
  clear hb
  go_wp2
  go_ret2
  exact ⟨_, _, rfl, HB.out⟩

theorem draw_SumProductNumbers (v : Value) (xs : List Int) (w : World) (h : Sb w v xs) (hs : xs.length ≤ 1048576) :
    Calls Try.prog 49 #[v] w fun e w' => ∃ z y : Int, e = .returned (.tuple #[.int .i64 z, .int .i64 y]) ∧ Below w.heap.size w w' := by
  have HC := Lib.hid (Cu.start h hs)
  obtain ⟨a, cap, rfl⟩ := h.len
  have HB := Lib.hid (alloc_below w (.cells #[.slice a xs.length cap, .int .i64 0, .int .u64 0] 47))
  clear h
  go_enter Try.func49, Try.ntmps49
  go_wp2_with fail
  refine (pick_any w.heap.size _ xs _ 256 _ HC.out (by omega) (by omega) (by omega)).mono ?_
  rintro e w1 ⟨x, rfl, x0, x1, hc, hg⟩
  have C1 := Lib.hid hc
  have HB1 := Lib.hid (HB.out.trans (grown_below hg (by simp) (Nat.le_refl _)))
  have x2 : x ≤ 255 := by omega
  clear hc hg x1
  go_wp2_with fail
  refine (pick_any w.heap.size _ xs _ 8 _ C1.out (by omega) (by omega) (by omega)).mono ?_
  rintro e w2 ⟨y, rfl, y0, y1, hc, hg⟩
  have C2 := Lib.hid hc
  have HB2 := Lib.hid (HB1.out.trans (grown_below hg HB1.out.size (Nat.le_refl _)))
  have y2 : y ≤ 7 := by omega
  have m0 : 0 ≤ x * (1 + y) := Int.mul_nonneg x0 (by omega)
  have m1 : x * (1 + y) ≤ 2040 := by
    have := Int.mul_le_mul x2 (show 1 + y ≤ 8 by omega) (by omega) (by omega)
    omega
  clear hc hg y1
  go_wp2_with fail
  refine (one_any w.heap.size _ xs _ 10 _ C2.out (by omega) (by omega) (by omega)).mono ?_
  rintro e w3 ⟨q, rfl, hc, hg⟩
  have C3 := Lib.hid hc
  have HB3 := Lib.hid (HB2.out.trans (grown_below hg HB2.out.size (Nat.le_refl _)))
  clear hc hg
  cases q
  · go_wp2_with (go_at_call 53; refine (base_any w.heap.size _ xs _ _ C3.out (by omega)).mono ?_; rintro e w4 ⟨u, rfl, hc, hg⟩; have HB4 := Lib.hid (HB3.out.trans (grown_below hg HB3.out.size (Nat.le_refl _))); clear hc hg)
    go_ret2
    exact ⟨_, _, rfl, HB4.out⟩
  · have HA := Lib.hid (among_lit w.heap.size _ xs _ [-1, 0, 20000, 20001] _ C3.out (by omega) (by simp) (by simp))
    go_wp2_with fail
    refine HA.out.mono ?_
    rintro e w4 ⟨t, rfl, hc, hg⟩
    have C4 := Lib.hid hc
    have HB4 := Lib.hid (HB3.out.trans (grown_below hg HB3.out.size (Nat.le_refl _)))
    clear hc hg
    go_wp2_with (go_at_call 53; refine (base_any w.heap.size _ xs _ _ C4.out (by omega)).mono ?_; rintro e w5 ⟨u, rfl, hc, hg⟩; have HB5 := Lib.hid (HB4.out.trans (grown_below hg HB4.out.size (Nat.le_refl _))); clear hc hg)
    go_ret2
    exact ⟨_, _, rfl, HB5.out⟩

end Go.Proofs.Ytdlohdjejmpmcaa

/- from X6M -/
namespace Go.Proofs.Ytdlohdjejmpmcaa
open Go.RowKit
set_option linter.unusedVariables false
set_option linter.unusedSimpArgs false
set_option maxRecDepth 100000

theorem draw_SumRun (v : Value) (xs : List Int) (w : World) (h : Sb w v xs) (hs : xs.length ≤ 1048576) :
    Calls Try.prog 31 #[v] w fun e w' => ∃ z y : Int, e = .returned (.tuple #[.int .i64 z, .int .i64 y]) ∧ Below w.heap.size w w' := by
  have HD := Lib.hid (draw_ProductRun v xs w h hs)
  clear h
  go_enter Try.func31, Try.ntmps31
  go_wp2_with fail
  refine HD.out.mono ?_
  rintro e w1 ⟨z, y, rfl, hb⟩
  have HB := Lib.hid hb
  clear hb
  go_wp2
  go_ret2
  exact ⟨_, _, rfl, HB.out⟩
theorem draw_LeastSumPersistent (v : Value) (xs : List Int) (w : World) (h : Sb w v xs) (hs : xs.length ≤ 1048576) :
    Calls Try.prog 40 #[v] w fun e w' => ∃ z y : Int, e = .returned (.tuple #[.int .i64 z, .int .i64 y]) ∧ Below w.heap.size w w' := by
  have HC := Lib.hid (Cu.start h hs)
  obtain ⟨a, cap, rfl⟩ := h.len
  have HB := Lib.hid (alloc_below w (.cells #[.slice a xs.length cap, .int .i64 0, .int .u64 0] 47))
  clear h
  go_enter Try.func40, Try.ntmps40
  go_wp2_with fail
  refine (pick_any w.heap.size _ xs _ 6 _ HC.out (by omega) (by omega) (by omega)).mono ?_
  rintro e w1 ⟨x, rfl, x0, x1, hc, hg⟩
  have C1 := Lib.hid hc
  have HB1 := Lib.hid (HB.out.trans (grown_below hg (by simp) (Nat.le_refl _)))
  have x2 : x ≤ 5 := by omega
  clear hc hg x1
  go_wp2_with (go_at_call 53; refine (base_any w.heap.size _ xs _ _ C1.out (by omega)).mono ?_; rintro e w2 ⟨y, rfl, hc, hg⟩; have HB2 := Lib.hid (HB1.out.trans (grown_below hg HB1.out.size (Nat.le_refl _))); clear hc hg)
  go_ret2
  exact ⟨_, _, rfl, HB2.out⟩

theorem rd_liesM {w : World} {B : Nat} {v : Value} {xs : List Int} (hr : Rd w B v xs) : ∃ a cap, v = .slice a xs.length cap ∧ xs.length ≤ cap ∧ (xs.length = 0 ∨ ∃ g, a = some ⟨g, 0, none⟩ ∧ g < w.heap.size ∧ ∀ (j : Nat) x, xs[j]? = some x → w.cell? ⟨g, j, none⟩ = some (.int .i64 x)) := by
  rcases hr.cases with ⟨rfl, rfl⟩ | ⟨g, cap, rfl, _⟩
  · exact ⟨none, 0, rfl, Nat.le_refl _, .inl rfl⟩
  · refine ⟨_, _, rfl, hr.at.2.2.2.1, .inr ⟨g, rfl, hr.at.2.2.1, fun j x hx => ?_⟩⟩
    obtain ⟨h1, h2⟩ := List.getElem?_eq_some_iff.1 hx
    rw [hr.at.2.2.2.2.1 j h1, h2]

/-- What the law asks of a number's run of sums: M sums, L the run. -/
structure Smr (n b : Int) (L : List Int) (M : Nat) (r : Int) : Prop where
  len : L.length = M + 1
  short : M ≤ 1000
  first : L[0]? = some n
  last : L[M]? = some r
  step : ∀ (j : Nat) (x : Int), L[j]? = some x → j + 1 < M + 1 → ∃ y, L[j + 1]? = some y ∧ sd b x = y ∧ y < x ∧ (x - y).tmod (b - 1) = 0 ∧ Num x ∧ 0 ≤ y
  least : ∀ m, askLSP (M : Int) b = some m → m ≤ n
theorem smr_of {n b : Int} (hN : Num n) (hB : Bas b) : Smr n b (sru b n) ((sru b n).length - 1) (dr b n) := by
  have h := srn b hB.1 hB.2 n.toNat n (Nat.le_refl _) hN.1 hN.2
  have hp := h.pos
  have hl := sru_len b n hB.1 hB.2 hN.1 hN.2
  refine ⟨by omega, by omega, h.first, h.last, fun j x hx hj => ?_, fun m hm => ?_⟩
  · obtain ⟨h1, h2⟩ := h.step j x hx (by omega)
    have hx2 := h.all x (List.mem_of_getElem? hx)
    obtain ⟨s0, _, _, _⟩ := sd_bd b x hB.1 hB.2 hx2.1 hx2.2
    refine ⟨sd b x, h1, rfl, h2, ?_, hx2, s0⟩
    obtain ⟨q, hq⟩ := sum_mod b hB.1 x.toNat x (Nat.le_refl _) hx2.1
    rw [Int.tmod_eq_emod_of_nonneg (by omega)]
    have : x - sd b x = (b - 1) * q := hq
    rw [this]
    exact Int.mul_emod_right _ _
  · unfold askLSP at hm
    by_cases hk : LSPok (((sru b n).length - 1 : Nat) : Int) b
    · rw [if_pos hk] at hm
      obtain ⟨⟨_, k1⟩, _⟩ := hk
      have e : ((((sru b n).length - 1 : Nat) : Int)).toNat = (sru b n).length - 1 := by omega
      rw [e] at hm
      exact lsp_least hB.1 hB.2 hN.1 hN.2 (by omega) (by omega) hm
    · rw [if_neg hk] at hm
      cases hm
theorem least_has {k b m : Int} (h : askLSP k b = some m) : Num m ∧ Bas b ∧ RSumPersistence b m = k := by
  unfold askLSP at h
  by_cases hk : LSPok k b
  · rw [if_pos hk] at h
    obtain ⟨⟨k0, k1⟩, hB⟩ := hk
    obtain ⟨h1, h2, h3⟩ := lsp_has hB.1 hB.2 (by omega) h
    refine ⟨⟨h2, h3⟩, hB, ?_⟩
    unfold RSumPersistence
    rw [h1]
    omega
  · rw [if_neg hk] at h
    cases h

set_option maxHeartbeats 20000000 in
theorem law_SumsOfDigitsRun {W : World} (v0 : Value) (xs0 : List Int) (hs0 : Sb W v0 xs0) (v1 : Value) (xs1 : List Int) (hs1 : Sb W v1 xs1) :
    Calls Try.prog 4 #[v0, v1] W fun e w' => e = .returned (.bool true) ∧ Below W.heap.size W w' := by
  obtain ⟨a0, k0, rfl⟩ := hs0.len
  obtain ⟨a1, k1, rfl⟩ := hs1.len
  have HS0 := Lib.hid hs0
  have HS1 := Lib.hid hs1
  have HB := Lib.hid (big_any a0 a1 xs0.length xs1.length k0 k1 W)
  clear hs0 hs1
  by_cases hbig : 1048576 < xs0.length ∨ 1048576 < xs0.length + xs1.length
  · rw [decide_eq_true hbig] at HB
    go_enter Try.func4, Try.ntmps4
    go_wp2_with (go_at_call 6; refine HB.out.mono ?_; rintro e w ⟨rfl, rfl⟩)
    go_ret
    exact ⟨rfl, Below.refl _ _⟩
  rw [decide_eq_false hbig] at HB
  have hl0 : xs0.length ≤ 1048576 := by omega
  have hl1 : xs1.length ≤ 1048576 := by omega
  have HL1 := Lib.hid hl1
  clear hbig
  go_enter Try.func4, Try.ntmps4
  go_wp2_with fail
  refine HB.out.mono ?_
  rintro e w ⟨rfl, rfl⟩
  go_wp2_with fail
  refine (draw_SumRun _ xs0 _ HS0.out hl0).mono ?_
  rintro e w1 ⟨n, b, rfl, hb⟩
  have BE1 := Lib.hid hb
  clear hb hl0 hl1
  have HI1 := Lib.hid (fun w => impl_SumRun n b w)
  have HT1 := Lib.hid (fun w => spec_SumRun n b w)
  have HI2 := Lib.hid (fun w => impl_SumPersistence n b w)
  have HT2 := Lib.hid (fun w => spec_SumPersistence n b w)
  have HI3 := Lib.hid (fun w => impl_RootByRemainder n b w)
  have HT3 := Lib.hid (fun w => spec_RootByRemainder n b w)
  by_cases hq : Num n ∧ Bas b
  · have HM := Lib.hid (smr_of hq.1 hq.2)
    have e1 : askL sru n b = sru b n := if_pos hq
    have e2 : askI RSumPersistence n b = some (RSumPersistence b n) := if_pos hq
    have e3 : askI RRootByRemainder n b = some (dr b n) := by unfold askI; rw [if_pos hq]; exact congrArg some (rbr_dr hq.2.1 hq.1.1)
    have e4 : okq n b = true := okq_yes hq
    have HDR := Lib.hid (fun w => impl_DigitalRoot n b w)
    have e5 : askI RDigitalRoot n b = some (dr b n) := if_pos hq
    rw [e5] at HDR
    have e6 : RSumPersistence b n = (((sru b n).length - 1 : Nat) : Int) := by unfold RSumPersistence; have := HM.out.len; omega
    rw [e1, e4] at HI1 HT1
    rw [e2, e6] at HI2 HT2
    rw [e3] at HI3 HT3
    simp only [optRes] at HI2 HT2 HI3 HT3 HDR
    obtain ⟨M, hM⟩ : ∃ M, M = (sru b n).length - 1 := ⟨_, rfl⟩
    obtain ⟨r, hr⟩ : ∃ r, r = dr b n := ⟨_, rfl⟩
    obtain ⟨L, hL⟩ : ∃ L, L = sru b n := ⟨_, rfl⟩
    rw [← hM, ← hr, ← hL] at HM
    rw [← hM] at HI2 HT2
    rw [← hr] at HI3 HT3 HDR
    rw [← hL] at HI1 HT1
    have hM1 := HM.out.short
    have HSH := Lib.hid (show L.length ≤ 1001 by have := HM.out.len; omega)
    have HLI := Lib.hid (fun w => impl_LeastSumPersistent (M : Int) b w)
    have HLE := Lib.hid HM.out.least
    obtain ⟨rl, hrl⟩ : ∃ rl, rl = askLSP (M : Int) b := ⟨_, rfl⟩
    rw [← hrl] at HLI HLE
    obtain ⟨⟨n0, n1⟩, hb0, hb1⟩ := hq
    clear e1 e2 e3 e4 e5 e6 hM hr hL hrl
    go_wp2_with fail
    refine (HI1.out _).mono ?_
    rintro e w2 ⟨uD, rfl, hr, hb⟩
    have BE2 := Lib.hid (BE1.out.trans (hb.mono BE1.out.size))
    have R1 := Lib.hid hr
    clear hr hb
    go_wp2_with fail
    refine (HT1.out _).mono ?_
    rintro e w3 ⟨uE, rfl, hr, hb⟩
    have R2 := Lib.hid (R1.out.keep hb)
    have BE3 := Lib.hid (BE2.out.trans (hb.mono BE2.out.size))
    have R3 := Lib.hid hr
    clear hr hb
    go_wp2_with fail
    refine (HI2.out _).mono ?_
    rintro e w4 ⟨rfl, hb⟩
    have R4 := Lib.hid (R2.out.keep hb)
    have R5 := Lib.hid (R3.out.keep hb)
    have BE4 := Lib.hid (BE3.out.trans (hb.mono BE3.out.size))
    clear hb
    go_wp2_with fail
    refine (HT2.out _).mono ?_
    rintro e w5 ⟨rfl, hb⟩
    have R6 := Lib.hid (R4.out.keep hb)
    have R7 := Lib.hid (R5.out.keep hb)
    have BE5 := Lib.hid (BE4.out.trans (hb.mono BE4.out.size))
    clear hb
    go_wp2_with fail
    refine (HI3.out _).mono ?_
    rintro e w6 ⟨rfl, hb⟩
    have R8 := Lib.hid (R6.out.keep hb)
    have R9 := Lib.hid (R7.out.keep hb)
    have BE6 := Lib.hid (BE5.out.trans (hb.mono BE5.out.size))
    clear hb
    go_wp2_with fail
    refine (HT3.out _).mono ?_
    rintro e w7 ⟨rfl, hb⟩
    have R10 := Lib.hid (R8.out.keep hb)
    have R11 := Lib.hid (R9.out.keep hb)
    have BE7 := Lib.hid (BE6.out.trans (hb.mono BE6.out.size))
    clear hb
    go_wp2_with fail
    refine (qSame_any _ _ L _ R10.out.sl R11.out.sl (by have := HSH.out; omega)).mono ?_
    rintro e w8 ⟨rfl, hb⟩
    have R12 := Lib.hid (R10.out.keep hb)
    have R13 := Lib.hid (R11.out.keep hb)
    have BE8 := Lib.hid (BE7.out.trans (hb.mono BE7.out.size))
    clear hb
    obtain ⟨ga, gc, hga, hgc, hlies⟩ := rd_liesM R12.out
    rw [HM.out.len] at hga hgc
    subst hga
    have HLL := Lib.hid hlies
    clear hlies
    obtain ⟨g, rfl, hg, hcell⟩ : ∃ g, ga = some ⟨g, 0, none⟩ ∧ g < w8.heap.size ∧ ∀ (j : Nat) x, L[j]? = some x → w8.cell? ⟨g, j, none⟩ = some (.int .i64 x) := by
      rcases HLL.out with h0 | h
      · have := HM.out.len; omega
      · exact h
    have HCE := Lib.hid hcell
    have HGG := Lib.hid hg
    have zl := hcell M r HM.out.last
    clear hcell HLL
    go_wp2_with fail
    refine (HDR.out _).mono ?_
    rintro e w9 ⟨rfl, hb⟩
    have BE9 := Lib.hid (BE8.out.trans (hb.mono BE8.out.size))
    have KK := Lib.hid hb
    clear hb
    clear zl
    have HC2 := Lib.hid (fun (j : Nat) (x : Int) (hx : L[j]? = some x) (w : World) (hb : Below w8.heap.size w8 w) => (hb.cell (p := ⟨g, j, none⟩) HGG.out).trans (HCE.out j x hx))
    go_wp2
    go_loopw [22] (fun i wr => ∃ j : Nat, j + 1 ≤ M + 1 ∧ i = .int .i64 ((j : Int) + 1) ∧ Below w8.heap.size w8 wr) (fun i _ => M + 2 - (intOf i).toNat)
    case atStart => exact ⟨0, by omega, by go_num, KK.out⟩
    case round =>
      obtain ⟨j, hj, rfl, hb⟩ := hrel
      have KB := Lib.hid hb
      clear hb
      by_cases hlt : j < M
      · obtain ⟨x, hx⟩ : ∃ x, L[j]? = some x := ⟨L[j]'(by have := HM.out.len; omega), List.getElem?_eq_getElem _⟩
        obtain ⟨y, hy, hsd, hyx, hmod, hNx, hy0⟩ := HM.out.step j x hx (by omega)
        have HDS := Lib.hid (fun w => impl_DigitSum x b w)
        have e1 : askI RDigitSum x b = some y := by unfold askI; rw [if_pos ⟨hNx, hb0, hb1⟩]; exact congrArg some hsd
        rw [e1] at HDS
        simp only [optRes] at HDS
        have z0 := HC2.out j x hx _ KB.out
        have hgr : g < wr.heap.size := Nat.lt_of_lt_of_le HGG.out KB.out.size
        have HXX := Lib.hid hx
        have HYY := Lib.hid hy
        obtain ⟨x0, x1⟩ := hNx
        have hb2 : ¬ b - 1 = 0 := by omega
        clear hx hy hsd e1
        go_wp2_with fail
        refine (HDS.out _).mono ?_
        rintro e w5 ⟨rfl, hb⟩
        have KB2 := Lib.hid (KB.out.trans (hb.mono KB.out.size))
        clear hb z0
        have z0 := HC2.out j x HXX.out _ KB2.out
        have z1 := HC2.out (j + 1) y HYY.out _ KB2.out
        have hnl : ¬ x ≤ y := by omega
        go_wp2
        go_roundw
        case rel => exact ⟨j + 1, by omega, by go_num, KB2.out⟩
        case measure => simp [intOf]; omega
      · obtain rfl : j = M := by omega
        have BEX := Lib.hid (BE8.out.trans (KB.out.mono BE8.out.size))
        cases rl with
        | none =>
          simp only [optRes] at HLI
          have BE100 := BEX
          go_wp2_with fail
          refine (HLI.out _).mono ?_
          rintro e w101 ⟨rfl, hb⟩
          have BE101 := Lib.hid (BE100.out.trans (hb.mono BE100.out.size))
          clear hb
          as_aux_lemma =>
            go_wp2_with fail
            refine (draw_LeastSumPersistent _ xs1 _ (HS1.out.keep BE101.out) HL1.out).mono ?_
            rintro e y1 ⟨z, y, rfl, hb⟩
            have BE102 := Lib.hid (BE101.out.trans (hb.mono BE101.out.size))
            clear hb
            have HJI := Lib.hid (fun w => impl_LeastSumPersistent z y w)
            have HJS := Lib.hid (fun w => spec_LeastSumPersistent z y w)
            have HLH := Lib.hid (fun m (h : askLSP z y = some m) => least_has h)
            obtain ⟨rl, hrl⟩ : ∃ rl, rl = askLSP z y := ⟨_, rfl⟩
            rw [← hrl] at HJI HJS HLH
            clear hrl
            cases rl with
            | none =>
              simp only [optRes] at HJI HJS
              go_wp2_with fail
              refine (HJI.out _).mono ?_
              rintro e w103 ⟨rfl, hb⟩
              have BE103 := Lib.hid (BE102.out.trans (hb.mono BE102.out.size))
              clear hb
              go_wp2_with fail
              refine (HJS.out _).mono ?_
              rintro e w104 ⟨rfl, hb⟩
              have BE104 := Lib.hid (BE103.out.trans (hb.mono BE103.out.size))
              clear hb
              go_wp2
              go_ret
              exact ⟨rfl, BE104.out⟩
            | some m =>
              simp only [optRes] at HJI HJS
              go_wp2_with fail
              refine (HJI.out _).mono ?_
              rintro e w103 ⟨rfl, hb⟩
              have BE103 := Lib.hid (BE102.out.trans (hb.mono BE102.out.size))
              clear hb
              go_wp2_with fail
              refine (HJS.out _).mono ?_
              rintro e w104 ⟨rfl, hb⟩
              have BE104 := Lib.hid (BE103.out.trans (hb.mono BE103.out.size))
              clear hb
              obtain ⟨hm1, hm2, hm3⟩ := HLH.out m rfl
              have HSP := Lib.hid (fun w => impl_SumPersistence m y w)
              have e1 : askI RSumPersistence m y = some z := by unfold askI; rw [if_pos ⟨hm1, hm2⟩, hm3]
              rw [e1] at HSP
              simp only [optRes] at HSP
              clear hm1 hm2 hm3 e1
              go_wp2_with fail
              refine (HSP.out _).mono ?_
              rintro e w105 ⟨rfl, hb⟩
              have BE105 := Lib.hid (BE104.out.trans (hb.mono BE104.out.size))
              clear hb
              go_wp2
              go_ret
              exact ⟨rfl, BE105.out⟩
        | some m =>
          simp only [optRes] at HLI
          have hmn := HLE.out m rfl
          have hmn2 : ¬ n < m := by omega
          have BE100 := BEX
          go_wp2_with fail
          refine (HLI.out _).mono ?_
          rintro e w101 ⟨rfl, hb⟩
          have BE101 := Lib.hid (BE100.out.trans (hb.mono BE100.out.size))
          clear hb
          as_aux_lemma =>
            go_wp2_with fail
            refine (draw_LeastSumPersistent _ xs1 _ (HS1.out.keep BE101.out) HL1.out).mono ?_
            rintro e y1 ⟨z, y, rfl, hb⟩
            have BE102 := Lib.hid (BE101.out.trans (hb.mono BE101.out.size))
            clear hb
            have HJI := Lib.hid (fun w => impl_LeastSumPersistent z y w)
            have HJS := Lib.hid (fun w => spec_LeastSumPersistent z y w)
            have HLH := Lib.hid (fun m (h : askLSP z y = some m) => least_has h)
            obtain ⟨rl, hrl⟩ : ∃ rl, rl = askLSP z y := ⟨_, rfl⟩
            rw [← hrl] at HJI HJS HLH
            clear hrl
            cases rl with
            | none =>
              simp only [optRes] at HJI HJS
              go_wp2_with fail
              refine (HJI.out _).mono ?_
              rintro e w103 ⟨rfl, hb⟩
              have BE103 := Lib.hid (BE102.out.trans (hb.mono BE102.out.size))
              clear hb
              go_wp2_with fail
              refine (HJS.out _).mono ?_
              rintro e w104 ⟨rfl, hb⟩
              have BE104 := Lib.hid (BE103.out.trans (hb.mono BE103.out.size))
              clear hb
              go_wp2
              go_ret
              exact ⟨rfl, BE104.out⟩
            | some m =>
              simp only [optRes] at HJI HJS
              go_wp2_with fail
              refine (HJI.out _).mono ?_
              rintro e w103 ⟨rfl, hb⟩
              have BE103 := Lib.hid (BE102.out.trans (hb.mono BE102.out.size))
              clear hb
              go_wp2_with fail
              refine (HJS.out _).mono ?_
              rintro e w104 ⟨rfl, hb⟩
              have BE104 := Lib.hid (BE103.out.trans (hb.mono BE103.out.size))
              clear hb
              obtain ⟨hm1, hm2, hm3⟩ := HLH.out m rfl
              have HSP := Lib.hid (fun w => impl_SumPersistence m y w)
              have e1 : askI RSumPersistence m y = some z := by unfold askI; rw [if_pos ⟨hm1, hm2⟩, hm3]
              rw [e1] at HSP
              simp only [optRes] at HSP
              clear hm1 hm2 hm3 e1
              go_wp2_with fail
              refine (HSP.out _).mono ?_
              rintro e w105 ⟨rfl, hb⟩
              have BE105 := Lib.hid (BE104.out.trans (hb.mono BE104.out.size))
              clear hb
              go_wp2
              go_ret
              exact ⟨rfl, BE105.out⟩
  · skip
    have e1 : askL sru n b = [] := if_neg hq
    have e2 : askI RSumPersistence n b = none := if_neg hq
    have e3 : askI RRootByRemainder n b = none := if_neg hq
    have e4 : okq n b = false := okq_no hq
    rw [e1, e4] at HI1 HT1
    rw [e2] at HI2 HT2
    rw [e3] at HI3 HT3
    simp only [optRes] at HI2 HT2 HI3 HT3
    clear hq e1 e2 e3 e4
    go_wp2_with fail
    refine (HI1.out _).mono ?_
    rintro e w2 ⟨uD, rfl, hr, hb⟩
    have BE2 := Lib.hid (BE1.out.trans (hb.mono BE1.out.size))
    have R1 := Lib.hid hr
    clear hr hb
    go_wp2_with fail
    refine (HT1.out _).mono ?_
    rintro e w3 ⟨uE, rfl, hr, hb⟩
    have R2 := Lib.hid (R1.out.keep hb)
    have BE3 := Lib.hid (BE2.out.trans (hb.mono BE2.out.size))
    have R3 := Lib.hid hr
    clear hr hb
    go_wp2_with fail
    refine (HI2.out _).mono ?_
    rintro e w4 ⟨rfl, hb⟩
    have R4 := Lib.hid (R2.out.keep hb)
    have R5 := Lib.hid (R3.out.keep hb)
    have BE4 := Lib.hid (BE3.out.trans (hb.mono BE3.out.size))
    clear hb
    go_wp2_with fail
    refine (HT2.out _).mono ?_
    rintro e w5 ⟨rfl, hb⟩
    have R6 := Lib.hid (R4.out.keep hb)
    have R7 := Lib.hid (R5.out.keep hb)
    have BE5 := Lib.hid (BE4.out.trans (hb.mono BE4.out.size))
    clear hb
    go_wp2_with fail
    refine (HI3.out _).mono ?_
    rintro e w6 ⟨rfl, hb⟩
    have R8 := Lib.hid (R6.out.keep hb)
    have R9 := Lib.hid (R7.out.keep hb)
    have BE6 := Lib.hid (BE5.out.trans (hb.mono BE5.out.size))
    clear hb
    go_wp2_with fail
    refine (HT3.out _).mono ?_
    rintro e w7 ⟨rfl, hb⟩
    have R10 := Lib.hid (R8.out.keep hb)
    have R11 := Lib.hid (R9.out.keep hb)
    have BE7 := Lib.hid (BE6.out.trans (hb.mono BE6.out.size))
    clear hb
    go_wp2_with fail
    refine (qSame_any _ _ [] _ R10.out.sl R11.out.sl (by simp)).mono ?_
    rintro e w8 ⟨rfl, hb⟩
    have R12 := Lib.hid (R10.out.keep hb)
    have R13 := Lib.hid (R11.out.keep hb)
    have BE8 := Lib.hid (BE7.out.trans (hb.mono BE7.out.size))
    clear hb
    as_aux_lemma =>
      go_wp2_with fail
      refine (draw_LeastSumPersistent _ xs1 _ (HS1.out.keep BE8.out) HL1.out).mono ?_
      rintro e y1 ⟨z, y, rfl, hb⟩
      have BE9 := Lib.hid (BE8.out.trans (hb.mono BE8.out.size))
      clear hb
      have HJI := Lib.hid (fun w => impl_LeastSumPersistent z y w)
      have HJS := Lib.hid (fun w => spec_LeastSumPersistent z y w)
      have HLH := Lib.hid (fun m (h : askLSP z y = some m) => least_has h)
      obtain ⟨rl, hrl⟩ : ∃ rl, rl = askLSP z y := ⟨_, rfl⟩
      rw [← hrl] at HJI HJS HLH
      clear hrl
      cases rl with
      | none =>
        simp only [optRes] at HJI HJS
        go_wp2_with fail
        refine (HJI.out _).mono ?_
        rintro e w10 ⟨rfl, hb⟩
        have BE10 := Lib.hid (BE9.out.trans (hb.mono BE9.out.size))
        clear hb
        go_wp2_with fail
        refine (HJS.out _).mono ?_
        rintro e w11 ⟨rfl, hb⟩
        have BE11 := Lib.hid (BE10.out.trans (hb.mono BE10.out.size))
        clear hb
        go_wp2
        go_ret
        exact ⟨rfl, BE11.out⟩
      | some m =>
        simp only [optRes] at HJI HJS
        go_wp2_with fail
        refine (HJI.out _).mono ?_
        rintro e w10 ⟨rfl, hb⟩
        have BE10 := Lib.hid (BE9.out.trans (hb.mono BE9.out.size))
        clear hb
        go_wp2_with fail
        refine (HJS.out _).mono ?_
        rintro e w11 ⟨rfl, hb⟩
        have BE11 := Lib.hid (BE10.out.trans (hb.mono BE10.out.size))
        clear hb
        obtain ⟨hm1, hm2, hm3⟩ := HLH.out m rfl
        have HSP := Lib.hid (fun w => impl_SumPersistence m y w)
        have e1 : askI RSumPersistence m y = some z := by unfold askI; rw [if_pos ⟨hm1, hm2⟩, hm3]
        rw [e1] at HSP
        simp only [optRes] at HSP
        clear hm1 hm2 hm3 e1
        go_wp2_with fail
        refine (HSP.out _).mono ?_
        rintro e w12 ⟨rfl, hb⟩
        have BE12 := Lib.hid (BE11.out.trans (hb.mono BE11.out.size))
        clear hb
        go_wp2
        go_ret
        exact ⟨rfl, BE12.out⟩

end Go.Proofs.Ytdlohdjejmpmcaa
