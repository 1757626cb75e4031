/-
  Numbers told by their digits, plain: what the law of chapter 6 asks of the next one, and of the list.
-/
import Derived.Test.YtdlohdjejmpmcaaWB
namespace Go.Proofs.Ytdlohdjejmpmcaa
set_option linter.unusedVariables false
set_option linter.unusedSimpArgs false

theorem hshF_least (b : Int) : ∀ (f : Nat) (m r : Int), hshF b f m = some r → m ≤ r ∧ r < m + f ∧ hsh b r = true ∧ ∀ k, m ≤ k → k < r → hsh b k = false
  | 0, m, r, h => by simp [hshF] at h
  | f + 1, m, r, h => by
    by_cases hh : hsh b m = true
    · rw [hshF, if_pos hh] at h
      simp only [Option.some.injEq] at h
      subst h
      exact ⟨Int.le_refl _, by omega, hh, fun k h1 h2 => by omega⟩
    · rw [hshF, if_neg hh] at h
      obtain ⟨h1, h2, h3, h4⟩ := hshF_least b f (m + 1) r h
      refine ⟨by omega, by omega, h3, fun k k1 k2 => ?_⟩
      by_cases hk : k = m
      · subst hk; simpa using hh
      · exact h4 k (by omega) k2
/-- The next number divided by its digit sum: none lies between. -/
theorem nexH_least {b n m : Int} (h : nexH b (n + 1) = some m) : n < m ∧ m ≤ 1000000000000 ∧ hsh b m = true ∧ ∀ k, n < k → k < m → hsh b k = false := by
  obtain ⟨h1, h2, h3, h4⟩ := hshF_least b _ _ _ h
  exact ⟨by omega, by omega, h3, fun k k1 k2 => h4 k (by omega) k2⟩
theorem spn_mem (b : Int) : ∀ (k : Nat) (x : Int), x ∈ spn b k → 1 ≤ x ∧ x ≤ k ∧ spt b x = true
  | 0, x, h => by simp [spn] at h
  | k + 1, x, h => by
    rw [spn] at h
    split at h
    · rename_i hs
      rcases List.mem_append.1 h with h | h
      · obtain ⟨h1, h2, h3⟩ := spn_mem b k x h
        exact ⟨h1, by omega, h3⟩
      · obtain rfl := List.mem_singleton.1 h
        exact ⟨by omega, by omega, hs⟩
    · obtain ⟨h1, h2, h3⟩ := spn_mem b k x h
      exact ⟨h1, by omega, h3⟩
theorem spn_rise (b : Int) : ∀ k : Nat, (spn b k).Pairwise (· < ·)
  | 0 => by simp [spn]
  | k + 1 => by
    have ih := spn_rise b k
    rw [spn]
    split
    · refine List.pairwise_append.2 ⟨ih, by simp, fun x hx y hy => ?_⟩
      obtain rfl := List.mem_singleton.1 hy
      have := (spn_mem b k x hx).2.1
      omega
    · exact ih
/-- A number that is its digit sum times its digit product is divided by its digit sum. -/
theorem spt_hsh {b x : Int} (hb : 2 ≤ b) (hb' : b ≤ 16) (h1 : 1 ≤ x) (h2 : x ≤ 20000) (h : spt b x = true) : hsh b x = true := by
  obtain ⟨p0, p1, _⟩ := pd_lt b x hb hb' (by omega) (by omega)
  obtain ⟨s0, _, s1, _⟩ := sd_bd b x hb hb' (by omega) (by omega)
  have m0 : 0 ≤ pd b x * sd b x := Int.mul_nonneg p0 s0
  have m1 : pd b x * sd b x ≤ 20000 * 600 := by
    have := Int.mul_le_mul (show pd b x ≤ 20000 by omega) s1 s0 (by omega)
    exact this
  have hx : x = pd b x * sd b x := by
    have := of_decide_eq_true h
    rwa [wrap_id (by omega) (by omega)] at this
  unfold hsh
  have hd : x % sd b x = 0 := by
    have e : x % sd b x = (pd b x * sd b x) % sd b x := congrArg (· % sd b x) hx
    rw [e]
    exact Int.mul_emod_left _ _
  rw [decide_eq_true (show 0 < x by omega), decide_eq_true hd]
  rfl

end Go.Proofs.Ytdlohdjejmpmcaa
