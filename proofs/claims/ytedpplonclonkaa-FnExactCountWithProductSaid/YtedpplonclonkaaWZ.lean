/-
  The model's list of divisors: what its loops keep, plain.
-/
import Derived.Test.YtedpplonclonkaaVZ
namespace Go.Proofs.Ytedpplonclonkaa
open Go.RowKit
set_option linter.unusedVariables false
set_option linter.unusedSimpArgs false

/-- Divisors that rise are few. -/
theorem len_div {p : Nat} (hp : 1 ≤ p) : ∀ (D : List Nat) (y : Nat), (y :: D).Pairwise (· < ·) → (∀ z ∈ y :: D, 1 ≤ z ∧ z ∣ p) → (y :: D).length ≤ p / y
  | [], y, _, h => by
    obtain ⟨h1, h2⟩ := h y (by simp)
    exact Nat.div_pos (Nat.le_of_dvd (by omega) h2) (by omega)
  | z :: D, y, hs, h => by
    have ih := len_div hp D z (List.pairwise_cons.1 hs).2 (fun x hx => h x (List.mem_cons_of_mem _ hx))
    obtain ⟨h1, h2⟩ := h y (by simp)
    obtain ⟨h3, h4⟩ := h z (by simp)
    have hyz : y < z := (List.pairwise_cons.1 hs).1 z (by simp)
    have e1 := Nat.div_mul_cancel h2
    have e2 := Nat.div_mul_cancel h4
    have : p / z < p / y := by
      by_cases hle : p / y ≤ p / z
      · exfalso
        have hpos : 1 ≤ p / z := Nat.div_pos (Nat.le_of_dvd (by omega) h4) (by omega)
        have a1 : p / y * y ≤ p / z * y := Nat.mul_le_mul_right _ hle
        have a2 : p / z * y < p / z * z := Nat.mul_lt_mul_of_pos_left hyz (by omega)
        omega
      · omega
    rw [List.length_cons]
    omega
theorem len_few {p : Nat} (hp : 1 ≤ p) (hp' : p ≤ 1000000000000) : ∀ (D : List Nat) (lo : Nat), D.Pairwise (· < ·) → (∀ z ∈ D, lo < z ∧ z ∣ p) → D.length ≤ (1000000 - lo) + 1000000
  | [], lo, _, _ => Nat.zero_le _
  | y :: D, lo, hs, h => by
    obtain ⟨h1, h2⟩ := h y (by simp)
    by_cases hy : y ≤ 1000000
    · have ih := len_few hp hp' D y (List.pairwise_cons.1 hs).2 (fun x hx => ⟨(List.pairwise_cons.1 hs).1 x hx, (h x (List.mem_cons_of_mem _ hx)).2⟩)
      rw [List.length_cons]; omega
    · have h3 := len_div hp D y hs (fun z hz => ⟨by have := (h z hz).1; omega, (h z hz).2⟩)
      have : p / y ≤ 1000000 := Nat.div_le_of_le_mul (by have : 1000000 * 1000000 ≤ y * 1000000 := Nat.mul_le_mul_right _ (by omega); omega)
      omega

theorem wpL_le (b c d y : Nat) : ∀ k e, wpL b c d y k e ≤ ctL (ct b) y k e
  | 0, e => Nat.le_refl _
  | k + 1, e => by
    have ih := wpL_le b c d y k (e + 1)
    rw [wpL, ctL]
    by_cases hm : y % e = 0
    · rw [if_pos hm]; split <;> omega
    · rw [if_neg hm, if_neg (fun h => hm h.1)]; omega
theorem fp_le {b c d y : Nat} (hy : 1 ≤ y) : fp b c d y ≤ ct b y := by
  unfold fp
  by_cases h1 : y = 1
  · rw [if_pos h1, ct_one b y (by omega)]; exact Nat.le_refl _
  · rw [if_neg h1, ct_step b y (by omega)]; exact wpL_le b c d y _ _

/-- What stands while the digits of a divisor are asked. -/
structure In (b p c k d n : Nat) (D V : List Nat) : Prop where
  dv : Dv b p c d D V
  len : D.length = n
  kn : k < n
  at' : D.getD k 0 = c

theorem getD_at {D : List Nat} {j : Nat} (h : j < D.length) : D.getD j 0 = D[j] := by
  rw [List.getD_eq_getElem?_getD, List.getElem?_eq_getElem h, Option.getD_some]

theorem In.mem {b p c k d n : Nat} {D V : List Nat} (h : In b p c k d n D V) : c ∈ D := by
  have hk : k < D.length := by rw [h.len]; exact h.kn
  rw [← h.at', getD_at hk]; exact List.getElem_mem hk
theorem In.vlen {b p c k d n : Nat} {D V : List Nat} (h : In b p c k d n D V) : V.length = n := by rw [h.dv.ways, List.length_map, h.len]
theorem In.v {b p c k d n : Nat} {D V : List Nat} (h : In b p c k d n D V) (j : Nat) (hj : j < n) : V.getD j 0 = fp b c d (D.getD j 0) := by
  have h1 : j < D.length := by rw [h.len]; exact hj
  have h2 : j < V.length := by rw [h.vlen]; exact hj
  rw [getD_at h1, getD_at h2]
  simp only [h.dv.ways, List.getElem_map]
theorem In.vk {b p c k d n : Nat} {D V : List Nat} (h : In b p c k d n D V) : V.getD k 0 = ct b c := by
  rw [h.v k h.kn, h.at', fp_full (h.dv.ct_c h.mem).1 (Nat.le_refl _)]
theorem In.few {b p c k d n : Nat} {D V : List Nat} (h : In b p c k d n D V) (hp : 1 ≤ p) (hp' : p ≤ 1000000000000) : n ≤ 2000000 := by
  have := len_few hp hp' D 0 h.dv.sorted (fun z hz => ⟨((h.dv.mem z).1 hz).1, ((h.dv.mem z).1 hz).2.1⟩)
  rw [h.len] at this; omega
theorem In.d_bd {b p c k d n : Nat} {D V : List Nat} (h : In b p c k d n D V) (hp : 1 ≤ p) (j : Nat) (hj : j < n) : 1 ≤ D.getD j 0 ∧ D.getD j 0 ≤ p := by
  have h1 : j < D.length := by rw [h.len]; exact hj
  rw [getD_at h1]
  obtain ⟨a, b', _⟩ := (h.dv.mem _).1 (List.getElem_mem h1)
  exact ⟨a, Nat.le_of_dvd (by omega) b'⟩
theorem In.v_bd {b p c k d n : Nat} {D V : List Nat} (h : In b p c k d n D V) (hp : 1 ≤ p) (hp' : p ≤ 1000000000000) (hb' : b ≤ 16) (j : Nat) (hj : j < n) : V.getD j 0 < 9223372036854775808 := by
  rw [h.v j hj]
  obtain ⟨h1, h2⟩ := h.d_bd hp j hj
  exact Nat.lt_of_le_of_lt (fp_le h1) (ct_lt b _ hb' h1 (by omega))
theorem In.low {b p c k d n : Nat} {D V : List Nat} (h : In b p c k d n D V) (hd : 2 ≤ d) : ∀ j, j < k + 1 → D.getD j 0 < c * d := by
  intro j hj
  have hk : k < D.length := by rw [h.len]; exact h.kn
  have hc1 := (h.dv.ct_c h.mem).1
  have hcd : c < c * d := by have := Nat.mul_le_mul_left c hd; omega
  have hle : D.getD j 0 ≤ c := by
    rw [← h.at', getD_at hk, getD_at (by omega)]
    by_cases e : j = k
    · subst e; exact Nat.le_refl _
    · exact Nat.le_of_lt ((List.pairwise_iff_getElem.1 h.dv.sorted) j k (by omega) hk (by omega))
  omega
theorem In.skip {b p c k d n : Nat} {D V : List Nat} (h : In b p c k d n D V) (hd : 2 ≤ d) (hdb : d < b) (hno : ¬ p % (c * d) = 0) : In b p c k (d + 1) n D V :=
  ⟨h.dv.skip hd hdb (h.dv.ct_c h.mem).1 (fun hx => hno (Nat.mod_eq_zero_of_dvd hx)), h.len, h.kn, h.at'⟩
theorem In.hit {b p c k d n t : Nat} {D V : List Nat} (h : In b p c k d n D V) (hd : 2 ≤ d) (hdb : d < b) (ht : t < n) (he : D.getD t 0 = c * d) : In b p c k (d + 1) n D (V.set t (V.getD t 0 + V.getD k 0)) := by
  have h1 : t < D.length := by rw [h.len]; exact ht
  refine ⟨?_, h.len, h.kn, h.at'⟩
  rw [h.vk]
  exact h.dv.hit hd hdb h.mem h1 (by rw [← he, getD_at h1])
theorem In.ins {b p c k d n t : Nat} {D V : List Nat} (h : In b p c k d n D V) (hd : 2 ≤ d) (hdb : d < b) (hm : p % (c * d) = 0) (hkt : k + 1 ≤ t) (ht : t ≤ n) (hlow : ∀ j, j < t → D.getD j 0 < c * d) (hhigh : t < n → c * d < D.getD t 0) :
    In b p c k (d + 1) (n + 1) (D.take t ++ [c * d] ++ D.drop t) (V.take t ++ [V.getD k 0] ++ V.drop t) := by
  have hl := h.len
  refine ⟨?_, ?_, by have := h.kn; omega, ?_⟩
  · rw [h.vk]
    refine h.dv.ins hd hdb h.mem (Nat.dvd_of_mod_eq_zero hm) (by omega) ?_ ?_
    · intro y hy
      obtain ⟨j, hj, rfl⟩ := List.getElem_of_mem hy
      have hj' : j < t ∧ j < D.length := by simp at hj; omega
      rw [List.getElem_take, ← getD_at hj'.2]
      exact hlow j hj'.1
    · intro y hy
      obtain ⟨j, hj, rfl⟩ := List.getElem_of_mem hy
      have hj' : j < D.length - t := by simpa using hj
      have htn : t < n := by omega
      have h3 := hhigh htn
      rw [getD_at (by omega)] at h3
      rw [List.getElem_drop]
      by_cases e : j = 0
      · subst e; simpa using h3
      · have := (List.pairwise_iff_getElem.1 h.dv.sorted) t (t + j) (by omega) (by omega) (by omega)
        omega
  · simp; omega
  · have hk : k < D.length := by have := h.kn; omega
    rw [← h.at', List.getD_eq_getElem?_getD, List.getD_eq_getElem?_getD, List.append_assoc, List.getElem?_append_left (by simp; omega), List.getElem?_take_of_lt (by omega)]

/-- What stands between two divisors. -/
def Ot (b p k n : Nat) (D V : List Nat) : Prop :=
  (k < n ∧ In b p (D.getD k 0) k 2 n D V) ∨ (k = n ∧ 1 ≤ n ∧ n ≤ 2000000 ∧ D.length = n ∧ V.length = n ∧ D.getD (n - 1) 0 ≤ p ∧ V.getD (n - 1) 0 < 9223372036854775808 ∧ (if D.getD (n - 1) 0 = p then V.getD (n - 1) 0 else 0) = ct b p)

theorem Ot.start {b p : Nat} (hp : 1 ≤ p) : Ot b p 0 1 [1] [1] := .inl ⟨by omega, ⟨Dv.start hp, rfl, by omega, rfl⟩⟩
theorem Ot.next {b p c k n : Nat} {D V : List Nat} (h : In b p c k b n D V) (hb : 2 ≤ b) (hb' : b ≤ 16) (hp : 1 ≤ p) (hp' : p ≤ 1000000000000) : Ot b p (k + 1) n D V := by
  have hl := h.len
  have hkn := h.kn
  have hk : k < D.length := by omega
  by_cases e : k + 1 < n
  · refine .inl ⟨e, ⟨?_, hl, e, rfl⟩⟩
    rw [getD_at (by omega)]
    exact h.dv.next hb (by omega) (by rw [← h.at', getD_at hk])
  · have hn : n = k + 1 := by omega
    refine .inr ⟨by omega, by omega, h.few hp hp', hl, h.vlen, ?_, ?_, ?_⟩
    · exact (h.d_bd hp (n - 1) (by omega)).2
    · exact h.v_bd hp hp' hb' (n - 1) (by omega)
    · rw [hn, Nat.add_sub_cancel, h.at']
      exact h.dv.last hb hp (by omega) (by rw [← h.at', getD_at hk])

end Go.Proofs.Ytedpplonclonkaa
