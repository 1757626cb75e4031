/-
  Happy numbers counted, plain: a number is happy just if its sum of squares is; how many have each sum.
-/
import Derived.Test.YtjfcbelbpgmokaaUN
namespace Go.Proofs.Ytjfcbelbpgmokaa
set_option linter.unusedVariables false
set_option linter.unusedSimpArgs false

theorem fold_mem : ∀ (zs : List Int) (a : Int), zs.foldl min a = a ∨ zs.foldl min a ∈ zs
  | [], a => .inl rfl
  | z :: zs, a => by
    rcases fold_mem zs (min a z) with h | h
    · rw [List.foldl_cons, h]
      by_cases hm : a ≤ z
      · left; omega
      · right
        have : min a z = z := by omega
        rw [this]; simp
    · right
      rw [List.foldl_cons]
      simp [h]
theorem fold_all (c : Int) : ∀ (zs : List Int) (a : Int), a = c → (∀ z ∈ zs, z = c) → zs.foldl min a = c
  | [], a, h, _ => h
  | z :: zs, a, h, hz => by
    rw [List.foldl_cons]
    refine fold_all c zs _ ?_ (fun y hy => hz y (by simp [hy]))
    have := hz z (by simp)
    omega
theorem ps_one {b : Nat} (hb : 2 ≤ b) : ps b 2 1 = 1 := by
  rw [ps_step 2 hb (by omega), Nat.mod_eq_of_lt (by omega), Nat.div_eq_of_lt (by omega), ps_zero]
theorem it_one {b : Nat} (hb : 2 ≤ b) : ∀ k, it (ps b 2) k 1 = 1
  | 0 => rfl
  | k + 1 => by rw [it_in, ps_one hb]; exact it_one hb k
/-- Happy: 1 is reached. -/
theorem hap_iff {b x : Nat} (hb : 2 ≤ b) (hb' : b ≤ 16) (hx : x ≤ 1000000000000) : hap b x = true ↔ ∃ k, it (ps b 2) k x = 1 := by
  obtain ⟨s1, s2, s3, s4, s5, s6⟩ := rl_spec (it_ps (p := 2) hb hb' (by omega) hx)
  obtain ⟨f, hf⟩ : ∃ f, f = ps b 2 := ⟨_, rfl⟩
  obtain ⟨r, hr⟩ : ∃ r, r = rl f PM x := ⟨_, rfl⟩
  obtain ⟨t, ht⟩ : ∃ t, t = tl f PM x := ⟨_, rfl⟩
  have hrun : run f PM x = (List.range r).map fun j => ((it f j x : Nat) : Int) := by rw [hr]; rfl
  rw [← hf, ← hr, ← ht] at s3 s4
  have hh : hap b x = ((((List.range r).map fun j => ((it f j x : Nat) : Int)).drop t).foldl min ((((List.range r).map fun j => ((it f j x : Nat) : Int)).drop t).headD 0) == 1) := by
    unfold hap endOf
    rw [← hf, hrun, ← ht]
    rfl
  have hne : ∃ y ys, ((List.range r).map fun j => ((it f j x : Nat) : Int)).drop t = y :: ys := by
    cases h : ((List.range r).map fun j => ((it f j x : Nat) : Int)).drop t with
    | nil =>
      have := congrArg List.length h
      simp at this
      omega
    | cons y ys => exact ⟨y, ys, rfl⟩
  have hmem : ∀ z ∈ ((List.range r).map fun j => ((it f j x : Nat) : Int)).drop t, ∃ i, t ≤ i ∧ i < r ∧ z = ((it f i x : Nat) : Int) := by
    intro z hz
    obtain ⟨j, hj, e⟩ := List.getElem_of_mem hz
    rw [List.getElem_drop] at e
    simp at hj e
    exact ⟨t + j, by omega, by omega, e.symm⟩
  obtain ⟨y, ys, hy⟩ := hne
  rw [hy] at hh hmem
  have hd : (y :: ys).headD 0 = y := rfl
  rw [hd] at hh
  rw [hh, beq_iff_eq]
  constructor
  · intro h1
    have hm : ∃ z ∈ y :: ys, z = 1 := by
      rcases fold_mem (y :: ys) y with h | h
      · exact ⟨y, by simp, by omega⟩
      · exact ⟨_, h, h1⟩
    obtain ⟨z, hz, rfl⟩ := hm
    obtain ⟨i, _, _, e⟩ := hmem _ hz
    exact ⟨i, by rw [← hf]; omega⟩
  · rintro ⟨k, hk⟩
    rw [← hf] at hk
    have after : ∀ j, k ≤ j → it f j x = 1 := fun j hj => by
      have e : j = (j - k) + k := by omega
      rw [e, it_add, hk, hf]
      exact it_one hb _
    have per : ∀ (m i : Nat), t ≤ i → it f (i + m * (r - t)) x = it f i x := by
      intro m
      induction m with
      | zero => intro i hi; simp
      | succ m ih =>
        intro i hi
        have e : i + (m + 1) * (r - t) = (i + m * (r - t) - t) + r := by rw [Nat.succ_mul]; omega
        have e2 : i + m * (r - t) = (i + m * (r - t) - t) + t := by omega
        rw [e, it_add, ← s4, ← it_add, ← e2, ih i hi]
    have all : ∀ z ∈ y :: ys, z = 1 := by
      intro z hz
      obtain ⟨i, hi, _, rfl⟩ := hmem z hz
      have h1 := per k i hi
      have hge : k ≤ i + k * (r - t) := by
        have : k * 1 ≤ k * (r - t) := Nat.mul_le_mul_left k (by omega)
        omega
      rw [after _ hge] at h1
      omega
    exact fold_all 1 (y :: ys) y (all y (by simp)) all
/-- A number is happy just if its sum of squares is. -/
theorem hap_step {b x : Nat} (hb : 2 ≤ b) (hb' : b ≤ 16) (hx : x ≤ 1000000000000) : hap b (ps b 2 x) = hap b x := by
  have hp : ps b 2 x ≤ 1000000000000 := by have := ps_le4 (p := 2) hb hb' (by omega) hx; omega
  have h : hap b (ps b 2 x) = true ↔ hap b x = true := by
    rw [hap_iff hb hb' hp, hap_iff hb hb' hx]
    constructor
    · rintro ⟨k, hk⟩
      exact ⟨k + 1, by rw [it_in]; exact hk⟩
    · rintro ⟨k, hk⟩
      cases k with
      | zero =>
        have e : x = 1 := hk
        subst e
        exact ⟨0, ps_one hb⟩
      | succ k => exact ⟨k, by rw [← it_in]; exact hk⟩
  cases h1 : hap b (ps b 2 x) <;> cases h2 : hap b x <;> simp_all

theorem sm_filter (P : Nat → Bool) : ∀ N, ((List.range N).filter P).length = sm N fun n => if P n = true then 1 else 0
  | 0 => rfl
  | N + 1 => by
    rw [sm_succ, ← sm_filter P N, List.range_succ, List.filter_append, List.length_append]
    congr 1
    by_cases h : P N = true
    · simp [h]
    · simp [h]
theorem sm_add (g : Nat → Nat) (N : Nat) : ∀ M, sm (N + M) g = sm N g + sm M fun i => g (N + i)
  | 0 => by simp [sm_zero]
  | M + 1 => by
    rw [← Nat.add_assoc, sm_succ, sm_add g N M, sm_succ]
    omega
theorem sm_mul (b : Nat) (g : Nat → Nat) : ∀ N, sm (N * b) g = sm N fun q => sm b fun d => g (q * b + d)
  | 0 => by rw [Nat.zero_mul]; rfl
  | N + 1 => by rw [Nat.succ_mul, sm_add, sm_mul b g N, sm_succ]
theorem sm_plus (g h : Nat → Nat) : ∀ N, (sm N fun i => g i + h i) = sm N g + sm N h
  | 0 => rfl
  | N + 1 => by rw [sm_succ, sm_succ, sm_succ, sm_plus g h N]; omega
theorem sm_swap (h : Nat → Nat → Nat) (b : Nat) : ∀ N, (sm N fun q => sm b fun d => h q d) = sm b fun d => sm N fun q => h q d
  | 0 => by
    rw [sm_zero]
    exact (sm_none b (fun d _ => rfl)).symm
  | N + 1 => by
    rw [sm_succ, sm_swap h b N, ← sm_plus]
    exact sm_congr b (fun d _ => (sm_succ N fun q => h q d).symm)
theorem sm_shift (G : Nat → Nat) (e U : Nat) : (sm (e + U) fun s => if e ≤ s then G (s - e) else 0) = sm U G := by
  rw [sm_add, sm_none e (fun d hd => by rw [if_neg (by omega)]), Nat.zero_add]
  exact sm_congr U (fun i _ => by rw [if_pos (by omega), Nat.add_sub_cancel_left])
theorem sm_first (v : Nat) : ∀ S, 1 ≤ S → (sm S fun s => if s = 0 then v else 0) = v
  | 1, _ => by rw [sm_succ, sm_zero]; simp
  | S + 2, _ => by rw [sm_succ, sm_first v (S + 1) (by omega), if_neg (by omega), Nat.add_zero]
/-- How many numbers with k digits have a sum of squares with P, told by the spread of the sums. -/
theorem spread_count {b : Nat} (hb : 2 ≤ b) : ∀ (k : Nat) (P : Nat → Bool) (S : Nat), k * ((b - 1) * (b - 1)) < S → (sm (b ^ k) fun n => if P (ps b 2 n) = true then 1 else 0) = sm S fun s => if P s = true then sp b k s else 0
  | 0, P, S, hS => by
    have e1 : (sm (b ^ 0) fun n => if P (ps b 2 n) = true then 1 else 0) = if P 0 = true then 1 else 0 := by
      rw [Nat.pow_zero, sm_succ, sm_zero, ps_zero, Nat.zero_add]
    have e2 : (sm S fun s => if P s = true then sp b 0 s else 0) = sm S fun s => if s = 0 then (if P 0 = true then 1 else 0) else 0 := sm_congr S (fun s _ => by
      show (if P s = true then (if s = 0 then 1 else 0) else 0) = _
      by_cases h : s = 0
      · subst h; simp
      · simp [h])
    rw [e1, e2, sm_first _ S (by omega)]
  | k + 1, P, S, hS => by
    have e1 : (sm (b ^ (k + 1)) fun n => if P (ps b 2 n) = true then 1 else 0) = sm b fun d => sm (b ^ k) fun q => if P (d * d + ps b 2 q) = true then 1 else 0 := by
      rw [Nat.pow_succ, sm_mul, sm_swap]
      refine sm_congr b (fun d hd => sm_congr (b ^ k) (fun q _ => ?_))
      have e : ps b 2 (q * b + d) = d * d + ps b 2 q := by
        by_cases h0 : q * b + d = 0
        · have hd0 : d = 0 := by omega
          have hq0 : q = 0 := by
            rcases Nat.eq_zero_or_pos q with h | h
            · exact h
            · have := Nat.mul_le_mul h hb; omega
          subst hd0 hq0
          simp [ps_zero]
        · rw [ps_step 2 hb (by omega)]
          have m : (q * b + d) % b = d := by rw [Nat.add_comm, Nat.add_mul_mod_self_right, Nat.mod_eq_of_lt hd]
          have dv : (q * b + d) / b = q := by rw [Nat.add_comm, Nat.add_mul_div_right _ _ (by omega), Nat.div_eq_of_lt hd, Nat.zero_add]
          rw [m, dv, Nat.pow_two]
      rw [e]
    have e2 : (sm S fun s => if P s = true then sp b (k + 1) s else 0) = sm b fun d => sm S fun s => if d * d ≤ s then (if P (d * d + (s - d * d)) = true then sp b k (s - d * d) else 0) else 0 := by
      rw [← sm_swap]
      refine sm_congr S (fun s _ => ?_)
      show (if P s = true then nx (sp b k) b s else 0) = _
      by_cases hP : P s = true
      · rw [if_pos hP]
        refine sm_congr b (fun d _ => ?_)
        by_cases hd : d * d ≤ s
        · rw [if_pos hd, if_pos hd, if_pos (by rw [show d * d + (s - d * d) = s by omega]; exact hP)]
        · rw [if_neg hd, if_neg hd]
      · rw [if_neg hP]
        refine (sm_none b (fun d _ => ?_)).symm
        by_cases hd : d * d ≤ s
        · rw [if_pos hd, if_neg (by rw [show d * d + (s - d * d) = s by omega]; exact hP)]
        · rw [if_neg hd]
    rw [e1, e2]
    refine sm_congr b (fun d hd => ?_)
    have hdd : d * d ≤ (b - 1) * (b - 1) := Nat.mul_le_mul (by omega) (by omega)
    rw [Nat.succ_mul] at hS
    obtain ⟨U, hU⟩ : ∃ U, S = d * d + U := ⟨S - d * d, by omega⟩
    rw [hU, sm_shift (fun u => if P (d * d + u) = true then sp b k u else 0) (d * d) U]
    exact spread_count hb k (fun s => P (d * d + s)) U (by omega)
theorem hc_sm (b k : Nat) : ∀ j, hc b k j = sm j fun s => if hap b s = true then sp b k s else 0
  | 0 => rfl
  | j + 1 => by rw [sm_succ, ← hc_sm b k j]; rfl
/-- All numbers with k digits. -/
theorem spread_all {b k S : Nat} (hb : 2 ≤ b) (hS : k * ((b - 1) * (b - 1)) < S) : sm S (sp b k) = b ^ k := by
  have h := spread_count hb k (fun _ => true) S hS
  have e : ∀ N, (sm N fun _ => 1) = N := by
    intro N
    induction N with
    | zero => rfl
    | succ N ih => rw [sm_succ, ih]
  simp only [if_true] at h
  rw [e] at h
  exact h.symm
/-- The happy ones among them. -/
theorem happy_count {b k S : Nat} (hb : 2 ≤ b) (hb' : b ≤ 16) (hk : b ^ k ≤ 1000000000000) (hS : k * ((b - 1) * (b - 1)) < S) : (hapTo b (b ^ k)).length = hc b k S := by
  unfold hapTo
  rw [List.length_map, sm_filter, hc_sm, ← spread_count hb k (hap b) S hS]
  exact sm_congr _ (fun n hn => by rw [hap_step hb hb' (by omega)])
theorem lst_sum (F : Nat → Nat) : ∀ N, (lst N F).sum = ((sm N F : Nat) : Int)
  | 0 => rfl
  | N + 1 => by
    have e : lst (N + 1) F = lst N F ++ [((F N : Nat) : Int)] := by unfold lst; rw [List.range_succ, List.map_append]; rfl
    rw [e, List.sum_append, lst_sum F N, sm_succ]
    simp

end Go.Proofs.Ytjfcbelbpgmokaa
