/-
  Numbers that are their own power sums: plain mathematics.
-/
import Derived.Test.YtnniiobiedfmoaaUN
import Derived.Test.YtnniiobiedfmoaaH
import Derived.Test.YtnniiobiedfmoaaQ
import Derived.Lib.SlicesCompact
namespace Go.Proofs.Ytnniiobiedfmoaa
set_option linter.unusedVariables false
set_option linter.unusedSimpArgs false

/-! ### How often each digit comes, and power sums -/
theorem bump_get (ys : List Int) (d : Nat) (hd : d < ys.length) (j : Nat) : (bump ys (d : Int)).getD j 0 = ys.getD j 0 + (if j = d then 1 else 0) := by
  unfold bump
  rw [show ((d : Int)).toNat = d from rfl, List.getD_eq_getElem?_getD, List.getElem?_set]
  by_cases h : d = j
  · subst h
    rw [if_pos rfl, if_pos hd, if_pos rfl]
    rfl
  · rw [if_neg h, if_neg (fun e => h e.symm), ← List.getD_eq_getElem?_getD]
    omega

theorem cntF_get (b : Nat) : ∀ (xs : List Int) (ys : List Int), (∀ x ∈ xs, 0 ≤ x ∧ x < (b : Int)) → ys.length = b → ∀ j : Nat, (cntF xs ys).getD j 0 = ys.getD j 0 + ((xs.count (j : Int) : Nat) : Int)
  | [], ys, _, _, j => by simp [cntF]
  | x :: xs, ys, h, hl, j => by
    have hx := h x (by simp)
    obtain ⟨d, rfl⟩ : ∃ d : Nat, x = (d : Int) := ⟨x.toNat, by omega⟩
    rw [cntF, cntF_get b xs _ (fun y hy => h y (by simp [hy])) (by rw [bump_len]; exact hl) j, bump_get ys d (by omega) j, List.count_cons]
    by_cases hj : j = d
    · subst hj; simp; omega
    · have : ¬ ((d : Int) == (j : Int)) = true := by simp; omega
      simp [hj, this]

theorem cnt_get (b : Nat) (xs : List Int) (h : ∀ x ∈ xs, 0 ≤ x ∧ x < (b : Int)) (j : Nat) : (cnt (b : Int) xs).getD j 0 = ((xs.count (j : Int) : Nat) : Int) := by
  unfold cnt
  rw [cntF_get b xs _ h (by simp) j]
  have : (List.replicate ((b : Int)).toNat (0 : Int)).getD j 0 = 0 := by
    rw [List.getD_eq_getElem?_getD]
    by_cases hj : j < b
    · rw [List.getElem?_replicate]; split <;> rfl
    · rw [List.getElem?_eq_none (by simp; omega)]; rfl
  rw [this]
  omega

theorem cnt_perm {b : Nat} {xs ys : List Int} (hx : ∀ x ∈ xs, 0 ≤ x ∧ x < (b : Int)) (hy : ∀ x ∈ ys, 0 ≤ x ∧ x < (b : Int)) (h : cnt (b : Int) xs = cnt (b : Int) ys) : xs.Perm ys := by
  rw [List.perm_iff_count]
  intro a
  by_cases ha : 0 ≤ a ∧ a < (b : Int)
  · obtain ⟨d, rfl⟩ : ∃ d : Nat, a = (d : Int) := ⟨a.toNat, by omega⟩
    have h1 := cnt_get b xs hx d
    have h2 := cnt_get b ys hy d
    rw [h] at h1
    omega
  · rw [List.count_eq_zero.2 (fun hm => ha (hx a hm)), List.count_eq_zero.2 (fun hm => ha (hy a hm))]

theorem perm_cnt {b : Nat} {xs ys : List Int} (hx : ∀ x ∈ xs, 0 ≤ x ∧ x < (b : Int)) (hp : xs.Perm ys) : cnt (b : Int) xs = cnt (b : Int) ys := by
  have hy : ∀ x ∈ ys, 0 ≤ x ∧ x < (b : Int) := fun x h => hx x (hp.mem_iff.2 h)
  apply List.ext_getElem?
  intro j
  by_cases hj : j < b
  · have l1 : j < (cnt (b : Int) xs).length := by rw [cnt_len]; exact hj
    have l2 : j < (cnt (b : Int) ys).length := by rw [cnt_len]; exact hj
    have h1 := cnt_get b xs hx j
    have h2 := cnt_get b ys hy j
    rw [hp.count_eq] at h1
    rw [List.getD_eq_getElem?_getD, List.getElem?_eq_getElem l1] at h1
    rw [List.getD_eq_getElem?_getD, List.getElem?_eq_getElem l2] at h2
    rw [List.getElem?_eq_getElem l1, List.getElem?_eq_getElem l2]
    simp at h1 h2
    rw [h1, h2]
  · rw [List.getElem?_eq_none (by rw [cnt_len]; simpa using hj), List.getElem?_eq_none (by rw [cnt_len]; simpa using hj)]

theorem psl_perm {xs ys : List Int} (p : Nat) (h : xs.Perm ys) : psl p xs = psl p ys := by
  induction h with
  | nil => rfl
  | cons x _ ih => rw [psl_cons, psl_cons, ih]
  | swap x y l => rw [psl_cons, psl_cons, psl_cons, psl_cons]; omega
  | trans _ _ h1 h2 => rw [h1, h2]

/-! ### Digits that do not rise -/
def desc : Nat → List Nat → Prop
  | _, [] => True
  | m, d :: ds => d ≤ m ∧ desc d ds
def ints3 (ds : List Nat) : List Int := ds.map fun (d : Nat) => (d : Int)
def psn (p : Nat) (ds : List Nat) : Nat := (ds.map fun d => d ^ p).sum
theorem psn_cons (p d : Nat) (ds : List Nat) : psn p (d :: ds) = d ^ p + psn p ds := by simp [psn]
theorem psl_ints (p : Nat) (ds : List Nat) : psl p (ints3 ds) = psn p ds := by
  induction ds with
  | nil => rfl
  | cons d ds ih => rw [psn_cons, ← ih]; show psl p ((d : Int) :: ints3 ds) = _; rw [psl_cons]; rfl

theorem desc_iff : ∀ (ds : List Nat) (m : Nat), desc m ds ↔ ds.Pairwise (fun a b => b ≤ a) ∧ ∀ d ∈ ds, d ≤ m
  | [], m => by simp [desc]
  | d :: ds, m => by
    rw [desc, desc_iff ds d, List.pairwise_cons]
    constructor
    · rintro ⟨h1, h2, h3⟩
      exact ⟨⟨h3, h2⟩, fun x hx => by rcases List.mem_cons.1 hx with rfl | hx; exact h1; exact Nat.le_trans (h3 x hx) h1⟩
    · rintro ⟨⟨h3, h2⟩, h4⟩
      exact ⟨h4 d (by simp), h2, h3⟩
theorem desc_zeros : ∀ (ds : List Nat) (m k : Nat), desc m ds → desc m (ds ++ List.replicate k 0)
  | [], m, 0, _ => trivial
  | [], m, k + 1, _ => ⟨Nat.zero_le _, desc_zeros [] 0 k trivial⟩
  | d :: ds, m, k, h => ⟨h.1, desc_zeros ds d k h.2⟩
theorem psn_zeros (p : Nat) (hp : 1 ≤ p) (ds : List Nat) (k : Nat) : psn p (ds ++ List.replicate k 0) = psn p ds := by
  unfold psn
  rw [List.map_append, List.sum_append, List.map_replicate, Nat.zero_pow (by omega)]
  simp

/-- The digits of a number, the greatest first. -/
def down (b x : Nat) : List Nat := ((dgs (b : Int) (x : Int)).map Int.toNat).mergeSort fun a c => decide (c ≤ a)
theorem down_perm {b x : Nat} (hb : 2 ≤ b) : (ints3 (down b x)).Perm (dgs (b : Int) (x : Int)) := by
  have h1 := List.mergeSort_perm ((dgs (b : Int) (x : Int)).map Int.toNat) (fun a c => decide (c ≤ a))
  have h2 := h1.map (fun (d : Nat) => (d : Int))
  refine h2.trans ?_
  rw [List.map_map]
  have : (dgs (b : Int) (x : Int)).map ((fun (d : Nat) => (d : Int)) ∘ Int.toNat) = dgs (b : Int) (x : Int) := by
    conv => rhs; rw [← List.map_id (dgs (b : Int) (x : Int))]
    refine List.map_congr_left fun y hy => ?_
    have := dgs_all (b : Int) (x : Int) (by omega) (by omega) y hy
    show ((y.toNat : Nat) : Int) = y
    omega
  rw [this]
theorem down_desc {b x : Nat} (hb : 2 ≤ b) : desc (b - 1) (down b x) := by
  rw [desc_iff]
  constructor
  · have h := List.pairwise_mergeSort (le := fun a c : Nat => decide (c ≤ a)) (fun a c d h1 h2 => by simp at h1 h2 ⊢; omega) (fun a c => by simp; omega) ((dgs (b : Int) (x : Int)).map Int.toNat)
    exact h.imp (fun h => by simpa using h)
  · intro d hd
    have h1 : (d : Int) ∈ ints3 (down b x) := List.mem_map.2 ⟨d, hd, rfl⟩
    have := dgs_all (b : Int) (x : Int) (by omega) (by omega) _ ((down_perm hb).mem_iff.1 h1)
    omega
theorem down_len {b x : Nat} (hb : 2 ≤ b) : (down b x).length = (dgs (b : Int) (x : Int)).length := by
  have := (down_perm (x := x) hb).length_eq
  unfold ints3 at this
  rw [List.length_map] at this
  exact this
theorem down_sum {b p x : Nat} (hb : 2 ≤ b) (hp : 1 ≤ p) : psn p (down b x) = ps b p x := by
  rw [← psl_ints, psl_perm p (down_perm hb), psl_dgs hb hp]
theorem ints_all {b : Nat} {ds : List Nat} (hb : 1 ≤ b) (h : desc (b - 1) ds) : ∀ x ∈ ints3 ds, 0 ≤ x ∧ x < (b : Int) := by
  intro x hx
  obtain ⟨d, hd, rfl⟩ := List.mem_map.1 hx
  have := ((desc_iff ds (b - 1)).1 h).2 d hd
  omega
theorem dgs_allB {b x : Nat} (hb : 2 ≤ b) : ∀ y ∈ dgs (b : Int) (x : Int), 0 ≤ y ∧ y < (b : Int) := fun y hy => by
  have := dgs_all (b : Int) (x : Int) (by omega) (by omega) y hy
  omega

/-! ### The program's search -/
def ow (b p : Nat) : Nat → Nat → Nat → List Int
  | 0, s, _ => if ps b p s = s then [(s : Int)] else []
  | n + 1, s, m => (List.range (m + 1)).flatMap fun d => ow b p n (s + d ^ p) d
/-- .. of the digits below k. -/
def owTo (b p n s k : Nat) : List Int := (List.range k).flatMap fun d => ow b p n (s + d ^ p) d
theorem owTo_succ (b p n s k : Nat) : owTo b p n s (k + 1) = owTo b p n s k ++ ow b p n (s + k ^ p) k := by
  unfold owTo
  rw [List.range_succ, List.flatMap_append, List.flatMap_singleton]
theorem ow_succ (b p n s m : Nat) : ow b p (n + 1) s m = owTo b p n s (m + 1) := rfl

theorem mem_ow (b p : Nat) : ∀ (n s m : Nat) (x : Int), x ∈ ow b p n s m ↔ ∃ ds : List Nat, ds.length = n ∧ desc m ds ∧ ps b p (s + psn p ds) = s + psn p ds ∧ x = ((s + psn p ds : Nat) : Int)
  | 0, s, m, x => by
    constructor
    · intro h
      have h0 : ow b p 0 s m = if ps b p s = s then [(s : Int)] else [] := rfl
      rw [h0] at h
      by_cases he : ps b p s = s
      · rw [if_pos he] at h
        exact ⟨[], rfl, trivial, he, by simpa [psn] using h⟩
      · rw [if_neg he] at h; simp at h
    · rintro ⟨ds, h1, _, h3, h4⟩
      obtain rfl := List.eq_nil_of_length_eq_zero h1
      have h0 : ow b p 0 s m = if ps b p s = s then [(s : Int)] else [] := rfl
      have h3' : ps b p s = s := h3
      rw [h0, if_pos h3', h4]
      simp [psn]
  | n + 1, s, m, x => by
    rw [ow_succ, owTo, List.mem_flatMap]
    constructor
    · rintro ⟨d, hd, hx⟩
      obtain ⟨ds, h1, h2, h3, h4⟩ := (mem_ow b p n (s + d ^ p) d x).1 hx
      refine ⟨d :: ds, by simp [h1], ⟨by have := List.mem_range.1 hd; omega, h2⟩, ?_, ?_⟩
      · rw [psn_cons, ← Nat.add_assoc]; exact h3
      · rw [psn_cons, ← Nat.add_assoc]; exact h4
    · rintro ⟨ds, h1, h2, h3, h4⟩
      cases ds with
      | nil => simp at h1
      | cons d ds =>
        refine ⟨d, List.mem_range.2 (by have := h2.1; omega), (mem_ow b p n (s + d ^ p) d x).2 ⟨ds, by simpa using h1, h2.2, ?_, ?_⟩⟩
        · rw [psn_cons, ← Nat.add_assoc] at h3; exact h3
        · rw [psn_cons, ← Nat.add_assoc] at h4; exact h4

/-- How many multisets there are. -/
def ct : Nat → Nat → Nat
  | 0, _ => 1
  | n + 1, m => sm (m + 1) fun d => ct n d
theorem ct_succ (n m : Nat) : ct (n + 1) m = sm (m + 1) fun d => ct n d := rfl
theorem owTo_len (b p n : Nat) (ih : ∀ s m, (ow b p n s m).length ≤ ct n m) (s : Nat) : ∀ k, (owTo b p n s k).length ≤ sm k fun d => ct n d
  | 0 => Nat.le_refl _
  | k + 1 => by
    rw [owTo_succ, List.length_append, sm_succ]
    have := owTo_len b p n ih s k
    have := ih (s + k ^ p) k
    omega
theorem ow_len (b p : Nat) : ∀ n s m, (ow b p n s m).length ≤ ct n m
  | 0, s, m => by
    have h0 : ow b p 0 s m = if ps b p s = s then [(s : Int)] else [] := rfl
    rw [h0]
    show _ ≤ 1
    split <;> simp
  | n + 1, s, m => by rw [ow_succ, ct_succ]; exact owTo_len b p n (ow_len b p n) s (m + 1)
theorem ct_bdB : (List.range 9).all (fun n => (List.range 10).all fun m => decide (ct n m ≤ 100000)) = true := by decide +kernel
theorem ct_bd {n m : Nat} (hn : n ≤ 8) (hm : m ≤ 9) : ct n m ≤ 100000 := by
  have h := ct_bdB
  simp only [List.all_eq_true, List.mem_range, decide_eq_true_eq] at h
  exact h n (by omega) m (by omega)
theorem sm_mono {g : Nat → Nat} {a b : Nat} (h : a ≤ b) : sm a g ≤ sm b g := by
  obtain ⟨c, rfl⟩ : ∃ c, b = a + c := ⟨b - a, by omega⟩
  clear h
  induction c with
  | zero => exact Nat.le_refl _
  | succ c ih => rw [Nat.add_succ, sm_succ]; omega
theorem owTo_len8 {b p n s k m : Nat} (hn : n + 1 ≤ 8) (hm : m ≤ 9) (hk : k ≤ m + 1) : (owTo b p n s k).length ≤ 100000 := by
  have h1 := owTo_len b p n (ow_len b p n) s k
  have h2 := sm_mono (g := fun d => ct n d) hk
  have h3 := ct_bd hn hm
  rw [ct_succ] at h3
  omega

/-! ### Own numbers have few digits -/
theorem falls_on {b p : Nat} (hb : 2 ≤ b) (hb' : b ≤ 16) (hp : 1 ≤ p) (hp' : p ≤ 8) : ∀ i, (ff b p + i) * (b - 1) ^ p < b ^ (ff b p - 1 + i)
  | 0 => (ff_spec hb hb' hp hp').2.2.1
  | i + 1 => by
    have ih := falls_on hb hb' hp hp' i
    have h2 := (ff_spec hb hb' hp hp').1
    have h3 : (ff b p + (i + 1)) * (b - 1) ^ p ≤ (ff b p + i) * (b - 1) ^ p * 2 := by
      have : ff b p + (i + 1) ≤ (ff b p + i) * 2 := by omega
      have h4 := Nat.mul_le_mul_right ((b - 1) ^ p) this
      rw [Nat.mul_right_comm] at h4
      exact h4
    have h5 : b ^ (ff b p - 1 + (i + 1)) = b ^ (ff b p - 1 + i) * b := by rw [← Nat.add_assoc, Nat.pow_succ]
    have h6 : b ^ (ff b p - 1 + i) * 2 ≤ b ^ (ff b p - 1 + i) * b := Nat.mul_le_mul_left _ hb
    rw [h5]
    omega

theorem own_lt {b p x : Nat} (hb : 2 ≤ b) (hb' : b ≤ 16) (hp : 1 ≤ p) (hp' : p ≤ 8) (hx : ps b p x = x) : x < b ^ (ff b p - 1) := by
  have key : ∀ i, x < b ^ (ff b p - 1 + i) → x < b ^ (ff b p - 1) := by
    intro i
    induction i with
    | zero => exact id
    | succ i ih =>
      intro h
      refine ih ?_
      have h1 := ps_le p hb _ x h
      have h2 := falls_on hb hb' hp hp' i
      have h3 := (ff_spec hb hb' hp hp').1
      rw [hx, show ff b p - 1 + (i + 1) = ff b p + i from by omega] at h1
      omega
  have h0 : x < b ^ x := Nat.lt_pow_self (by omega)
  have h1 : b ^ x ≤ b ^ (ff b p - 1 + x) := Nat.pow_le_pow_right (by omega) (by omega)
  exact key x (by omega)

theorem revD_lenb (b : Nat) (hb : 2 ≤ b) : ∀ (k n : Nat), n < b ^ (k + 1) → (revD (b : Int) (n : Int)).length ≤ k + 1 := by
  intro k
  induction k with
  | zero =>
    intro n h1
    rw [revD_small (b : Int) (n : Int) (by simp at h1; omega)]
    simp
  | succ k ih =>
    intro n h1
    by_cases h : (b : Int) ≤ (n : Int)
    · rw [revD_big (b : Int) (n : Int) (by omega) h]
      have h2 : n / b < b ^ (k + 1) := by rw [Nat.div_lt_iff_lt_mul (by omega)]; rw [Nat.pow_succ] at h1; exact h1
      have := ih (n / b) h2
      rw [Int.natCast_ediv] at this
      simpa using this
    · rw [revD_small (b : Int) (n : Int) h]
      simp
theorem dgs_lenb {b k x : Nat} (hb : 2 ≤ b) (hk : 1 ≤ k) (hx : x < b ^ k) : (dgs (b : Int) (x : Int)).length ≤ k := by
  rw [dgs_len]
  obtain ⟨j, rfl⟩ : ∃ j, k = j + 1 := ⟨k - 1, by omega⟩
  exact revD_lenb b hb j x hx

/-- The places that the program looks at. -/
def places (b p : Nat) : Nat := ff b p - 1

theorem mem_own {b p : Nat} (hb : 2 ≤ b) (hb' : b ≤ 16) (hp : 1 ≤ p) (hp' : p ≤ 8) (x : Int) : x ∈ ow b p (places b p) 0 (b - 1) ↔ ∃ X : Nat, x = (X : Int) ∧ ps b p X = X := by
  rw [mem_ow]
  constructor
  · rintro ⟨ds, _, _, h3, h4⟩
    exact ⟨_, h4, h3⟩
  · rintro ⟨X, rfl, hX⟩
    have h2 := (ff_spec hb hb' hp hp').1
    have hl := dgs_lenb (k := places b p) hb (by unfold places; omega) (own_lt hb hb' hp hp' hX)
    have hd := down_len (x := X) hb
    refine ⟨down b X ++ List.replicate (places b p - (down b X).length) 0, by simp; omega, desc_zeros _ _ _ (down_desc hb), ?_, ?_⟩
    · rw [psn_zeros p hp, down_sum hb hp, Nat.zero_add, hX, hX]
    · rw [psn_zeros p hp, down_sum hb hp, Nat.zero_add, hX]

/-! ### The model's search -/
/-- What is found with n digits more, none greater than m. -/
def Fnd (b p n m s : Nat) (cs : List Int) (x : Int) : Prop := ∃ ds : List Nat, ds.length = n ∧ desc m ds ∧ x = ((s + psn p ds : Nat) : Int) ∧ cnt (b : Int) (dgs (b : Int) x) = cntF (ints3 ds) cs
theorem fnd_zero {b p m s : Nat} {cs : List Int} {x : Int} : Fnd b p 0 m s cs x ↔ x = (s : Int) ∧ cnt (b : Int) (dgs (b : Int) (s : Int)) = cs := by
  constructor
  · rintro ⟨ds, h1, _, h3, h4⟩
    obtain rfl := List.eq_nil_of_length_eq_zero h1
    have h3' : x = (s : Int) := h3
    subst h3'
    exact ⟨rfl, h4⟩
  · rintro ⟨rfl, h⟩
    exact ⟨[], rfl, trivial, rfl, h⟩
theorem fnd_succ {b p n m s : Nat} {cs : List Int} {x : Int} : Fnd b p (n + 1) m s cs x ↔ ∃ d, d < m + 1 ∧ Fnd b p n d (s + d ^ p) (bump cs (d : Int)) x := by
  constructor
  · rintro ⟨ds, h1, h2, h3, h4⟩
    cases ds with
    | nil => simp at h1
    | cons d ds =>
      refine ⟨d, by have := h2.1; omega, ds, by simpa using h1, h2.2, ?_, h4⟩
      rw [psn_cons, ← Nat.add_assoc] at h3
      exact h3
  · rintro ⟨d, hd, ds, h1, h2, h3, h4⟩
    refine ⟨d :: ds, by simp [h1], ⟨by omega, h2⟩, ?_, h4⟩
    rw [psn_cons, ← Nat.add_assoc]
    exact h3

theorem fnd_all {b p k : Nat} (hb : 2 ≤ b) (hp : 1 ≤ p) (x : Int) : Fnd b p k (b - 1) 0 (List.replicate b 0) x ↔ ∃ X : Nat, x = (X : Int) ∧ ps b p X = X ∧ (dgs (b : Int) x).length = k := by
  constructor
  · rintro ⟨ds, h1, h2, h3, h4⟩
    rw [Nat.zero_add] at h3
    subst h3
    have h5 : cnt (b : Int) (dgs (b : Int) ((psn p ds : Nat) : Int)) = cnt (b : Int) (ints3 ds) := h4
    have hp2 := cnt_perm (dgs_allB hb) (ints_all (by omega) h2) h5
    refine ⟨psn p ds, rfl, ?_, ?_⟩
    · rw [← psl_dgs hb hp, psl_perm p hp2, psl_ints]
    · rw [hp2.length_eq]
      unfold ints3
      rw [List.length_map, h1]
  · rintro ⟨X, rfl, hX, hl⟩
    refine ⟨down b X, by rw [down_len hb]; exact hl, down_desc hb, ?_, ?_⟩
    · rw [down_sum hb hp, Nat.zero_add, hX]
    · show _ = cnt (b : Int) (ints3 (down b X))
      exact perm_cnt (dgs_allB hb) (down_perm hb).symm

/-! ### Sorted lists without repeats -/
theorem rise_unique {xs ys : List Int} (hx : xs.Pairwise (· < ·)) (hy : ys.Pairwise (· < ·)) (h : ∀ z, z ∈ xs ↔ z ∈ ys) : xs = ys := by
  have nx : xs.Nodup := by rw [List.nodup_iff_pairwise_ne]; exact hx.imp (fun h => by omega)
  have ny : ys.Nodup := by rw [List.nodup_iff_pairwise_ne]; exact hy.imp (fun h => by omega)
  have hp : xs.Perm ys := (List.perm_ext_iff_of_nodup nx ny).2 h
  exact List.Perm.eq_of_pairwise (le := fun a b : Int => a ≤ b) (fun a b _ _ h1 h2 => by omega) (hx.imp (fun h => by omega)) (hy.imp (fun h => by omega)) hp

theorem srt_sorted (xs : List Int) : (srt xs).Pairwise (· ≤ ·) := by
  have h2 : (srt xs).Pairwise (fun a b => decide (a ≤ b) = true) := List.pairwise_mergeSort (fun a b c h1 h2 => by simp at h1 h2 ⊢; omega) (fun a b => by simp; omega) xs
  exact h2.imp (fun h => by simpa using h)

theorem arr_get (xs : List Int) (j : Nat) (h : j < xs.length) : xs.toArray[j]! = xs[j] := by simp [h]

theorem compact_to (xs : List Int) (hs : xs.Pairwise (· ≤ ·)) : ∀ m, m ≤ xs.length → (Lib.compactUpTo xs.toArray m).Pairwise (· < ·) ∧ ∀ z, z ∈ Lib.compactUpTo xs.toArray m ↔ z ∈ xs.take m
  | 0, _ => by simp [Lib.compactUpTo]
  | m + 1, h => by
    obtain ⟨h1, h2⟩ := compact_to xs hs m (by omega)
    rw [Lib.compactUpTo_succ, take_snoc' xs m (by omega), arr_get xs m (by omega)]
    have hle : ∀ i (hi : i < m), xs[i]'(by omega) ≤ xs[m]'(by omega) := fun i hi => List.pairwise_iff_getElem.1 hs i m (by omega) (by omega) hi
    by_cases hk : Lib.keeps xs.toArray m = true
    · rw [if_pos hk]
      constructor
      · rw [List.pairwise_append]
        refine ⟨h1, List.pairwise_singleton _ _, fun a ha c hc => ?_⟩
        rw [List.mem_singleton] at hc
        subst hc
        obtain ⟨i, hi, rfl⟩ := List.getElem_of_mem ((h2 a).1 ha)
        have hi' : i < m := by simp at hi; omega
        rw [List.getElem_take]
        simp only [Lib.keeps, decide_eq_true_eq] at hk
        have hm0 : m ≠ 0 := by omega
        have hne : xs.toArray[m]! ≠ xs.toArray[m - 1]! := by
          rcases hk with hk | hk
          · exact absurd hk hm0
          · exact hk
        rw [arr_get xs m (by omega), arr_get xs (m - 1) (by omega)] at hne
        have e1 : xs[i]'(by omega) ≤ xs[m - 1]'(by omega) := by
          by_cases e : i = m - 1
          · subst e; exact Int.le_refl _
          · exact List.pairwise_iff_getElem.1 hs i (m - 1) (by omega) (by omega) (by omega)
        have e2 := hle (m - 1) (by omega)
        omega
      · intro z
        rw [List.mem_append, List.mem_append, h2 z]
    · rw [if_neg hk]
      have hk' : Lib.keeps xs.toArray m = false := by simpa using hk
      simp only [Lib.keeps, decide_eq_false_iff_not] at hk'
      have hm0 : m ≠ 0 := fun e => hk' (.inl e)
      have heq : xs.toArray[m]! = xs.toArray[m - 1]! := by
        by_cases e : xs.toArray[m]! = xs.toArray[m - 1]!
        · exact e
        · exact absurd (.inr e) hk'
      rw [arr_get xs m (by omega), arr_get xs (m - 1) (by omega)] at heq
      rw [List.append_nil]
      refine ⟨h1, fun z => ?_⟩
      rw [h2 z, List.mem_append, List.mem_singleton]
      constructor
      · exact .inl
      · rintro (hz | rfl)
        · exact hz
        · rw [heq]
          have : (xs.take m)[m - 1]'(by simp; omega) = xs[m - 1]'(by omega) := by rw [List.getElem_take]
          rw [← this]
          exact List.getElem_mem _

/-- A list in order, each number once. -/
def cano (xs : List Int) : List Int := Lib.compact (srt xs)
theorem cano_rise (xs : List Int) : (cano xs).Pairwise (· < ·) := (compact_to (srt xs) (srt_sorted xs) _ (Nat.le_refl _)).1
theorem cano_mem (xs : List Int) (z : Int) : z ∈ cano xs ↔ z ∈ xs := by
  have := (compact_to (srt xs) (srt_sorted xs) _ (Nat.le_refl _)).2 z
  rw [List.take_of_length_le (Nat.le_refl _)] at this
  exact this.trans srt_mem
theorem cano_len (xs : List Int) : (cano xs).length ≤ xs.length := by
  unfold cano Lib.compact Lib.compactUpTo
  rw [List.length_map]
  have := List.length_filter_le (Lib.keeps (srt xs).toArray) (List.range (srt xs).length)
  have e := srt_len xs
  simp only [List.length_range] at this
  omega

/-- All numbers that are their own power sums. -/
def ownL (b p : Nat) : List Int := cano (ow b p (places b p) 0 (b - 1))
theorem places_bdB : (List.range 9).all (fun b => (List.range 6).all fun p => decide (places (b + 2) (p + 1) ≤ 8)) = true := by decide +kernel
theorem places_bd {b p : Nat} (hb : 2 ≤ b) (hb' : b ≤ 10) (hp : 1 ≤ p) (hp' : p ≤ 6) : places b p ≤ 8 := by
  have h := places_bdB
  simp only [List.all_eq_true, List.mem_range, decide_eq_true_eq] at h
  have := h (b - 2) (by omega) (p - 1) (by omega)
  rwa [show b - 2 + 2 = b from by omega, show p - 1 + 1 = p from by omega] at this
theorem ownL_len {b p : Nat} (hb : 2 ≤ b) (hb' : b ≤ 10) (hp : 1 ≤ p) (hp' : p ≤ 6) : (ownL b p).length ≤ 100000 := by
  have h1 := cano_len (ow b p (places b p) 0 (b - 1))
  have h2 := ow_len b p (places b p) 0 (b - 1)
  have h3 := ct_bd (places_bd hb hb' hp hp') (show b - 1 ≤ 9 by omega)
  unfold ownL
  omega
theorem ownL_mem {b p : Nat} (hb : 2 ≤ b) (hb' : b ≤ 16) (hp : 1 ≤ p) (hp' : p ≤ 8) (x : Int) : x ∈ ownL b p ↔ ∃ X : Nat, x = (X : Int) ∧ ps b p X = X := by
  unfold ownL
  rw [cano_mem, mem_own hb hb' hp hp']

end Go.Proofs.Ytnniiobiedfmoaa
