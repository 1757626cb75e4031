/-
  Longest stretches of equal numbers, what lists say, runs of said lists, and lists that are unsaid. Plain.
-/
import Derived.Test.YtmdjmbmkgboeaaaW
namespace Go.Proofs.Ytmdjmbmkgboeaaa
set_option linter.unusedVariables false
set_option linter.unusedSimpArgs false

/-- One number more behind told stretches. -/
def stS : List (Nat × Int) → Int → List (Nat × Int)
  | [], x => [(1, x)]
  | [(t, y)], x => if y = x then [(t + 1, y)] else [(t, y), (1, x)]
  | p :: q :: r, x => p :: stS (q :: r) x
/-- The longest stretches of a list. -/
def strs (xs : List Int) : List (Nat × Int) := xs.foldl stS []

theorem strs_snoc (xs : List Int) (x : Int) : strs (xs ++ [x]) = stS (strs xs) x := by unfold strs; rw [List.foldl_append]; rfl
theorem stS_cons (p : Nat × Int) {S : List (Nat × Int)} (h : S ≠ []) (x : Int) : stS (p :: S) x = p :: stS S x := by
  cases S with
  | nil => exact absurd rfl h
  | cons q r => rfl
theorem stS_ne (S : List (Nat × Int)) (x : Int) : stS S x ≠ [] := by
  match S with
  | [] => simp [stS]
  | [(t, y)] => unfold stS; split <;> simp
  | p :: q :: r => simp [stS]
theorem stS_last (S : List (Nat × Int)) (c : Nat) (y x : Int) : stS (S ++ [(c, y)]) x = if y = x then S ++ [(c + 1, y)] else S ++ [(c, y), (1, x)] := by
  induction S with
  | nil => simp [stS]
  | cons p S ih =>
    rw [List.cons_append, stS_cons p (by simp), ih]
    split <;> rfl
theorem fold_cons (p : Nat × Int) : ∀ (zs : List Int) (S : List (Nat × Int)), S ≠ [] → zs.foldl stS (p :: S) = p :: zs.foldl stS S
  | [], S, h => rfl
  | z :: zs, S, h => by
    rw [List.foldl_cons, List.foldl_cons, stS_cons p h, fold_cons p zs (stS S z) (stS_ne S z)]
theorem fold_rep (x : Int) : ∀ (k c : Nat), (List.replicate k x).foldl stS [(c, x)] = [(c + k, x)]
  | 0, c => by simp
  | k + 1, c => by
    rw [List.replicate_succ, List.foldl_cons]
    have e : stS [(c, x)] x = [(c + 1, x)] := by simp [stS]
    rw [e, fold_rep x k (c + 1)]
    congr 2
    omega
theorem strs_rep (x : Int) (k : Nat) (hk : 1 ≤ k) (zs : List Int) (hz : zs.head? ≠ some x) : strs (List.replicate k x ++ zs) = (k, x) :: strs zs := by
  obtain ⟨j, rfl⟩ : ∃ j, k = j + 1 := ⟨k - 1, by omega⟩
  unfold strs
  rw [List.foldl_append, List.replicate_succ, List.foldl_cons]
  have e : stS [] x = [(1, x)] := rfl
  rw [e, fold_rep x j 1, Nat.add_comm 1 j]
  cases zs with
  | nil => rfl
  | cons z zs =>
    have hne : ¬ x = z := fun h => hz (by rw [h]; rfl)
    rw [List.foldl_cons, List.foldl_cons]
    have e1 : stS [(j + 1, x)] z = (j + 1, x) :: [(1, z)] := by simp [stS, hne]
    rw [e1, fold_cons _ zs _ (by simp)]
    rfl

theorem stS_all (Q : Int → Prop) (x : Int) : ∀ S : List (Nat × Int), (∀ p ∈ stS S x, Q p.2) ↔ (∀ p ∈ S, Q p.2) ∧ Q x
  | [] => by simp [stS]
  | [(t, y)] => by
    unfold stS
    split
    · rename_i h; subst h; simp
    · simp
  | p :: q :: r => by
    have ih := stS_all Q x (q :: r)
    simp only [stS, List.mem_cons, forall_eq_or_imp] at ih ⊢
    rw [ih, and_assoc, and_assoc, and_assoc]
theorem fold_all (Q : Int → Prop) : ∀ (xs : List Int) (S : List (Nat × Int)), (∀ p ∈ xs.foldl stS S, Q p.2) ↔ (∀ p ∈ S, Q p.2) ∧ ∀ x ∈ xs, Q x
  | [], S => by simp
  | x :: xs, S => by
    rw [List.foldl_cons, fold_all Q xs, stS_all Q x S]
    simp only [List.mem_cons, forall_eq_or_imp]
    rw [and_assoc]
theorem strs_all (Q : Int → Prop) (xs : List Int) : (∀ p ∈ strs xs, Q p.2) ↔ ∀ x ∈ xs, Q x := by
  unfold strs
  rw [fold_all]
  simp
theorem stS_pos (x : Int) : ∀ S : List (Nat × Int), (∀ p ∈ S, 1 ≤ p.1) → ∀ p ∈ stS S x, 1 ≤ p.1
  | [], _ => by simp [stS]
  | [(t, y)], h => by
    unfold stS
    split
    · simp
    · simpa using h
  | p :: q :: r, h => by
    have ih := stS_pos x (q :: r) (fun z hz => h z (by simp [List.mem_cons.1 hz]))
    simp only [stS, List.mem_cons, forall_eq_or_imp] at ih ⊢
    exact ⟨h p (by simp), ih⟩
theorem fold_pos : ∀ (xs : List Int) (S : List (Nat × Int)), (∀ p ∈ S, 1 ≤ p.1) → ∀ p ∈ xs.foldl stS S, 1 ≤ p.1
  | [], S, h => h
  | x :: xs, S, h => by rw [List.foldl_cons]; exact fold_pos xs _ (stS_pos x S h)
theorem strs_pos (xs : List Int) : ∀ p ∈ strs xs, 1 ≤ p.1 := fold_pos xs [] (by simp)

theorem stS_len (S : List (Nat × Int)) (x : Int) : (stS S x).length ≤ S.length + 1 := by
  match S with
  | [] => simp [stS]
  | [(t, y)] => unfold stS; split <;> simp
  | p :: q :: r => have := stS_len (q :: r) x; simp [stS] at this ⊢; omega
theorem fold_len : ∀ (xs : List Int) (S : List (Nat × Int)), (xs.foldl stS S).length ≤ S.length + xs.length
  | [], S => by simp
  | x :: xs, S => by
    rw [List.foldl_cons]
    have h1 := fold_len xs (stS S x)
    have h2 := stS_len S x
    rw [List.length_cons]
    omega
theorem strs_len (xs : List Int) : (strs xs).length ≤ xs.length := by have := fold_len xs []; unfold strs; simpa using this

/-- How many numbers are told. -/
def toT : List (Nat × Int) → Nat
  | [] => 0
  | p :: r => p.1 + toT r
theorem toT_app (a b : List (Nat × Int)) : toT (a ++ b) = toT a + toT b := by
  induction a with
  | nil => simp [toT]
  | cons p t ih => rw [List.cons_append, toT, toT, ih]; omega
theorem toT_stS (x : Int) : ∀ S : List (Nat × Int), toT (stS S x) = toT S + 1
  | [] => rfl
  | [(t, y)] => by unfold stS; split <;> simp [toT]
  | p :: q :: r => by
    have ih := toT_stS x (q :: r)
    rw [stS_cons p (by simp), toT, ih]
    show p.1 + (toT (q :: r) + 1) = p.1 + toT (q :: r) + 1
    omega
theorem toT_strs (xs : List Int) : toT (strs xs) = xs.length := by
  have : ∀ (xs : List Int) (S : List (Nat × Int)), toT (xs.foldl stS S) = toT S + xs.length := by
    intro xs
    induction xs with
    | nil => intro S; rfl
    | cons x xs ih => intro S; rw [List.foldl_cons, ih, toT_stS, List.length_cons]; omega
  have h := this xs []
  unfold strs
  rw [h]
  simp [toT]
theorem mem_toT {p : Nat × Int} {S : List (Nat × Int)} (h : p ∈ S) : p.1 ≤ toT S := by
  induction S with
  | nil => cases h
  | cons q r ih =>
    rw [toT]
    rcases List.mem_cons.1 h with rfl | h
    · omega
    · have := ih h; omega
theorem strs_le (xs : List Int) : ∀ p ∈ strs xs, p.1 ≤ xs.length := fun p hp => by rw [← toT_strs xs]; exact mem_toT hp

/-- The last stretch tells the last number. -/
theorem stS_end (S : List (Nat × Int)) (x : Int) : ∃ R c, stS S x = R ++ [(c, x)] := by
  rcases List.eq_nil_or_concat S with rfl | ⟨R, p, rfl⟩
  · exact ⟨[], 1, rfl⟩
  · obtain ⟨c, y⟩ := p
    rw [List.concat_eq_append, stS_last]
    by_cases e : y = x
    · rw [if_pos e]; exact ⟨R, c + 1, by rw [e]⟩
    · rw [if_neg e]; exact ⟨R ++ [(c, y)], 1, by simp⟩
theorem strs_end (xs : List Int) (x : Int) : ∃ R c, strs (xs ++ [x]) = R ++ [(c, x)] := by rw [strs_snoc]; exact stS_end _ _
/-- A round of the loop over the places of a list. -/
theorem strs_same {xs : List Int} {k : Nat} (h0 : 0 < k) (h : k < xs.length) (he : xs[k] = xs[k - 1]) : ∃ R c, strs (xs.take k) = R ++ [(c, xs[k])] ∧ strs (xs.take (k + 1)) = R ++ [(c + 1, xs[k])] := by
  obtain ⟨R, c, hR⟩ := strs_end (xs.take (k - 1)) (xs[k - 1]'(by omega))
  have e1 : xs.take k = xs.take (k - 1) ++ [xs[k - 1]'(by omega)] := by
    have := take_snoc' xs (k - 1) (by omega)
    rw [show k - 1 + 1 = k by omega] at this
    exact this
  rw [← e1, ← he] at hR
  refine ⟨R, c, hR, ?_⟩
  rw [take_snoc' xs k h, strs_snoc, hR, stS_last, if_pos rfl]
theorem strs_other {xs : List Int} {k : Nat} (h : k < xs.length) (he : k = 0 ∨ xs[k] ≠ xs[k - 1]'(by omega)) : strs (xs.take (k + 1)) = strs (xs.take k) ++ [(1, xs[k])] := by
  rw [take_snoc' xs k h, strs_snoc]
  by_cases h0 : k = 0
  · subst h0; rfl
  · obtain ⟨R, c, hR⟩ := strs_end (xs.take (k - 1)) (xs[k - 1]'(by omega))
    have e1 : xs.take k = xs.take (k - 1) ++ [xs[k - 1]'(by omega)] := by
      have := take_snoc' xs (k - 1) (by omega)
      rw [show k - 1 + 1 = k by omega] at this
      exact this
    rw [← e1] at hR
    rw [hR, stS_last, if_neg (fun c => (he.resolve_left h0) c.symm)]
    simp

/-- Stretches next to each other are of different numbers. -/
def Alt : List (Nat × Int) → Prop
  | [] => True
  | [_] => True
  | p :: q :: r => p.2 ≠ q.2 ∧ Alt (q :: r)
theorem Alt.cons {p : Nat × Int} {S : List (Nat × Int)} (h : Alt (p :: S)) : Alt S := by
  cases S with
  | nil => trivial
  | cons q r => exact h.2
theorem alt_cons {p : Nat × Int} {S : List (Nat × Int)} (h : Alt S) (hd : ∀ q ∈ S.head?, p.2 ≠ q.2) : Alt (p :: S) := by
  cases S with
  | nil => trivial
  | cons q r => exact ⟨hd q rfl, h⟩
theorem alt_stS (x : Int) : ∀ S : List (Nat × Int), Alt S → Alt (stS S x)
  | [], _ => trivial
  | [(t, y)], _ => by
    unfold stS
    split
    · trivial
    · rename_i h; exact ⟨h, trivial⟩
  | p :: q :: r, h => by
    have ih := alt_stS x (q :: r) h.2
    rw [stS_cons p (by simp)]
    refine alt_cons ih (fun z hz => ?_)
    cases r with
    | nil =>
      obtain ⟨t, y⟩ := q
      unfold stS at hz
      split at hz
      · simp at hz; subst hz; exact h.1
      · simp at hz; subst hz; exact h.1
    | cons u v =>
      rw [stS_cons q (by simp)] at hz
      simp at hz
      subst hz
      exact h.1
theorem strs_alt (xs : List Int) : Alt (strs xs) := by
  have : ∀ (xs : List Int) (S : List (Nat × Int)), Alt S → Alt (xs.foldl stS S) := by
    intro xs
    induction xs with
    | nil => intro S h; exact h
    | cons x xs ih => intro S h; exact ih _ (alt_stS x S h)
  exact this xs [] trivial

/-- What is told of stretches. -/
def sayF : List (Nat × Int) → List Int
  | [] => []
  | p :: r => (p.1 : Int) :: p.2 :: sayF r
theorem sayF_app (a b : List (Nat × Int)) : sayF (a ++ b) = sayF a ++ sayF b := by
  induction a with
  | nil => rfl
  | cons p t ih => rw [List.cons_append, sayF, sayF, ih]; rfl
theorem sayF_len (a : List (Nat × Int)) : (sayF a).length = 2 * a.length := by
  induction a with
  | nil => rfl
  | cons p t ih => simp [sayF, ih]; omega
theorem sayF_inj : ∀ a b : List (Nat × Int), sayF a = sayF b → a = b
  | [], [], _ => rfl
  | [], q :: r, h => by simp [sayF] at h
  | p :: r, [], h => by simp [sayF] at h
  | p :: r, q :: s, h => by
    simp only [sayF, List.cons.injEq] at h
    obtain ⟨h1, h2, h3⟩ := h
    rw [sayF_inj r s h3]
    obtain ⟨a, b⟩ := p
    obtain ⟨c, d⟩ := q
    simp only at h1 h2
    rw [h2, show a = c by omega]
theorem sayF_in (lo hi : Int) : ∀ S : List (Nat × Int), (∀ p ∈ S, lo ≤ (p.1 : Int) ∧ (p.1 : Int) ≤ hi ∧ lo ≤ p.2 ∧ p.2 ≤ hi) → ∀ x ∈ sayF S, lo ≤ x ∧ x ≤ hi
  | [], _ => by simp [sayF]
  | p :: r, h => by
    have h1 := h p (by simp)
    have ih := sayF_in lo hi r (fun q hq => h q (by simp [hq]))
    intro x hx
    simp only [sayF, List.mem_cons] at hx
    rcases hx with rfl | rfl | hx
    · exact ⟨h1.1, h1.2.1⟩
    · exact ⟨h1.2.2.1, h1.2.2.2⟩
    · exact ih x hx

/-- All stretches are of at most 9 numbers. -/
def n9 (S : List (Nat × Int)) : Bool := S.all fun p => decide (p.1 ≤ 9)
theorem n9_iff (S : List (Nat × Int)) : n9 S = true ↔ ∀ p ∈ S, p.1 ≤ 9 := by simp [n9]
theorem n9_app (a b : List (Nat × Int)) : n9 (a ++ b) = (n9 a && n9 b) := by simp [n9]

/-- What is said has no stretch of more than 3. -/
theorem said_short : ∀ (l S : List (Nat × Int)) (c : Nat) (y : Int), (∀ p ∈ S, p.1 ≤ 3) → c ≤ 2 → Alt l → (∀ q ∈ l.head?, y ≠ q.2) → ∀ p ∈ (sayF l).foldl stS (S ++ [(c, y)]), p.1 ≤ 3
  | [], S, c, y, hS, hc, _, _ => by
    intro p hp
    simp only [sayF, List.foldl_nil, List.mem_append, List.mem_singleton] at hp
    rcases hp with hp | rfl
    · exact hS p hp
    · show c ≤ 3; omega
  | (t, v) :: r, S, c, y, hS, hc, ha, hy => by
    have hv : y ≠ v := hy _ rfl
    have har := ha.cons
    have hh : ∀ q ∈ r.head?, v ≠ q.2 := by
      intro q hq
      cases r with
      | nil => simp at hq
      | cons u w =>
        simp at hq
        subst hq
        exact ha.1
    simp only [sayF, List.foldl_cons]
    rw [stS_last]
    by_cases e : y = (t : Int)
    · rw [if_pos e, stS_last, if_neg hv]
      have e2 : S ++ [(c + 1, y), (1, v)] = (S ++ [(c + 1, y)]) ++ [(1, v)] := by simp
      rw [e2]
      refine said_short r _ 1 v ?_ (by omega) har hh
      intro p hp
      simp only [List.mem_append, List.mem_singleton] at hp
      rcases hp with hp | rfl
      · exact hS p hp
      · show c + 1 ≤ 3; omega
    · rw [if_neg e]
      have e2 : S ++ [(c, y), (1, (t : Int))] = (S ++ [(c, y)]) ++ [(1, (t : Int))] := by simp
      rw [e2, stS_last]
      by_cases e3 : (t : Int) = v
      · rw [if_pos e3]
        have : ((S ++ [(c, y)]) ++ [(1 + 1, (t : Int))]) = ((S ++ [(c, y)]) ++ [(2, v)]) := by rw [e3]
        rw [this]
        refine said_short r _ 2 v ?_ (by omega) har hh
        intro p hp
        simp only [List.mem_append, List.mem_singleton] at hp
        rcases hp with hp | rfl
        · exact hS p hp
        · show c ≤ 3; omega
      · rw [if_neg e3]
        have e4 : (S ++ [(c, y)]) ++ [(1, (t : Int)), (1, v)] = (S ++ [(c, y)] ++ [(1, (t : Int))]) ++ [(1, v)] := by simp
        rw [e4]
        refine said_short r _ 1 v ?_ (by omega) har hh
        intro p hp
        simp only [List.mem_append, List.mem_singleton] at hp
        rcases hp with (hp | rfl) | rfl
        · exact hS p hp
        · show c ≤ 3; omega
        · show 1 ≤ 3; omega
theorem said_n9 {l : List (Nat × Int)} (h : Alt l) : n9 (strs (sayF l)) = true := by
  rw [n9_iff]
  intro p hp
  suffices p.1 ≤ 3 by omega
  cases l with
  | nil => simp [sayF, strs] at hp
  | cons q r =>
    obtain ⟨t, v⟩ := q
    have hh : ∀ q ∈ r.head?, v ≠ q.2 := by
      intro q hq
      cases r with
      | nil => simp at hq
      | cons u w =>
        simp at hq
        subst hq
        exact h.1
    unfold strs at hp
    simp only [sayF, List.foldl_cons] at hp
    have e0 : stS [] (t : Int) = [] ++ [(1, (t : Int))] := rfl
    rw [e0, stS_last] at hp
    by_cases e : (t : Int) = v
    · rw [if_pos e] at hp
      rw [e] at hp
      exact said_short r [] 2 v (by simp) (by omega) h.cons hh p hp
    · rw [if_neg e] at hp
      exact said_short r [(1, (t : Int))] 1 v (by simp) (by omega) h.cons hh p hp

/-- A list that can be said. -/
def gdW (xs : List Int) : Bool := decide (xs.length ≤ 400) && allIn 1 9 xs
def toSay (xs : List Int) : Bool := gdW xs && n9 (strs xs)
/-- What it says. -/
def sayL (xs : List Int) : List Int := sayF (strs xs)
def okS (xs : List Int) : Bool := toSay xs && decide ((sayL xs).length ≤ 400)
/-- What is said after steps. -/
def snF : Nat → List Int → List Int
  | 0, xs => xs
  | k + 1, xs => sayL (snF k xs)
theorem sayL_in {xs : List Int} (h : allIn 1 9 xs = true) (h9 : n9 (strs xs) = true) : allIn 1 9 (sayL xs) = true := by
  rw [allIn_iff] at h ⊢
  rw [n9_iff] at h9
  refine sayF_in 1 9 _ (fun p hp => ?_)
  have h1 := strs_pos xs p hp
  have h2 := h9 p hp
  have h3 := (strs_all (fun x => 1 ≤ x ∧ x ≤ 9) xs).2 h p hp
  exact ⟨by omega, by omega, h3.1, h3.2⟩
theorem sayL_n9 (xs : List Int) : n9 (strs (sayL xs)) = true := said_n9 (strs_alt xs)
/-- A run whose lists are short enough is of lists that can be said. -/
theorem sn_toSay {xs : List Int} (h : toSay xs = true) : ∀ k, (∀ j, j < k → (snF (j + 1) xs).length ≤ 400) → toSay (snF k xs) = true
  | 0, _ => h
  | k + 1, hk => by
    have ih := sn_toSay h k (fun j hj => hk j (by omega))
    unfold toSay gdW at ih ⊢
    simp only [Bool.and_eq_true, decide_eq_true_eq] at ih ⊢
    exact ⟨⟨hk k (by omega), sayL_in ih.1.2 ih.2⟩, sayL_n9 _⟩
theorem sn_n9 {xs : List Int} (h : n9 (strs xs) = true) : ∀ k, n9 (strs (snF k xs)) = true
  | 0 => h
  | k + 1 => sayL_n9 _

/-- The list of told stretches. -/
def unsF : List (Nat × Int) → List Int
  | [] => []
  | p :: r => List.replicate p.1 p.2 ++ unsF r
theorem unsF_app (a b : List (Nat × Int)) : unsF (a ++ b) = unsF a ++ unsF b := by
  induction a with
  | nil => rfl
  | cons p t ih => rw [List.cons_append, unsF, unsF, ih, List.append_assoc]
theorem unsF_len (a : List (Nat × Int)) : (unsF a).length = toT a := by
  induction a with
  | nil => rfl
  | cons p t ih => rw [unsF, List.length_append, List.length_replicate, ih, toT]
theorem strs_unsF : ∀ S : List (Nat × Int), (∀ p ∈ S, 1 ≤ p.1) → Alt S → strs (unsF S) = S
  | [], _, _ => rfl
  | p :: r, h, ha => by
    have ih := strs_unsF r (fun q hq => h q (by simp [hq])) ha.cons
    rw [unsF, strs_rep p.2 p.1 (h p (by simp)), ih]
    cases r with
    | nil => simp [unsF]
    | cons q s =>
      have hq := h q (by simp)
      obtain ⟨j, hj⟩ : ∃ j, q.1 = j + 1 := ⟨q.1 - 1, by omega⟩
      rw [unsF, hj, List.replicate_succ, List.cons_append, List.head?_cons]
      intro e
      exact ha.1 (Option.some.inj e).symm

end Go.Proofs.Ytmdjmbmkgboeaaa
