/-
  Joint text of YA, YB, YC: what each proves stands ahead of it.
-/
import Derived.Test.YtlbjeiaihenjkaaGreatDoorJ00
/- from YA: Steps, short steps, ways, and the first numbers behind short steps: plain mathematics.  -/
namespace Go.Proofs.YtlbjeiaihenjkaaGreatDoor
open Go.RowKit
set_option linter.unusedVariables false
set_option linter.unusedSimpArgs false

/-- A number that steps may lead from and to. -/
def Nst (n : Int) : Prop := 1 ≤ n ∧ n ≤ 1000000000000
instance (n : Int) : Decidable (Nst n) := by unfold Nst; infer_instance
/-- A number that may be added. -/
def Add (d : Int) : Prop := 1 ≤ d ∧ d ≤ 99 ∧ d % 2 = 1
instance (d : Int) : Decidable (Add d) := by unfold Add; infer_instance

def stp (d n : Int) : Int := if n % 2 = 0 then n / 2 else 3 * n + d
def sho (n : Int) : Int := if n % 2 = 0 then n / 2 else (3 * n + 1) / 2
def inN (x : Int) : Option Int := if Nst x then some x else none
def ledW (d n : Int) : Option Int := if Nst n then inN (stp d n) else none
def ledS (n : Int) : Option Int := if Nst n then inN (sho n) else none
def RStepWith (d n : Int) : Option Int := if Add d then ledW d n else none

theorem stp_even {d n : Int} (h : n % 2 = 0) : stp d n = n / 2 := if_pos h
theorem stp_odd {d n : Int} (h : ¬ n % 2 = 0) : stp d n = 3 * n + d := if_neg h
theorem sho_even {n : Int} (h : n % 2 = 0) : sho n = n / 2 := if_pos h
theorem sho_odd {n : Int} (h : ¬ n % 2 = 0) : sho n = (3 * n + 1) / 2 := if_neg h
theorem inN_yes {x : Int} (h : Nst x) : inN x = some x := if_pos h
theorem inN_no {x : Int} (h : ¬ Nst x) : inN x = none := if_neg h
theorem ledW_in {d n : Int} (h : Nst n) (h2 : Nst (stp d n)) : ledW d n = some (stp d n) := by rw [ledW, if_pos h, inN_yes h2]
theorem ledW_out {d n : Int} (h : Nst n) (h2 : ¬ Nst (stp d n)) : ledW d n = none := by rw [ledW, if_pos h, inN_no h2]
theorem ledW_not {d n : Int} (h : ¬ Nst n) : ledW d n = none := if_neg h
theorem ledS_in {n : Int} (h : Nst n) (h2 : Nst (sho n)) : ledS n = some (sho n) := by rw [ledS, if_pos h, inN_yes h2]
theorem ledS_out {n : Int} (h : Nst n) (h2 : ¬ Nst (sho n)) : ledS n = none := by rw [ledS, if_pos h, inN_no h2]
theorem ledS_not {n : Int} (h : ¬ Nst n) : ledS n = none := if_neg h
theorem stp_bd {d n : Int} (hd : 0 ≤ d ∧ d ≤ 99) (h : Nst n) : 0 ≤ stp d n ∧ stp d n ≤ 3000000000099 := by
  obtain ⟨h1, h2⟩ := h
  unfold stp
  split <;> omega
theorem sho_bd {n : Int} (h : Nst n) : 1 ≤ sho n ∧ sho n ≤ 1500000000001 := by
  obtain ⟨h1, h2⟩ := h
  unfold sho
  split <;> omega
theorem stp_pos {d n : Int} (hd : 1 ≤ d) (h : Nst n) : 1 ≤ stp d n := by
  obtain ⟨h1, h2⟩ := h
  unfold stp
  split <;> omega

/-- The numbers from n on, up to the first one that is an end, at most f steps away. -/
def wlk (E : Int → Bool) (d : Int) : Nat → Int → Option (List Int)
  | 0, n => if E n = true then some [n] else none
  | f + 1, n => if E n = true then some [n] else if Nst (stp d n) then (wlk E d f (stp d n)).map (n :: ·) else none

/-- What stands in front of a run. -/
def jn (pre : List Int) (o : Option (List Int)) : Option (List Int) := o.map (pre ++ ·)

theorem jn_nil (o : Option (List Int)) : jn [] o = o := by cases o <;> simp [jn]
theorem jn_none (pre : List Int) : jn pre none = none := rfl
theorem jn_some (pre l : List Int) : jn pre (some l) = some (pre ++ l) := rfl
theorem jn_cons (pre : List Int) (n : Int) (o : Option (List Int)) : jn pre (o.map (n :: ·)) = jn (pre ++ [n]) o := by cases o <;> simp [jn]

theorem wlk_end {E : Int → Bool} {d n : Int} (f : Nat) (h : E n = true) : wlk E d f n = some [n] := by cases f <;> simp [wlk, h]
theorem wlk_long {E : Int → Bool} {d n : Int} (h : E n = false) : wlk E d 0 n = none := by simp [wlk, h]
theorem wlk_out {E : Int → Bool} {d n : Int} (f : Nat) (h : E n = false) (h2 : ¬ Nst (stp d n)) : wlk E d f n = none := by cases f <;> simp [wlk, h, h2]
theorem wlk_step {E : Int → Bool} {d n : Int} {f : Nat} (h : E n = false) (h2 : Nst (stp d n)) : wlk E d (f + 1) n = (wlk E d f (stp d n)).map (n :: ·) := by simp [wlk, h, h2]

theorem wlk_jn_end {E : Int → Bool} {d m : Int} (pre : List Int) (h : E m = true) : jn pre (wlk E d (1000 - pre.length) m) = some (pre ++ [m]) := by
  rw [wlk_end _ h, jn_some]
theorem wlk_jn_out {E : Int → Bool} {d m : Int} (pre : List Int) (h : E m = false) (h2 : ¬ Nst (stp d m)) : jn pre (wlk E d (1000 - pre.length) m) = none := by
  rw [wlk_out _ h h2, jn_none]
theorem wlk_jn_long {E : Int → Bool} {d m : Int} {pre : List Int} (h : E m = false) (hl : 1000 ≤ pre.length) : jn pre (wlk E d (1000 - pre.length) m) = none := by
  rw [Nat.sub_eq_zero_of_le hl, wlk_long h, jn_none]
theorem wlk_jn_step {E : Int → Bool} {d m : Int} {pre : List Int} (h : E m = false) (h2 : Nst (stp d m)) (hl : pre.length < 1000) :
    jn pre (wlk E d (1000 - pre.length) m) = jn (pre ++ [m]) (wlk E d (1000 - (pre ++ [m]).length) (stp d m)) := by
  rw [show 1000 - pre.length = (1000 - (pre ++ [m]).length) + 1 by simp; omega, wlk_step h h2, jn_cons]

theorem wlk_props {E : Int → Bool} {d : Int} : ∀ (f : Nat) (n : Int) (l : List Int), Nst n → wlk E d f n = some l → 1 ≤ l.length ∧ l.length ≤ f + 1 ∧ (∀ x ∈ l, Nst x)
  | 0, n, l, hn, h => by
    by_cases hE : E n = true
    · rw [wlk_end _ hE] at h
      cases h
      exact ⟨by simp, by simp, by simpa using hn⟩
    · rw [wlk_long (by simpa using hE)] at h
      cases h
  | f + 1, n, l, hn, h => by
    by_cases hE : E n = true
    · rw [wlk_end _ hE] at h
      cases h
      exact ⟨by simp, by simp, by simpa using hn⟩
    · by_cases h2 : Nst (stp d n)
      · rw [wlk_step (by simpa using hE) h2] at h
        cases hw : wlk E d f (stp d n) with
        | none => rw [hw] at h; cases h
        | some l' =>
          rw [hw] at h
          cases h
          obtain ⟨a, b, c⟩ := wlk_props f _ _ h2 hw
          refine ⟨by simp, by simp; omega, ?_⟩
          intro x hx
          rcases List.mem_cons.1 hx with rfl | hx
          · exact hn
          · exact c x hx
      · rw [wlk_out _ (by simpa using hE) h2] at h
        cases h

/-- Is this the number 1? -/
def E1 (m : Int) : Bool := decide (m = 1)
/-- Is this less than n? -/
def El (n m : Int) : Bool := decide (m < n)
/-- The way from n to 1. -/
def way (n : Int) : Option (List Int) := if Nst n then wlk E1 1 1000 n else none
theorem way_in {n : Int} (h : Nst n) : way n = wlk E1 1 1000 n := if_pos h
theorem way_no {n : Int} (h : ¬ Nst n) : way n = none := if_neg h
theorem way_props {n : Int} {l : List Int} (h : way n = some l) : 1 ≤ l.length ∧ l.length ≤ 1001 ∧ (∀ x ∈ l, Nst x) := by
  by_cases hn : Nst n
  · rw [way_in hn] at h
    exact wlk_props 1000 n l hn h
  · rw [way_no hn] at h
    cases h
theorem way_len (n : Int) : ((way n).getD []).length ≤ 1001 := by
  cases h : way n with
  | none => simp
  | some l => exact (way_props h).2.1

def lenO (o : Option (List Int)) : Option Int := o.map fun l => (l.length : Int) - 1
def RStepsTo (n : Int) : Option Int := lenO (way n)
def mxL (l : List Int) : Int := l.foldl max 0
def RGreatestOn (n : Int) : Option Int := (way n).map mxL
def fal (n : Int) : Option (List Int) := if 2 ≤ n ∧ n ≤ 1000000000000 then wlk (El n) 1 1000 n else none
def RFallsBelow (n : Int) : Option Int := lenO (fal n)

/-- The first k numbers behind short steps. -/
def shs : Nat → Int → Option (List Int)
  | 0, _ => some []
  | k + 1, n => if Nst n then (shs k (sho n)).map (n :: ·) else none
/-- The number behind k short steps. -/
def shN : Nat → Int → Int
  | 0, n => n
  | k + 1, n => shN k (sho n)

theorem shs_in {k : Nat} {n : Int} (h : Nst n) : shs (k + 1) n = (shs k (sho n)).map (n :: ·) := if_pos h
theorem shs_out {k : Nat} {n : Int} (h : ¬ Nst n) : shs (k + 1) n = none := if_neg h
theorem shs_len : ∀ (k : Nat) (n : Int) (l : List Int), shs k n = some l → l.length = k ∧ ∀ x ∈ l, Nst x
  | 0, n, l, h => by cases h; exact ⟨rfl, by simp⟩
  | k + 1, n, l, h => by
    by_cases hn : Nst n
    · rw [shs_in hn] at h
      cases hw : shs k (sho n) with
      | none => rw [hw] at h; cases h
      | some l' =>
        rw [hw] at h
        cases h
        obtain ⟨a, b⟩ := shs_len k _ _ hw
        refine ⟨by simp [a], ?_⟩
        intro x hx
        rcases List.mem_cons.1 hx with rfl | hx
        · exact hn
        · exact b x hx
    · rw [shs_out hn] at h
      cases h
theorem shs_at : ∀ (k : Nat) (n : Int) (l : List Int), shs (k + 1) n = some l → l[k]? = some (shN k n)
  | 0, n, l, h => by
    by_cases hn : Nst n
    · rw [shs_in hn] at h; cases h; rfl
    · rw [shs_out hn] at h; cases h
  | k + 1, n, l, h => by
    by_cases hn : Nst n
    · rw [shs_in hn] at h
      cases hw : shs (k + 1) (sho n) with
      | none => rw [hw] at h; cases h
      | some l' =>
        rw [hw] at h
        cases h
        exact shs_at k _ _ hw
    · rw [shs_out hn] at h; cases h

/-- One more: the first k numbers and the next. -/
theorem shs_more : ∀ (k : Nat) (n : Int), shs (k + 1) n = if Nst (shN k n) then (shs k n).map (· ++ [shN k n]) else none
  | 0, n => by by_cases h : Nst n <;> simp [shs, shN, h]
  | k + 1, n => by
    by_cases h : Nst n
    · rw [shs_in h, shs_more k (sho n), shs_in h]
      show _ = if Nst (shN k (sho n)) then _ else _
      by_cases h2 : Nst (shN k (sho n))
      · rw [if_pos h2, if_pos h2]
        cases shs k (sho n) <;> simp [shN]
      · rw [if_neg h2, if_neg h2]; rfl
    · rw [shs_out h]
      by_cases h2 : Nst (shN (k + 1) n)
      · rw [if_pos h2]
        rw [shs_out h]; rfl
      · rw [if_neg h2]

def par (l : List Int) : List Int := l.map (· % 2)
def asked (n k : Int) : Bool := decide (Nst n) && (decide (0 ≤ k) && decide (k ≤ 20))
def RWord (n k : Int) : Option (List Int) := if asked n k = true then (shs k.toNat n).map par else none
def ROddCount (n k : Int) : Option Int := (RWord n k).map List.sum
def RAfterShort (n k : Int) : Option Int := if asked n k = true then (shs (k.toNat + 1) n).map (fun _ => shN k.toNat n) else none

end Go.Proofs.YtlbjeiaihenjkaaGreatDoor

/- from YB: Words of parities and the numbers that they tell; fractions of words: plain mathematics.  -/
namespace Go.Proofs.YtlbjeiaihenjkaaGreatDoor
open Go.RowKit
set_option linter.unusedVariables false
set_option linter.unusedSimpArgs false

/-- The first k numbers behind short steps, however great. -/
def shL : Nat → Int → List Int
  | 0, _ => []
  | k + 1, n => n :: shL k (sho n)
/-- 3 to the power of the number of odd ones among them. -/
def p3 : Nat → Int → Int
  | 0, _ => 1
  | k + 1, n => (if n % 2 = 0 then 1 else 3) * p3 k (sho n)

theorem shN_more : ∀ (k : Nat) (n : Int), shN (k + 1) n = sho (shN k n)
  | 0, n => rfl
  | k + 1, n => shN_more k (sho n)
theorem shL_more : ∀ (k : Nat) (n : Int), shL (k + 1) n = shL k n ++ [shN k n]
  | 0, n => rfl
  | k + 1, n => by
    show n :: shL (k + 1) (sho n) = _
    rw [shL_more k (sho n)]; rfl
theorem p3_more : ∀ (k : Nat) (n : Int), p3 (k + 1) n = p3 k n * (if shN k n % 2 = 0 then 1 else 3)
  | 0, n => by
    show (if n % 2 = 0 then (1 : Int) else 3) * 1 = 1 * _
    rw [Int.mul_one, Int.one_mul]; rfl
  | k + 1, n => by
    show (if n % 2 = 0 then 1 else 3) * p3 (k + 1) (sho n) = _
    rw [p3_more k (sho n), ← Int.mul_assoc]; rfl
theorem shL_len : ∀ (k : Nat) (n : Int), (shL k n).length = k
  | 0, n => rfl
  | k + 1, n => by simp [shL, shL_len k]

theorem p3_odd : ∀ (k : Nat) (n : Int), p3 k n % 2 = 1
  | 0, n => by simp [p3]
  | k + 1, n => by
    have := p3_odd k (sho n)
    unfold p3
    split <;> omega
theorem p3_bd : ∀ (k : Nat) (n : Int), 1 ≤ p3 k n ∧ p3 k n ≤ 3 ^ k
  | 0, n => by simp [p3]
  | k + 1, n => by
    have := p3_bd k (sho n)
    rw [Int.pow_succ]
    unfold p3
    split <;> omega

theorem sho_shift (n q : Int) : sho (n + 2 * q) = sho n + (if n % 2 = 0 then 1 else 3) * q ∧ (n + 2 * q) % 2 = n % 2 := by
  unfold sho
  by_cases h : n % 2 = 0
  · rw [if_pos h, if_pos h, if_pos (by omega)]; omega
  · rw [if_neg h, if_neg h, if_neg (by omega)]; omega

/-- Numbers that leave the same remainder go the same way; what is behind them grows by threes. -/
theorem shift : ∀ (k : Nat) (n q : Int), par (shL k (n + 2 ^ k * q)) = par (shL k n) ∧ shN k (n + 2 ^ k * q) = shN k n + p3 k n * q ∧ p3 k (n + 2 ^ k * q) = p3 k n
  | 0, n, q => by simp [shL, shN, p3]
  | k + 1, n, q => by
    have h1 : n + 2 ^ (k + 1) * q = n + 2 * (2 ^ k * q) := by rw [Int.pow_succ]; grind
    obtain ⟨h2, h3⟩ := sho_shift n (2 ^ k * q)
    have h4 : sho n + (if n % 2 = 0 then 1 else 3) * (2 ^ k * q) = sho n + 2 ^ k * ((if n % 2 = 0 then 1 else 3) * q) := by grind
    rw [h4] at h2
    obtain ⟨i1, i2, i3⟩ := shift k (sho n) ((if n % 2 = 0 then 1 else 3) * q)
    rw [h1]
    refine ⟨?_, ?_, ?_⟩
    · show (n + 2 * (2 ^ k * q)) % 2 :: par (shL k (sho (n + 2 * (2 ^ k * q)))) = n % 2 :: par (shL k (sho n))
      rw [h2, h3, i1]
    · show shN k (sho (n + 2 * (2 ^ k * q))) = shN k (sho n) + (if n % 2 = 0 then 1 else 3) * p3 k (sho n) * q
      rw [h2, i2]; grind
    · show (if (n + 2 * (2 ^ k * q)) % 2 = 0 then 1 else 3) * p3 k (sho (n + 2 * (2 ^ k * q))) = (if n % 2 = 0 then 1 else 3) * p3 k (sho n)
      rw [h2, h3, i3]

theorem shift1 (k : Nat) (n : Int) : par (shL k (n + 2 ^ k)) = par (shL k n) ∧ shN k (n + 2 ^ k) = shN k n + p3 k n ∧ p3 k (n + 2 ^ k) = p3 k n := by
  have := shift k n 1
  rwa [Int.mul_one, Int.mul_one] at this

theorem shN_grow : ∀ (k : Nat) (n : Int), 1 ≤ n → 1 ≤ shN k n ∧ 2 ^ k * (shN k n + 1) ≤ 3 ^ k * (n + 1)
  | 0, n, h => by simp [shN]; exact h
  | k + 1, n, h => by
    have h1 : 1 ≤ sho n ∧ 2 * (sho n + 1) ≤ 3 * (n + 1) := by
      unfold sho; split <;> omega
    obtain ⟨i1, i2⟩ := shN_grow k (sho n) h1.1
    refine ⟨i1, ?_⟩
    show 2 ^ (k + 1) * (shN k (sho n) + 1) ≤ _
    have h3 : (3 : Int) ^ k * (2 * (sho n + 1)) ≤ 3 ^ k * (3 * (n + 1)) := Int.mul_le_mul_of_nonneg_left h1.2 (Int.le_of_lt (Int.pow_pos (by omega)))
    rw [Int.pow_succ, Int.pow_succ]
    have e1 : (2 : Int) ^ k * 2 * (shN k (sho n) + 1) = 2 * (2 ^ k * (shN k (sho n) + 1)) := by grind
    have e2 : (3 : Int) ^ k * 3 * (n + 1) = 3 ^ k * (3 * (n + 1)) := by grind
    have e3 : (3 : Int) ^ k * (2 * (sho n + 1)) = 2 * (3 ^ k * (sho n + 1)) := by grind
    rw [e1, e2]
    omega

theorem p32 : ∀ k : Nat, k ≤ 21 → (3 : Int) ^ k ≤ 5000 * 2 ^ k ∧ (2 : Int) ^ k ≤ 2097152 ∧ (1 : Int) ≤ 2 ^ k ∧ (3 : Int) ^ k ≤ 10460353203 := by
  have h : (List.range 22).all (fun k => decide ((3 : Int) ^ k ≤ 5000 * 2 ^ k ∧ (2 : Int) ^ k ≤ 2097152 ∧ (1 : Int) ≤ 2 ^ k ∧ (3 : Int) ^ k ≤ 10460353203)) = true := by decide +kernel
  intro k hk
  have := List.all_eq_true.1 h k (List.mem_range.2 (by omega))
  simpa using this
theorem p2_20 : ∀ k : Nat, k ≤ 20 → (2 : Int) ^ k ≤ 1048576 ∧ (1 : Int) ≤ 2 ^ k := by
  have h : (List.range 21).all (fun k => decide ((2 : Int) ^ k ≤ 1048576 ∧ (1 : Int) ≤ 2 ^ k)) = true := by decide +kernel
  intro k hk
  have := List.all_eq_true.1 h k (List.mem_range.2 (by omega))
  simpa using this

theorem shN_bd {k : Nat} {n : Int} (hk : k ≤ 21) (h : 1 ≤ n) (h2 : n ≤ 1048576) : 1 ≤ shN k n ∧ shN k n ≤ 5242885000 := by
  obtain ⟨a, b⟩ := shN_grow k n h
  obtain ⟨c, _, e, _⟩ := p32 k hk
  refine ⟨a, ?_⟩
  have h3 : (3 : Int) ^ k * (n + 1) ≤ (5000 * 2 ^ k) * 1048577 := Int.mul_le_mul c (by omega) (by omega) (by omega)
  have h4 : (2 : Int) ^ k * (shN k n + 1) ≤ 2 ^ k * 5242885000 := by
    have : (5000 * (2:Int) ^ k) * 1048577 = 2 ^ k * 5242885000 := by grind
    omega
  have h5 : shN k n + 1 ≤ 5242885000 := Int.le_of_mul_le_mul_left h4 (by omega)
  omega

theorem shs_all {n : Int} (h : 1 ≤ n) (h2 : n ≤ 1048576) : ∀ k : Nat, k ≤ 21 → shs k n = some (shL k n)
  | 0, _ => rfl
  | k + 1, hk => by
    have := shN_bd (k := k) (by omega) h h2
    rw [shs_more, if_pos ⟨this.1, by omega⟩, shs_all h h2 k (by omega), shL_more]; rfl

/-- The letters of remainders by two. -/
def let1 (x : Int) : UInt8 := if x % 2 = 0 then 48 else 49
def lts (l : List Int) : List UInt8 := l.map let1
theorem lts_par (l : List Int) : lts (par l) = lts l := by
  induction l with
  | nil => rfl
  | cons a t ih =>
    show let1 (a % 2) :: lts (par t) = let1 a :: lts t
    rw [ih, show let1 (a % 2) = let1 a by unfold let1; rw [show a % 2 % 2 = a % 2 by omega]]
theorem lts_len (l : List Int) : (lts l).length = l.length := by simp [lts]
theorem lts_snoc (l : List Int) (x : Int) : lts (l ++ [x]) = lts l ++ [let1 x] := by simp [lts]
theorem lts_eq {a b : List Int} (h : par a = par b) : lts a = lts b := by rw [← lts_par a, ← lts_par b, h]

/-- The number of a word: letter by letter the one of two numbers with the word so far whose next letter is right. -/
def nw : List UInt8 → Nat → Int → Int
  | [], _, n => n
  | c :: cs, i, n => nw cs (i + 1) (if let1 (shN i n) = c then n else n + 2 ^ i)

def isL (c : UInt8) : Bool := decide (c = 48) || decide (c = 49)

theorem nw_cons (c : UInt8) (cs : List UInt8) (i : Nat) (n : Int) : nw (c :: cs) i n = nw cs (i + 1) (if let1 (shN i n) = c then n else n + 2 ^ i) := rfl

theorem let1_odd {x : Int} (h : x % 2 = 1) : let1 x = 49 := by unfold let1; rw [if_neg (by omega)]
theorem let1_even {x : Int} (h : x % 2 = 0) : let1 x = 48 := by unfold let1; rw [if_pos h]
theorem let1_or (x : Int) : let1 x = 48 ∨ let1 x = 49 := by unfold let1; split <;> simp
theorem let1_add {x p : Int} (hp : p % 2 = 1) {c : UInt8} (hc : isL c = true) (h : ¬ let1 x = c) : let1 (x + p) = c := by
  have hc2 : c = 48 ∨ c = 49 := by simpa [isL] using hc
  unfold let1 at h ⊢
  by_cases hx : x % 2 = 0
  · rw [if_pos hx] at h
    rw [if_neg (by omega)]
    rcases hc2 with rfl | rfl
    · exact absurd rfl h
    · rfl
  · rw [if_neg hx] at h
    rw [if_pos (by omega)]
    rcases hc2 with rfl | rfl
    · rfl
    · exact absurd rfl h

/-- One letter more. -/
theorem word_yes {i : Nat} {n : Int} {u : List UInt8} {c : UInt8} (h : lts (shL i n) = u) (hc : let1 (shN i n) = c) : lts (shL (i + 1) n) = u ++ [c] := by
  rw [shL_more, lts_snoc, h, hc]
theorem word_no {i : Nat} {n : Int} {u : List UInt8} {c : UInt8} (h : lts (shL i n) = u) (hc : ¬ let1 (shN i n) = c) : lts (shL (i + 1) n) ≠ u ++ [c] := by
  rw [shL_more, lts_snoc, h]
  intro e
  have := List.append_cancel_left e
  simp at this
  exact hc this
theorem word_next {i : Nat} {n : Int} {u : List UInt8} {c : UInt8} (h : lts (shL i n) = u) (hl : isL c = true) (hc : ¬ let1 (shN i n) = c) : lts (shL (i + 1) (n + 2 ^ i)) = u ++ [c] := by
  obtain ⟨a, b, _⟩ := shift1 i n
  rw [shL_more, lts_snoc, lts_eq a, h, b, let1_add (p3_odd i n) hl hc]

/-! Fractions of words. -/
def ones (cs : List UInt8) : Nat := cs.count 49
theorem ones_cons (c : UInt8) (cs : List UInt8) : ones (c :: cs) = ones cs + (if c = 49 then 1 else 0) := by
  unfold ones
  rw [List.count_cons]
  by_cases h : c = 49 <;> simp [h]
theorem ones_le (cs : List UInt8) : ones cs ≤ cs.length := List.count_le_length
def cS : List UInt8 → Nat → Int → Int
  | [], _, s => s
  | c :: cs, i, s => cS cs (i + 1) (if c = 49 then 3 * s + 2 ^ i else s)
def cM : List UInt8 → Nat → Int
  | [], _ => 0
  | c :: cs, i => (if c = 49 then 2 ^ i * 3 ^ (ones cs) else 0) + cM cs (i + 1)
theorem cS_cM : ∀ (cs : List UInt8) (i : Nat) (s : Int), cS cs i s = s * 3 ^ (ones cs) + cM cs i
  | [], i, s => by simp [cS, cM, ones]
  | c :: cs, i, s => by
    rw [cS, cM, cS_cM cs, ones_cons]
    by_cases h : c = 49
    · simp only [h, if_true, Int.pow_succ]; grind
    · simp only [h, if_false, Nat.add_zero]; grind
theorem cM_bd : ∀ (cs : List UInt8) (i : Nat), cs.length + i ≤ 20 → 0 ≤ cM cs i ∧ cM cs i ≤ cs.length * 3656158440062976
  | [], i, h => by simp [cM]
  | c :: cs, i, h => by
    simp only [List.length_cons] at h
    have h1 := cM_bd cs (i + 1) (by omega)
    obtain ⟨a, b⟩ := p2_20 i (by omega)
    have h2 := ones_le cs
    have h3 : (1:Int) ≤ 3 ^ (ones cs) ∧ (3:Int) ^ (ones cs) ≤ 3486784401 := by
      have : ∀ k : Nat, k ≤ 20 → (1:Int) ≤ 3 ^ k ∧ (3:Int) ^ k ≤ 3486784401 := by
        have h : (List.range 21).all (fun k => decide ((1:Int) ≤ 3 ^ k ∧ (3:Int) ^ k ≤ 3486784401)) = true := by decide +kernel
        intro k hk
        have := List.all_eq_true.1 h k (List.mem_range.2 (by omega))
        simpa using this
      exact this _ (by omega)
    have h4 : (2:Int) ^ i * 3 ^ (ones cs) ≤ 1048576 * 3486784401 := Int.mul_le_mul a h3.2 (by omega) (by omega)
    have h5 : (0:Int) ≤ 2 ^ i * 3 ^ (ones cs) := Int.mul_nonneg (by omega) (by omega)
    unfold cM
    simp only [List.length_cons]
    push_cast
    split <;> omega

theorem two_three (k j : Nat) (hk : 0 < k) : (2:Int) ^ k - 3 ^ j ≠ 0 := by
  have h : ∀ j : Nat, (3:Int) ^ j % 2 = 1 := by
    intro j
    induction j with
    | zero => rfl
    | succ j ih => rw [Int.pow_succ]; omega
  have h2 := h j
  obtain ⟨m, rfl⟩ : ∃ m, k = m + 1 := ⟨k - 1, by omega⟩
  rw [Int.pow_succ]
  omega

end Go.Proofs.YtlbjeiaihenjkaaGreatDoor

/- from YC: Levels of numbers with as many steps, records: plain mathematics.  -/
namespace Go.Proofs.YtlbjeiaihenjkaaGreatDoor
open Go.RowKit
set_option linter.unusedVariables false
set_option linter.unusedSimpArgs false

/-- All numbers of which a step leads to n. -/
def bef (n : Int) : List Int := (if n % 6 = 4 then [(n - 1) / 3] else []) ++ (if 2 * n ≤ 1000000000000 then [2 * n] else [])
theorem bef_len (n : Int) : (bef n).length ≤ 2 := by
  unfold bef
  split <;> split <;> simp
def LF_BeforeStep (n : Int) : List Int := if Nst n then bef n else []
theorem LF_BeforeStep_len (n : Int) : (LF_BeforeStep n).length ≤ 2000000 := by
  have := bef_len n
  unfold LF_BeforeStep
  split <;> simp <;> omega

def notOne (m : Int) : Bool := decide (m ≠ 1)
def befO (n : Int) : List Int := (bef n).filter notOne
def nxt : List Int → List Int
  | [] => []
  | n :: l => befO n ++ nxt l
def lev : Nat → List Int
  | 0 => [1]
  | k + 1 => nxt (lev k)
def insI (x : Int) : List Int → List Int
  | [] => [x]
  | y :: l => if x ≤ y then x :: y :: l else y :: insI x l
def isoI : List Int → List Int
  | [] => []
  | x :: l => insI x (isoI l)
def LV (k : Nat) : List Int := isoI (lev k)
def risesI : List Int → Bool
  | [] => true
  | [_] => true
  | x :: y :: l => decide (x < y) && risesI (y :: l)
theorem rises_pw : ∀ (l : List Int), risesI l = true → l.Pairwise (· < ·)
  | [], _ => List.Pairwise.nil
  | [x], _ => by simp
  | x :: y :: l, h => by
    simp only [risesI, Bool.and_eq_true, decide_eq_true_eq] at h
    have ih := rises_pw (y :: l) h.2
    refine List.Pairwise.cons ?_ ih
    intro z hz
    rcases List.mem_cons.1 hz with rfl | hz
    · exact h.1
    · have := (List.pairwise_cons.1 ih).1 z hz
      omega

theorem lev_facts : ∀ k : Nat, k ≤ 15 → (LV k).Pairwise (· < ·) ∧ (lev k).Perm (LV k) ∧ (lev k).length ≤ 100 ∧ (∀ x ∈ lev k, 1 ≤ x ∧ x ≤ 32768) := by
  have h : (List.range 16).all (fun k => risesI (LV k) && (lev k).isPerm (LV k) && decide ((lev k).length ≤ 100) && (lev k).all (fun x => decide (1 ≤ x ∧ x ≤ 32768))) = true := by decide +kernel
  intro k hk
  have h2 := List.all_eq_true.1 h k (List.mem_range.2 (by omega))
  simp only [Bool.and_eq_true, decide_eq_true_eq] at h2
  obtain ⟨⟨⟨a, b⟩, c⟩, d⟩ := h2
  refine ⟨rises_pw _ a, List.isPerm_iff.1 b, c, fun x hx => ?_⟩
  simpa using List.all_eq_true.1 d x hx

theorem nxt_append (a b : List Int) : nxt (a ++ b) = nxt a ++ nxt b := by
  induction a with
  | nil => rfl
  | cons x t ih => simp [nxt, ih, List.append_assoc]
theorem nxt_len (l : List Int) : (nxt l).length ≤ 2 * l.length := by
  induction l with
  | nil => simp [nxt]
  | cons x t ih =>
    have := bef_len x
    have h2 : (befO x).length ≤ (bef x).length := List.length_filter_le _ _
    simp [nxt]; omega
theorem mem_nxt (z : Int) (l : List Int) : z ∈ nxt l ↔ ∃ n ∈ l, z ∈ befO n := by
  induction l with
  | nil => simp [nxt]
  | cons x t ih => simp [nxt, ih]
theorem nxt_mem {a b : List Int} (h : ∀ z, z ∈ a ↔ z ∈ b) (z : Int) : z ∈ nxt a ↔ z ∈ nxt b := by
  rw [mem_nxt, mem_nxt]
  constructor
  · rintro ⟨n, h1, h2⟩; exact ⟨n, (h n).1 h1, h2⟩
  · rintro ⟨n, h1, h2⟩; exact ⟨n, (h n).2 h1, h2⟩

/-- Two rising lists with the same numbers are one. -/
theorem rise_ext : ∀ (a b : List Int), a.Pairwise (· < ·) → b.Pairwise (· < ·) → (∀ z, z ∈ a ↔ z ∈ b) → a = b
  | [], [], _, _, _ => rfl
  | [], y :: b, _, _, h => by have := (h y).2 (by simp); simp at this
  | x :: a, [], _, _, h => by have := (h x).1 (by simp); simp at this
  | x :: a, y :: b, ha, hb, h => by
    have h1 := (List.pairwise_cons.1 ha).1
    have h2 := (List.pairwise_cons.1 hb).1
    have e : x = y := by
      rcases List.mem_cons.1 ((h x).1 (by simp)) with e | e
      · exact e
      · rcases List.mem_cons.1 ((h y).2 (by simp)) with e2 | e2
        · exact e2.symm
        · have a1 := h1 y e2
          have a2 := h2 x e
          omega
    subst e
    refine congrArg (x :: ·) (rise_ext a b (List.pairwise_cons.1 ha).2 (List.pairwise_cons.1 hb).2 ?_)
    intro z
    constructor
    · intro hz
      rcases List.mem_cons.1 ((h z).1 (by simp [hz])) with e | e
      · subst e; have := h1 z hz; omega
      · exact e
    · intro hz
      rcases List.mem_cons.1 ((h z).2 (by simp [hz])) with e | e
      · subst e; have := h2 z hz; omega
      · exact e

/-- A sorted list of the level's numbers is the level. -/
theorem lev_sorted {k : Nat} (hk : k ≤ 15) {ys : List Int} (h1 : ys.Pairwise (· ≤ ·)) (h2 : ys.Perm (lev k)) : ys = LV k := by
  obtain ⟨a, b, _, _⟩ := lev_facts k hk
  have hp : ys.Perm (LV k) := h2.trans b
  have hnd : ys.Pairwise (· ≠ ·) := by
    have : (LV k).Pairwise (· ≠ ·) := a.imp (fun h => by omega)
    exact (hp.pairwise_iff (fun h => fun e => h e.symm)).2 this
  refine rise_ext ys (LV k) ?_ a (fun z => hp.mem_iff)
  exact (h1.and hnd).imp (fun ⟨u, v⟩ => by omega)
theorem lev_rise {k : Nat} (hk : k ≤ 15) {ys : List Int} (h1 : ys.Pairwise (· < ·)) (h2 : ∀ z, z ∈ ys ↔ z ∈ lev k) : ys = LV k := by
  obtain ⟨a, b, _, _⟩ := lev_facts k hk
  exact rise_ext ys (LV k) h1 a (fun z => (h2 z).trans b.mem_iff)
theorem lev_succ (k : Nat) : lev (k + 1) = nxt (lev k) := rfl
def LF_LevelOf (k : Int) : List Int := if 0 ≤ k ∧ k ≤ 15 then LV k.toNat else []
theorem LF_LevelOf_len (k : Int) : (LF_LevelOf k).length ≤ 2000000 := by
  unfold LF_LevelOf
  split
  · obtain ⟨_, b, c, _⟩ := lev_facts k.toNat (by omega)
    rw [← b.length_eq]; omega
  · simp

/-! Records. -/
def wl (n : Int) : Int := (((way n).getD []).length : Int)
def recs : Nat → Int → Int → List Int
  | 0, _, _ => []
  | f + 1, n, best => if best < wl n then n :: recs f (n + 1) (wl n) else recs f (n + 1) best
theorem recs_yes {f : Nat} {n best : Int} (h : best < wl n) : recs (f + 1) n best = n :: recs f (n + 1) (wl n) := if_pos h
theorem recs_no {f : Nat} {n best : Int} (h : ¬ best < wl n) : recs (f + 1) n best = recs f (n + 1) best := if_neg h
theorem recs_len : ∀ (f : Nat) (n best : Int), (recs f n best).length ≤ f
  | 0, n, best => by simp [recs]
  | f + 1, n, best => by
    by_cases h : best < wl n
    · rw [recs_yes h]; have := recs_len f (n + 1) (wl n); simp; omega
    · rw [recs_no h]; have := recs_len f (n + 1) best; omega
def LF_RecordsUpTo (m : Int) : List Int := if 1 ≤ m ∧ m ≤ 2000 then recs m.toNat 1 0 else []
theorem LF_RecordsUpTo_len (m : Int) : (LF_RecordsUpTo m).length ≤ 2000000 := by
  unfold LF_RecordsUpTo
  split
  · have := recs_len m.toNat 1 0; omega
  · simp
theorem wl_none {n : Int} (h : way n = none) : wl n = 0 := by simp [wl, h]
theorem wl_some {n : Int} {l : List Int} (h : way n = some l) : wl n = l.length := by simp [wl, h]
theorem wl_one : wl 1 = 1 := by
  have : way 1 = some [1] := by rw [way_in ⟨by omega, by omega⟩]; exact wlk_end _ (by decide)
  rw [wl_some this]; rfl
theorem wl_bd (n : Int) : 0 ≤ wl n ∧ wl n ≤ 1001 := by
  have := way_len n
  unfold wl; omega

def LF_WayToOne (n : Int) : List Int := (way n).getD []
theorem LF_WayToOne_len (n : Int) : (LF_WayToOne n).length ≤ 2000000 := by have := way_len n; unfold LF_WayToOne; omega

end Go.Proofs.YtlbjeiaihenjkaaGreatDoor
