/-
  Steps, short steps, ways, and the first numbers behind short steps: plain mathematics.
-/
import Derived.Test.YtbgnieajeipllaaW
namespace Go.Proofs.Ytbgnieajeipllaa
open Go.RowKit
set_option linter.unusedVariables false
set_option linter.unusedSimpArgs false

/-- A number that steps may lead from and to. -/
def Nst (n : Int) : Prop := 1 ≤ n ∧ n ≤ 1000000000000
instance (n : Int) : Decidable (Nst n) := by unfold Nst; infer_instance
/-- A number that may be added. -/
def Add (d : Int) : Prop := 1 ≤ d ∧ d ≤ 99 ∧ d % 2 = 1
instance (d : Int) : Decidable (Add d) := by unfold Add; infer_instance

def stp (d n : Int) : Int := if n % 2 = 0 then n / 2 else 3 * n + d
def sho (n : Int) : Int := if n % 2 = 0 then n / 2 else (3 * n + 1) / 2
def inN (x : Int) : Option Int := if Nst x then some x else none
def ledW (d n : Int) : Option Int := if Nst n then inN (stp d n) else none
def ledS (n : Int) : Option Int := if Nst n then inN (sho n) else none
def RStepWith (d n : Int) : Option Int := if Add d then ledW d n else none

theorem stp_even {d n : Int} (h : n % 2 = 0) : stp d n = n / 2 := if_pos h
theorem stp_odd {d n : Int} (h : ¬ n % 2 = 0) : stp d n = 3 * n + d := if_neg h
theorem sho_even {n : Int} (h : n % 2 = 0) : sho n = n / 2 := if_pos h
theorem sho_odd {n : Int} (h : ¬ n % 2 = 0) : sho n = (3 * n + 1) / 2 := if_neg h
theorem inN_yes {x : Int} (h : Nst x) : inN x = some x := if_pos h
theorem inN_no {x : Int} (h : ¬ Nst x) : inN x = none := if_neg h
theorem ledW_in {d n : Int} (h : Nst n) (h2 : Nst (stp d n)) : ledW d n = some (stp d n) := by rw [ledW, if_pos h, inN_yes h2]
theorem ledW_out {d n : Int} (h : Nst n) (h2 : ¬ Nst (stp d n)) : ledW d n = none := by rw [ledW, if_pos h, inN_no h2]
theorem ledW_not {d n : Int} (h : ¬ Nst n) : ledW d n = none := if_neg h
theorem ledS_in {n : Int} (h : Nst n) (h2 : Nst (sho n)) : ledS n = some (sho n) := by rw [ledS, if_pos h, inN_yes h2]
theorem ledS_out {n : Int} (h : Nst n) (h2 : ¬ Nst (sho n)) : ledS n = none := by rw [ledS, if_pos h, inN_no h2]
theorem ledS_not {n : Int} (h : ¬ Nst n) : ledS n = none := if_neg h
theorem stp_bd {d n : Int} (hd : 0 ≤ d ∧ d ≤ 99) (h : Nst n) : 0 ≤ stp d n ∧ stp d n ≤ 3000000000099 := by
  obtain ⟨h1, h2⟩ := h
  unfold stp
  split <;> omega
theorem sho_bd {n : Int} (h : Nst n) : 1 ≤ sho n ∧ sho n ≤ 1500000000001 := by
  obtain ⟨h1, h2⟩ := h
  unfold sho
  split <;> omega
theorem stp_pos {d n : Int} (hd : 1 ≤ d) (h : Nst n) : 1 ≤ stp d n := by
  obtain ⟨h1, h2⟩ := h
  unfold stp
  split <;> omega

/-- The numbers from n on, up to the first one that is an end, at most f steps away. -/
def wlk (E : Int → Bool) (d : Int) : Nat → Int → Option (List Int)
  | 0, n => if E n = true then some [n] else none
  | f + 1, n => if E n = true then some [n] else if Nst (stp d n) then (wlk E d f (stp d n)).map (n :: ·) else none

/-- What stands in front of a run. -/
def jn (pre : List Int) (o : Option (List Int)) : Option (List Int) := o.map (pre ++ ·)

theorem jn_nil (o : Option (List Int)) : jn [] o = o := by cases o <;> simp [jn]
theorem jn_none (pre : List Int) : jn pre none = none := rfl
theorem jn_some (pre l : List Int) : jn pre (some l) = some (pre ++ l) := rfl
theorem jn_cons (pre : List Int) (n : Int) (o : Option (List Int)) : jn pre (o.map (n :: ·)) = jn (pre ++ [n]) o := by cases o <;> simp [jn]

theorem wlk_end {E : Int → Bool} {d n : Int} (f : Nat) (h : E n = true) : wlk E d f n = some [n] := by cases f <;> simp [wlk, h]
theorem wlk_long {E : Int → Bool} {d n : Int} (h : E n = false) : wlk E d 0 n = none := by simp [wlk, h]
theorem wlk_out {E : Int → Bool} {d n : Int} (f : Nat) (h : E n = false) (h2 : ¬ Nst (stp d n)) : wlk E d f n = none := by cases f <;> simp [wlk, h, h2]
theorem wlk_step {E : Int → Bool} {d n : Int} {f : Nat} (h : E n = false) (h2 : Nst (stp d n)) : wlk E d (f + 1) n = (wlk E d f (stp d n)).map (n :: ·) := by simp [wlk, h, h2]

theorem wlk_jn_end {E : Int → Bool} {d m : Int} (pre : List Int) (h : E m = true) : jn pre (wlk E d (1000 - pre.length) m) = some (pre ++ [m]) := by
  rw [wlk_end _ h, jn_some]
theorem wlk_jn_out {E : Int → Bool} {d m : Int} (pre : List Int) (h : E m = false) (h2 : ¬ Nst (stp d m)) : jn pre (wlk E d (1000 - pre.length) m) = none := by
  rw [wlk_out _ h h2, jn_none]
theorem wlk_jn_long {E : Int → Bool} {d m : Int} {pre : List Int} (h : E m = false) (hl : 1000 ≤ pre.length) : jn pre (wlk E d (1000 - pre.length) m) = none := by
  rw [Nat.sub_eq_zero_of_le hl, wlk_long h, jn_none]
theorem wlk_jn_step {E : Int → Bool} {d m : Int} {pre : List Int} (h : E m = false) (h2 : Nst (stp d m)) (hl : pre.length < 1000) :
    jn pre (wlk E d (1000 - pre.length) m) = jn (pre ++ [m]) (wlk E d (1000 - (pre ++ [m]).length) (stp d m)) := by
  rw [show 1000 - pre.length = (1000 - (pre ++ [m]).length) + 1 by simp; omega, wlk_step h h2, jn_cons]

theorem wlk_props {E : Int → Bool} {d : Int} : ∀ (f : Nat) (n : Int) (l : List Int), Nst n → wlk E d f n = some l → 1 ≤ l.length ∧ l.length ≤ f + 1 ∧ (∀ x ∈ l, Nst x)
  | 0, n, l, hn, h => by
    by_cases hE : E n = true
    · rw [wlk_end _ hE] at h
      cases h
      exact ⟨by simp, by simp, by simpa using hn⟩
    · rw [wlk_long (by simpa using hE)] at h
      cases h
  | f + 1, n, l, hn, h => by
    by_cases hE : E n = true
    · rw [wlk_end _ hE] at h
      cases h
      exact ⟨by simp, by simp, by simpa using hn⟩
    · by_cases h2 : Nst (stp d n)
      · rw [wlk_step (by simpa using hE) h2] at h
        cases hw : wlk E d f (stp d n) with
        | none => rw [hw] at h; cases h
        | some l' =>
          rw [hw] at h
          cases h
          obtain ⟨a, b, c⟩ := wlk_props f _ _ h2 hw
          refine ⟨by simp, by simp; omega, ?_⟩
          intro x hx
          rcases List.mem_cons.1 hx with rfl | hx
          · exact hn
          · exact c x hx
      · rw [wlk_out _ (by simpa using hE) h2] at h
        cases h

/-- Is this the number 1? -/
def E1 (m : Int) : Bool := decide (m = 1)
/-- Is this less than n? -/
def El (n m : Int) : Bool := decide (m < n)
/-- The way from n to 1. -/
def way (n : Int) : Option (List Int) := if Nst n then wlk E1 1 1000 n else none
theorem way_in {n : Int} (h : Nst n) : way n = wlk E1 1 1000 n := if_pos h
theorem way_no {n : Int} (h : ¬ Nst n) : way n = none := if_neg h
theorem way_props {n : Int} {l : List Int} (h : way n = some l) : 1 ≤ l.length ∧ l.length ≤ 1001 ∧ (∀ x ∈ l, Nst x) := by
  by_cases hn : Nst n
  · rw [way_in hn] at h
    exact wlk_props 1000 n l hn h
  · rw [way_no hn] at h
    cases h
theorem way_len (n : Int) : ((way n).getD []).length ≤ 1001 := by
  cases h : way n with
  | none => simp
  | some l => exact (way_props h).2.1

def lenO (o : Option (List Int)) : Option Int := o.map fun l => (l.length : Int) - 1
def RStepsTo (n : Int) : Option Int := lenO (way n)
def mxL (l : List Int) : Int := l.foldl max 0
def RGreatestOn (n : Int) : Option Int := (way n).map mxL
def fal (n : Int) : Option (List Int) := if 2 ≤ n ∧ n ≤ 1000000000000 then wlk (El n) 1 1000 n else none
def RFallsBelow (n : Int) : Option Int := lenO (fal n)

/-- The first k numbers behind short steps. -/
def shs : Nat → Int → Option (List Int)
  | 0, _ => some []
  | k + 1, n => if Nst n then (shs k (sho n)).map (n :: ·) else none
/-- The number behind k short steps. -/
def shN : Nat → Int → Int
  | 0, n => n
  | k + 1, n => shN k (sho n)

theorem shs_in {k : Nat} {n : Int} (h : Nst n) : shs (k + 1) n = (shs k (sho n)).map (n :: ·) := if_pos h
theorem shs_out {k : Nat} {n : Int} (h : ¬ Nst n) : shs (k + 1) n = none := if_neg h
theorem shs_len : ∀ (k : Nat) (n : Int) (l : List Int), shs k n = some l → l.length = k ∧ ∀ x ∈ l, Nst x
  | 0, n, l, h => by cases h; exact ⟨rfl, by simp⟩
  | k + 1, n, l, h => by
    by_cases hn : Nst n
    · rw [shs_in hn] at h
      cases hw : shs k (sho n) with
      | none => rw [hw] at h; cases h
      | some l' =>
        rw [hw] at h
        cases h
        obtain ⟨a, b⟩ := shs_len k _ _ hw
        refine ⟨by simp [a], ?_⟩
        intro x hx
        rcases List.mem_cons.1 hx with rfl | hx
        · exact hn
        · exact b x hx
    · rw [shs_out hn] at h
      cases h
theorem shs_at : ∀ (k : Nat) (n : Int) (l : List Int), shs (k + 1) n = some l → l[k]? = some (shN k n)
  | 0, n, l, h => by
    by_cases hn : Nst n
    · rw [shs_in hn] at h; cases h; rfl
    · rw [shs_out hn] at h; cases h
  | k + 1, n, l, h => by
    by_cases hn : Nst n
    · rw [shs_in hn] at h
      cases hw : shs (k + 1) (sho n) with
      | none => rw [hw] at h; cases h
      | some l' =>
        rw [hw] at h
        cases h
        exact shs_at k _ _ hw
    · rw [shs_out hn] at h; cases h

/-- One more: the first k numbers and the next. -/
theorem shs_more : ∀ (k : Nat) (n : Int), shs (k + 1) n = if Nst (shN k n) then (shs k n).map (· ++ [shN k n]) else none
  | 0, n => by by_cases h : Nst n <;> simp [shs, shN, h]
  | k + 1, n => by
    by_cases h : Nst n
    · rw [shs_in h, shs_more k (sho n), shs_in h]
      show _ = if Nst (shN k (sho n)) then _ else _
      by_cases h2 : Nst (shN k (sho n))
      · rw [if_pos h2, if_pos h2]
        cases shs k (sho n) <;> simp [shN]
      · rw [if_neg h2, if_neg h2]; rfl
    · rw [shs_out h]
      by_cases h2 : Nst (shN (k + 1) n)
      · rw [if_pos h2]
        rw [shs_out h]; rfl
      · rw [if_neg h2]

def par (l : List Int) : List Int := l.map (· % 2)
def asked (n k : Int) : Bool := decide (Nst n) && (decide (0 ≤ k) && decide (k ≤ 20))
def RWord (n k : Int) : Option (List Int) := if asked n k = true then (shs k.toNat n).map par else none
def ROddCount (n k : Int) : Option Int := (RWord n k).map List.sum
def RAfterShort (n k : Int) : Option Int := if asked n k = true then (shs (k.toNat + 1) n).map (fun _ => shN k.toNat n) else none

end Go.Proofs.Ytbgnieajeipllaa
