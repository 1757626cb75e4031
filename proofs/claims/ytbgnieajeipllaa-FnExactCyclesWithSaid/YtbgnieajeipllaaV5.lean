/-
  Runs of steps until a number comes again: plain mathematics; the program's search with a set of what was there.
-/
import Derived.Test.YtbgnieajeipllaaV2
import Derived.Test.YtbgnieajeipllaaV4
namespace Go.Proofs.Ytbgnieajeipllaa
open Go.RowKit
open Go.Maps (Keyed IsMap Tidy)
set_option linter.unusedVariables false
set_option linter.unusedSimpArgs false
set_option maxRecDepth 100000

/-- The numbers behind m, until one comes again: the different ones, and that one. -/
def crn (d : Int) : Nat → List Int → Int → Option (List Int × Int)
  | 0, _, _ => none
  | f + 1, pre, m => if Nst (stp d m) then (if stp d m ∈ pre ++ [m] then some (pre ++ [m], stp d m) else crn d f (pre ++ [m]) (stp d m)) else none
def hdc (d : Int) (pre : List Int) (m : Int) : Option (List Int × Int) := if m ∈ pre then some (pre, m) else crn d (1000 - pre.length) pre m

theorem hdc_in {d m : Int} {pre : List Int} (h : m ∈ pre) : hdc d pre m = some (pre, m) := if_pos h
theorem hdc_out {d m : Int} {pre : List Int} (h : ¬ m ∈ pre) (h2 : ¬ Nst (stp d m)) : hdc d pre m = none := by
  rw [hdc, if_neg h]
  cases 1000 - pre.length with
  | zero => rfl
  | succ f => rw [crn, if_neg h2]
theorem hdc_long {d m : Int} {pre : List Int} (h : ¬ m ∈ pre) (h2 : 1000 ≤ pre.length) : hdc d pre m = none := by
  rw [hdc, if_neg h, Nat.sub_eq_zero_of_le h2]; rfl
theorem hdc_step {d m : Int} {pre : List Int} (h : ¬ m ∈ pre) (h2 : Nst (stp d m)) (hl : pre.length < 1000) : hdc d pre m = hdc d (pre ++ [m]) (stp d m) := by
  have e : 1000 - pre.length = (1000 - (pre ++ [m]).length) + 1 := by simp; omega
  rw [hdc, if_neg h, e, crn, if_pos h2]
  rfl

/-- What the run is: different numbers, and one of them once more. -/
theorem hdc_props {d : Int} : ∀ (k : Nat) (pre : List Int) (m : Int), 1000 - pre.length ≤ k → pre.length ≤ 1000 → pre.Nodup → Nst m → (∀ x ∈ pre, Nst x) → ∀ xs y, hdc d pre m = some (xs, y) → y ∈ xs ∧ xs.Nodup ∧ xs.length ≤ 1000 ∧ (∀ x ∈ xs, Nst x) := by
  intro k
  induction k with
  | zero =>
    intro pre m hk hl hn hm ha xs y h
    by_cases hin : m ∈ pre
    · rw [hdc_in hin] at h
      cases h
      exact ⟨hin, hn, hl, ha⟩
    · rw [hdc_long hin (by omega)] at h
      cases h
  | succ k ih =>
    intro pre m hk hl hn hm ha xs y h
    by_cases hin : m ∈ pre
    · rw [hdc_in hin] at h
      cases h
      exact ⟨hin, hn, hl, ha⟩
    · by_cases h2 : Nst (stp d m)
      · by_cases hl2 : pre.length < 1000
        · rw [hdc_step hin h2 hl2] at h
          refine ih (pre ++ [m]) (stp d m) (by simp; omega) (by simp; omega) ?_ h2 ?_ xs y h
          · rw [List.nodup_append]
            exact ⟨hn, by simp, fun a ha b hb e => by rw [List.mem_singleton] at hb; subst hb; subst e; exact hin ha⟩
          · intro x hx
            rcases List.mem_append.1 hx with hx | hx
            · exact ha x hx
            · rw [List.mem_singleton] at hx; rw [hx]; exact hm
        · rw [hdc_long hin (by omega)] at h
          cases h
      · rw [hdc_out hin h2] at h
        cases h

/-- The set of the numbers of a list. -/
def mems (l : List Int) : Nat → Bool := fun x => decide ((x : Int) ∈ l)
theorem mems_snoc (l : List Int) (x : Nat) : ∀ y : Nat, adj (mems l) x true y = mems (l ++ [(x : Int)]) y := by
  intro y
  unfold adj mems
  by_cases h : y = x
  · subst h; simp
  · rw [if_neg h]
    have : ¬ (y : Int) = (x : Int) := by omega
    simp [this]

abbrev NB : Nat := 1000000000001

theorem was_any (x gp b : Nat) (s : Nat → Bool) (w : World) (hx : x < NB) (hc : w.cell? ⟨gp, 0, none⟩ = some (.map (some b))) (hs : St w NB b s) :
    Calls Try.prog 90 #[.int .i64 (x : Int), .pointer (some ⟨gp, 0, none⟩)] w fun e w' => e = .returned (.bool (s x)) ∧ St w' NB b (adj s x true) ∧ w.grownBy w' (some b) := by
  have HS := Lib.hid hs
  obtain ⟨N, hN⟩ : ∃ N, N = NB := ⟨_, rfl⟩
  have hN2 : N ≤ 1000000000001 := by rw [hN]; exact Nat.le_refl _
  rw [← hN] at hx HS ⊢
  clear hs hN
  go_enter Try.func90, Try.ntmps90
  go_wp2_with (first | (at_lookup; refine wpList_lookS rfl _ _ rfl N b s x rfl rfl HS.out hx hN2 ?_) | (refine wpList_putS rfl (.tmp 8) (.tmp 9) (.const (.bool true)) rfl N b s x rfl rfl rfl HS.out hx hN2 ?_; intro w2 hs2 hg2; have HS2 := Lib.hid hs2; have HG2 := Lib.hid hg2; clear hs2 hg2))
  go_ret
  exact ⟨rfl, HS2.out, HG2.out⟩

end Go.Proofs.Ytbgnieajeipllaa
