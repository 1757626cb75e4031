/-
  Proper runs, how they end, and the circles to which they come back: plain mathematics.
-/
import Derived.Test.Ytgiabadkbfbilab8B
namespace Go.Proofs.Ytgiabadkbfbilab
open Go.RowKit
set_option linter.unusedVariables false
set_option linter.unusedSimpArgs false

/-- A number of this chapter. -/
def Dv (n : Int) : Prop := 1 ≤ n ∧ n ≤ 1000000000
instance (n : Int) : Decidable (Dv n) := by unfold Dv; infer_instance
/-- How many numbers of a run may be asked for. -/
def Tm (m : Int) : Prop := 1 ≤ m ∧ m ≤ 60
instance (m : Int) : Decidable (Tm m) := by unfold Tm; infer_instance

/-- The run behind the numbers l, with x as the next one, of at most m numbers, and what comes behind it. -/
def goR (m : Nat) (l : List Int) (x : Int) : List Int × Int := if h : l.length < m ∧ Dv x ∧ x ∉ l then goR m (l ++ [x]) (prop x) else (l, x)
termination_by m - l.length
decreasing_by
  have := h.1
  simp; omega

theorem goR_step {m : Nat} {l : List Int} {x : Int} (h : l.length < m) (h1 : Dv x) (h2 : x ∉ l) : goR m l x = goR m (l ++ [x]) (prop x) := by rw [goR, dif_pos ⟨h, h1, h2⟩]
theorem goR_full {m : Nat} {l : List Int} {x : Int} (h : ¬ l.length < m) : goR m l x = (l, x) := by rw [goR, dif_neg (fun c => h c.1)]
theorem goR_out {m : Nat} {l : List Int} {x : Int} (h : ¬ Dv x) : goR m l x = (l, x) := by rw [goR, dif_neg (fun c => h c.2.1)]
theorem goR_in {m : Nat} {l : List Int} {x : Int} (h : x ∈ l) : goR m l x = (l, x) := by rw [goR, dif_neg (fun c => c.2.2 h)]

theorem goR_ind {m : Nat} {P : List Int → Int → Prop} (hstep : ∀ l x, l.length < m → Dv x → x ∉ l → P (l ++ [x]) (prop x) → P l x) (hend : ∀ l x, ¬ (l.length < m ∧ Dv x ∧ x ∉ l) → P l x) : ∀ l x, P l x := by
  have key : ∀ (k : Nat) (l : List Int) (x : Int), m - l.length ≤ k → P l x := by
    intro k
    induction k with
    | zero => intro l x hk; exact hend l x (fun c => by have := c.1; omega)
    | succ k ih =>
      intro l x hk
      by_cases h : l.length < m ∧ Dv x ∧ x ∉ l
      · exact hstep l x h.1 h.2.1 h.2.2 (ih _ _ (by simp; omega))
      · exact hend l x h
  exact fun l x => key _ l x (Nat.le_refl _)

theorem goR_stop {m : Nat} {l : List Int} {x : Int} (h : ¬ (l.length < m ∧ Dv x ∧ x ∉ l)) : goR m l x = (l, x) := by rw [goR, dif_neg h]

/-- What a run of numbers is like. -/
theorem goR_props (m : Nat) : ∀ (l : List Int) (x : Int), (∀ y ∈ l, Dv y) → l.length ≤ m → (∀ y ∈ (goR m l x).1, Dv y) ∧ (goR m l x).1.length ≤ m ∧ l.length ≤ (goR m l x).1.length := by
  refine goR_ind (m := m) (P := fun l x => (∀ y ∈ l, Dv y) → l.length ≤ m → (∀ y ∈ (goR m l x).1, Dv y) ∧ (goR m l x).1.length ≤ m ∧ l.length ≤ (goR m l x).1.length) ?_ ?_
  · intro l x h h1 h2 ih ha hl
    rw [goR_step h h1 h2]
    have := ih (fun y hy => by
      rcases List.mem_append.1 hy with hy | hy
      · exact ha y hy
      · rw [List.mem_singleton.1 hy]; exact h1) (by simp; omega)
    rw [List.length_append, List.length_singleton] at this
    exact ⟨this.1, this.2.1, by omega⟩
  · intro l x h ha hl
    rw [goR_stop h]
    exact ⟨ha, hl, Nat.le_refl _⟩

def ixN : List Int → Int → Nat
  | [], _ => 0
  | z :: zs, x => if z = x then 0 else ixN zs x + 1
theorem ixN_spec {x : Int} : ∀ zs : List Int, x ∈ zs → ixN zs x < zs.length ∧ zs.getD (ixN zs x) 0 = x ∧ ∀ j, j < ixN zs x → zs.getD j 0 ≠ x
  | [], h => by simp at h
  | z :: zs, h => by
    unfold ixN
    by_cases e : z = x
    · rw [if_pos e]
      exact ⟨by simp, by simpa using e, fun j hj => by omega⟩
    · rw [if_neg e]
      have hm : x ∈ zs := by
        rcases List.mem_cons.1 h with h | h
        · exact absurd h.symm e
        · exact h
      obtain ⟨a, b, c⟩ := ixN_spec zs hm
      refine ⟨by simp; omega, by simpa using b, fun j hj => ?_⟩
      cases j with
      | zero => simpa using e
      | succ j => simpa using c j (by omega)
/-- The first place of a number in a list; its length if there is none. -/
def plc (x : Int) (l : List Int) : Nat := ixN l x
theorem plc_lt {x : Int} {l : List Int} (h : x ∈ l) : plc x l < l.length := (ixN_spec l h).1

/-- How a run ends: the numbers to which it comes back (none if it does not), and how that is told. -/
def crcOf (r : List Int × Int) : List Int := if Dv r.2 ∧ r.2 ∈ r.1 then r.1.drop (plc r.2 r.1) else []
def endOf (r : List Int × Int) : Int := if Dv r.2 then (if r.2 ∈ r.1 then min ((r.1.length - plc r.2 r.1 : Nat) : Int) 3 else 5) else if r.2 = 0 then 0 else 4

theorem endOf_in {l : List Int} {x : Int} (h : Dv x) (h1 : x ∈ l) : endOf (l, x) = min ((l.length - plc x l : Nat) : Int) 3 := by unfold endOf; rw [if_pos h, if_pos h1]
theorem endOf_more {l : List Int} {x : Int} (h : Dv x) (h1 : x ∉ l) : endOf (l, x) = 5 := by unfold endOf; rw [if_pos h, if_neg h1]
theorem endOf_zero (l : List Int) : endOf (l, 0) = 0 := by unfold endOf; rw [if_neg (by unfold Dv; omega), if_pos rfl]
theorem endOf_high {l : List Int} {x : Int} (h : ¬ Dv x) (h1 : x ≠ 0) : endOf (l, x) = 4 := by unfold endOf; rw [if_neg h, if_neg h1]
theorem crcOf_in {l : List Int} {x : Int} (h : Dv x) (h1 : x ∈ l) : crcOf (l, x) = l.drop (plc x l) := by unfold crcOf; rw [if_pos ⟨h, h1⟩]
theorem crcOf_no {l : List Int} {x : Int} (h : ¬ (Dv x ∧ x ∈ l)) : crcOf (l, x) = [] := by unfold crcOf; rw [if_neg h]

/-- The run of n, and its end. -/
def runR (n : Int) (m : Nat) : List Int × Int := goR m [] n
theorem runR_first {n : Int} {m : Nat} (hn : Dv n) (hm : 1 ≤ m) : runR n m = goR m [n] (prop n) := by
  unfold runR
  rw [goR_step (by simp; omega) hn (by simp)]; rfl
theorem runR_props {n : Int} {m : Nat} (hn : Dv n) (hm : 1 ≤ m) : (∀ y ∈ (runR n m).1, Dv y) ∧ (runR n m).1.length ≤ m ∧ 1 ≤ (runR n m).1.length := by
  rw [runR_first hn hm]
  have := goR_props m [n] (prop n) (fun y hy => by rw [List.mem_singleton.1 hy]; exact hn) (by simpa using hm)
  simpa using this

theorem goR_distinct (m : Nat) : ∀ (l : List Int) (x : Int), l.Nodup → (goR m l x).1.Nodup := by
  refine goR_ind (m := m) (P := fun l x => l.Nodup → (goR m l x).1.Nodup) ?_ ?_
  · intro l x h h1 h2 ih hn
    rw [goR_step h h1 h2]
    refine ih ?_
    rw [List.nodup_append]
    refine ⟨hn, by simp, fun a ha b hb => ?_⟩
    rw [List.mem_singleton.1 hb]
    intro e
    rw [e] at ha
    exact h2 ha
  · intro l x h hn
    rw [goR_stop h]; exact hn
theorem runR_distinct (n : Int) (m : Nat) : (runR n m).1.Nodup := goR_distinct m [] n (by simp)

/-- What comes behind a run is never negative. -/
theorem goR_nonneg (m : Nat) : ∀ (l : List Int) (x : Int), 0 ≤ x → x ≤ 1000000000000000000 → 0 ≤ (goR m l x).2 ∧ (goR m l x).2 ≤ 1000000000000000000 := by
  refine goR_ind (m := m) (P := fun l x => 0 ≤ x → x ≤ 1000000000000000000 → 0 ≤ (goR m l x).2 ∧ (goR m l x).2 ≤ 1000000000000000000) ?_ ?_
  · intro l x h h1 h2 ih hx hx2
    rw [goR_step h h1 h2]
    have := prop_bd (n := x) (by have := h1.1; omega) h1.2
    exact ih this.1 this.2.1
  · intro l x h hx hx2
    rw [goR_stop h]
    exact ⟨hx, hx2⟩

/-- The circle of a run. -/
def crc (n : Int) (m : Nat) : List Int := crcOf (runR n m)
def kindE (n : Int) (m : Nat) : Int := endOf (runR n m)
theorem crcOf_drop (r : List Int × Int) : ∃ k, crcOf r = r.1.drop k := by
  unfold crcOf
  split
  · exact ⟨_, rfl⟩
  · exact ⟨r.1.length, by simp⟩

/-- The partner of a number, or 0. -/
def ptn (n : Int) : Int := if prop n ≠ n ∧ Dv (prop n) ∧ prop (prop n) = n then prop n else 0

theorem runR_one {n : Int} (hn : Dv n) : runR n 1 = ([n], prop n) := by
  rw [runR_first hn (by omega), goR_full (by simp)]
theorem ptn_crc {n : Int} (hn : Dv n) : (ptn n ≠ 0 → runR n 2 = ([n, ptn n], n) ∧ crc n 2 = [n, ptn n]) ∧ (ptn n = 0 → (crc n 2).length ≠ 2) := by
  have hf := runR_first hn (show 1 ≤ 2 by omega)
  have hp : ∀ x : Int, x = 0 → ¬ Dv x := fun x h c => by have := c.1; omega
  by_cases h : prop n ≠ n ∧ Dv (prop n) ∧ prop (prop n) = n
  · obtain ⟨h1, h2, h3⟩ := h
    have he : ptn n = prop n := by unfold ptn; rw [if_pos ⟨h1, h2, h3⟩]
    have hr : runR n 2 = ([n, ptn n], n) := by
      rw [hf, goR_step (by simp) h2 (by simpa using h1), goR_full (by simp), h3, he]; rfl
    refine ⟨fun _ => ⟨hr, ?_⟩, fun c => ?_⟩
    · unfold crc
      rw [hr, crcOf_in hn (by simp)]
      simp [plc, ixN]
    · rw [he] at c
      have := h2.1
      omega
  · have he : ptn n = 0 := by unfold ptn; rw [if_neg h]
    refine ⟨fun c => absurd he c, fun _ => ?_⟩
    unfold crc
    rw [hf]
    by_cases h1 : prop n = n
    · rw [goR_in (by simp [h1]), h1, crcOf_in hn (by simp)]
      simp [plc, ixN]
    · by_cases h2 : Dv (prop n)
      · have h3 : prop (prop n) ≠ n := fun c => h ⟨h1, h2, c⟩
        rw [goR_step (by simp) h2 (by simpa using h1), goR_full (by simp)]
        by_cases h4 : prop (prop n) = prop n
        · rw [h4, crcOf_in h2 (by simp)]
          have : plc (prop n) ([n] ++ [prop n]) = 1 := by
            have e1 : ¬ n = prop n := fun c => h1 c.symm
            simp [plc, ixN, e1]
          rw [this]; simp
        · rw [crcOf_no (fun c => by
            have := c.2
            simp at this
            rcases this with e | e
            · exact h3 e
            · exact h4 e)]
          simp
      · rw [goR_out h2, crcOf_no (fun c => h2 c.1)]
        simp

end Go.Proofs.Ytgiabadkbfbilab
