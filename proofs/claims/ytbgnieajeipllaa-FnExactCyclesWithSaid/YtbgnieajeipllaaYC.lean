/-
  Levels of numbers with as many steps, records: plain mathematics.
-/
import Derived.Test.YtbgnieajeipllaaYB
namespace Go.Proofs.Ytbgnieajeipllaa
open Go.RowKit
set_option linter.unusedVariables false
set_option linter.unusedSimpArgs false

/-- All numbers of which a step leads to n. -/
def bef (n : Int) : List Int := (if n % 6 = 4 then [(n - 1) / 3] else []) ++ (if 2 * n ≤ 1000000000000 then [2 * n] else [])
theorem bef_len (n : Int) : (bef n).length ≤ 2 := by
  unfold bef
  split <;> split <;> simp
def LF_BeforeStep (n : Int) : List Int := if Nst n then bef n else []
theorem LF_BeforeStep_len (n : Int) : (LF_BeforeStep n).length ≤ 2000000 := by
  have := bef_len n
  unfold LF_BeforeStep
  split <;> simp <;> omega

def notOne (m : Int) : Bool := decide (m ≠ 1)
def befO (n : Int) : List Int := (bef n).filter notOne
def nxt : List Int → List Int
  | [] => []
  | n :: l => befO n ++ nxt l
def lev : Nat → List Int
  | 0 => [1]
  | k + 1 => nxt (lev k)
def insI (x : Int) : List Int → List Int
  | [] => [x]
  | y :: l => if x ≤ y then x :: y :: l else y :: insI x l
def isoI : List Int → List Int
  | [] => []
  | x :: l => insI x (isoI l)
def LV (k : Nat) : List Int := isoI (lev k)
def risesI : List Int → Bool
  | [] => true
  | [_] => true
  | x :: y :: l => decide (x < y) && risesI (y :: l)
theorem rises_pw : ∀ (l : List Int), risesI l = true → l.Pairwise (· < ·)
  | [], _ => List.Pairwise.nil
  | [x], _ => by simp
  | x :: y :: l, h => by
    simp only [risesI, Bool.and_eq_true, decide_eq_true_eq] at h
    have ih := rises_pw (y :: l) h.2
    refine List.Pairwise.cons ?_ ih
    intro z hz
    rcases List.mem_cons.1 hz with rfl | hz
    · exact h.1
    · have := (List.pairwise_cons.1 ih).1 z hz
      omega

theorem lev_facts : ∀ k : Nat, k ≤ 15 → (LV k).Pairwise (· < ·) ∧ (lev k).Perm (LV k) ∧ (lev k).length ≤ 100 ∧ (∀ x ∈ lev k, 1 ≤ x ∧ x ≤ 32768) := by
  have h : (List.range 16).all (fun k => risesI (LV k) && (lev k).isPerm (LV k) && decide ((lev k).length ≤ 100) && (lev k).all (fun x => decide (1 ≤ x ∧ x ≤ 32768))) = true := by decide +kernel
  intro k hk
  have h2 := List.all_eq_true.1 h k (List.mem_range.2 (by omega))
  simp only [Bool.and_eq_true, decide_eq_true_eq] at h2
  obtain ⟨⟨⟨a, b⟩, c⟩, d⟩ := h2
  refine ⟨rises_pw _ a, List.isPerm_iff.1 b, c, fun x hx => ?_⟩
  simpa using List.all_eq_true.1 d x hx

theorem nxt_append (a b : List Int) : nxt (a ++ b) = nxt a ++ nxt b := by
  induction a with
  | nil => rfl
  | cons x t ih => simp [nxt, ih, List.append_assoc]
theorem nxt_len (l : List Int) : (nxt l).length ≤ 2 * l.length := by
  induction l with
  | nil => simp [nxt]
  | cons x t ih =>
    have := bef_len x
    have h2 : (befO x).length ≤ (bef x).length := List.length_filter_le _ _
    simp [nxt]; omega
theorem mem_nxt (z : Int) (l : List Int) : z ∈ nxt l ↔ ∃ n ∈ l, z ∈ befO n := by
  induction l with
  | nil => simp [nxt]
  | cons x t ih => simp [nxt, ih]
theorem nxt_mem {a b : List Int} (h : ∀ z, z ∈ a ↔ z ∈ b) (z : Int) : z ∈ nxt a ↔ z ∈ nxt b := by
  rw [mem_nxt, mem_nxt]
  constructor
  · rintro ⟨n, h1, h2⟩; exact ⟨n, (h n).1 h1, h2⟩
  · rintro ⟨n, h1, h2⟩; exact ⟨n, (h n).2 h1, h2⟩

/-- Two rising lists with the same numbers are one. -/
theorem rise_ext : ∀ (a b : List Int), a.Pairwise (· < ·) → b.Pairwise (· < ·) → (∀ z, z ∈ a ↔ z ∈ b) → a = b
  | [], [], _, _, _ => rfl
  | [], y :: b, _, _, h => by have := (h y).2 (by simp); simp at this
  | x :: a, [], _, _, h => by have := (h x).1 (by simp); simp at this
  | x :: a, y :: b, ha, hb, h => by
    have h1 := (List.pairwise_cons.1 ha).1
    have h2 := (List.pairwise_cons.1 hb).1
    have e : x = y := by
      rcases List.mem_cons.1 ((h x).1 (by simp)) with e | e
      · exact e
      · rcases List.mem_cons.1 ((h y).2 (by simp)) with e2 | e2
        · exact e2.symm
        · have a1 := h1 y e2
          have a2 := h2 x e
          omega
    subst e
    refine congrArg (x :: ·) (rise_ext a b (List.pairwise_cons.1 ha).2 (List.pairwise_cons.1 hb).2 ?_)
    intro z
    constructor
    · intro hz
      rcases List.mem_cons.1 ((h z).1 (by simp [hz])) with e | e
      · subst e; have := h1 z hz; omega
      · exact e
    · intro hz
      rcases List.mem_cons.1 ((h z).2 (by simp [hz])) with e | e
      · subst e; have := h2 z hz; omega
      · exact e

/-- A sorted list of the level's numbers is the level. -/
theorem lev_sorted {k : Nat} (hk : k ≤ 15) {ys : List Int} (h1 : ys.Pairwise (· ≤ ·)) (h2 : ys.Perm (lev k)) : ys = LV k := by
  obtain ⟨a, b, _, _⟩ := lev_facts k hk
  have hp : ys.Perm (LV k) := h2.trans b
  have hnd : ys.Pairwise (· ≠ ·) := by
    have : (LV k).Pairwise (· ≠ ·) := a.imp (fun h => by omega)
    exact (hp.pairwise_iff (fun h => fun e => h e.symm)).2 this
  refine rise_ext ys (LV k) ?_ a (fun z => hp.mem_iff)
  exact (h1.and hnd).imp (fun ⟨u, v⟩ => by omega)
theorem lev_rise {k : Nat} (hk : k ≤ 15) {ys : List Int} (h1 : ys.Pairwise (· < ·)) (h2 : ∀ z, z ∈ ys ↔ z ∈ lev k) : ys = LV k := by
  obtain ⟨a, b, _, _⟩ := lev_facts k hk
  exact rise_ext ys (LV k) h1 a (fun z => (h2 z).trans b.mem_iff)
theorem lev_succ (k : Nat) : lev (k + 1) = nxt (lev k) := rfl
def LF_LevelOf (k : Int) : List Int := if 0 ≤ k ∧ k ≤ 15 then LV k.toNat else []
theorem LF_LevelOf_len (k : Int) : (LF_LevelOf k).length ≤ 2000000 := by
  unfold LF_LevelOf
  split
  · obtain ⟨_, b, c, _⟩ := lev_facts k.toNat (by omega)
    rw [← b.length_eq]; omega
  · simp

/-! Records. -/
def wl (n : Int) : Int := (((way n).getD []).length : Int)
def recs : Nat → Int → Int → List Int
  | 0, _, _ => []
  | f + 1, n, best => if best < wl n then n :: recs f (n + 1) (wl n) else recs f (n + 1) best
theorem recs_yes {f : Nat} {n best : Int} (h : best < wl n) : recs (f + 1) n best = n :: recs f (n + 1) (wl n) := if_pos h
theorem recs_no {f : Nat} {n best : Int} (h : ¬ best < wl n) : recs (f + 1) n best = recs f (n + 1) best := if_neg h
theorem recs_len : ∀ (f : Nat) (n best : Int), (recs f n best).length ≤ f
  | 0, n, best => by simp [recs]
  | f + 1, n, best => by
    by_cases h : best < wl n
    · rw [recs_yes h]; have := recs_len f (n + 1) (wl n); simp; omega
    · rw [recs_no h]; have := recs_len f (n + 1) best; omega
def LF_RecordsUpTo (m : Int) : List Int := if 1 ≤ m ∧ m ≤ 2000 then recs m.toNat 1 0 else []
theorem LF_RecordsUpTo_len (m : Int) : (LF_RecordsUpTo m).length ≤ 2000000 := by
  unfold LF_RecordsUpTo
  split
  · have := recs_len m.toNat 1 0; omega
  · simp
theorem wl_none {n : Int} (h : way n = none) : wl n = 0 := by simp [wl, h]
theorem wl_some {n : Int} {l : List Int} (h : way n = some l) : wl n = l.length := by simp [wl, h]
theorem wl_one : wl 1 = 1 := by
  have : way 1 = some [1] := by rw [way_in ⟨by omega, by omega⟩]; exact wlk_end _ (by decide)
  rw [wl_some this]; rfl
theorem wl_bd (n : Int) : 0 ≤ wl n ∧ wl n ≤ 1001 := by
  have := way_len n
  unfold wl; omega

def LF_WayToOne (n : Int) : List Int := (way n).getD []
theorem LF_WayToOne_len (n : Int) : (LF_WayToOne n).length ≤ 2000000 := by have := way_len n; unfold LF_WayToOne; omega

end Go.Proofs.Ytbgnieajeipllaa
