/-
  Sets of numbers below n as maps of the call's own: what each operation does, for the walk.
-/
import Derived.Test.YtgiabadkbfbilaaPW
import Derived.Maps.OwnSet
import Derived.Maps.RangeWalk
namespace Go.Proofs.Ytgiabadkbfbilaa
open Go.RowKit
open Go.Maps (Keyed IsMap Tidy)
set_option linter.unusedVariables false
set_option linter.unusedSimpArgs false
set_option maxRecDepth 100000

/-- How many of the numbers below n are in a set. -/
def cnt (n : Nat) (s : Nat → Bool) : Nat := ((List.range n).filter s).length

theorem cnt_succ (n : Nat) (s : Nat → Bool) : cnt (n + 1) s = cnt n s + if s n = true then 1 else 0 := by
  unfold cnt
  rw [List.range_succ, List.filter_append, List.length_append]
  by_cases h : s n = true <;> simp [h]
theorem cnt_le (n : Nat) (s : Nat → Bool) : cnt n s ≤ n := by
  have := List.length_filter_le s (List.range n)
  rw [List.length_range] at this
  exact this
theorem cnt_congr {n : Nat} {s t : Nat → Bool} (h : ∀ x, x < n → s x = t x) : cnt n s = cnt n t := by
  unfold cnt
  rw [List.filter_congr fun x hx => h x (List.mem_range.1 hx)]
theorem cnt_none (n : Nat) : cnt n (fun _ => false) = 0 := by simp [cnt]
theorem cnt_all (n : Nat) : cnt n (fun x => decide (x < n)) = n := by
  unfold cnt
  rw [List.filter_eq_self.2 (fun x hx => by simpa using hx), List.length_range]

def adj (s : Nat → Bool) (x : Nat) (q : Bool) : Nat → Bool := fun y => if y = x then q else s y

theorem cnt_add (s : Nat → Bool) (x : Nat) : ∀ n, x < n → cnt n (adj s x true) = if s x = true then cnt n s else cnt n s + 1
  | 0, h => absurd h (Nat.not_lt_zero _)
  | n + 1, h => by
    rw [cnt_succ, cnt_succ]
    by_cases e : x = n
    · subst e
      have h1 : cnt x (adj s x true) = cnt x s := cnt_congr fun y hy => by simp [adj, Nat.ne_of_lt hy]
      rw [h1]
      by_cases hs : s x = true <;> simp [adj, hs]
    · have h1 := cnt_add s x n (by omega)
      have e' : ¬ n = x := fun h => e h.symm
      rw [h1]
      by_cases hs : s x = true <;> by_cases ht : s n = true <;> simp [adj, hs, ht, e'] <;> omega

theorem cnt_del (s : Nat → Bool) (x : Nat) : ∀ n, x < n → cnt n (adj s x false) + (if s x = true then 1 else 0) = cnt n s
  | 0, h => absurd h (Nat.not_lt_zero _)
  | n + 1, h => by
    rw [cnt_succ, cnt_succ]
    by_cases e : x = n
    · subst e
      have h1 : cnt x (adj s x false) = cnt x s := cnt_congr fun y hy => by simp [adj, Nat.ne_of_lt hy]
      rw [h1]
      simp [adj]
    · have h1 := cnt_del s x n (by omega)
      have e' : ¬ n = x := fun h => e h.symm
      by_cases ht : s n = true <;> simp [adj, ht, e'] at h1 ⊢ <;> omega

noncomputable abbrev RB : Value → Option (DataW Unit × List MemPlace) := plainElem Try.prog 4
theorem kI : Keyed Try.prog 3 := Go.Maps.int_keyed Try.underlying3
theorem zeroB (w : World) : (zeroValue 4).run Try.prog w = .ok (.bool false) w := by kernel_rfl

theorem rb_inv {v : Value} {z : DataW Unit × List MemPlace} (h : RB v = some z) : ∃ q, v = .bool q ∧ z = (.lit (.bool q), []) := by
  unfold RB plainElem at h
  rw [Try.underlying4] at h
  cases v <;> simp at h
  exact ⟨_, rfl, h.symm⟩

abbrev kx (x : Nat) : Lit := .int .i64 (x : Int)
theorem kx_inj {x y : Nat} (h : kx x = kx y) : x = y := by simp only [kx, Lit.int.injEq, true_and] at h; omega
theorem kx_key (x : Nat) (h : x < 60) : keyOf Try.prog 3 (.int .i64 (x : Int)) = some (kx x) :=
  Go.Maps.keyOf_int_mk Try.underlying3 (WalkArith.wf_i64 (by omega))

/-- A datum that holds the set s, each number with the element true. -/
structure SD (D : DataW Unit) (n : Nat) (s : Nat → Bool) : Prop where
  size : Maps.size D = cnt n s
  has : ∀ x : Nat, x < n → Maps.has D (kx x) = s x
  at' : ∀ x : Nat, x < n → D.atKey (kx x) (.lit (.bool false)) = .lit (.bool (s x))
  only : ∀ kl, Maps.has D kl = true → ∃ x : Nat, x < n ∧ kl = kx x

/-- Block b is a map of the call's that is the set s. -/
def St (w : World) (n b : Nat) (s : Nat → Bool) : Prop := ∃ D : DataW Unit, w.ownsMap Try.prog 3 RB b (cnt n s) D ∧ SD D n s

theorem tight {w : World} {b k : Nat} {D : DataW Unit} (h : w.ownsMap Try.prog 3 RB b k D) : w.ownsMap Try.prog 3 RB b (Maps.size D) D := by
  obtain ⟨es, clock, hb, F, hs, rfl⟩ := h
  refine ⟨es, clock, hb, F, ?_, rfl⟩
  simp [Maps.size, length_sorted]

theorem St.lt {w : World} {n b : Nat} {s : Nat → Bool} (h : St w n b s) : b < w.heap.size := by obtain ⟨D, h1, _⟩ := h; exact h1.lt
theorem St.kept {w w' : World} {n b : Nat} {s : Nat → Bool} {row : Option Nat} (h : St w n b s) (hg : w.grownBy w' row) (hne : some b ≠ row) : St w' n b s := by
  obtain ⟨D, h1, h2⟩ := h; exact ⟨D, h1.kept hg hne, h2⟩
theorem St.keep {w w' : World} {n b : Nat} {s : Nat → Bool} (h : St w n b s) (hb : Below w.heap.size w w') : St w' n b s := by
  obtain ⟨D, h1, h2⟩ := h
  have hl := h1.lt
  obtain ⟨es, clock, hbb, F, hs, hD⟩ := h1
  exact ⟨D, ⟨es, clock, by rw [hb.block b hl]; exact hbb, F, hs, hD⟩, h2⟩
theorem St.keepB {w w' : World} {C n b : Nat} {s : Nat → Bool} (h : St w n b s) (hb : Below C w w') (hl : b < C) : St w' n b s := by
  obtain ⟨D, h1, h2⟩ := h
  obtain ⟨es, clock, hbb, F, hs, hD⟩ := h1
  exact ⟨D, ⟨es, clock, by rw [hb.block b hl]; exact hbb, F, hs, hD⟩, h2⟩
theorem St.alloc {w : World} {n b : Nat} {s : Nat → Bool} (h : St w n b s) (o : Obj) : St (w.alloc o) n b s := by
  obtain ⟨D, h1, h2⟩ := h; exact ⟨D, h1.alloc o, h2⟩
theorem St.drew {w : World} {n b : Nat} {s : Nat → Bool} (h : St w n b s) : St w.drew n b s := h

theorem SD.congr {D : DataW Unit} {n : Nat} {s t : Nat → Bool} (h : SD D n s) (he : ∀ x, x < n → s x = t x) : SD D n t :=
  ⟨by rw [h.size, cnt_congr he], fun x hx => by rw [h.has x hx, he x hx], fun x hx => by rw [h.at' x hx, he x hx], h.only⟩
theorem St.congr {w : World} {n b : Nat} {s t : Nat → Bool} (h : St w n b s) (he : ∀ x, x < n → s x = t x) : St w n b t := by
  obtain ⟨D, h1, h2⟩ := h
  exact ⟨D, by rw [← cnt_congr he]; exact h1, h2.congr he⟩

theorem St.made (w : World) (n : Nat) : St (w.alloc (.map #[] 0)) n w.heap.size (fun _ => false) :=
  ⟨_, by rw [cnt_none]; exact World.ownsMap_made w _ _ _, by rw [cnt_none]; rfl, fun x _ => rfl, fun x _ => rfl, fun kl h => by cases h⟩

theorem SD.put {D : DataW Unit} {n : Nat} {s : Nat → Bool} (h : SD D n s) (hT : Tidy D) {x : Nat} (hx : x < n) (hk : WideAt.IsKeyLit (kx x)) : SD (D.put (kx x) (.lit (.bool true))) n (adj s x true) := by
  refine ⟨?_, fun y hy => ?_, fun y hy => ?_, fun kl hkl => ?_⟩
  · rw [Maps.size_put hT, h.has x hx, h.size, cnt_add s x n hx]
  · by_cases e : y = x
    · subst e; rw [Maps.has_put_same hT.isMap hk]; simp [adj]
    · rw [Maps.has_put_other (fun he => e (kx_inj he)), h.has y hy]; simp [adj, e]
  · by_cases e : y = x
    · subst e; rw [Maps.atKey_put_same hT.isMap hk]; simp [adj]
    · rw [Maps.atKey_put_other (fun he => e (kx_inj he)), h.at' y hy]; simp [adj, e]
  · by_cases e : kl = kx x
    · exact ⟨x, hx, e⟩
    · rw [Maps.has_put_other e] at hkl; exact h.only kl hkl

theorem SD.del {D : DataW Unit} {n : Nat} {s : Nat → Bool} (h : SD D n s) (hT : Tidy D) {x : Nat} (hx : x < n) (hk : WideAt.IsKeyLit (kx x)) : SD (D.del (kx x)) n (adj s x false) := by
  refine ⟨?_, fun y hy => ?_, fun y hy => ?_, fun kl hkl => ?_⟩
  · have h1 := Maps.size_del (k := kx x) hT
    have h2 := cnt_del s x n hx
    rw [h.has x hx, h.size] at h1
    omega
  · by_cases e : y = x
    · subst e; rw [Maps.has_del_same]; simp [adj]
    · rw [Maps.has_del_other (fun he => e (kx_inj he)), h.has y hy]; simp [adj, e]
  · by_cases e : y = x
    · subst e; rw [Maps.atKey_del_same]; simp [adj]
    · rw [Maps.atKey_del_other (fun he => e (kx_inj he)), h.at' y hy]; simp [adj, e]
  · by_cases e : kl = kx x
    · exact ⟨x, hx, e⟩
    · rw [Maps.has_del_other e] at hkl; exact h.only kl hkl

end Go.Proofs.Ytgiabadkbfbilaa
