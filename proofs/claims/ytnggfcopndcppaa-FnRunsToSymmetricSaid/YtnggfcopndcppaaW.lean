/-
  Worlds of stage 1: a slice value that reads as a list of integers, in memory that a call of ours made.
-/
import Derived.Test.YtnggfcopndcppaaRows
import Derived.WalkKit
import Derived.BigQuiet
import Derived.Lib.Hide
import Derived.Deep.QuietTactic
import Derived.OpenShut
import Derived.ProofKit
import Derived.Outline
import Derived.Deep.RegionLaw
namespace Go.Proofs.Ytnggfcopndcppaa
open Go.RowKit
set_option linter.unusedVariables false
set_option linter.unusedSimpArgs false

theorem info3 : (Try.prog.info? 3).map (fun i => (i.zero, i.size, i.bytes)) = some (some (.int .i64 0), 1, 8) := by kernel_rfl

/-- The slice value v holds the integers xs, in a block from B on that is not frozen (or it is nil and xs is empty). -/
def Rd (w : World) (B : Nat) (v : Value) (xs : List Int) : Prop := w.ownsRow B 3 1 v xs.length (xs.map (Value.int .i64))

theorem Rd.nil (w : World) (B : Nat) : Rd w B (.slice none 0 0) [] := World.ownsRow_nil w B 3 1

theorem Rd.mono {w : World} {B C : Nat} {v : Value} {xs : List Int} (h : Rd w B v xs) (hC : C ≤ B) : Rd w C v xs := by
  refine ⟨h.1, ?_⟩
  rcases h.2 with h2 | ⟨g, cap, cur, hv, hg, r⟩
  · exact .inl h2
  · exact .inr ⟨g, cap, cur, hv, Nat.le_trans hC hg, r⟩

theorem Rd.lt {w : World} {B : Nat} {v : Value} {xs : List Int} (h : Rd w B v xs) : ∀ k, v.ownBlock = some k → B ≤ k ∧ k < w.heap.size := World.ownsRow.lt h

theorem Rd.keep {w w' : World} {B : Nat} {v : Value} {xs : List Int} (h : Rd w B v xs) (hb : Below w.heap.size w w') : Rd w' B v xs := by
  refine ⟨h.1, ?_⟩
  rcases h.2 with h2 | ⟨g, cap, cur, hv, hg, hh, r⟩
  · exact .inl h2
  · exact .inr ⟨g, cap, cur, hv, hg, by rw [hb.block g (Array.getElem?_eq_some_iff.1 hh).1]; exact hh, r⟩

/-- What lies below C stays where nothing below C is written. -/
theorem Rd.keepB {w w' : World} {B C : Nat} {v : Value} {xs : List Int} (h : Rd w B v xs) (hb : Below C w w') (hv : ∀ k, v.ownBlock = some k → k < C) : Rd w' B v xs := by
  refine ⟨h.1, ?_⟩
  rcases h.2 with h2 | ⟨g, cap, cur, rfl, hg, hh, r⟩
  · exact .inl h2
  · exact .inr ⟨g, cap, cur, rfl, hg, by rw [hb.block g (hv g rfl)]; exact hh, r⟩

theorem Rd.cases {w : World} {B : Nat} {v : Value} {xs : List Int} (h : Rd w B v xs) :
    (v = .slice none 0 0 ∧ xs = []) ∨ ∃ g cap, v = .slice (some ⟨g, 0, none⟩) xs.length cap ∧ B ≤ g ∧ g < w.heap.size ∧ xs.length ≤ cap ∧ cap ≤ maxLen ∧
      (∀ j (hj : j < xs.length), w.cell? ⟨g, j, none⟩ = some (.int .i64 xs[j])) ∧ (∀ j, w.frozen? ⟨g, j, none⟩ = false) := by
  rcases h.2 with ⟨h1, h2⟩ | ⟨g, cap, cur, rfl, hg, hh, hn, hm, hc, ht⟩
  · exact .inl ⟨h1, List.eq_nil_of_length_eq_zero h2⟩
  · refine .inr ⟨g, cap, rfl, hg, (Array.getElem?_eq_some_iff.1 hh).1, hn, hm, fun j hj => ?_, fun j => World.ownsRow.frozenAt (w := w) (base := B) (e := 3) (size := 1) (n := xs.length) (xs := xs.map (Value.int .i64)) (cap := cap) h j⟩
    have := World.ownsRow.cellAt (w := w) (base := B) (e := 3) (size := 1) (n := xs.length) (xs := xs.map (Value.int .i64)) (cap := cap) h j (by simpa using hj)
    rw [this]
    simp [hj]

theorem Below.step {B : Nat} {a w w' : World} (h : Below B a w) (hB : B ≤ w.heap.size) (h2 : Below w.heap.size w w') : Below B a w' := h.trans (h2.mono hB)

theorem beq_no {a b : Int} (h : a ≠ b) : (a == b) = false := beq_eq_false_iff_ne.2 h
theorem beq_yes {a b : Int} (h : a = b) : (a == b) = true := beq_iff_eq.2 h
theorem bne_no {a b : Int} (h : a = b) : (a != b) = false := by simp [h]
theorem bne_yes {a b : Int} (h : a ≠ b) : (a != b) = true := bne_iff_ne.2 h
theorem ret_int {k : IntKind} {a b : Int} (h : a = b) : Ending.returned (.int k a) = .returned (.int k b) := by rw [h]
theorem ret_bool {a b : Bool} (h : a = b) : Ending.returned (.bool a) = .returned (.bool b) := by rw [h]

theorem take_snoc' (xs : List Int) (k : Nat) (h : k < xs.length) : xs.take (k + 1) = xs.take k ++ [xs[k]] := by
  rw [List.take_add_one, List.getElem?_eq_getElem h]; simp
theorem take_snoc (xs : List Int) (k : Nat) (h : k < xs.length) : xs.take (k + 1) = xs.take k ++ [xs.getD k 0] := by
  rw [List.take_add_one, List.getElem?_eq_getElem h]; simp [h]

theorem sum_bd (xs : List Int) (m : Int) (h : ∀ x ∈ xs, 0 ≤ x ∧ x ≤ m) : 0 ≤ xs.sum ∧ xs.sum ≤ xs.length * m := by
  induction xs with
  | nil => simp
  | cons a t ih =>
    have h1 := h a (by simp)
    have h2 := ih (fun x hx => h x (by simp [hx]))
    simp only [List.sum_cons, List.length_cons]
    have : ((t.length + 1 : Nat) : Int) * m = t.length * m + m := by push_cast; rw [Int.add_mul]; simp
    omega

theorem sum_take_bd (xs : List Int) (m : Int) (k : Nat) (h : ∀ x ∈ xs, 0 ≤ x ∧ x ≤ m) (h0 : 0 ≤ m) (hk : k ≤ xs.length) : 0 ≤ (xs.take k).sum ∧ (xs.take k).sum ≤ xs.length * m := by
  have h1 := sum_bd (xs.take k) m (fun x hx => h x (List.mem_of_mem_take hx))
  have h2 : ((xs.take k).length : Int) * m ≤ xs.length * m := Int.mul_le_mul_of_nonneg_right (by simp; omega) h0
  omega

theorem sum_snoc (xs : List Int) (k : Nat) (h : k < xs.length) : (xs.take (k + 1)).sum = (xs.take k).sum + xs[k] := by
  rw [take_snoc' xs k h, List.sum_append]; simp

theorem getD_mem (xs : List Int) (k : Nat) (h : k < xs.length) : xs.getD k 0 ∈ xs := by
  simp [h]

/-- The number with given digits, zeros in front or not; none as soon as it is greater than the limit. -/
def numF (b : Int) : List Int → Int → Option Int
  | [], n => some n
  | d :: ds, n => if 1000000000000 < n * b + d then none else numF b ds (n * b + d)

theorem drop_cons (xs : List Int) (k : Nat) (h : k < xs.length) : xs.drop k = xs[k] :: xs.drop (k + 1) := List.drop_eq_getElem_cons h

theorem numF_step (b : Int) (xs : List Int) (k : Nat) (n : Int) (h : k < xs.length) :
    numF b (xs.drop k) n = if 1000000000000 < n * b + xs[k] then none else numF b (xs.drop (k + 1)) (n * b + xs[k]) := by
  rw [drop_cons xs k h]; rfl

/-- A product that goes round as Go's does. -/
def prodW : List Int → Int → Int
  | [], n => n
  | d :: ds, n => prodW ds (wrap64 (n * d))

theorem prodW_step (xs : List Int) (k : Nat) (n : Int) (h : k < xs.length) : prodW (xs.drop k) n = prodW (xs.drop (k + 1)) (wrap64 (n * xs[k])) := by
  rw [drop_cons xs k h]; rfl

/-- The two results of a number that may be none. -/
abbrev optRes (o : Option Int) : Value := .tuple #[.int .i64 (o.getD 0), .bool o.isSome]

theorem mul_le16 (n b : Int) (hn : 0 ≤ n) (hn' : n ≤ 1000000000000) (hb : 2 ≤ b) (hb' : b ≤ 16) : 0 ≤ n * b ∧ n * b ≤ 16000000000000 := by
  constructor
  · exact Int.mul_nonneg hn (by omega)
  · have := Int.mul_le_mul hn' hb' (by omega) (by omega : (0:Int) ≤ 1000000000000)
    omega

/-- All numbers of a list lie in lo..hi. -/
def allIn (lo hi : Int) (xs : List Int) : Bool := xs.all fun x => decide (lo ≤ x) && decide (x ≤ hi)

theorem allIn_iff (lo hi : Int) (xs : List Int) : allIn lo hi xs = true ↔ ∀ x ∈ xs, lo ≤ x ∧ x ≤ hi := by
  simp [allIn]

theorem allIn_bad (lo hi : Int) (xs : List Int) (k : Nat) (h : k < xs.length) (hb : xs[k] < lo ∨ hi < xs[k]) : allIn lo hi xs = false := by
  rw [Bool.eq_false_iff]
  intro hc
  have := (allIn_iff lo hi xs).1 hc _ (List.getElem_mem h)
  omega

theorem allIn_take (lo hi : Int) (xs : List Int) (k : Nat) (h : k < xs.length) (h0 : allIn lo hi (xs.take k) = true) (h1 : lo ≤ xs[k]) (h2 : xs[k] ≤ hi) : allIn lo hi (xs.take (k + 1)) = true := by
  rw [allIn_iff] at h0 ⊢
  intro x hx
  rw [take_snoc' xs k h, List.mem_append, List.mem_singleton] at hx
  rcases hx with hx | rfl
  · exact h0 x hx
  · exact ⟨h1, h2⟩

/-- A list of numbers are the digits of some number. -/
def areD (b : Int) (xs : List Int) : Bool := decide (xs.length ≠ 0) && (decide (xs.length = 1) || decide (xs.headD 0 ≠ 0)) && allIn 0 (b - 1) xs

end Go.Proofs.Ytnggfcopndcppaa
