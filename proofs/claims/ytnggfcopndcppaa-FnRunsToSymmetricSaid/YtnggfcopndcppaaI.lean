/-
  Copies and mirrored digits.
-/
import Derived.Test.YtnggfcopndcppaaE2
import Derived.Test.YtnggfcopndcppaaV
import Derived.WalkSpells
namespace Go.Proofs.Ytnggfcopndcppaa
open Go.RowKit
set_option linter.unusedVariables false
set_option linter.unusedSimpArgs false

/-- A list whose back half is its front half in the other order. -/
def mir (xs : List Int) : List Int := xs.take (xs.length - xs.length / 2) ++ (xs.take (xs.length / 2)).reverse

theorem mir_len (xs : List Int) : (mir xs).length = xs.length := by simp [mir]; omega

theorem mir_at (xs : List Int) (t : Nat) (ht : t < xs.length) : (mir xs)[t]? = if xs.length - xs.length / 2 ≤ t then xs[xs.length - 1 - t]? else xs[t]? := by
  unfold mir
  have hl : (xs.take (xs.length - xs.length / 2)).length = xs.length - xs.length / 2 := by simp
  by_cases h : xs.length - xs.length / 2 ≤ t
  · rw [if_pos h, List.getElem?_append_right (by omega), hl, List.getElem?_reverse (by simp; omega), List.length_take, List.getElem?_take, if_pos (by omega)]
    congr 1
    omega
  · rw [if_neg h, List.getElem?_append_left (by omega), List.getElem?_take, if_pos (by omega)]

/-- Where P holds the element from the other end stands. -/
def MirP (xs ys : List Int) (P : Nat → Prop) [DecidablePred P] : Prop := ys.length = xs.length ∧ ∀ t, t < xs.length → ys[t]? = if P t then xs[xs.length - 1 - t]? else xs[t]?

theorem MirP.step {xs ys : List Int} {P Q : Nat → Prop} [DecidablePred P] [DecidablePred Q] (h : MirP xs ys P) (p : Nat) (v : Int) (hp : p < xs.length) (hv : ys[xs.length - 1 - p]? = some v) (hq : ¬ P (xs.length - 1 - p))
    (hQ : Q p) (hPQ : ∀ t, t ≠ p → t < xs.length → (Q t ↔ P t)) : MirP xs (ys.set p v) Q := by
  refine ⟨by simp [h.1], fun t ht => ?_⟩
  have h1 := h.2 (xs.length - 1 - p) (by omega)
  rw [if_neg hq, hv] at h1
  rw [List.getElem?_set]
  by_cases e : p = t
  · subst e
    rw [if_pos rfl, if_pos (by rw [h.1]; exact hp), if_pos hQ]
    exact h1
  · rw [if_neg e, h.2 t ht]
    by_cases hP : P t
    · rw [if_pos hP, if_pos ((hPQ t (fun e' => e e'.symm) ht).2 hP)]
    · rw [if_neg hP, if_neg (fun hc => hP ((hPQ t (fun e' => e e'.symm) ht).1 hc))]

theorem MirP.skip {xs ys : List Int} {P Q : Nat → Prop} [DecidablePred P] [DecidablePred Q] (h : MirP xs ys P) (hPQ : ∀ t, t < xs.length → (Q t ↔ P t)) : MirP xs ys Q := by
  refine ⟨h.1, fun t ht => ?_⟩
  rw [h.2 t ht]
  by_cases hP : P t
  · rw [if_pos hP, if_pos ((hPQ t ht).2 hP)]
  · rw [if_neg hP, if_neg (fun hc => hP ((hPQ t ht).1 hc))]

theorem MirP.done {xs ys : List Int} {P : Nat → Prop} [DecidablePred P] (h : MirP xs ys P) (hP : ∀ t, t < xs.length → (P t ↔ xs.length - xs.length / 2 ≤ t)) : ys = mir xs := by
  apply List.ext_getElem?
  intro t
  by_cases ht : t < xs.length
  · rw [h.2 t ht, mir_at xs t ht]
    by_cases hp : P t
    · rw [if_pos hp, if_pos ((hP t ht).1 hp)]
    · rw [if_neg hp, if_neg (fun hc => hp ((hP t ht).2 hc))]
  · rw [List.getElem?_eq_none (by rw [h.1]; omega), List.getElem?_eq_none (by rw [mir_len]; omega)]

theorem MirP.zero (xs : List Int) (P : Nat → Prop) [DecidablePred P] (hP : ∀ t, t < xs.length → ¬ P t) : MirP xs xs P := ⟨rfl, fun t ht => by rw [if_neg (hP t ht)]⟩

theorem rd_empty (w : World) : Rd (w.alloc (.cells #[] 3)) w.heap.size (.slice (some ⟨w.heap.size, 0, none⟩) 0 0) [] := by
  have := World.ownsRow_lit (e := 3) (size := 1) (base := w.heap.size) w #[] 0 (Nat.le_refl _) (by unfold maxLen; omega) rfl
  exact this

theorem l1Own_any (v : Value) (xs : List Int) (w : World) (B : Nat) (h : Rd w B v xs) (hl : xs.length ≤ 2000000) :
    Calls Try.prog 53 #[v] w fun e w' => ∃ u, e = .returned u ∧ Rd w' w.heap.size u xs ∧ Below w.heap.size w w' := by
  have H := Lib.hid h
  clear h
  go_enter Try.func53, Try.ntmps53
  go_wp2_with (at_builtin; refine wpList_appR rfl _ _ rfl w.heap.size B _ _ [] xs rfl rfl (rd_empty _) (H.out.alloc _) (by simp; omega) (by simp) ?_; intro v1 w1 hr1 hg1 hb1)
  go_ret
  exact ⟨_, rfl, hr1, ((Below.refl _ _).alloc (Nat.le_refl _) _).trans hb1⟩

theorem clone_any (g n cap : Nat) (xs : List Int) (w : World) (B : Nat) (h : Rd w B (.slice (some ⟨g, 0, none⟩) n cap) xs) (hl : xs.length ≤ 2000000) :
    Calls Try.prog 91 #[.slice (some ⟨g, 0, none⟩) n cap] w fun e w' => ∃ u, e = .returned u ∧ Rd w' w.heap.size u xs ∧ Below w.heap.size w w' := by
  have H := Lib.hid h
  clear h
  have hnil := fun (w : World) => Lib.run_eql_slice_nil (P := Try.prog) w 24 3 (some ⟨g, 0, none⟩) n cap 0 0 Try.underlying24
  go_enter Try.func91, Try.ntmps91
  go_wp2_with (at_builtin; refine wpList_appR rfl _ _ rfl w.heap.size B _ _ [] xs rfl rfl (rd_empty _) (H.out.alloc _) (by simp; omega) (by simp) ?_; intro v1 w1 hr1 hg1 hb1)
  go_ret
  exact ⟨_, rfl, hr1, ((Below.refl _ _).alloc (Nat.le_refl _) _).trans hb1⟩


theorem mirrored_any (g n cap : Nat) (xs : List Int) (w : World) (B : Nat) (h : Rd w B (.slice (some ⟨g, 0, none⟩) n cap) xs) (h1 : 1 ≤ xs.length) (hl : xs.length ≤ 2000000) :
    Calls Try.prog 96 #[.slice (some ⟨g, 0, none⟩) n cap] w fun e w' => ∃ g' cap', e = .returned (.slice (some ⟨g', 0, none⟩) xs.length cap') ∧ Rd w' w.heap.size (.slice (some ⟨g', 0, none⟩) xs.length cap') (mir xs) ∧ Below w.heap.size w w' := by
  have H := Lib.hid h
  clear h
  go_enter Try.func96, Try.ntmps96
  go_wp2_with fail
  refine (clone_any _ _ _ _ _ _ H.out hl).mono ?_
  rintro e w1 ⟨u, rfl, hr, hb⟩
  rcases hr.cases with ⟨_, hx⟩ | ⟨g', cap', rfl, hg', _⟩
  · exact absurd (congrArg List.length hx) (by rw [List.length_nil]; omega)
  have R1 := Lib.hid hr
  have B1 := Lib.hid hb
  clear hr hb
  go_wp2
  go_loopw [10] (fun i wr => ∃ (k : Nat) (ys : List Int), k ≤ xs.length / 2 ∧ i = .int .i64 k ∧ MirP xs ys (fun t => xs.length - k ≤ t) ∧ Rd wr w.heap.size (.slice (some ⟨g', 0, none⟩) xs.length cap') ys ∧ Below w.heap.size w wr) (fun i _ => xs.length / 2 - (intOf i).toNat)
  case atStart => exact ⟨0, xs, by omega, rfl, MirP.zero xs _ (fun t ht => by omega), R1.out, B1.out⟩
  case round =>
    obtain ⟨k, ys, hk, rfl, hm, hr, hb⟩ := hrel
    have HM := Lib.hid hm
    have HR := Lib.hid hr
    have HB := Lib.hid hb
    clear hm hr hb
    by_cases hlt : k < xs.length / 2
    · have hyl : k < ys.length := by have := HM.out.1; omega
      have hyj : xs.length - 1 - k < ys.length := by have := HM.out.1; omega
      obtain ⟨v, hv⟩ : ∃ v, v = ys[k]'hyl := ⟨_, rfl⟩
      have hck : wr.cell? ⟨g', k, none⟩ = some (.int .i64 v) := by rw [hv]; exact HR.out.at.2.2.2.2.1 k hyl
      obtain ⟨q, hcj⟩ : ∃ q, wr.cell? ⟨g', xs.length - 1 - k, none⟩ = some (.int .i64 q) := ⟨_, HR.out.at.2.2.2.2.1 _ hyj⟩
      have hf := HR.out.at.2.2.2.2.2 (xs.length - 1 - k)
      have HV := Lib.hid hv
      clear hv
      go_wp2
      go_roundw
      case rel =>
        have h2 := HR.out.set (xs.length - 1 - k) v
        have hst : MirP xs (ys.set (xs.length - 1 - k) v) (fun t => xs.length - (k + 1) ≤ t) := HM.out.step (xs.length - 1 - k) v (by omega) (by rw [show xs.length - 1 - (xs.length - 1 - k) = k by omega, HV.out]; simp) (by omega) (by omega) (fun t ht ht2 => by omega)
        exact ⟨k + 1, _, by omega, by go_num, hst, h2.1, HB.out.trans (grown_below h2.2 HB.out.size hg')⟩
      case measure => simp [intOf]; omega
    · obtain rfl : k = xs.length / 2 := by omega
      go_wp2
      go_ret
      have hd := HM.out.done (fun t ht => Iff.rfl)
      exact ⟨g', cap', rfl, by rw [← hd]; exact HR.out, HB.out⟩

end Go.Proofs.Ytnggfcopndcppaa
