/-
  Joint text of I, H, Q: what each proves stands ahead of it.
-/
import Derived.Test.YtlbjeiaihenjkaaGreatDoorJ16
import Derived.Test.YtlbjeiaihenjkaaGreatDoorJ01
import Derived.WalkSpells
import Derived.Sort.OwnSortedInts
import Derived.Test.YtlbjeiaihenjkaaGreatDoorJ02
import Derived.Test.YtlbjeiaihenjkaaGreatDoorJ03
/- from I: Copies and mirrored digits.  -/
namespace Go.Proofs.YtlbjeiaihenjkaaGreatDoor
open Go.RowKit
set_option linter.unusedVariables false
set_option linter.unusedSimpArgs false

/-- A list whose back half is its front half in the other order. -/
def mir (xs : List Int) : List Int := xs.take (xs.length - xs.length / 2) ++ (xs.take (xs.length / 2)).reverse

theorem mir_len (xs : List Int) : (mir xs).length = xs.length := by simp [mir]; omega

theorem mir_at (xs : List Int) (t : Nat) (ht : t < xs.length) : (mir xs)[t]? = if xs.length - xs.length / 2 ≤ t then xs[xs.length - 1 - t]? else xs[t]? := by
  unfold mir
  have hl : (xs.take (xs.length - xs.length / 2)).length = xs.length - xs.length / 2 := by simp
  by_cases h : xs.length - xs.length / 2 ≤ t
  · rw [if_pos h, List.getElem?_append_right (by omega), hl, List.getElem?_reverse (by simp; omega), List.length_take, List.getElem?_take, if_pos (by omega)]
    congr 1
    omega
  · rw [if_neg h, List.getElem?_append_left (by omega), List.getElem?_take, if_pos (by omega)]

/-- Where P holds the element from the other end stands. -/
def MirP (xs ys : List Int) (P : Nat → Prop) [DecidablePred P] : Prop := ys.length = xs.length ∧ ∀ t, t < xs.length → ys[t]? = if P t then xs[xs.length - 1 - t]? else xs[t]?

theorem MirP.step {xs ys : List Int} {P Q : Nat → Prop} [DecidablePred P] [DecidablePred Q] (h : MirP xs ys P) (p : Nat) (v : Int) (hp : p < xs.length) (hv : ys[xs.length - 1 - p]? = some v) (hq : ¬ P (xs.length - 1 - p))
    (hQ : Q p) (hPQ : ∀ t, t ≠ p → t < xs.length → (Q t ↔ P t)) : MirP xs (ys.set p v) Q := by
  refine ⟨by simp [h.1], fun t ht => ?_⟩
  have h1 := h.2 (xs.length - 1 - p) (by omega)
  rw [if_neg hq, hv] at h1
  rw [List.getElem?_set]
  by_cases e : p = t
  · subst e
    rw [if_pos rfl, if_pos (by rw [h.1]; exact hp), if_pos hQ]
    exact h1
  · rw [if_neg e, h.2 t ht]
    by_cases hP : P t
    · rw [if_pos hP, if_pos ((hPQ t (fun e' => e e'.symm) ht).2 hP)]
    · rw [if_neg hP, if_neg (fun hc => hP ((hPQ t (fun e' => e e'.symm) ht).1 hc))]

theorem MirP.skip {xs ys : List Int} {P Q : Nat → Prop} [DecidablePred P] [DecidablePred Q] (h : MirP xs ys P) (hPQ : ∀ t, t < xs.length → (Q t ↔ P t)) : MirP xs ys Q := by
  refine ⟨h.1, fun t ht => ?_⟩
  rw [h.2 t ht]
  by_cases hP : P t
  · rw [if_pos hP, if_pos ((hPQ t ht).2 hP)]
  · rw [if_neg hP, if_neg (fun hc => hP ((hPQ t ht).1 hc))]

theorem MirP.done {xs ys : List Int} {P : Nat → Prop} [DecidablePred P] (h : MirP xs ys P) (hP : ∀ t, t < xs.length → (P t ↔ xs.length - xs.length / 2 ≤ t)) : ys = mir xs := by
  apply List.ext_getElem?
  intro t
  by_cases ht : t < xs.length
  · rw [h.2 t ht, mir_at xs t ht]
    by_cases hp : P t
    · rw [if_pos hp, if_pos ((hP t ht).1 hp)]
    · rw [if_neg hp, if_neg (fun hc => hp ((hP t ht).2 hc))]
  · rw [List.getElem?_eq_none (by rw [h.1]; omega), List.getElem?_eq_none (by rw [mir_len]; omega)]

theorem MirP.zero (xs : List Int) (P : Nat → Prop) [DecidablePred P] (hP : ∀ t, t < xs.length → ¬ P t) : MirP xs xs P := ⟨rfl, fun t ht => by rw [if_neg (hP t ht)]⟩

theorem rd_empty (w : World) : Rd (w.alloc (.cells #[] 3)) w.heap.size (.slice (some ⟨w.heap.size, 0, none⟩) 0 0) [] := by
  have := World.ownsRow_lit (e := 3) (size := 1) (base := w.heap.size) w #[] 0 (Nat.le_refl _) (by unfold maxLen; omega) rfl
  exact this

theorem l1Own_any (v : Value) (xs : List Int) (w : World) (B : Nat) (h : Rd w B v xs) (hl : xs.length ≤ 2000000) :
    Calls Tryz.prog 205 #[v] w fun e w' => ∃ u, e = .returned u ∧ Rd w' w.heap.size u xs ∧ Below w.heap.size w w' := by
  have H := Lib.hid h
  clear h
  go_enter Tryz.func205, Tryz.ntmps205
  go_wp2_with (at_builtin; refine wpList_appR rfl _ _ rfl w.heap.size B _ _ [] xs rfl rfl (rd_empty _) (H.out.alloc _) (by simp; omega) (by simp) ?_; intro v1 w1 hr1 hg1 hb1)
  go_ret
  exact ⟨_, rfl, hr1, ((Below.refl _ _).alloc (Nat.le_refl _) _).trans hb1⟩

theorem clone_any (g n cap : Nat) (xs : List Int) (w : World) (B : Nat) (h : Rd w B (.slice (some ⟨g, 0, none⟩) n cap) xs) (hl : xs.length ≤ 2000000) :
    Calls Tryz.prog 256 #[.slice (some ⟨g, 0, none⟩) n cap] w fun e w' => ∃ u, e = .returned u ∧ Rd w' w.heap.size u xs ∧ Below w.heap.size w w' := by
  have H := Lib.hid h
  clear h
  have hnil := fun (w : World) => Lib.run_eql_slice_nil (P := Tryz.prog) w 38 3 (some ⟨g, 0, none⟩) n cap 0 0 Tryz.underlying38
  go_enter Tryz.func256, Tryz.ntmps256
  go_wp2_with (at_builtin; refine wpList_appR rfl _ _ rfl w.heap.size B _ _ [] xs rfl rfl (rd_empty _) (H.out.alloc _) (by simp; omega) (by simp) ?_; intro v1 w1 hr1 hg1 hb1)
  go_ret
  exact ⟨_, rfl, hr1, ((Below.refl _ _).alloc (Nat.le_refl _) _).trans hb1⟩


theorem mirrored_any (g n cap : Nat) (xs : List Int) (w : World) (B : Nat) (h : Rd w B (.slice (some ⟨g, 0, none⟩) n cap) xs) (h1 : 1 ≤ xs.length) (hl : xs.length ≤ 2000000) :
    Calls Tryz.prog 218 #[.slice (some ⟨g, 0, none⟩) n cap] w fun e w' => ∃ g' cap', e = .returned (.slice (some ⟨g', 0, none⟩) xs.length cap') ∧ Rd w' w.heap.size (.slice (some ⟨g', 0, none⟩) xs.length cap') (mir xs) ∧ Below w.heap.size w w' := by
  have H := Lib.hid h
  clear h
  go_enter Tryz.func218, Tryz.ntmps218
  go_wp2_with fail
  refine (clone_any _ _ _ _ _ _ H.out hl).mono ?_
  rintro e w1 ⟨u, rfl, hr, hb⟩
  rcases hr.cases with ⟨_, hx⟩ | ⟨g', cap', rfl, hg', _⟩
  · exact absurd (congrArg List.length hx) (by rw [List.length_nil]; omega)
  have R1 := Lib.hid hr
  have B1 := Lib.hid hb
  clear hr hb
  go_wp2
  go_loopw [10] (fun i wr => ∃ (k : Nat) (ys : List Int), k ≤ xs.length / 2 ∧ i = .int .i64 k ∧ MirP xs ys (fun t => xs.length - k ≤ t) ∧ Rd wr w.heap.size (.slice (some ⟨g', 0, none⟩) xs.length cap') ys ∧ Below w.heap.size w wr) (fun i _ => xs.length / 2 - (intOf i).toNat)
  case atStart => exact ⟨0, xs, by omega, rfl, MirP.zero xs _ (fun t ht => by omega), R1.out, B1.out⟩
  case round =>
    obtain ⟨k, ys, hk, rfl, hm, hr, hb⟩ := hrel
    have HM := Lib.hid hm
    have HR := Lib.hid hr
    have HB := Lib.hid hb
    clear hm hr hb
    by_cases hlt : k < xs.length / 2
    · have hyl : k < ys.length := by have := HM.out.1; omega
      have hyj : xs.length - 1 - k < ys.length := by have := HM.out.1; omega
      obtain ⟨v, hv⟩ : ∃ v, v = ys[k]'hyl := ⟨_, rfl⟩
      have hck : wr.cell? ⟨g', k, none⟩ = some (.int .i64 v) := by rw [hv]; exact HR.out.at.2.2.2.2.1 k hyl
      obtain ⟨q, hcj⟩ : ∃ q, wr.cell? ⟨g', xs.length - 1 - k, none⟩ = some (.int .i64 q) := ⟨_, HR.out.at.2.2.2.2.1 _ hyj⟩
      have hf := HR.out.at.2.2.2.2.2 (xs.length - 1 - k)
      have HV := Lib.hid hv
      clear hv
      go_wp2
      go_roundw
      case rel =>
        have h2 := HR.out.set (xs.length - 1 - k) v
        have hst : MirP xs (ys.set (xs.length - 1 - k) v) (fun t => xs.length - (k + 1) ≤ t) := HM.out.step (xs.length - 1 - k) v (by omega) (by rw [show xs.length - 1 - (xs.length - 1 - k) = k by omega, HV.out]; simp) (by omega) (by omega) (fun t ht ht2 => by omega)
        exact ⟨k + 1, _, by omega, by go_num, hst, h2.1, HB.out.trans (grown_below h2.2 HB.out.size hg')⟩
      case measure => simp [intOf]; omega
    · obtain rfl : k = xs.length / 2 := by omega
      go_wp2
      go_ret
      have hd := HM.out.done (fun t ht => Iff.rfl)
      exact ⟨g', cap', rfl, by rw [← hd]; exact HR.out, HB.out⟩

end Go.Proofs.YtlbjeiaihenjkaaGreatDoor

/- from H: Sorting: the model's insertion, the library's sort by its contract.  -/
namespace Go.Proofs.YtlbjeiaihenjkaaGreatDoor
open Go.RowKit
set_option linter.unusedVariables false
set_option linter.unusedSimpArgs false

/-- The list in order. -/
def srt (xs : List Int) : List Int := xs.mergeSort fun x y => decide (x ≤ y)

theorem srt_len (xs : List Int) : (srt xs).length = xs.length := by simp [srt]
theorem srt_mem {xs : List Int} {x : Int} : x ∈ srt xs ↔ x ∈ xs := by simp [srt]

theorem srt_unique {xs ys : List Int} (hp : ys.Perm xs) (hs : ys.Pairwise (· ≤ ·)) : ys = srt xs := by
  have h1 : (srt xs).Perm xs := List.mergeSort_perm xs _
  have h2 : (srt xs).Pairwise (fun a b => decide (a ≤ b) = true) := List.pairwise_mergeSort (fun a b c h1 h2 => by simp at h1 h2 ⊢; omega) (fun a b => by simp; omega) xs
  refine List.Perm.eq_of_pairwise (le := fun a b : Int => a ≤ b) (fun a b _ _ h1 h2 => by omega) hs (h2.imp (fun h => by simpa using h)) (hp.trans h1.symm)

theorem ins_perm (out : List Int) (x : Int) (k : Nat) : (out.take k ++ [x] ++ out.drop k).Perm (x :: out) := by
  have h1 : (out.take k ++ [x] ++ out.drop k) = out.take k ++ x :: out.drop k := by simp
  rw [h1]
  refine List.perm_middle.trans ?_
  rw [List.take_append_drop]

theorem ins_sorted (out : List Int) (x : Int) (k : Nat) (hk : k ≤ out.length) (hs : out.Pairwise (· ≤ ·)) (h1 : ∀ j (hj : j < out.length), j < k → out[j] ≤ x) (h2 : ∀ (h : k < out.length), x ≤ out[k]) :
    (out.take k ++ [x] ++ out.drop k).Pairwise (· ≤ ·) := by
  have hs' : (out.take k ++ out.drop k).Pairwise (· ≤ ·) := by rw [List.take_append_drop]; exact hs
  rw [List.pairwise_append] at hs'
  obtain ⟨ha, hb, hc⟩ := hs'
  have hx : ∀ a ∈ out.take k, a ≤ x := by
    intro a ha
    obtain ⟨j, hj, rfl⟩ := List.getElem_of_mem ha
    have hj' : j < k ∧ j < out.length := by simp at hj; omega
    rw [List.getElem_take]
    exact h1 j hj'.2 hj'.1
  have hy : ∀ a ∈ out.drop k, x ≤ a := by
    intro a ha
    have hlt : k < out.length := by
      have := List.length_pos_of_mem ha
      simp at this
      omega
    rw [drop_cons out k hlt] at ha hb
    rw [List.pairwise_cons] at hb
    have h3 := h2 hlt
    rcases List.mem_cons.1 ha with rfl | ha
    · exact h3
    · have := hb.1 a ha
      omega
  rw [List.append_assoc, List.pairwise_append]
  refine ⟨ha, ?_, ?_⟩
  · rw [List.singleton_append, List.pairwise_cons]
    exact ⟨hy, hb⟩
  · intro a ha b hb'
    rw [List.singleton_append, List.mem_cons] at hb'
    rcases hb' with rfl | hb'
    · exact hx a ha
    · exact hc a ha b hb'

theorem sort_any (g n cap : Nat) (xs : List Int) (B : Nat) (w : World) (h : Rd w B (.slice (some ⟨g, 0, none⟩) n cap) xs) (hl : xs.length ≤ 2000000) :
    Calls Tryz.prog 80 #[.slice (some ⟨g, 0, none⟩) n cap] w fun e w' => e = .returned (.tuple #[]) ∧ Rd w' B (.slice (some ⟨g, 0, none⟩) n cap) (srt xs) ∧ w.grownBy w' (some g) := by
  obtain ⟨rfl, _⟩ := h.at
  rcases h.2 with ⟨h1, _⟩ | ⟨g', cap', cur, hv, hg, hh, hn, hm, hc, ht⟩
  · simp at h1
  · simp only [Value.slice.injEq, Option.some.injEq, Addr.mk.injEq, and_true, true_and] at hv
    obtain ⟨rfl, rfl⟩ := hv
    refine (Tryz.slices_Sort_int g 0 cap xs w (holds_of_blockI hh (by simpa using ht)) (Array.getElem?_eq_some_iff.1 hh).1 (by omega)).mono ?_
    rintro e w' ⟨rfl, nn, os, rfl⟩
    refine ⟨rfl, ?_, grownBy_sortedI _⟩
    have := ownsRow_sortedI (n := nn) (os := os) (ts := srt xs) (srt_len xs) hg hh hn hm hc
    unfold Rd
    rw [srt_len]
    exact this

end Go.Proofs.YtlbjeiaihenjkaaGreatDoor

/- from Q: How often each digit comes.  -/
namespace Go.Proofs.YtlbjeiaihenjkaaGreatDoor
open Go.RowKit
set_option linter.unusedVariables false
set_option linter.unusedSimpArgs false

/-- One more of digit d. -/
def bump (ys : List Int) (d : Int) : List Int := ys.set d.toNat (ys.getD d.toNat 0 + 1)
def cntF : List Int → List Int → List Int
  | [], ys => ys
  | d :: ds, ys => cntF ds (bump ys d)
/-- How often each digit below b comes. -/
def cnt (b : Int) (xs : List Int) : List Int := cntF xs (List.replicate b.toNat 0)

theorem cntF_step (xs : List Int) (k : Nat) (ys : List Int) (h : k < xs.length) : cntF (xs.drop k) ys = cntF (xs.drop (k + 1)) (bump ys xs[k]) := by
  rw [drop_cons xs k h]; rfl
theorem bump_len (ys : List Int) (d : Int) : (bump ys d).length = ys.length := by simp [bump]
theorem cntF_len (xs : List Int) : ∀ ys, (cntF xs ys).length = ys.length := by
  induction xs with
  | nil => intro ys; rfl
  | cons d ds ih => intro ys; rw [cntF, ih, bump_len]
theorem cnt_len (b : Int) (xs : List Int) : (cnt b xs).length = b.toNat := by simp [cnt, cntF_len]

theorem bump_bd (ys : List Int) (d : Int) (m : Int) (h : ∀ y ∈ ys, 0 ≤ y ∧ y ≤ m) (hm : 0 ≤ m) : ∀ y ∈ bump ys d, 0 ≤ y ∧ y ≤ m + 1 := by
  intro y hy
  rcases List.mem_or_eq_of_mem_set hy with hy | rfl
  · have := h y hy; omega
  · by_cases hd : d.toNat < ys.length
    · have h1 : ys.getD d.toNat 0 = ys[d.toNat] := by simp [hd]
      have := h _ (List.getElem_mem hd)
      rw [h1]; omega
    · have h1 : ys.getD d.toNat 0 = 0 := by simp [Nat.not_lt.1 hd]
      rw [h1]; omega

theorem bump_nat (ys : List Int) (d : Nat) (h : d < ys.length) : bump ys (d : Int) = ys.set d (ys[d] + 1) := by
  simp [bump, h]

theorem dgCounts_any (v : Value) (xs : List Int) (b : Int) (w : World) (B : Nat) (h : Rd w B v xs) (hb : 2 ≤ b) (hb' : b ≤ 16) (hall0 : ∀ x ∈ xs, 0 ≤ x ∧ x ≤ b - 1) (hl : xs.length ≤ 2000000) :
    Calls Tryz.prog 152 #[v, .int .i64 b] w fun e w' => ∃ u, e = .returned u ∧ Rd w' w.heap.size u (cnt b xs) ∧ Below w.heap.size w w' := by
  obtain ⟨a, cap0, rfl, hx⟩ := h.sl
  have HX := Lib.hid hx
  have hall := Lib.hid hall0
  clear hx h hall0
  obtain ⟨nb, rfl⟩ : ∃ nb : Nat, b = (nb : Int) := ⟨b.toNat, by omega⟩
  have hnb : ((nb : Int).toNat) = nb := by omega
  have HN := Lib.hid hnb
  clear hnb
  go_enter Tryz.func152, Tryz.ntmps152
  go_wp2_with (at_make; refine wpList_mkR rfl _ _ rfl .i64 .i64 _ _ nb rfl rfl rfl rfl (by omega) ?_; intro w1 hr1 hg1 hb1)
  have R1 := Lib.hid hr1
  have B1 := Lib.hid hb1
  clear hr1 hg1 hb1
  go_loopw [12] (fun i wr => ∃ (k : Nat) (ys : List Int), k ≤ xs.length ∧ i = .int .i64 k ∧ Rd wr w.heap.size (.slice (some ⟨w.heap.size, 0, none⟩) nb nb) ys ∧ Below w.heap.size w wr ∧ Hid (ys.length = nb) ∧ Hid (∀ y ∈ ys, 0 ≤ y ∧ y ≤ (k : Int)) ∧ cntF (xs.drop k) ys = cnt nb xs) (fun i _ => xs.length - (intOf i).toNat)
  case atStart => exact ⟨0, _, Nat.zero_le _, rfl, R1.out, B1.out, Lib.hid (by simp), Lib.hid (fun y hy => by have := (List.mem_replicate.1 hy).2; omega), by simp [cnt]⟩
  case round =>
    obtain ⟨k, ys, hk, rfl, hr, hb1, HL, HY, hc⟩ := hrel
    have HR := Lib.hid hr
    have HB := Lib.hid hb1
    have HC := Lib.hid hc
    clear hr hb1 hc
    by_cases hlt : k < xs.length
    · rcases HX.out with hx | ⟨p, off, rfl, hbl, hc⟩
      · rw [hx] at hlt; simp at hlt
      have hd := hall.out _ (List.getElem_mem hlt)
      obtain ⟨d, hd2⟩ : ∃ d : Nat, xs[k] = (d : Int) := ⟨xs[k].toNat, by omega⟩
      have hdn : d < nb := by omega
      have hcell : wr.cell? ⟨p, off + k, none⟩ = some (.int .i64 (d : Int)) := by rw [← hd2]; exact (HB.out.cell (p := ⟨p, off + k, none⟩) hbl).trans (hc k hlt)
      have hyl : d < ys.length := by rw [HL.out]; exact hdn
      obtain ⟨y, hy⟩ : ∃ y, y = ys[d] := ⟨_, rfl⟩
      have hcy : wr.cell? ⟨w.heap.size, d, none⟩ = some (.int .i64 y) := by rw [hy]; exact HR.out.at.2.2.2.2.1 d hyl
      have hfy := HR.out.at.2.2.2.2.2 d
      obtain ⟨y0, y1⟩ : 0 ≤ y ∧ y ≤ (k : Int) := by rw [hy]; exact HY.out _ (List.getElem_mem hyl)
      have HE := Lib.hid hd2
      have HYV := Lib.hid hy
      have HS := Lib.hid (cntF_step xs k ys hlt)
      clear hc hd hd2 hy
      go_wp2
      go_roundw
      case rel =>
        have h2 := HR.out.set d (y + 1)
        have hbm : bump ys xs[k] = ys.set d (y + 1) := by rw [HE.out, bump_nat ys d hyl, HYV.out]
        refine ⟨k + 1, ys.set d (y + 1), by omega, by go_num, h2.1, HB.out.setCell (p := ⟨w.heap.size, d, none⟩) (Nat.le_refl _) _, Lib.hid (by simp [HL.out]), Lib.hid ?_, by rw [← HC.out, HS.out, hbm]⟩
        rw [← hbm]
        intro z hz
        have := bump_bd ys xs[k] k HY.out (by omega) z hz
        omega
      case measure => simp [intOf]; omega
    · obtain rfl : k = xs.length := by omega
      go_wp2
      go_ret
      exact ⟨_, rfl, by have := HC.out; rw [List.drop_length] at this; rw [← this]; exact HR.out, HB.out⟩

theorem digitCounts_any (n b : Int) (w : World) (h0 : 0 ≤ n) (h1 : n ≤ 1000000000000) (hb : 2 ≤ b) (hb' : b ≤ 16) :
    Calls Tryz.prog 225 #[.int .i64 b, .int .i64 n] w fun e w' => ∃ u, e = .returned u ∧ Rd w' w.heap.size u (cnt b (dgs b n)) ∧ Below w.heap.size w w' := by
  obtain ⟨xs, hxs⟩ : ∃ xs, xs = dgs b n := ⟨_, rfl⟩
  have hlen : xs.length ≤ 40 := by rw [hxs]; exact dgs_len40 b n hb h0 h1
  have hall := Lib.hid (show ∀ x ∈ xs, 0 ≤ x ∧ x ≤ b - 1 by rw [hxs]; exact dgs_all b n hb h0)
  have HX0 := Lib.hid hxs
  clear hxs
  rw [← HX0.out]
  obtain ⟨nb, rfl⟩ : ∃ nb : Nat, b = (nb : Int) := ⟨b.toNat, by omega⟩
  have hnb : ((nb : Int).toNat) = nb := by omega
  have HN := Lib.hid hnb
  clear hnb
  go_enter Tryz.func225, Tryz.ntmps225
  go_wp2_with (at_make; refine wpList_mkR rfl _ _ rfl .i64 .i64 _ _ nb rfl rfl rfl rfl (by omega) ?_; intro w1 hr1 hg1 hb1)
  have R1 := Lib.hid hr1
  have B1 := Lib.hid hb1
  have Z1 := hb1.size
  clear hr1 hg1 hb1
  go_wp2_with fail
  refine (digits_any _ _ _ h0 (by omega) hb hb').mono ?_
  rintro e w2 ⟨p, cap, rfl, hr, hbl⟩
  rw [← HX0.out] at hr
  rw [← HX0.out]
  have RX := Lib.hid hr
  have hp := hr.at.2.1
  have R2 := Lib.hid (R1.out.keep hbl)
  have B2 := Lib.hid (Below.step B1.out Z1 hbl)
  have hgw : w.heap.size < w1.heap.size := (R1.out.lt w.heap.size rfl).2
  clear hr hbl
  go_wp2
  go_loopw [14] (fun i wr => ∃ (k : Nat) (ys : List Int), k ≤ xs.length ∧ i = .int .i64 k ∧ Rd wr w.heap.size (.slice (some ⟨w.heap.size, 0, none⟩) nb nb) ys ∧ Below w.heap.size w wr ∧ Rd wr w1.heap.size (.slice (some ⟨p, 0, none⟩) xs.length cap) xs ∧ Hid (ys.length = nb) ∧ Hid (∀ y ∈ ys, 0 ≤ y ∧ y ≤ (k : Int)) ∧ cntF (xs.drop k) ys = cnt nb xs) (fun i _ => xs.length - (intOf i).toNat)
  case atStart => exact ⟨0, _, Nat.zero_le _, rfl, R2.out, B2.out, RX.out, Lib.hid (by simp), Lib.hid (fun y hy => by have := (List.mem_replicate.1 hy).2; omega), by simp [cnt]⟩
  case round =>
    obtain ⟨k, ys, hk, rfl, hr, hb1, hrx, HL, HY, hc⟩ := hrel
    have HR := Lib.hid hr
    have HB := Lib.hid hb1
    have HX := Lib.hid hrx
    have HC := Lib.hid hc
    clear hr hb1 hc hrx
    by_cases hlt : k < xs.length
    · have hd := hall.out _ (List.getElem_mem hlt)
      obtain ⟨d, hd2⟩ : ∃ d : Nat, xs[k] = (d : Int) := ⟨xs[k].toNat, by omega⟩
      have hdn : d < nb := by omega
      have hcell : wr.cell? ⟨p, k, none⟩ = some (.int .i64 (d : Int)) := by rw [← hd2]; exact HX.out.at.2.2.2.2.1 k hlt
      have hyl : d < ys.length := by rw [HL.out]; exact hdn
      obtain ⟨y, hy⟩ : ∃ y, y = ys[d] := ⟨_, rfl⟩
      have hcy : wr.cell? ⟨w.heap.size, d, none⟩ = some (.int .i64 y) := by rw [hy]; exact HR.out.at.2.2.2.2.1 d hyl
      have hfy := HR.out.at.2.2.2.2.2 d
      obtain ⟨y0, y1⟩ : 0 ≤ y ∧ y ≤ (k : Int) := by rw [hy]; exact HY.out _ (List.getElem_mem hyl)
      have HE := Lib.hid hd2
      have HYV := Lib.hid hy
      have HS := Lib.hid (cntF_step xs k ys hlt)
      clear hd hd2 hy
      go_wp2
      go_roundw
      case rel =>
        have h2 := HR.out.set d (y + 1)
        have hbm : bump ys xs[k] = ys.set d (y + 1) := by rw [HE.out, bump_nat ys d hyl, HYV.out]
        refine ⟨k + 1, ys.set d (y + 1), by omega, by go_num, h2.1, HB.out.setCell (p := ⟨w.heap.size, d, none⟩) (Nat.le_refl _) _, HX.out.grown h2.2 (.inr (by simp [Value.ownBlock]; omega)), Lib.hid (by simp [HL.out]), Lib.hid ?_, by rw [← HC.out, HS.out, hbm]⟩
        rw [← hbm]
        intro z hz
        have := bump_bd ys xs[k] k HY.out (by omega) z hz
        omega
      case measure => simp [intOf]; omega
    · obtain rfl : k = xs.length := by omega
      go_wp2
      go_ret
      exact ⟨_, rfl, by have := HC.out; rw [List.drop_length] at this; rw [← this]; exact HR.out, HB.out⟩

end Go.Proofs.YtlbjeiaihenjkaaGreatDoor
