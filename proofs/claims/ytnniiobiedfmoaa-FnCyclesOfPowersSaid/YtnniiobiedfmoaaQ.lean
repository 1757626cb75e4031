/-
  How often each digit comes.
-/
import Derived.Test.YtnniiobiedfmoaaC
import Derived.Test.YtnniiobiedfmoaaE
namespace Go.Proofs.Ytnniiobiedfmoaa
open Go.RowKit
set_option linter.unusedVariables false
set_option linter.unusedSimpArgs false

/-- One more of digit d. -/
def bump (ys : List Int) (d : Int) : List Int := ys.set d.toNat (ys.getD d.toNat 0 + 1)
def cntF : List Int → List Int → List Int
  | [], ys => ys
  | d :: ds, ys => cntF ds (bump ys d)
/-- How often each digit below b comes. -/
def cnt (b : Int) (xs : List Int) : List Int := cntF xs (List.replicate b.toNat 0)

theorem cntF_step (xs : List Int) (k : Nat) (ys : List Int) (h : k < xs.length) : cntF (xs.drop k) ys = cntF (xs.drop (k + 1)) (bump ys xs[k]) := by
  rw [drop_cons xs k h]; rfl
theorem bump_len (ys : List Int) (d : Int) : (bump ys d).length = ys.length := by simp [bump]
theorem cntF_len (xs : List Int) : ∀ ys, (cntF xs ys).length = ys.length := by
  induction xs with
  | nil => intro ys; rfl
  | cons d ds ih => intro ys; rw [cntF, ih, bump_len]
theorem cnt_len (b : Int) (xs : List Int) : (cnt b xs).length = b.toNat := by simp [cnt, cntF_len]

theorem bump_bd (ys : List Int) (d : Int) (m : Int) (h : ∀ y ∈ ys, 0 ≤ y ∧ y ≤ m) (hm : 0 ≤ m) : ∀ y ∈ bump ys d, 0 ≤ y ∧ y ≤ m + 1 := by
  intro y hy
  rcases List.mem_or_eq_of_mem_set hy with hy | rfl
  · have := h y hy; omega
  · by_cases hd : d.toNat < ys.length
    · have h1 : ys.getD d.toNat 0 = ys[d.toNat] := by simp [hd]
      have := h _ (List.getElem_mem hd)
      rw [h1]; omega
    · have h1 : ys.getD d.toNat 0 = 0 := by simp [Nat.not_lt.1 hd]
      rw [h1]; omega

theorem bump_nat (ys : List Int) (d : Nat) (h : d < ys.length) : bump ys (d : Int) = ys.set d (ys[d] + 1) := by
  simp [bump, h]

theorem dgCounts_any (v : Value) (xs : List Int) (b : Int) (w : World) (B : Nat) (h : Rd w B v xs) (hb : 2 ≤ b) (hb' : b ≤ 16) (hall0 : ∀ x ∈ xs, 0 ≤ x ∧ x ≤ b - 1) (hl : xs.length ≤ 2000000) :
    Calls Try.prog 93 #[v, .int .i64 b] w fun e w' => ∃ u, e = .returned u ∧ Rd w' w.heap.size u (cnt b xs) ∧ Below w.heap.size w w' := by
  obtain ⟨a, cap0, rfl, hx⟩ := h.sl
  have HX := Lib.hid hx
  have hall := Lib.hid hall0
  clear hx h hall0
  obtain ⟨nb, rfl⟩ : ∃ nb : Nat, b = (nb : Int) := ⟨b.toNat, by omega⟩
  have hnb : ((nb : Int).toNat) = nb := by omega
  have HN := Lib.hid hnb
  clear hnb
  go_enter Try.func93, Try.ntmps93
  go_wp2_with (at_make; refine wpList_mkR rfl _ _ rfl .i64 .i64 _ _ nb rfl rfl rfl rfl (by omega) ?_; intro w1 hr1 hg1 hb1)
  have R1 := Lib.hid hr1
  have B1 := Lib.hid hb1
  clear hr1 hg1 hb1
  go_loopw [12] (fun i wr => ∃ (k : Nat) (ys : List Int), k ≤ xs.length ∧ i = .int .i64 k ∧ Rd wr w.heap.size (.slice (some ⟨w.heap.size, 0, none⟩) nb nb) ys ∧ Below w.heap.size w wr ∧ Hid (ys.length = nb) ∧ Hid (∀ y ∈ ys, 0 ≤ y ∧ y ≤ (k : Int)) ∧ cntF (xs.drop k) ys = cnt nb xs) (fun i _ => xs.length - (intOf i).toNat)
  case atStart => exact ⟨0, _, Nat.zero_le _, rfl, R1.out, B1.out, Lib.hid (by simp), Lib.hid (fun y hy => by have := (List.mem_replicate.1 hy).2; omega), by simp [cnt]⟩
  case round =>
    obtain ⟨k, ys, hk, rfl, hr, hb1, HL, HY, hc⟩ := hrel
    have HR := Lib.hid hr
    have HB := Lib.hid hb1
    have HC := Lib.hid hc
    clear hr hb1 hc
    by_cases hlt : k < xs.length
    · rcases HX.out with hx | ⟨p, off, rfl, hbl, hc⟩
      · rw [hx] at hlt; simp at hlt
      have hd := hall.out _ (List.getElem_mem hlt)
      obtain ⟨d, hd2⟩ : ∃ d : Nat, xs[k] = (d : Int) := ⟨xs[k].toNat, by omega⟩
      have hdn : d < nb := by omega
      have hcell : wr.cell? ⟨p, off + k, none⟩ = some (.int .i64 (d : Int)) := by rw [← hd2]; exact (HB.out.cell (p := ⟨p, off + k, none⟩) hbl).trans (hc k hlt)
      have hyl : d < ys.length := by rw [HL.out]; exact hdn
      obtain ⟨y, hy⟩ : ∃ y, y = ys[d] := ⟨_, rfl⟩
      have hcy : wr.cell? ⟨w.heap.size, d, none⟩ = some (.int .i64 y) := by rw [hy]; exact HR.out.at.2.2.2.2.1 d hyl
      have hfy := HR.out.at.2.2.2.2.2 d
      obtain ⟨y0, y1⟩ : 0 ≤ y ∧ y ≤ (k : Int) := by rw [hy]; exact HY.out _ (List.getElem_mem hyl)
      have HE := Lib.hid hd2
      have HYV := Lib.hid hy
      have HS := Lib.hid (cntF_step xs k ys hlt)
      clear hc hd hd2 hy
      go_wp2
      go_roundw
      case rel =>
        have h2 := HR.out.set d (y + 1)
        have hbm : bump ys xs[k] = ys.set d (y + 1) := by rw [HE.out, bump_nat ys d hyl, HYV.out]
        refine ⟨k + 1, ys.set d (y + 1), by omega, by go_num, h2.1, HB.out.setCell (p := ⟨w.heap.size, d, none⟩) (Nat.le_refl _) _, Lib.hid (by simp [HL.out]), Lib.hid ?_, by rw [← HC.out, HS.out, hbm]⟩
        rw [← hbm]
        intro z hz
        have := bump_bd ys xs[k] k HY.out (by omega) z hz
        omega
      case measure => simp [intOf]; omega
    · obtain rfl : k = xs.length := by omega
      go_wp2
      go_ret
      exact ⟨_, rfl, by have := HC.out; rw [List.drop_length] at this; rw [← this]; exact HR.out, HB.out⟩

end Go.Proofs.Ytnniiobiedfmoaa
