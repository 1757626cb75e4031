/-
  The program: the images of a map, walked; the numbers on cycles.
-/
import Derived.Test.YtejehmplebjnmaaFC
namespace Go.Proofs.Ytejehmplebjnmaa
open Go.RowKit
set_option linter.unusedVariables false
set_option linter.unusedSimpArgs false
set_option maxRecDepth 100000

/-- What is in the image of a set but for the numbers still to come. -/
def part (f : Nat → Nat) (n : Nat) (s l : Nat → Bool) : Nat → Bool := fun y => (List.range n).any fun x => s x && !l x && f x == y
theorem part_start (f : Nat → Nat) (n : Nat) (s : Nat → Bool) : part f n s s = fun _ => false := by
  funext y
  unfold part
  rw [List.any_eq_false]
  intro x _
  cases s x <;> simp
theorem part_step {f : Nat → Nat} {n : Nat} {s l : Nat → Bool} {x : Nat} (hx : x < n) (hs : s x = true) (hl : l x = true) : adj (part f n s l) (f x) true = part f n s (adj l x false) := by
  funext y
  unfold adj
  rw [Bool.eq_iff_iff]
  by_cases e : y = f x
  · subst e
    rw [if_pos rfl]
    simp only [true_iff]
    unfold part
    rw [List.any_eq_true]
    exact ⟨x, List.mem_range.2 hx, by simp [hs]⟩
  · rw [if_neg e]
    unfold part
    rw [List.any_eq_true, List.any_eq_true]
    constructor
    · rintro ⟨z, hz, h⟩
      refine ⟨z, hz, ?_⟩
      by_cases e2 : z = x
      · subst e2; simp [hl] at h
      · simpa [e2] using h
    · rintro ⟨z, hz, h⟩
      refine ⟨z, hz, ?_⟩
      by_cases e2 : z = x
      · subst e2; simp at h; exact absurd h.2.symm e
      · simpa [e2] using h
theorem part_end {f : Nat → Nat} {n k : Nat} {l : Nat → Bool} (h : Into f n) (hl : ∀ x, x < n → l x = false) : ∀ y, y < n → part f n (img f n k) l y = img f n (k + 1) y := by
  intro y hy
  rw [Bool.eq_iff_iff, img_succ h]
  unfold part
  rw [List.any_eq_true]
  constructor
  · rintro ⟨x, hx, hh⟩
    simp only [Bool.and_eq_true, beq_iff_eq] at hh
    exact ⟨x, hh.1.1, hh.2⟩
  · rintro ⟨x, hx, rfl⟩
    have hxn := img_lt h hx
    exact ⟨x, List.mem_range.2 hxn, by simp [hx, hl x hxn]⟩

theorem fun_upto {P : Nat → Prop} {k : Nat} (h : ∀ j, j < k → P j) (hk : P k) : ∀ j, j < k + 1 → P j := fun j hj => by
  by_cases e : j = k
  · subst e; exact hk
  · exact h j (by omega)

theorem imgs_snoc {w w' : World} {C n k gv cv c : Nat} {f : Nat → Nat} {bs : List Nat} {o : Obj} {v' : Value} (h : Imgs w C n f (.slice (some ⟨gv, 0, none⟩) (k + 1) cv) bs) (hl : bs.length = k + 1) (hs : St w n c (img f n (k + 1))) (hC : C ≤ w.heap.size) (hc : C ≤ c)
    (hr : Rg 78 w' C v' (bs.map (fun b => Value.map (some b)) ++ [.map (some c)])) (hg : (w.alloc o).grownBy w' (Value.slice (some ⟨gv, 0, none⟩) (k + 1) cv).ownBlock) :
    Imgs w' C n f v' (bs ++ [c]) ∧ ∃ g2 c2, v' = .slice (some ⟨g2, 0, none⟩) (k + 1 + 1) c2 := by
  refine ⟨⟨by rw [List.map_append]; exact hr, fun i b hi => ?_⟩, ?_⟩
  · by_cases hik : i < k + 1
    · rw [List.getElem?_append_left (by omega)] at hi
      obtain ⟨h1, h2⟩ := h.2 i b hi
      exact ⟨h1, (h2.alloc o).kept hg (row_not_set (h.1.alloc o) (h2.alloc o))⟩
    · rw [List.getElem?_append_right (by omega)] at hi
      by_cases hi0 : i = k + 1
      · subst hi0
        rw [hl, Nat.sub_self] at hi
        simp only [List.getElem?_cons_zero, Option.some.injEq] at hi
        subst hi
        exact ⟨hc, (hs.alloc o).kept hg (row_not_set (h.1.alloc o) (hs.alloc o))⟩
      · rw [List.getElem?_eq_none (by simp; omega)] at hi
        cases hi
  · rcases hr.cases with ⟨_, h2⟩ | ⟨g2, c2, h2⟩
    · exact absurd (congrArg List.length h2) (by simp)
    · refine ⟨g2, c2, ?_⟩
      rw [h2]
      simp [hl]

theorem images_any (g n cap : Nat) (f : Nat → Nat) (w : World) (h : Mg w g n f) :
    Calls Try.prog 106 #[.slice (some ⟨g, 0, none⟩) n cap] w fun e w' => ∃ (v : Value) (bs : List Nat) (k : Nat), e = .returned v ∧ Imgs w' w.heap.size n f v bs ∧ bs.length = k + 1 ∧ k + 1 ≤ n ∧ (∀ j, j < k → cnt n (img f n (j + 1)) ≠ cnt n (img f n j)) ∧ cnt n (img f n (k + 1)) = cnt n (img f n k) ∧ Below w.heap.size w w' := by
  have H := Lib.hid h
  have h0 := h.n0
  have h1 := h.n1
  have hmm := @run_makeMap Try.prog
  clear h
  go_enter Try.func106, Try.ntmps106
  go_wp2_with fail
  refine (numbers_any g n cap f _ H.out).mono ?_
  rintro e w1 ⟨b0, rfl, hb0, hs, hb⟩
  have HB1 := Lib.hid hb
  have HI1 := Lib.hid (show Imgs (w1.alloc (.cells #[.map (some b0)] 78)) w.heap.size n f (.slice (some ⟨w1.heap.size, 0, none⟩) 1 1) [b0] from
    ⟨Rg.lit _ _ _ _ hb.size, fun i b hi => by
      cases i with
      | zero => simp only [List.getElem?_cons_zero, Option.some.injEq] at hi; subst hi; exact ⟨hb0, hs.alloc _⟩
      | succ i => simp at hi⟩)
  clear hb0 hs hb
  go_wp2
  go_loopw [3] (fun v wr => ∃ (bs : List Nat) (k : Nat) (gv cv : Nat), v = .slice (some ⟨gv, 0, none⟩) (k + 1) cv ∧ Imgs wr w.heap.size n f v bs ∧ bs.length = k + 1 ∧ (∀ j, j < k → cnt n (img f n (j + 1)) ≠ cnt n (img f n j)) ∧ Below w.heap.size w wr) (fun v _ => n - lenOf v)
  case atStart => exact ⟨[b0], 0, _, _, rfl, HI1.out, rfl, fun j hj => by omega, HB1.out.alloc HB1.out.size _⟩
  case round =>
    rename World => wa
    obtain ⟨bs, k, gv, cv, rfl, hi, hl, hk, hb⟩ := hrel
    have HI := Lib.hid hi
    have HL := Lib.hid hl
    have HK := Lib.hid hk
    have HB := Lib.hid hb
    have hkn := img_bound H.out.into h0 hk
    have hwa := hb.size
    obtain ⟨b, hbk⟩ : ∃ b, bs[k]? = some b := ⟨bs[k]'(by omega), by simp⟩
    have HBK := Lib.hid hbk
    have hcell : wa.cell? ⟨gv, k, none⟩ = some (.map (some b)) := by
      obtain ⟨_, _, _, _, _, hc, _⟩ := hi.1.at
      rw [hc k (by simp; omega)]
      obtain ⟨hk2, hk3⟩ := List.getElem?_eq_some_iff.1 hbk
      simp [hk3]
    have HS := Lib.hid (hi.2 k b hbk).2
    have hCb := (hi.2 k b hbk).1
    have hblt := (hi.2 k b hbk).2.lt
    clear hi hl hk hb hbk
    have er : (wa.alloc (.map #[] 0)).heap.size = wa.heap.size + 1 := by simp
    go_wp2_with (at_range; refine wpList_rangeS rfl _ rfl n b _ rfl (HS.out.alloc _) ?_; intro w2 hr2 hg2 hz2)
    rw [er] at hr2
    have HR2 := Lib.hid hr2
    have HS2 := Lib.hid ((St.made wa n).kept hg2 (by simp))
    have HB2 := Lib.hid (((Below.refl wa.heap.size wa).alloc (Nat.le_refl _) (.map #[] 0)).grown hg2 (by simp) (fun q hq => by cases hq))
    have hz2' : wa.heap.size + 2 ≤ w2.heap.size := by rw [hz2, er]; exact Nat.le_refl _
    have HZ2 := Lib.hid hz2'
    clear hr2 hg2 hz2 hz2'
    go_frame
    simp only [er]
    go_loopw [6] (fun _ wq => ∃ l, Ran wq n b (wa.heap.size + 1) (img f n k) l ∧ St wq n wa.heap.size (part f n (img f n k) l) ∧ Below wa.heap.size wa wq ∧ wa.heap.size + 2 ≤ wq.heap.size) (fun _ wq => wq.rangeLeft b (wa.heap.size + 1))
    case atStart => exact ⟨_, HR2.out, by rw [part_start]; exact HS2.out, HB2.out, HZ2.out⟩
    case round =>
      obtain ⟨l, hr, hs, hb, hz⟩ := hrel
      have HRq := Lib.hid hr
      have HSq := Lib.hid hs
      have HBq := Lib.hid hb
      have HZq := Lib.hid hz
      clear hr hs hb hz
      go_wp2_with (at_next; go_loud (refine wpList_nextS rfl _ rfl n b (wa.heap.size + 1) _ l rfl HRq.out ?_ ?_))
      · intro hl0
        have HE := Lib.hid (part_end (k := k) H.out.into hl0)
        have HC := Lib.hid (cnt_congr HE.out)
        have HBn := Lib.hid (Below.step HB.out HB.out.size HBq.out)
        have HIq := Lib.hid (HI.out.keep HBq.out)
        by_cases he : cnt n (img f n (k + 1)) = cnt n (img f n k)
        · have hbq : (((cnt n (part f n (img f n k) l) : Nat) : Int) == ((cnt n (img f n k) : Nat) : Int)) = true := beq_yes (by rw [HC.out, he])
          go_wp2_with (first | (at_len; refine wpList_lenS rfl _ rfl n wa.heap.size _ rfl HSq.out ?_) | (at_len; refine wpList_lenS rfl _ rfl n b _ rfl HRq.out.st ?_))
          go_ret
          exact ⟨_, bs, k, rfl, HIq.out, HL.out, hkn, HK.out, he, HBn.out⟩
        · have hbq : (((cnt n (part f n (img f n k) l) : Nat) : Int) == ((cnt n (img f n k) : Nat) : Int)) = false := beq_no (by rw [HC.out]; omega)
          have HN := Lib.hid he
          clear he
          go_wp2_with (first | (at_len; refine wpList_lenS rfl _ rfl n wa.heap.size _ rfl HSq.out ?_) | (at_len; refine wpList_lenS rfl _ rfl n b _ rfl HRq.out.st ?_) | (at_builtin; refine wpList_appG rfl _ _ _ 78 (.map none) 8 Try.underlying88 infoM (by omega) rfl rfl w.heap.size w.heap.size _ _ _ [.map (some wa.heap.size)] rfl rfl (HIq.out.1.alloc _) (Rg.lit _ _ _ _ HBn.out.size) (by simp [Value.oneCell']) (by have := HL.out; simp; omega) (by have := HBn.out.size; simp; omega) ?_; intro v1 w3 hr3 hg3 hb3))
          have HG := Lib.hid (imgs_snoc HIq.out HL.out (HSq.out.congr HE.out) HBn.out.size hwa hr3 hg3)
          have HB3 := Lib.hid ((HBn.out.alloc HBn.out.size _).trans hb3)
          obtain ⟨gv', cv', hv'⟩ := HG.out.2
          have HG2 := Lib.hid HG.out.1
          clear hr3 hg3 hb3 HG
          subst hv'
          go_wp2
          go_roundw
          case rel => exact ⟨bs ++ [wa.heap.size], k + 1, gv', cv', rfl, HG2.out, by simp [HL.out], fun_upto HK.out HN.out, HB3.out⟩
          case measure =>
            have hk2 := img_bound H.out.into h0 (fun_upto HK.out HN.out)
            simp [lenOf]; omega
      · intro x w3 hx hlx hsx hr3 hlt3 hg3 hz3 hen
        have HR3 := Lib.hid hr3
        have HB3 := Lib.hid (HBq.out.grown hg3 HBq.out.size (fun q hq => by cases hq; omega))
        have HS3 := Lib.hid (HSq.out.kept hg3 (by simp))
        have hcell := (H.out.keep (Below.step HB.out HB.out.size HB3.out)).cell x hx
        have hfx := H.out.into x hx
        have HL3 := Lib.hid hlt3
        have HZ3 := Lib.hid hz3
        clear hr3 hg3 hz3 hlt3
        go_wp2_with (at_mapUpdate; refine wpList_putS rfl _ _ _ rfl n wa.heap.size _ (f x) rfl rfl rfl HS3.out hfx h1 ?_; intro w4 hs4 hg4)
        have HR4 := Lib.hid (HR3.out.kept hg4 (by simp; omega) (by simp))
        have HB4 := Lib.hid (HB3.out.grown hg4 HB3.out.size (fun q hq => by cases hq; exact Nat.le_refl _))
        have HS4 := Lib.hid (part_step hx hsx hlx ▸ hs4)
        have HZ4 := Lib.hid (Nat.le_trans HZq.out (Nat.le_trans (Nat.le_of_eq HZ3.out.symm) hg4.size))
        clear hs4 hg4
        go_frame
        go_roundw
        case rel => exact ⟨_, HR4.out.1, HS4.out, HB4.out, HZ4.out⟩
        case measure => rw [HR4.out.2]; exact HL3.out

/-- The set of the numbers on cycles. -/
theorem onCycles_any (g n cap : Nat) (f : Nat → Nat) (w : World) (h : Mg w g n f) :
    Calls Try.prog 93 #[.slice (some ⟨g, 0, none⟩) n cap] w fun e w' => ∃ b, e = .returned (.map (some b)) ∧ w.heap.size ≤ b ∧ St w' n b (cyc f n) ∧ Below w.heap.size w w' := by
  have H := Lib.hid h
  have h0 := h.n0
  have h1 := h.n1
  clear h
  go_enter Try.func93, Try.ntmps93
  go_wp2_with fail
  refine (images_any g n cap f _ H.out).mono ?_
  rintro e w1 ⟨v, bs, k, rfl, hi, hl, hkn, hk, he, hb⟩
  obtain ⟨b, hbk⟩ : ∃ b, bs[k]? = some b := ⟨bs[k]'(by omega), by simp⟩
  obtain ⟨hC, hS⟩ := hi.2 k b hbk
  have HS := Lib.hid (hS.congr (img_stop H.out.into he))
  rcases hi.1.cases with ⟨_, h2⟩ | ⟨gv, cv, rfl⟩
  · exact absurd (congrArg List.length h2) (by rw [List.length_map, hl]; simp)
  have hcell : w1.cell? ⟨gv, k, none⟩ = some (.map (some b)) := by
    obtain ⟨_, _, _, _, _, hc, _⟩ := hi.1.at
    rw [hc k (by simp; omega)]
    obtain ⟨hk2, hk3⟩ := List.getElem?_eq_some_iff.1 hbk
    simp [hk3]
  have hlen : (bs.map fun b => Value.map (some b)).length = k + 1 := by simp [hl]
  rw [hlen]
  have HB := Lib.hid hb
  have HL := Lib.hid hl
  clear hi hl hk he hb hbk hS hlen
  go_wp2
  go_ret
  exact ⟨b, rfl, hC, HS.out, HB.out⟩

end Go.Proofs.Ytejehmplebjnmaa
