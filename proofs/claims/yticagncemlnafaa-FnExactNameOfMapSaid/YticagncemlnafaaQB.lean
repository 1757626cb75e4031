/-
  Basins, the program's and the model's.
-/
import Derived.Test.YticagncemlnafaaQA
namespace Go.Proofs.Yticagncemlnafaa
open Go.RowKit
set_option linter.unusedVariables false
set_option linter.unusedSimpArgs false
set_option maxRecDepth 100000

def basF (f : Nat → Nat) (n x : Nat) : Nat := idx f n (it f n x)

/-- The numbers of the first i cycles, and the first j of the cycle behind them, have their cycles' indexes. -/
def Idxd (f : Nat → Nat) (n i j : Nat) (F : Nat → Nat) : Prop :=
  (∀ (a : Nat) (l : List Nat), a < i → (cycs f n)[a]? = some l → ∀ y ∈ l, F y = a) ∧ ∀ l, (cycs f n)[i]? = some l → ∀ t, t < j → ∀ y, l[t]? = some y → F y = i

theorem Idxd.step {f : Nat → Nat} {n i j y : Nat} {F : Nat → Nat} {l : List Nat} (h : Into f n) (hI : Idxd f n i j F) (hl : (cycs f n)[i]? = some l) (hy : l[j]? = some y) : Idxd f n i (j + 1) (fun x => if x = y then i else F x) := by
  have hym := List.mem_of_getElem? hy
  refine ⟨fun a m ha hm z hz => ?_, fun m hm t ht z hz => ?_⟩
  · by_cases e : z = y
    · subst e
      have := cycs_disj h hm hl hz hym
      omega
    · simp only [e, if_false]; exact hI.1 a m ha hm z hz
  · rw [hl] at hm
    simp only [Option.some.injEq] at hm
    subst hm
    by_cases e : z = y
    · simp [e]
    · simp only [e, if_false]
      refine hI.2 l hl t ?_ z hz
      by_cases e2 : t = j
      · subst e2; rw [hy] at hz; simp only [Option.some.injEq] at hz; exact absurd hz.symm e
      · omega
theorem Idxd.next {f : Nat → Nat} {n i : Nat} {F : Nat → Nat} {l : List Nat} (hI : Idxd f n i l.length F) (hl : (cycs f n)[i]? = some l) : Idxd f n (i + 1) 0 F := by
  refine ⟨fun a m ha hm z hz => ?_, fun m hm t ht => absurd ht (Nat.not_lt_zero _)⟩
  by_cases e : a = i
  · subst e
    rw [hl] at hm
    simp only [Option.some.injEq] at hm
    subst hm
    obtain ⟨t, ht, he⟩ := List.getElem_of_mem hz
    exact hI.2 l hl t ht z (by rw [List.getElem?_eq_getElem ht, he])
  · exact hI.1 a m (by omega) hm z hz
theorem Idxd.idx {f : Nat → Nat} {n i y : Nat} {F : Nat → Nat} (h : Into f n) (hI : Idxd f n i 0 F) (hi : (cycs f n).length ≤ i) (hc : cyc f n y = true) : F y = idx f n y := by
  obtain ⟨l, h1, h2, h3⟩ := idx_spec h hc
  exact hI.1 _ l (Nat.lt_of_lt_of_le (List.getElem?_eq_some_iff.1 h1).1 hi) h1 y h2

theorem LLv.shape {w : World} {B i : Nat} {v : Value} {vs : List Value} {ls : List (List Nat)} {l : List Nat} (h : LLv w B v vs ls) (hl : ls[i]? = some l) (hne : l ≠ []) : ∃ gu cu, vs[i]? = some (.slice (some ⟨gu, 0, none⟩) l.length cu) ∧ Rd w B (.slice (some ⟨gu, 0, none⟩) l.length cu) (nts l) := by
  have h1 := (List.getElem?_eq_some_iff.1 hl).1
  have h2 : i < vs.length := by rw [h.len]; exact h1
  have h3 : vs[i]? = some vs[i] := by simp [h2]
  have hr := h.at' i _ l h3 hl
  rcases hr.cases with ⟨_, hx⟩ | ⟨gu, cu, hu, _⟩
  · exfalso
    apply hne
    have := congrArg List.length hx
    rw [nts_len] at this
    exact List.eq_nil_of_length_eq_zero this
  · rw [nts_len] at hu
    rw [hu] at hr h3
    exact ⟨gu, cu, h3, hr⟩

theorem LLv.outer {w : World} {B : Nat} {v : Value} {vs : List Value} {ls : List (List Nat)} (h : LLv w B v vs ls) (hne : ls ≠ []) : ∃ gv cv, v = .slice (some ⟨gv, 0, none⟩) ls.length cv := by
  rcases h.row.cases with ⟨_, hx⟩ | ⟨gv, cv, hv⟩
  · exfalso
    apply hne
    have h1 := h.len
    rw [hx] at h1
    exact List.eq_nil_of_length_eq_zero h1.symm
  · rw [h.len] at hv
    exact ⟨gv, cv, hv⟩

theorem cycs_ne {f : Nat → Nat} {n : Nat} (h : Into f n) (h0 : 1 ≤ n) : cycs f n ≠ [] := by
  obtain ⟨i, l, h1, _⟩ := cycs_has h (cyc_at (f := f) (show 0 < n by omega))
  intro e
  rw [e] at h1
  simp at h1

theorem basins_any (g n cap : Nat) (f : Nat → Nat) (w : World) (h : Mp w g n f) :
    Calls Try.prog 69 #[.slice (some ⟨g, 0, none⟩) n cap] w fun e w' => ∃ g2 c2, e = .returned (.slice (some ⟨g2, 0, none⟩) n c2) ∧ Rd w' w.heap.size (.slice (some ⟨g2, 0, none⟩) n c2) (lst n (basF f n)) ∧ Below w.heap.size w w' := by
  have H := Lib.hid h
  have h0 := h.n0
  have h1 := h.n1
  clear h
  go_enter Try.func69, Try.ntmps69
  go_wp2_with (at_make; refine wpList_mkM rfl _ _ _ Try.underlying22 rfl .i64 .i64 _ _ n rfl rfl rfl rfl (by omega) ?_; intro w1 hr1 hg1 hb1)
  have HR1 := Lib.hid hr1
  have HB1 := Lib.hid hb1
  clear hr1 hg1 hb1
  refine (cycles_any g n cap f _ (H.out.keep HB1.out)).mono ?_
  rintro e w2 ⟨v, vs, rfl, hv, hb⟩
  obtain ⟨gv, cv, rfl⟩ := hv.outer (cycs_ne H.out.into h0)
  have HV := Lib.hid hv
  have HR2 := Lib.hid (HR1.out.keep hb)
  have HB2 := Lib.hid (Below.step HB1.out HB1.out.size hb)
  have HGW := Lib.hid (show w.heap.size < w1.heap.size from (HR1.out.lt w.heap.size rfl).2)
  have HCL := Lib.hid (cycsTo_len f n n)
  obtain ⟨m, hm⟩ : ∃ m, m = (cycs f n).length := ⟨_, rfl⟩
  have HM := Lib.hid hm
  rw [← hm]
  have hm60 : m ≤ 60 := by have := HCL.out; unfold cycs at hm; omega
  clear hv hb hm
  go_wp2
  go_loopw [17] (fun i wr => ∃ (k : Nat) (F : Nat → Nat), k ≤ m ∧ i = .int .i64 k ∧ Idxd f n k 0 F ∧ Rd wr w.heap.size (.slice (some ⟨w.heap.size, 0, none⟩) n n) (lst n F) ∧ LLv wr w1.heap.size (.slice (some ⟨gv, 0, none⟩) m cv) vs (cycs f n) ∧ Below w.heap.size w wr) (fun i _ => m - (intOf i).toNat)
  case atStart => exact ⟨0, _, Nat.zero_le _, rfl, ⟨fun a l ha => absurd ha (Nat.not_lt_zero _), fun l hl t ht => absurd ht (Nat.not_lt_zero _)⟩, HR2.out, by rw [HM.out]; exact HV.out, HB2.out⟩
  case round =>
    obtain ⟨k, F, hk, rfl, hI, hr, hv, hb⟩ := hrel
    have HI := Lib.hid hI
    have HRk := Lib.hid hr
    have HVk := Lib.hid hv
    have HBk := Lib.hid hb
    clear hI hr hv hb
    by_cases hlt : k < m
    · obtain ⟨l, hl⟩ : ∃ l, (cycs f n)[k]? = some l := ⟨(cycs f n)[k]'(by have := HM.out; omega), by simp⟩
      have HL := Lib.hid hl
      obtain ⟨x, _, hlx, hlead, _⟩ := cycs_get hl
      have hlen : 1 ≤ l.length ∧ l.length ≤ n := by
        rw [hlx, rnd_len]
        obtain ⟨p1, p2, _⟩ := per_spec H.out.into ((lead_iff H.out.into).1 hlead).1
        exact ⟨p1, p2⟩
      obtain ⟨hl1, hl2⟩ := hlen
      obtain ⟨gu, cu, hvk, hru⟩ := HVk.out.shape hl (fun e => by rw [e] at hl1; simp at hl1)
      have hcell : wr.cell? ⟨gv, k, none⟩ = some (.slice (some ⟨gu, 0, none⟩) l.length cu) := by
        obtain ⟨i1, i2⟩ := List.getElem?_eq_some_iff.1 hvk
        obtain ⟨_, _, _, _, _, hc, _⟩ := HVk.out.row.at
        rw [hc k i1, i2]
      have HVK := Lib.hid hvk
      obtain ⟨p, hp⟩ : ∃ p, p = l.length := ⟨_, rfl⟩
      have HP := Lib.hid hp
      rw [← hp] at hcell hl1 hl2
      clear hl hlx hlead hvk hru hp
      go_wp2
      go_loopw [24] (fun i wr => ∃ (j : Nat) (F : Nat → Nat), j ≤ p ∧ i = .int .i64 j ∧ Idxd f n k j F ∧ Rd wr w.heap.size (.slice (some ⟨w.heap.size, 0, none⟩) n n) (lst n F) ∧ LLv wr w1.heap.size (.slice (some ⟨gv, 0, none⟩) m cv) vs (cycs f n) ∧ Below w.heap.size w wr) (fun i _ => p - (intOf i).toNat)
      case atStart => exact ⟨0, F, Nat.zero_le _, rfl, HI.out, HRk.out, HVk.out, HBk.out⟩
      case round =>
        obtain ⟨j, F, hj, rfl, hI, hr, hv, hb⟩ := hrel
        have HIj := Lib.hid hI
        have HRj := Lib.hid hr
        have HVj := Lib.hid hv
        have HBj := Lib.hid hb
        clear hI hr hv hb
        by_cases hjp : j < p
        · obtain ⟨y, hy⟩ : ∃ y, l[j]? = some y := ⟨l[j]'(by have := HP.out; omega), by simp⟩
          have hyn := (cycs_cyc H.out.into HL.out (List.mem_of_getElem? hy)).2
          have hru := HVj.out.at' k _ l HVK.out HL.out
          have hcy : wr.cell? ⟨gu, j, none⟩ = some (.int .i64 (y : Int)) := by
            rw [hru.at.2.2.2.2.1 j (by rw [nts_len]; have := HP.out; omega)]
            obtain ⟨j1, j2⟩ := List.getElem?_eq_some_iff.1 hy
            simp [nts, j2]
          obtain ⟨hcs, hfs⟩ := HRj.out.at.2.2.2.2
          obtain ⟨q, hd⟩ : ∃ q, wr.cell? ⟨w.heap.size, y, none⟩ = some (.int .i64 q) := ⟨_, hcs y (by rw [lst_len]; omega)⟩
          have hf := hfs y
          have HT := Lib.hid (HRj.out.setL y k)
          have HIs := Lib.hid (HIj.out.step H.out.into HL.out hy)
          have HVs := Lib.hid (HVj.out.grown HT.out.2 (row_not_rd HRj.out HVj.out.row) (fun i z hz => by
            obtain ⟨l2, _, hz2⟩ := HVj.out.rd hz
            cases hq : z.ownBlock with
            | none => exact .inl rfl
            | some q =>
              right
              intro e
              simp only [Option.some.injEq] at e
              have := (hz2.lt q hq).1
              have := HGW.out
              omega))
          have HBs := Lib.hid (HBj.out.setCell (p := ⟨w.heap.size, y, none⟩) (Nat.le_refl _) (.int .i64 (k : Int)))
          clear hcs hfs hru hy
          go_wp2
          go_roundw
          case rel => exact ⟨j + 1, _, by omega, by go_num, HIs.out, HT.out.1, HVs.out, HBs.out⟩
          case measure => simp [intOf]; omega
        · obtain rfl : j = p := by omega
          have HIn := Lib.hid (Idxd.next (HP.out ▸ HIj.out) HL.out)
          go_wp2
          go_roundw
          case rel => exact ⟨k + 1, F, by omega, by go_num, HIn.out, HRj.out, HVj.out, HBj.out⟩
          case measure => simp [intOf]; omega
    · obtain rfl : k = m := by omega
      go_wp2_with fail
      refine (power_any g n cap f n _ (H.out.keep HBk.out) (by omega)).mono ?_
      rintro e w3 ⟨g3, c3, rfl, hr, hb⟩
      have HP3 := Lib.hid (hr.mono HBk.out.size)
      have HR3 := Lib.hid (HRk.out.keep hb)
      have HB3 := Lib.hid (Below.step HBk.out HBk.out.size hb)
      have HG3 := Lib.hid (show w.heap.size < g3 from by have h2 := (hr.lt g3 rfl).1; have h3 := (HRk.out.lt w.heap.size rfl).2; omega)
      have HIF := Lib.hid (fun y hc => HI.out.idx H.out.into (y := y) (by rw [← HM.out]; exact Nat.le_refl _) hc)
      clear hr hb
      go_wp2
      go_loopw [40] (fun i wr => ∃ k : Nat, k ≤ n ∧ i = .int .i64 k ∧ Rd wr w.heap.size (.slice (some ⟨g3, 0, none⟩) n c3) (lst n (fun x => if x < k then basF f n x else it f n x)) ∧ Rd wr w.heap.size (.slice (some ⟨w.heap.size, 0, none⟩) n n) (lst n F) ∧ Below w.heap.size w wr) (fun i _ => n - (intOf i).toNat)
      case atStart => exact ⟨0, Nat.zero_le _, rfl, by rw [lst_congr (G := it f n) (fun x _ => by simp)]; exact HP3.out, HR3.out, HB3.out⟩
      case round =>
        obtain ⟨k2, hk2, rfl, hp, hr, hb⟩ := hrel
        have HPk := Lib.hid hp
        have HRj := Lib.hid hr
        have HBj := Lib.hid hb
        clear hp hr hb
        by_cases hlt2 : k2 < n
        · obtain ⟨y, hy⟩ : ∃ y, y = it f n k2 := ⟨_, rfl⟩
          have hyn := it_lt H.out.into n hlt2
          rw [← hy] at hyn
          obtain ⟨hcs, hfs⟩ := HPk.out.at.2.2.2.2
          have hc1 : wr.cell? ⟨g3, k2, none⟩ = some (.int .i64 (y : Int)) := by rw [hcs k2 (by rw [lst_len]; omega), lst_at, hy]; simp
          have hf := hfs k2
          have hc2 : wr.cell? ⟨w.heap.size, y, none⟩ = some (.int .i64 ((idx f n y : Nat) : Int)) := by
            rw [HRj.out.at.2.2.2.2.1 y (by rw [lst_len]; omega), lst_at, HIF.out y (by rw [hy]; exact cyc_at hlt2)]
          have HT := Lib.hid (HPk.out.setL k2 (idx f n y))
          have HR4 := Lib.hid (HRj.out.grown HT.out.2 (.inr (fun e => by simp only [Value.ownBlock, Option.some.injEq] at e; have := HG3.out; omega)))
          have HB4 := Lib.hid (HBj.out.setCell (p := ⟨g3, k2, none⟩) (Nat.le_of_lt HG3.out) (.int .i64 ((idx f n y : Nat) : Int)))
          have HLc := Lib.hid (lst_congr (n := n) (F := fun x => if x = k2 then idx f n y else if x < k2 then basF f n x else it f n x) (G := fun x => if x < k2 + 1 then basF f n x else it f n x) (fun x _ => by
            by_cases e : x = k2
            · subst e; simp [basF, hy]
            · have : (x < k2 + 1) = (x < k2) := by apply propext; omega
              simp only [e, if_false, this]))
          clear hcs hfs hy
          go_wp2
          go_roundw
          case rel => exact ⟨k2 + 1, by omega, by go_num, by rw [← HLc.out]; exact HT.out.1, HR4.out, HB4.out⟩
          case measure => simp [intOf]; omega
        · obtain rfl : k2 = n := by omega
          have HLf := Lib.hid (lst_congr (n := k2) (F := fun x => if x < k2 then basF f k2 x else it f k2 x) (G := basF f k2) (fun x hx => if_pos hx))
          go_wp2
          go_ret
          exact ⟨_, _, rfl, by rw [← HLf.out]; exact HPk.out, HBj.out⟩

end Go.Proofs.Yticagncemlnafaa
