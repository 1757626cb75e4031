/-
  The model: which numbers are on cycles, depths, rounds.
-/
import Derived.Test.YticagncemlnafaaPH
namespace Go.Proofs.Yticagncemlnafaa
open Go.RowKit
set_option linter.unusedVariables false
set_option linter.unusedSimpArgs false

def cycTo (f : Nat → Nat) (n k y : Nat) : Bool := (List.range k).any fun x => it f n x == y
theorem cycTo_all (f : Nat → Nat) (n y : Nat) : cycTo f n n y = cyc f n y := rfl
theorem cycTo_succ (f : Nat → Nat) (n k : Nat) : (fun y => if y = it f n k then true else cycTo f n k y) = cycTo f n (k + 1) := by
  funext y
  unfold cycTo
  rw [List.range_succ, List.any_append]
  by_cases h : y = it f n k
  · subst h; simp
  · have h' : ¬ it f n k = y := fun e => h e.symm
    simp [h, h']
theorem cycTo_zero (f : Nat → Nat) (n : Nat) : cycTo f n 0 = fun _ => false := rfl

theorem bls_same {n : Nat} {s : Nat → Bool} {x : Nat} (h : s x = true) : bls n (fun y => if y = x then true else s y) = bls n s :=
  bls_congr fun y _ => by by_cases e : y = x
                          · subst e; simp [h]
                          · simp [e]

def lenOf : Value → Nat
  | .slice _ n _ => n
  | _ => 0
theorem lenOf_rd {w : World} {B : Nat} {v : Value} {xs : List Int} (h : Rd w B v xs) : lenOf v = xs.length := by
  rcases h.cases with ⟨rfl, rfl⟩ | ⟨g, cap, rfl, _⟩ <;> rfl

theorem mpCyclic_any (g n cap : Nat) (f : Nat → Nat) (w : World) (h : Mp w g n f) :
    Calls Try.prog 65 #[.slice (some ⟨g, 0, none⟩) n cap] w fun e w' => ∃ g2, e = .returned (.slice (some ⟨g2, 0, none⟩) n n) ∧ Rb w' w.heap.size (.slice (some ⟨g2, 0, none⟩) n n) (bls n (cyc f n)) ∧ Below w.heap.size w w' := by
  have H := Lib.hid h
  have h0 := h.n0
  have h1 := h.n1
  clear h
  go_enter Try.func65, Try.ntmps65
  go_wp2_with (at_make; refine wpList_mkG rfl _ _ _ 4 (.bool false) 1 Try.underlying53 infoB (by omega) rfl rfl .i64 .i64 _ _ n rfl rfl rfl rfl (by omega) ?_; intro w1 hr1 hg1 hb1)
  rw [bls_rep] at hr1
  have HR1 := Lib.hid hr1
  have HB1 := Lib.hid hb1
  clear hr1 hg1 hb1
  go_loopw [13] (fun i wr => ∃ k : Nat, k ≤ n ∧ i = .int .i64 k ∧ Rb wr w.heap.size (.slice (some ⟨w.heap.size, 0, none⟩) n n) (bls n (cycTo f n k)) ∧ Below w.heap.size w wr) (fun i _ => n - (intOf i).toNat)
  case atStart => exact ⟨0, Nat.zero_le _, rfl, HR1.out, HB1.out⟩
  case round =>
    obtain ⟨k, hk, rfl, hr, hb⟩ := hrel
    have HR := Lib.hid hr
    have HB := Lib.hid hb
    clear hr hb
    by_cases hlt : k < n
    · have hyl := it_lt H.out.into n hlt
      obtain ⟨y, hy⟩ : ∃ y, y = it f n k := ⟨_, rfl⟩
      have HY := Lib.hid hy
      rw [← hy] at hyl
      clear hy
      have hd : wr.cell? ⟨w.heap.size, y, none⟩ = some (.bool (cycTo f n k y)) := (Rb.bp HR.out).cell y hyl
      have hf := Rb.frozen HR.out y
      have HS := Lib.hid (Rb.set HR.out hyl true)
      have HBs := Lib.hid (HB.out.setCell (p := ⟨w.heap.size, y, none⟩) (Nat.le_refl _) (.bool true))
      go_wp2_with (go_at_call 62; refine (mpAt_any g n cap f k n _ (H.out.keep HB.out) hlt (by omega)).mono ?_; rw [← HY.out]; rintro e w2 ⟨rfl, rfl⟩)
      go_roundw
      case rel => exact ⟨k + 1, by omega, by go_num, by rw [← cycTo_succ, ← HY.out]; exact HS.out.1, HBs.out⟩
      case measure => simp [intOf]; omega
    · obtain rfl : k = n := by omega
      rw [show cycTo f k k = cyc f k from rfl] at HR
      go_wp2
      go_loopw [5] (fun i wr => ∃ j : Nat, j ≤ k ∧ i = .int .i64 j ∧ Rb wr w.heap.size (.slice (some ⟨w.heap.size, 0, none⟩) k k) (bls k (cyc f k)) ∧ Below w.heap.size w wr) (fun i _ => k - (intOf i).toNat)
      case atStart => exact ⟨0, Nat.zero_le _, rfl, HR.out, HB.out⟩
      case round =>
        obtain ⟨j, hj, rfl, hr, hb⟩ := hrel
        have HR2 := Lib.hid hr
        have HB2 := Lib.hid hb
        clear hr hb
        by_cases hlt2 : j < k
        · go_wp2
          go_loopw [32] (fun i wr => ∃ m : Nat, m ≤ k ∧ i = .int .i64 m ∧ Rb wr w.heap.size (.slice (some ⟨w.heap.size, 0, none⟩) k k) (bls k (cyc f k)) ∧ Below w.heap.size w wr) (fun i _ => k - (intOf i).toNat)
          case atStart => exact ⟨0, Nat.zero_le _, rfl, HR2.out, HB2.out⟩
          case round =>
            obtain ⟨m, hm, rfl, hr, hb⟩ := hrel
            have HR3 := Lib.hid hr
            have HB3 := Lib.hid hb
            clear hr hb
            by_cases hlt3 : m < k
            · obtain ⟨q, hq⟩ : ∃ q, q = cyc f k m := ⟨_, rfl⟩
              have HQ := Lib.hid hq
              have hd : wr.cell? ⟨w.heap.size, m, none⟩ = some (.bool (cyc f k m)) := (Rb.bp HR3.out).cell m hlt3
              rw [← hq] at hd
              clear hq
              cases q
              · go_wp2
                go_roundw
                case rel => exact ⟨m + 1, by omega, by go_num, HR3.out, HB3.out⟩
                case measure => simp [intOf]; omega
              · have hcell := (H.out.keep HB3.out).cell m hlt3
                have hfm := H.out.into m hlt3
                have hd2 : wr.cell? ⟨w.heap.size, f m, none⟩ = some (.bool (cyc f k (f m))) := (Rb.bp HR3.out).cell (f m) hfm
                have hf2 := Rb.frozen HR3.out (f m)
                have HS := Lib.hid (Rb.set HR3.out hfm true)
                have HBs := Lib.hid (HB3.out.setCell (p := ⟨w.heap.size, f m, none⟩) (Nat.le_refl _) (.bool true))
                have HE := Lib.hid (bls_same (n := k) (cyc_step H.out.into HQ.out.symm))
                go_wp2
                go_roundw
                case rel => exact ⟨m + 1, by omega, by go_num, by rw [← HE.out]; exact HS.out.1, HBs.out⟩
                case measure => simp [intOf]; omega
            · obtain rfl : m = k := by omega
              go_wp2
              go_roundw
              case rel => exact ⟨j + 1, by omega, by go_num, HR3.out, HB3.out⟩
              case measure => simp [intOf]; omega
        · obtain rfl : j = k := by omega
          go_wp2
          go_ret
          exact ⟨_, rfl, HR2.out, HB2.out⟩

theorem mpDepth_any (g n cap g2 cap2 : Nat) (f : Nat → Nat) (x : Nat) (w : World) (h : Mp w g n f) (h2 : Bp w g2 n (cyc f n)) (hx : x < n) :
    Calls Try.prog 66 #[.slice (some ⟨g, 0, none⟩) n cap, .slice (some ⟨g2, 0, none⟩) n cap2, .int .i64 (x : Int)] w fun e w' => e = .returned (.int .i64 (dep f n x : Nat)) ∧ w = w' := by
  have H := Lib.hid h
  have H2 := Lib.hid h2
  have h0 := h.n0
  have h1 := h.n1
  have HD := Lib.hid (dep_spec (f := f) hx)
  obtain ⟨d, hd⟩ : ∃ d, d = dep f n x := ⟨_, rfl⟩
  rw [← hd] at HD
  have HE := Lib.hid hd
  rw [← hd]
  clear h h2 hd
  go_enter Try.func66, Try.ntmps66
  go_wp2
  go_loop [2, 7] (fun y i => ∃ j : Nat, j ≤ d ∧ i = .int .i64 (j : Int) ∧ y = .int .i64 ((it f j x : Nat) : Int)) (fun _ i => d - (intOf i).toNat)
  case atStart => exact ⟨0, Nat.zero_le _, rfl, rfl⟩
  case round =>
    obtain ⟨j, hj, rfl, rfl⟩ := hrel
    have hy := it_lt H.out.into j hx
    have hdn := HD.out.1
    obtain ⟨y, hyy⟩ : ∃ y, y = it f j x := ⟨_, rfl⟩
    have HY := Lib.hid hyy
    rw [← hyy] at hy ⊢
    clear hyy
    have hcell := H.out.cell y hy
    have hcell2 := H2.out.cell y hy
    by_cases hlt : j < d
    · rw [show cyc f n y = false by rw [HY.out]; exact HD.out.2.2 j hlt] at hcell2
      go_wp2
      go_round
      case rel => exact ⟨j + 1, by omega, by go_num, by rw [HY.out]; rfl⟩
      case measure => simp [intOf]; omega
    · obtain rfl : j = d := by omega
      rw [show cyc f n y = true by rw [HY.out]; exact HD.out.2.1] at hcell2
      go_wp2
      go_ret
      exact ⟨rfl, rfl⟩

theorem mpDepths_any (g n cap : Nat) (f : Nat → Nat) (w : World) (h : Mp w g n f) :
    Calls Try.prog 75 #[.slice (some ⟨g, 0, none⟩) n cap] w fun e w' => ∃ u, e = .returned u ∧ Rd w' w.heap.size u (lst n (dep f n)) ∧ Below w.heap.size w w' := by
  have H := Lib.hid h
  have h0 := h.n0
  have h1 := h.n1
  clear h
  go_enter Try.func75, Try.ntmps75
  go_wp2_with fail
  refine (mpCyclic_any g n cap f _ H.out).mono ?_
  rintro e w1 ⟨g2, rfl, hr, hb⟩
  have HC := Lib.hid hr
  have HB1 := Lib.hid hb
  clear hr hb
  go_wp2
  go_loopw [4, 10] (fun u i wr => ∃ k : Nat, k ≤ n ∧ i = .int .i64 k ∧ Rd wr w1.heap.size u (lst k (dep f n)) ∧ Below w1.heap.size w1 wr) (fun _ i _ => n - (intOf i).toNat)
  case atStart => exact ⟨0, Nat.zero_le _, rfl, Rd.nil _ _, Below.refl _ _⟩
  case round =>
    obtain ⟨k, hk, rfl, hr, hb⟩ := hrel
    have HR := Lib.hid hr
    have HB := Lib.hid hb
    have HB0 := Lib.hid (Below.step HB1.out HB1.out.size hb)
    clear hr hb
    by_cases hlt : k < n
    · have HL := Lib.hid (lst_len k (dep f n))
      go_wp2_with (first | (go_at_call 66; refine (mpDepth_any g n cap g2 n f k _ (H.out.keep HB0.out) ((Rb.bp HC.out).keep HB.out) hlt).mono ?_; rintro e w2 ⟨rfl, rfl⟩) | (at_builtin; refine wpList_appR rfl _ _ rfl w1.heap.size w1.heap.size _ _ (lst k (dep f n)) [((dep f n k : Nat) : Int)] rfl rfl (HR.out.alloc _) (Rd.litB _ _ _ HB.out.size) (by rw [HL.out]; simp; omega) (by have := HB.out.size; simp; omega) ?_; intro v1 w2 hr1 hg1 hb1))
      have HR1 := Lib.hid hr1
      have HB3 := Lib.hid ((HB.out.alloc HB.out.size _).trans hb1)
      clear hr1 hg1 hb1
      go_wp2
      go_roundw
      case rel => exact ⟨k + 1, by omega, by go_num, by rw [lst_succ]; exact HR1.out, HB3.out⟩
      case measure => simp [intOf]; omega
    · obtain rfl : k = n := by omega
      go_wp2
      go_ret
      exact ⟨_, rfl, HR.out.mono HB1.out.size, HB0.out⟩

theorem mpRound_any (g n cap : Nat) (f : Nat → Nat) (x : Nat) (w : World) (h : Mp w g n f) (hx : cyc f n x = true) :
    Calls Try.prog 67 #[.slice (some ⟨g, 0, none⟩) n cap, .int .i64 (x : Int)] w fun e w' => ∃ u, e = .returned u ∧ Rd w' w.heap.size u (nts (rnd f n x)) ∧ Below w.heap.size w w' := by
  have H := Lib.hid h
  have h0 := h.n0
  have h1 := h.n1
  have hxn := cyc_lt h.into hx
  have HP := Lib.hid (per_spec h.into hx)
  obtain ⟨p, hp⟩ : ∃ p, p = per f n x := ⟨_, rfl⟩
  rw [← hp] at HP
  have HE := Lib.hid hp
  have hp1 := HP.out.1
  have hp2 := HP.out.2.1
  clear h hp
  have hcell0 := (H.out.keep ((Below.refl w.heap.size w).alloc (Nat.le_refl _) (.cells #[.int .i64 (x : Int)] 3))).cell x hxn
  have HR0 := Lib.hid (show rnd f n x = (List.range p).map fun j => it f j x by unfold rnd; rw [HE.out])
  go_enter Try.func67, Try.ntmps67
  go_wp2
  go_loopw [5, 6] (fun u y wr => ∃ j : Nat, 1 ≤ j ∧ j ≤ p ∧ y = .int .i64 ((it f j x : Nat) : Int) ∧ Rd wr w.heap.size u (nts ((List.range j).map fun j => it f j x)) ∧ Below w.heap.size w wr ∧ lenOf u = j) (fun u _ _ => p - lenOf u)
  case atStart => exact ⟨1, Nat.le_refl _, hp1, rfl, Rd.lit _ _, (Below.refl _ _).alloc (Nat.le_refl _) _, rfl⟩
  case round =>
    obtain ⟨j, hj1, hj, rfl, hr, hb, hlen⟩ := hrel
    have HR := Lib.hid hr
    have HB := Lib.hid hb
    have HL := Lib.hid hlen
    clear hr hb hlen
    have hy := it_lt H.out.into j hxn
    obtain ⟨y, hyy⟩ : ∃ y, y = it f j x := ⟨_, rfl⟩
    have HY := Lib.hid hyy
    rw [← hyy] at hy ⊢
    clear hyy
    have hcell := (H.out.keep HB.out).cell y hy
    by_cases hlt : j < p
    · have hne : (((y : Nat) : Int) != (x : Int)) = true := bne_yes (by have := HP.out.2.2.2 j hj1 hlt; rw [← HY.out] at this; omega)
      go_wp2_with (at_builtin; refine wpList_appR rfl _ _ rfl w.heap.size w.heap.size _ _ (nts ((List.range j).map fun j => it f j x)) [(y : Int)] rfl rfl (HR.out.alloc _) (Rd.litB _ _ _ HB.out.size) (by rw [nts_len]; simp; omega) (by have := HB.out.size; simp; omega) ?_; intro v1 w1 hr1 hg1 hb1; have hcell' := (H.out.keep ((HB.out.alloc HB.out.size _).trans hb1)).cell y hy)
      have HR1 := Lib.hid hr1
      have HB1 := Lib.hid ((HB.out.alloc HB.out.size _).trans hb1)
      clear hr1 hg1 hb1
      have HV := Lib.hid (lenOf_rd HR1.out)
      have HN := Lib.hid (show nts ((List.range (j + 1)).map fun j => it f j x) = nts ((List.range j).map fun j => it f j x) ++ [(y : Int)] by rw [List.range_succ, List.map_append, HY.out]; simp [nts])
      go_wp2
      go_roundw
      case rel => exact ⟨j + 1, by omega, by omega, by rw [HY.out]; rfl, by rw [HN.out]; exact HR1.out, HB1.out, by rw [HV.out]; simp [nts]⟩
      case measure => rw [HV.out, HL.out]; simp [nts]; omega
    · obtain rfl : j = p := by omega
      have hne : (((y : Nat) : Int) != (x : Int)) = false := bne_no (by have := HP.out.2.2.1; rw [← HY.out] at this; omega)
      go_wp2
      go_ret
      exact ⟨_, rfl, by rw [HR0.out]; exact HR.out, HB.out⟩

end Go.Proofs.Yticagncemlnafaa
