/-
  The model's sums place by place; the answers that are asked of digits: carries, symmetric ones.
-/
import Derived.Test.YtnggfcopndcppaaTF
namespace Go.Proofs.Ytnggfcopndcppaa
open Go.RowKit
set_option linter.unusedVariables false
set_option linter.unusedSimpArgs false
set_option maxRecDepth 100000

theorem rvAdd_any (v : Value) (xs : List Int) (b : Int) (B : Nat) (w : World) (h : Rd w B v xs) (hd : Dg b xs) :
    Calls Try.prog 46 #[v, .int .i64 b] w fun e w' => ∃ u1 u2, e = .returned (.tuple #[u1, u2]) ∧ Rd w' w.heap.size u1 (rvA b xs) ∧ Rd w' w.heap.size u2 (cyA b (smA 1 1 xs) 0) ∧ Below w.heap.size w w' := by
  have H := Lib.hid h
  have HD := Lib.hid hd
  have h1 := hd.l1
  have h40 := hd.l40
  have hb2 := hd.b2
  have hb16 := hd.b16
  rcases h.cases with ⟨_, hx⟩ | ⟨g, cap, rfl, hg1, hg2, _⟩
  · rw [hx] at h1; simp at h1
  clear h hd
  have HP := Lib.hid (smA_pos b xs HD.out.all)
  go_enter Try.func46, Try.ntmps46
  go_wp2
  go_loopw [7, 8, 9, 10] (fun o c cy i wr => ∃ k : Nat, k ≤ xs.length ∧ i = .int .i64 ((xs.length - k : Nat) - 1 : Int) ∧ cy = .int .i64 (coA b ((smA 1 1 xs).take k) 0) ∧ Rd wr w.heap.size o (dgA b ((smA 1 1 xs).take k) 0).reverse ∧
      Rd wr w.heap.size c (cyA b ((smA 1 1 xs).take k) 0) ∧ (o.ownBlock = none ∨ o.ownBlock ≠ c.ownBlock) ∧ Below w.heap.size w wr) (fun _ _ _ i _ => (intOf i + 1).toNat)
  case atStart => exact ⟨0, Nat.zero_le _, by simp, rfl, Rd.nil _ _, Rd.nil _ _, .inl rfl, Below.refl _ _⟩
  case round =>
    obtain ⟨k, hk, rfl, rfl, hro, hrc, hap, hb⟩ := hrel
    have HRO := Lib.hid hro
    have HRC := Lib.hid hrc
    have HAP := Lib.hid hap
    have HB := Lib.hid hb
    clear hro hrc hb hap
    obtain ⟨cc, hcc⟩ : ∃ cc, cc = coA b ((smA 1 1 xs).take k) 0 := ⟨_, rfl⟩
    obtain ⟨cc1, cc2⟩ := coA_pos b hb2 ((smA 1 1 xs).take k) 0 (fun s hs => HP.out s (List.mem_of_mem_take hs)) (by omega) (by omega)
    rw [← hcc] at cc1 cc2
    have HCC := Lib.hid hcc
    rw [← hcc]
    clear hcc
    by_cases hlt : k < xs.length
    · have hA := (H.out.keep HB.out).at.2.2.2.2.1
      have ha1 := hA (xs.length - 1 - k) (by omega)
      have ha2 := hA k hlt
      obtain ⟨x1, hx1⟩ : ∃ x1, x1 = xs[xs.length - 1 - k]'(by omega) := ⟨_, rfl⟩
      obtain ⟨x2, hx2⟩ : ∃ x2, x2 = xs[k] := ⟨_, rfl⟩
      rw [← hx1] at ha1
      rw [← hx2] at ha2
      obtain ⟨b11, b12⟩ := HD.out.all x1 (by rw [hx1]; exact List.getElem_mem _)
      obtain ⟨b21, b22⟩ := HD.out.all x2 (by rw [hx2]; exact List.getElem_mem _)
      have HX1 := Lib.hid hx1
      have HX2 := Lib.hid hx2
      obtain ⟨i, hi⟩ : ∃ i, i = xs.length - 1 - k := ⟨_, rfl⟩
      rw [← hi] at ha1
      have hi1 : ((xs.length - k : Nat) : Int) - 1 = (i : Int) := by omega
      have hki : (xs.length : Int) - 1 - (i : Int) = (k : Int) := by omega
      have hilt : i < xs.length := by omega
      have HI := Lib.hid hi
      rw [hi1]
      clear hx1 hx2 hA hi hi1
      have HSN := Lib.hid (show (smA 1 1 xs).take (k + 1) = (smA 1 1 xs).take k ++ [x1 + x2] by
        rw [take_snoc' _ k (by rw [smA_len]; exact hlt), smA_at 1 1 xs k hlt, HX1.out, HX2.out, Int.one_mul, Int.one_mul])
      have hds : (dgA b ((smA 1 1 xs).take k) 0).length ≤ 40 := by rw [dgA_len, List.length_take, smA_len]; omega
      have hcs : (cyA b ((smA 1 1 xs).take k) 0).length ≤ 40 := by rw [cyA_len, List.length_take, smA_len]; omega
      have hsz := HB.out.size
      go_wp2
      go_region
      all_goals
        go_wp2_with (first
          | (have z := HR1; clear z; at_builtin; go_loud (refine wpList_appR rfl _ _ rfl w4.heap.size w.heap.size _ _ [(x1 + x2 + cc) % b] _ rfl rfl (Rd.litB _ _ _ (Nat.le_refl _)) (HRO1.out.alloc _) (by simp; omega) (by simp) ?_; intro o2 w5 hr2 hg2 hb2; have HR2 := Lib.hid hr2; have HB2 := Lib.hid (((Below.refl w4.heap.size w4).alloc (Nat.le_refl _) _).trans hb2); clear hr2 hg2 hb2))
          | (at_builtin; go_loud (refine wpList_appR rfl _ _ rfl w.heap.size w.heap.size _ _ _ [(x1 + x2 + cc) / b] rfl rfl ((HRC.out.alloc _).drew) ((Rd.litB _ _ _ (by omega)).drew) (by simp; omega) (by simp; omega) ?_; intro c1 w4 hr1 hg1 hb1; have HRO1 := Lib.hid ((HRO.out.alloc _).drew.grown hg1 HAP.out); have HR1 := Lib.hid hr1; have HB1 := Lib.hid (((HB.out.alloc (by omega) _).drew).trans hb1); have hs4 := hb1.size; clear hr1 hg1 hb1)))
        have hio := HI.out
        have hne : o2.ownBlock = none ∨ o2.ownBlock ≠ c1.ownBlock := by
          cases ho : o2.ownBlock with
          | none => exact .inl rfl
          | some q =>
            refine .inr (fun e => ?_)
            have h5 := HR2.out.lt q ho
            have h6 := HR1.out.lt q e.symm
            omega
        refine ⟨⟨k + 1, by omega, by rw [show xs.length - (k + 1) = i by omega], ?_, ?_, ?_, hne, Below.step HB1.out HB1.out.size HB2.out⟩, by simp [intOf]⟩
        · rw [HSN.out, coA_snoc, ← HCC.out]
        · rw [HSN.out, dgA_snoc, ← HCC.out, List.reverse_append]
          exact HR2.out.mono HB1.out.size
        · rw [HSN.out, cyA_snoc, ← HCC.out]
          exact HR1.out.keep HB2.out
    · obtain rfl : k = xs.length := by omega
      have hall : (smA 1 1 xs).take xs.length = smA 1 1 xs := List.take_of_length_le (by rw [smA_len]; exact Nat.le_refl _)
      have HRO' := HRO.out
      have HRC' := HRC.out
      have hcc := HCC.out
      rw [hall] at HRO' HRC' hcc
      have HRO := Lib.hid HRO'
      have HRC := Lib.hid HRC'
      have hsz := HB.out.size
      have hds : (dgA b (smA 1 1 xs) 0).length ≤ 40 := by rw [dgA_len, smA_len]; omega
      have HRV := Lib.hid (show rvA b xs = (if 0 < cc then [cc] else []) ++ (dgA b (smA 1 1 xs) 0).reverse by rw [hcc]; rfl)
      have hn1 : ((xs.length - xs.length : Nat) : Int) - 1 = -1 := by omega
      rw [hn1]
      clear HRO' HRC' hall hcc hn1
      by_cases hpos : 0 < cc
      · go_wp2_with (at_builtin; refine wpList_appR rfl _ _ rfl wr.heap.size w.heap.size _ _ [cc] _ rfl rfl (Rd.litB _ _ _ (Nat.le_refl _)) (HRO.out.alloc _) (by simp; omega) (by simp) ?_; intro o2 w5 hr2 hg2 hb2; have HR2 := Lib.hid hr2; have HB2 := Lib.hid (((Below.refl wr.heap.size wr).alloc (Nat.le_refl _) _).trans hb2); clear hr2 hg2 hb2)
        go_ret2
        refine ⟨_, _, rfl, ?_, HRC.out.keep HB2.out, Below.step HB.out HB.out.size HB2.out⟩
        rw [HRV.out, if_pos hpos]
        exact HR2.out.mono HB.out.size
      · go_wp2
        go_ret2
        refine ⟨_, _, rfl, ?_, HRC.out, HB.out⟩
        rw [HRV.out, if_neg (by omega)]
        exact HRO.out

end Go.Proofs.Ytnggfcopndcppaa
