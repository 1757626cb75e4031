/-
  Answers of SubtractReversed (written by wip/tools/gen_rvsub2.py).
-/
import Derived.Test.YtnggfcopndcppaaT7
namespace Go.Proofs.Ytnggfcopndcppaa
open Go.RowKit
set_option linter.unusedVariables false
set_option linter.unusedSimpArgs false
set_option maxRecDepth 100000

/-- Nothing, or a slice of some row. -/
def Rn (w : World) (B : Nat) (v : Value) (xs : List Int) : Prop := (v = .slice none 0 0 ∧ xs = []) ∨ Ro w B v xs
theorem Rn.nil (w : World) (B : Nat) : Rn w B (.slice none 0 0) [] := .inl ⟨rfl, rfl⟩
theorem Rn.mono {w : World} {B C : Nat} {v : Value} {xs : List Int} (h : Rn w B v xs) (hC : C ≤ B) : Rn w C v xs := h.elim .inl (fun h => .inr (h.mono hC))
theorem Rn.keep {w w' : World} {B : Nat} {v : Value} {xs : List Int} (h : Rn w B v xs) (hb : Below w.heap.size w w') : Rn w' B v xs := h.elim .inl (fun h => .inr (h.keep hb))
theorem Rn.lt {w : World} {B : Nat} {v : Value} {xs : List Int} (h : Rn w B v xs) : ∀ k, v.ownBlock = some k → B ≤ k ∧ k < w.heap.size := by
  rcases h with ⟨rfl, _⟩ | h
  · intro k hk; cases hk
  · exact h.lt
theorem Rn.grown {w w' : World} {B : Nat} {v : Value} {xs : List Int} {row : Option Nat} (h : Rn w B v xs) (hg : w.grownBy w' row) (hne : v.ownBlock = none ∨ v.ownBlock ≠ row) : Rn w' B v xs := h.elim .inl (fun h => .inr (h.grown hg hne))
theorem Rn.sl {w : World} {B : Nat} {v : Value} {xs : List Int} (h : Rn w B v xs) : Sl w v xs := by
  rcases h with ⟨rfl, rfl⟩ | h
  · exact ⟨none, 0, rfl, .inl rfl⟩
  · exact h.sl
theorem Rn.apart {w : World} {B : Nat} {u v : Value} {xs : List Int} (hu : ∀ k, u.ownBlock = some k → k < B) (hv : Rn w B v xs) : u.ownBlock = none ∨ u.ownBlock ≠ v.ownBlock := by
  cases h : u.ownBlock with
  | none => exact .inl rfl
  | some k =>
    right
    intro hc
    have h1 := hu k h
    have h2 := hv.lt k hc.symm
    omega
abbrev OK_SubtractReversed (xs : List Int) (b : Int) : Bool := okR b xs
def LF_SubtractReversed (xs : List Int) (b : Int) : List Int := if okR b xs = true then rvD b xs else []
theorem LFD_yes {xs : List Int} {b : Int} (h : okR b xs = true) : LF_SubtractReversed xs b = rvD b xs := if_pos h
theorem LFD_no {xs : List Int} {b : Int} (h : okR b xs = false) : LF_SubtractReversed xs b = [] := if_neg (by rw [h]; simp)
theorem LF_SubtractReversed_len (xs : List Int) (b : Int) (h : xs.length ≤ 1048576) : (LF_SubtractReversed xs b).length ≤ 2000000 := by
  unfold LF_SubtractReversed
  split
  · unfold rvD
    rw [List.length_drop, List.length_reverse, dgA_len, sdA_len]; omega
  · simp

theorem impl_SubtractReversed (v : Value) (xs : List Int) (b : Int) (B : Nat) (w : World) (h : Rd w B v xs) (hl : xs.length ≤ 1048576) :
    Calls Try.prog 14 #[v, .int .i64 b] w fun e w' => ∃ u, e = .returned (.tuple #[u, .bool (OK_SubtractReversed xs b)]) ∧ Rn w' w.heap.size u (LF_SubtractReversed xs b) ∧ Below w.heap.size w w' := by
  have H := Lib.hid h
  obtain ⟨a, cap, rfl⟩ := h.sl.len
  clear h
  unfold OK_SubtractReversed
  rcases okR_cases b xs with ⟨ho, hd⟩ | ho
  · have HO := Lib.hid ho
    have HD := Lib.hid hd
    rw [LFD_yes ho, ho]
    clear ho hd
    have HASK := Lib.hid (show Calls Try.prog 47 #[.slice a xs.length cap, .int .i64 b, .func (Fn.func 52) #[] #[]] w fun e w' => ∃ u, e = .returned (.tuple #[u, .bool true]) ∧ Ro w' w.heap.size u (rvD b xs) ∧ Below w.heap.size w w' by
      go_enter Try.func47, Try.ntmps47
      go_wp2_with fail
      refine (long_yes _ _ _ _ _ H.out hl HO.out).mono ?_
      rintro e w1 ⟨g1, cap1, rfl, hr, hb1⟩
      have R1 := Lib.hid hr
      have B1 := Lib.hid hb1
      have HAL := Lib.hid (alloc_below w1 (.cells #[.slice (some ⟨g1, 0, none⟩) xs.length cap1, .int .i64 b] 56))
      have R2 := Lib.hid (R1.out.keep HAL.out)
      have B2 := Lib.hid (Below.step B1.out B1.out.size HAL.out)
      clear hr hb1
      go_wp2_with (go_at_call 52; go_loud (refine (minusReversed_any g1 cap1 xs b _ _ R2.out HD.out).mono ?_; rintro e w2 ⟨u2, rfl, hr2, hb2⟩; have R3 := Lib.hid (hr2.mono B2.out.size); have B3 := Lib.hid (Below.step B2.out B2.out.size hb2); clear hr2 hb2))
      go_ret2
      exact ⟨_, rfl, R3.out, B3.out⟩)
    go_enter Try.func14, Try.ntmps14
    go_wp2_with fail
    refine HASK.out.mono ?_
    rintro e w1 ⟨u, rfl, hr, hb1⟩
    have R1 := Lib.hid hr
    have B1 := Lib.hid hb1
    clear hr hb1
    go_wp2
    go_ret2
    exact ⟨u, rfl, .inr R1.out, B1.out⟩
  · have HO := Lib.hid ho
    rw [LFD_no ho, ho]
    clear ho
    have HASK := Lib.hid (show Calls Try.prog 47 #[.slice a xs.length cap, .int .i64 b, .func (Fn.func 52) #[] #[]] w fun e w' => e = .returned (.tuple #[.slice none 0 0, .bool false]) ∧ Below w.heap.size w w' by
      go_enter Try.func47, Try.ntmps47
      go_wp2_with fail
      refine (long_no _ _ _ _ _ H.out hl HO.out).mono ?_
      rintro e w1 ⟨rfl, hb1⟩
      have B1 := Lib.hid hb1
      clear hb1
      go_wp2
      go_ret2
      exact ⟨rfl, Below.step B1.out B1.out.size (alloc_below w1 _)⟩)
    go_enter Try.func14, Try.ntmps14
    go_wp2_with fail
    refine HASK.out.mono ?_
    rintro e w1 ⟨rfl, hb1⟩
    have B1 := Lib.hid hb1
    clear hb1
    go_wp2
    go_ret2
    exact ⟨_, rfl, Rn.nil _ _, B1.out⟩

theorem spec_SubtractReversed (v : Value) (xs : List Int) (b : Int) (B : Nat) (w : World) (h : Rd w B v xs) (hl : xs.length ≤ 1048576) :
    Calls Try.prog 15 #[v, .int .i64 b] w fun e w' => ∃ u, e = .returned (.tuple #[u, .bool (OK_SubtractReversed xs b)]) ∧ Rn w' w.heap.size u (LF_SubtractReversed xs b) ∧ Below w.heap.size w w' := by
  have H := Lib.hid h
  obtain ⟨a, cap, rfl⟩ := h.sl.len
  clear h
  unfold OK_SubtractReversed
  rcases okR_cases b xs with ⟨ho, hd⟩ | ho
  · have HO := Lib.hid ho
    have HD := Lib.hid hd
    have h1 := hd.l1
    have h40 := hd.l40
    have hb2 := hd.b2
    have hb16 := hd.b16
    rw [LFD_yes ho, ho]
    have HSD := Lib.hid (show rvD b xs = (dgA b (sdA xs) 0).reverse.drop (lz (dgA b (sdA xs) 0).reverse) from rfl)
    have HDL := Lib.hid (show (dgA b (sdA xs) 0).reverse.length = xs.length by rw [List.length_reverse, dgA_len, sdA_len])
    have HRL := Lib.hid (show xs.reverse.length = xs.length by simp)
    have HIN := Lib.hid (show InD b (sdA xs) by
      unfold sdA
      split
      · exact smD_in b hb2 xs (-1) 1 (.inr ⟨rfl, rfl⟩) hd.all
      · exact smD_in b hb2 xs 1 (-1) (.inl ⟨rfl, rfl⟩) hd.all)
    clear ho hd
    go_enter Try.func15, Try.ntmps15
    go_wp2_with fail
    refine (rvGood_any _ _ _ _ _ H.out hl).mono ?_
    rw [HO.out]
    rintro e w1 ⟨rfl, rfl⟩
    go_wp2_with fail
    refine (l1Own_any _ _ _ _ H.out (by omega)).mono ?_
    rintro e w2 ⟨u1, rfl, hr1, hb1⟩
    obtain ⟨a1, c1, hu1⟩ := hr1.sl.len
    subst hu1
    have R1 := Lib.hid hr1
    have B1 := Lib.hid hb1
    have H1 := Lib.hid (H.out.keep hb1)
    clear hr1 hb1
    go_wp2_with fail
    refine (dgBack_any _ _ _ H1.out.sl (by omega)).mono ?_
    rintro e w3 ⟨u2, rfl, hr2, hb2'⟩
    obtain ⟨a2, c2, hu2⟩ := hr2.sl.len
    rw [HRL.out] at hu2
    subst hu2
    have R2 := Lib.hid hr2
    have R1b := Lib.hid (R1.out.keep hb2')
    have B2 := Lib.hid (Below.step B1.out B1.out.size hb2')
    clear hr2 hb2'
    go_wp2_with fail
    refine (rvLess_any _ _ xs xs.reverse _ R1b.out.sl (by have h := R2.out.sl; exact h) (by omega) HRL.out.symm).mono ?_
    by_cases hlt : ltL xs xs.reverse = true
    · rw [hlt]
      rintro e w4 ⟨rfl, hb4⟩
      have RA := Lib.hid (R2.out.keep hb4)
      have RB := Lib.hid (R1b.out.keep hb4)
      have B4 := Lib.hid (Below.step B2.out B2.out.size hb4)
      have HAT := Lib.hid (show ∀ k (hk : k < xs.length), (sdA xs)[k]'(by rw [sdA_len]; exact hk) = (xs.reverse)[xs.length - 1 - k]'(by rw [HRL.out]; omega) - xs[xs.length - 1 - k]'(by omega) from fun k hk => by
        have e1 : sdA xs = smA (-1) 1 xs := if_pos hlt
        simp only [e1]
        rw [smA_at (-1) 1 xs k hk, List.getElem_reverse]
        have e2 : xs[xs.length - 1 - (xs.length - 1 - k)]'(by omega) = xs[k] := by congr 1; omega
        rw [e2]; omega)
      clear hb4 hlt
      obtain ⟨A, Z, SS, hRA, hRB, hXL, hYL, hxs, hYB, hSL, hAT3, hSS⟩ : ∃ A Z SS : List Int, Rd w4 _ (.slice a2 xs.length c2) A ∧ Rd w4 _ (.slice a1 xs.length c1) Z ∧ A.length = xs.length ∧ Z.length = xs.length ∧ (∀ x ∈ A, 0 ≤ x ∧ x ≤ b - 1) ∧ (∀ x ∈ Z, 0 ≤ x ∧ x ≤ b - 1) ∧ SS.length = xs.length ∧
          (∀ k, k < xs.length → SS[k]? = some (A.getD (xs.length - 1 - k) 0 - Z.getD (xs.length - 1 - k) 0)) ∧ SS = sdA xs :=
        ⟨xs.reverse, xs, sdA xs, RA.out, RB.out, by simp, by simp, fun x hx => HD.out.all x (by simpa using hx), fun x hx => HD.out.all x (by simpa using hx), sdA_len xs, fun k hk => by
          rw [List.getElem?_eq_getElem (by rw [sdA_len]; exact hk), HAT.out k hk, List.getD_eq_getElem?_getD, List.getD_eq_getElem?_getD, List.getElem?_eq_getElem (by first | omega | (simp; omega)), List.getElem?_eq_getElem (by first | omega | (simp; omega))]; rfl, rfl⟩
      have RA := Lib.hid hRA
      have RB := Lib.hid hRB
      have HXL := Lib.hid hXL
      have HYL := Lib.hid hYL
      have Hxs := Lib.hid hxs
      have HYB := Lib.hid hYB
      have HSL := Lib.hid hSL
      have HAT3 := Lib.hid hAT3
      rw [← hSS] at HSD HDL HIN
      clear hSS HAT hRA hRB hXL hYL hxs hYB hSL hAT3
      go_wp2_with (at_make; go_loud (refine wpList_mkR rfl _ _ rfl .i64 .i64 _ _ xs.length rfl rfl rfl rfl (by omega) ?_; intro w5 hr5 hg5 hb5; have R5 := Lib.hid hr5; have RA5 := Lib.hid (RA.out.keep hb5); have RB5 := Lib.hid (RB.out.keep hb5); have B5 := Lib.hid (Below.step B4.out B4.out.size hb5); have HLT5 := Lib.hid B4.out.size; clear hr5 hg5 hb5))
      go_loopw [9, 10] (fun bo i wr => ∃ k : Nat, k ≤ xs.length ∧ i = .int .i64 ((xs.length - k : Nat) - 1 : Int) ∧ bo = .int .i64 (-(coA b (SS.take k) 0)) ∧ Rd wr w4.heap.size (.slice (some ⟨w4.heap.size, 0, none⟩) xs.length xs.length) (List.replicate (xs.length - k) 0 ++ (dgA b (SS.take k) 0).reverse) ∧ w5.grownBy wr (some w4.heap.size)) (fun _ i _ => (intOf i + 1).toNat)
      case atStart => exact ⟨0, Nat.zero_le _, by simp, rfl, by simpa [dgA] using R5.out, World.grownBy.refl _ _⟩
      case round =>
        obtain ⟨k, hk, rfl, rfl, hr, hg⟩ := hrel
        have HR := Lib.hid hr
        have HG := Lib.hid hg
        obtain ⟨cc, hcc⟩ : ∃ cc, cc = coA b (SS.take k) 0 := ⟨_, rfl⟩
        obtain ⟨cc1, cc2⟩ := coD_bd b hb2 (SS.take k) 0 (fun s hs => HIN.out s (List.mem_of_mem_take hs)) (by omega) (by omega)
        rw [← hcc] at cc1 cc2
        have HCC := Lib.hid hcc
        rw [← hcc]
        clear hr hg hcc
        by_cases hlt : k < xs.length
        · have hA5 := (RA5.out.grown HG.out (.inr (fun e => by have := RA.out.lt _ e; omega)))
          have hB5 := (RB5.out.grown HG.out (.inr (fun e => by have := RB.out.lt _ e; omega)))
          obtain ⟨i, hi⟩ : ∃ i, i = xs.length - 1 - k := ⟨_, rfl⟩
          have hiA : i < A.length := by rw [HXL.out]; omega
          have hiB : i < Z.length := by rw [HYL.out]; omega
          obtain ⟨x1, hx1⟩ : ∃ x1, x1 = A[i] := ⟨_, rfl⟩
          obtain ⟨x2, hx2⟩ : ∃ x2, x2 = Z[i] := ⟨_, rfl⟩
          obtain ⟨b11, b12⟩ := Hxs.out x1 (by rw [hx1]; exact List.getElem_mem _)
          obtain ⟨b21, b22⟩ := HYB.out x2 (by rw [hx2]; exact List.getElem_mem _)
          rcases hA5.sl with ⟨ad1, cp1, hv1, hA | ⟨g1, o1, rfl, _, hA⟩⟩
          · rw [hA] at hiA; simp at hiA
          rcases hB5.sl with ⟨ad2, cp2, hv2, hB | ⟨g2, o2, rfl, _, hB⟩⟩
          · rw [hB] at hiB; simp at hiB
          have hc1 := hA i hiA
          have hc2 := hB i hiB
          rw [← hx1] at hc1
          rw [← hx2] at hc2
          simp only [Value.slice.injEq] at hv1 hv2
          obtain ⟨rfl, hv1a, hv1b⟩ := hv1
          obtain ⟨rfl, hv2a, hv2b⟩ := hv2
          clear hv1a hv1b hv2a hv2b
          have HSN := Lib.hid (show SS.take (k + 1) = SS.take k ++ [x1 - x2] by
            have h9 := HAT3.out k hlt
            rw [← hi, List.getD_eq_getElem?_getD, List.getD_eq_getElem?_getD, List.getElem?_eq_getElem hiA, List.getElem?_eq_getElem hiB, Option.getD_some, Option.getD_some, ← hx1, ← hx2] at h9
            rw [List.take_add_one, h9]; rfl)
          have hi1 : ((xs.length - k : Nat) : Int) - 1 = (i : Int) := by omega
          have hilt : i < xs.length := by omega
          have HI := Lib.hid hi
          have hds : (dgA b (SS.take k) 0).length = k := by rw [dgA_len, List.length_take, HSL.out]; omega
          have HDS2 := Lib.hid hds
          have hrl : (List.replicate (xs.length - k) (0:Int) ++ (dgA b (SS.take k) 0).reverse).length = xs.length := by rw [List.length_append, List.length_replicate, List.length_reverse, hds]; omega
          obtain ⟨z1, hz1⟩ : ∃ z, wr.cell? ⟨w4.heap.size, i, none⟩ = some (.int .i64 z) := ⟨_, HR.out.at.2.2.2.2.1 i (by rw [hrl]; exact hilt)⟩
          have hfa := HR.out.at.2.2.2.2.2 i
          have hdv := divD b (x1 - x2) cc hb2 (by omega) (by omega) cc1 cc2
          have HDV := Lib.hid hdv
          rw [hi1]
          clear hx1 hx2 hA hB hA5 hB5 hi hi1 hds hrl hdv hiA hiB
          have hsub : x1 - x2 - -cc = x1 - x2 + cc := by omega
          have HFIN := Lib.hid (fun d => (HR.out.set i d))
          by_cases hneg : x1 - x2 + cc < 0
          · have hnegI : x1 - x2 - -cc < 0 := by omega
            have HV := Lib.hid (HDV.out.1 hneg)
            go_wp2
            go_region
            all_goals
              go_wp2
              go_roundw
              case rel =>
                have h2 := HFIN.out (x1 - x2 + cc + b)
                have hio := HI.out
                rw [show i = xs.length - 1 - k from hio, backfill xs.length k _ _ HDS2.out hlt, ← hio] at h2
                refine ⟨k + 1, by omega, by rw [show xs.length - (k + 1) = i by omega] <;> go_num, ?_, ?_, ?_⟩
                · rw [HSN.out, coA_snoc, ← HCC.out, HV.out.1]; rfl
                · rw [HSN.out, dgA_snoc, ← HCC.out, HV.out.2]
                  first | exact h2.1.drew | (simpa using h2.1.drew)
                · first | exact grown_drew (grown_trans HG.out h2.2) | (simpa using grown_drew (grown_trans HG.out h2.2))
              case measure => simp [intOf] <;> omega
          · have hnegI : ¬ x1 - x2 - -cc < 0 := by omega
            have HV := Lib.hid (HDV.out.2 (by omega))
            go_wp2
            go_region
            all_goals
              go_wp2
              go_roundw
              case rel =>
                have h2 := HFIN.out (x1 - x2 + cc)
                have hio := HI.out
                rw [show i = xs.length - 1 - k from hio, backfill xs.length k _ _ HDS2.out hlt, ← hio] at h2
                refine ⟨k + 1, by omega, by rw [show xs.length - (k + 1) = i by omega] <;> go_num, ?_, ?_, ?_⟩
                · rw [HSN.out, coA_snoc, ← HCC.out, HV.out.1]; rfl
                · rw [HSN.out, dgA_snoc, ← HCC.out, HV.out.2]
                  first | exact h2.1.drew | (simpa using h2.1.drew)
                · first | exact grown_drew (grown_trans HG.out h2.2) | (simpa using grown_drew (grown_trans HG.out h2.2))
              case measure => simp [intOf] <;> omega
        · obtain rfl : k = xs.length := by omega
          have hall : SS.take xs.length = SS := List.take_of_length_le (by rw [HSL.out]; exact Nat.le_refl _)
          have hr0 := HR.out
          rw [hall, Nat.sub_self, List.replicate_zero, List.nil_append] at hr0
          obtain ⟨ds, hds⟩ : ∃ ds, ds = (dgA b SS 0).reverse := ⟨_, rfl⟩
          rw [← hds] at hr0 HSD HDL
          have RR := Lib.hid hr0
          have BB := Lib.hid (show Below w.heap.size w wr from (B5.out).grown HG.out B5.out.size (fun q hq => by have h9 := HLT5.out; simp only [Option.some.injEq] at hq; omega))
          have hwl : IntKind.i64.wrap ((xs.length : Int) - 1) = ((xs.length - 1 : Nat) : Int) := by rw [IntWalk.i64_in _ (by omega)]; omega
          have hn1 : ((xs.length - xs.length : Nat) : Int) - 1 = -1 := by omega
          rw [hn1]
          clear hall hr0 hds hn1
          go_wp2
          go_loop [12] (fun s => ∃ j : Nat, j < xs.length ∧ s = .int .i64 (j : Int) ∧ lz ds = j + lz (ds.drop j)) (fun s => xs.length - (intOf s).toNat)
          case atStart => exact ⟨0, by omega, rfl, by simp⟩
          case round =>
            obtain ⟨j, hj, rfl, hz⟩ := hrel
            have HZ := Lib.hid hz
            have hkd : j < ds.length := by rw [HDL.out]; exact hj
            have hcell := RR.out.at.2.2.2.2.1 j hkd
            obtain ⟨q, hq⟩ : ∃ q, q = ds[j] := ⟨_, rfl⟩
            have HQ := Lib.hid hq
            rw [← hq] at hcell
            clear hz hq
            by_cases h1k : j + 1 < xs.length
            · have h1I : (j : Int) < ((xs.length - 1 : Nat) : Int) := by omega
              have h1J : (j : Int) < (xs.length : Int) - 1 := by omega
              by_cases hq0 : q = 0
              · have HN := Lib.hid (show lz ds = (j + 1) + lz (ds.drop (j + 1)) by rw [HZ.out, lz_drop ds j (by rw [HDL.out]; omega) (by rw [← HQ.out]; exact hq0)]; omega)
                subst hq0
                go_wp2
                go_round
                case rel => exact ⟨j + 1, by omega, by go_num, HN.out⟩
                case measure => simp [intOf]; omega
              · have hqb : (q == 0) = false := beq_no hq0
                have HN := Lib.hid (lz_end ds j hkd (.inr (by rw [← HQ.out]; exact hq0)))
                have hjl : j ≤ xs.length := by omega
                have hjn : ¬ xs.length = j := by omega
                have hjm : ¬ j = xs.length := by omega
                clear hq0
                go_wp2
                go_ret2
                refine ⟨_, rfl, .inr ?_, BB.out⟩
                rw [HSD.out, HZ.out, HN.out, Nat.add_zero]
                exact (Ro.of RR.out hj).mono HLT5.out
            · have h1I : ¬ (j : Int) < ((xs.length - 1 : Nat) : Int) := by omega
              have h1J : ¬ (j : Int) < (xs.length : Int) - 1 := by omega
              have HN := Lib.hid (lz_end ds j hkd (.inl (by rw [HDL.out]; omega)))
              have hjl : j ≤ xs.length := by omega
              have hjn : ¬ xs.length = j := by omega
              have hjm : ¬ j = xs.length := by omega
              go_wp2
              go_ret2
              refine ⟨_, rfl, .inr ?_, BB.out⟩
              rw [HSD.out, HZ.out, HN.out, Nat.add_zero]
              exact (Ro.of RR.out hj).mono HLT5.out
    · have hlf : ltL xs xs.reverse = false := by simpa using hlt
      rw [hlf]
      rintro e w4 ⟨rfl, hb4⟩
      have RA := Lib.hid (R1b.out.keep hb4)
      have RB := Lib.hid (R2.out.keep hb4)
      have B4 := Lib.hid (Below.step B2.out B2.out.size hb4)
      have HAT := Lib.hid (show ∀ k (hk : k < xs.length), (sdA xs)[k]'(by rw [sdA_len]; exact hk) = xs[xs.length - 1 - k]'(by omega) - (xs.reverse)[xs.length - 1 - k]'(by rw [HRL.out]; omega) from fun k hk => by
        have e1 : sdA xs = smA 1 (-1) xs := if_neg hlt
        simp only [e1]
        rw [smA_at 1 (-1) xs k hk, List.getElem_reverse]
        have e2 : xs[xs.length - 1 - (xs.length - 1 - k)]'(by omega) = xs[k] := by congr 1; omega
        rw [e2]; omega)
      clear hb4 hlt hlf
      obtain ⟨A, Z, SS, hRA, hRB, hXL, hYL, hxs.reverse, hYB, hSL, hAT3, hSS⟩ : ∃ A Z SS : List Int, Rd w4 _ (.slice a1 xs.length c1) A ∧ Rd w4 _ (.slice a2 xs.length c2) Z ∧ A.length = xs.length ∧ Z.length = xs.length ∧ (∀ x ∈ A, 0 ≤ x ∧ x ≤ b - 1) ∧ (∀ x ∈ Z, 0 ≤ x ∧ x ≤ b - 1) ∧ SS.length = xs.length ∧
          (∀ k, k < xs.length → SS[k]? = some (A.getD (xs.length - 1 - k) 0 - Z.getD (xs.length - 1 - k) 0)) ∧ SS = sdA xs :=
        ⟨xs, xs.reverse, sdA xs, RA.out, RB.out, by simp, by simp, fun x hx => HD.out.all x (by simpa using hx), fun x hx => HD.out.all x (by simpa using hx), sdA_len xs, fun k hk => by
          rw [List.getElem?_eq_getElem (by rw [sdA_len]; exact hk), HAT.out k hk, List.getD_eq_getElem?_getD, List.getD_eq_getElem?_getD, List.getElem?_eq_getElem (by first | omega | (simp; omega)), List.getElem?_eq_getElem (by first | omega | (simp; omega))]; rfl, rfl⟩
      have RA := Lib.hid hRA
      have RB := Lib.hid hRB
      have HXL := Lib.hid hXL
      have HYL := Lib.hid hYL
      have Hxs.reverse := Lib.hid hxs.reverse
      have HYB := Lib.hid hYB
      have HSL := Lib.hid hSL
      have HAT3 := Lib.hid hAT3
      rw [← hSS] at HSD HDL HIN
      clear hSS HAT hRA hRB hXL hYL hxs.reverse hYB hSL hAT3
      go_wp2_with (at_make; go_loud (refine wpList_mkR rfl _ _ rfl .i64 .i64 _ _ xs.length rfl rfl rfl rfl (by omega) ?_; intro w5 hr5 hg5 hb5; have R5 := Lib.hid hr5; have RA5 := Lib.hid (RA.out.keep hb5); have RB5 := Lib.hid (RB.out.keep hb5); have B5 := Lib.hid (Below.step B4.out B4.out.size hb5); have HLT5 := Lib.hid B4.out.size; clear hr5 hg5 hb5))
      go_loopw [9, 10] (fun bo i wr => ∃ k : Nat, k ≤ xs.length ∧ i = .int .i64 ((xs.length - k : Nat) - 1 : Int) ∧ bo = .int .i64 (-(coA b (SS.take k) 0)) ∧ Rd wr w4.heap.size (.slice (some ⟨w4.heap.size, 0, none⟩) xs.length xs.length) (List.replicate (xs.length - k) 0 ++ (dgA b (SS.take k) 0).reverse) ∧ w5.grownBy wr (some w4.heap.size)) (fun _ i _ => (intOf i + 1).toNat)
      case atStart => exact ⟨0, Nat.zero_le _, by simp, rfl, by simpa [dgA] using R5.out, World.grownBy.refl _ _⟩
      case round =>
        obtain ⟨k, hk, rfl, rfl, hr, hg⟩ := hrel
        have HR := Lib.hid hr
        have HG := Lib.hid hg
        obtain ⟨cc, hcc⟩ : ∃ cc, cc = coA b (SS.take k) 0 := ⟨_, rfl⟩
        obtain ⟨cc1, cc2⟩ := coD_bd b hb2 (SS.take k) 0 (fun s hs => HIN.out s (List.mem_of_mem_take hs)) (by omega) (by omega)
        rw [← hcc] at cc1 cc2
        have HCC := Lib.hid hcc
        rw [← hcc]
        clear hr hg hcc
        by_cases hlt : k < xs.length
        · have hA5 := (RA5.out.grown HG.out (.inr (fun e => by have := RA.out.lt _ e; omega)))
          have hB5 := (RB5.out.grown HG.out (.inr (fun e => by have := RB.out.lt _ e; omega)))
          obtain ⟨i, hi⟩ : ∃ i, i = xs.length - 1 - k := ⟨_, rfl⟩
          have hiA : i < A.length := by rw [HXL.out]; omega
          have hiB : i < Z.length := by rw [HYL.out]; omega
          obtain ⟨x1, hx1⟩ : ∃ x1, x1 = A[i] := ⟨_, rfl⟩
          obtain ⟨x2, hx2⟩ : ∃ x2, x2 = Z[i] := ⟨_, rfl⟩
          obtain ⟨b11, b12⟩ := Hxs.reverse.out x1 (by rw [hx1]; exact List.getElem_mem _)
          obtain ⟨b21, b22⟩ := HYB.out x2 (by rw [hx2]; exact List.getElem_mem _)
          rcases hA5.sl with ⟨ad1, cp1, hv1, hA | ⟨g1, o1, rfl, _, hA⟩⟩
          · rw [hA] at hiA; simp at hiA
          rcases hB5.sl with ⟨ad2, cp2, hv2, hB | ⟨g2, o2, rfl, _, hB⟩⟩
          · rw [hB] at hiB; simp at hiB
          have hc1 := hA i hiA
          have hc2 := hB i hiB
          rw [← hx1] at hc1
          rw [← hx2] at hc2
          simp only [Value.slice.injEq] at hv1 hv2
          obtain ⟨rfl, hv1a, hv1b⟩ := hv1
          obtain ⟨rfl, hv2a, hv2b⟩ := hv2
          clear hv1a hv1b hv2a hv2b
          have HSN := Lib.hid (show SS.take (k + 1) = SS.take k ++ [x1 - x2] by
            have h9 := HAT3.out k hlt
            rw [← hi, List.getD_eq_getElem?_getD, List.getD_eq_getElem?_getD, List.getElem?_eq_getElem hiA, List.getElem?_eq_getElem hiB, Option.getD_some, Option.getD_some, ← hx1, ← hx2] at h9
            rw [List.take_add_one, h9]; rfl)
          have hi1 : ((xs.length - k : Nat) : Int) - 1 = (i : Int) := by omega
          have hilt : i < xs.length := by omega
          have HI := Lib.hid hi
          have hds : (dgA b (SS.take k) 0).length = k := by rw [dgA_len, List.length_take, HSL.out]; omega
          have HDS2 := Lib.hid hds
          have hrl : (List.replicate (xs.length - k) (0:Int) ++ (dgA b (SS.take k) 0).reverse).length = xs.length := by rw [List.length_append, List.length_replicate, List.length_reverse, hds]; omega
          obtain ⟨z1, hz1⟩ : ∃ z, wr.cell? ⟨w4.heap.size, i, none⟩ = some (.int .i64 z) := ⟨_, HR.out.at.2.2.2.2.1 i (by rw [hrl]; exact hilt)⟩
          have hfa := HR.out.at.2.2.2.2.2 i
          have hdv := divD b (x1 - x2) cc hb2 (by omega) (by omega) cc1 cc2
          have HDV := Lib.hid hdv
          rw [hi1]
          clear hx1 hx2 hA hB hA5 hB5 hi hi1 hds hrl hdv hiA hiB
          have hsub : x1 - x2 - -cc = x1 - x2 + cc := by omega
          have HFIN := Lib.hid (fun d => (HR.out.set i d))
          by_cases hneg : x1 - x2 + cc < 0
          · have hnegI : x1 - x2 - -cc < 0 := by omega
            have HV := Lib.hid (HDV.out.1 hneg)
            go_wp2
            go_region
            all_goals
              go_wp2
              go_roundw
              case rel =>
                have h2 := HFIN.out (x1 - x2 + cc + b)
                have hio := HI.out
                rw [show i = xs.length - 1 - k from hio, backfill xs.length k _ _ HDS2.out hlt, ← hio] at h2
                refine ⟨k + 1, by omega, by rw [show xs.length - (k + 1) = i by omega] <;> go_num, ?_, ?_, ?_⟩
                · rw [HSN.out, coA_snoc, ← HCC.out, HV.out.1]; rfl
                · rw [HSN.out, dgA_snoc, ← HCC.out, HV.out.2]
                  first | exact h2.1.drew | (simpa using h2.1.drew)
                · first | exact grown_drew (grown_trans HG.out h2.2) | (simpa using grown_drew (grown_trans HG.out h2.2))
              case measure => simp [intOf] <;> omega
          · have hnegI : ¬ x1 - x2 - -cc < 0 := by omega
            have HV := Lib.hid (HDV.out.2 (by omega))
            go_wp2
            go_region
            all_goals
              go_wp2
              go_roundw
              case rel =>
                have h2 := HFIN.out (x1 - x2 + cc)
                have hio := HI.out
                rw [show i = xs.length - 1 - k from hio, backfill xs.length k _ _ HDS2.out hlt, ← hio] at h2
                refine ⟨k + 1, by omega, by rw [show xs.length - (k + 1) = i by omega] <;> go_num, ?_, ?_, ?_⟩
                · rw [HSN.out, coA_snoc, ← HCC.out, HV.out.1]; rfl
                · rw [HSN.out, dgA_snoc, ← HCC.out, HV.out.2]
                  first | exact h2.1.drew | (simpa using h2.1.drew)
                · first | exact grown_drew (grown_trans HG.out h2.2) | (simpa using grown_drew (grown_trans HG.out h2.2))
              case measure => simp [intOf] <;> omega
        · obtain rfl : k = xs.length := by omega
          have hall : SS.take xs.length = SS := List.take_of_length_le (by rw [HSL.out]; exact Nat.le_refl _)
          have hr0 := HR.out
          rw [hall, Nat.sub_self, List.replicate_zero, List.nil_append] at hr0
          obtain ⟨ds, hds⟩ : ∃ ds, ds = (dgA b SS 0).reverse := ⟨_, rfl⟩
          rw [← hds] at hr0 HSD HDL
          have RR := Lib.hid hr0
          have BB := Lib.hid (show Below w.heap.size w wr from (B5.out).grown HG.out B5.out.size (fun q hq => by have h9 := HLT5.out; simp only [Option.some.injEq] at hq; omega))
          have hwl : IntKind.i64.wrap ((xs.length : Int) - 1) = ((xs.length - 1 : Nat) : Int) := by rw [IntWalk.i64_in _ (by omega)]; omega
          have hn1 : ((xs.length - xs.length : Nat) : Int) - 1 = -1 := by omega
          rw [hn1]
          clear hall hr0 hds hn1
          go_wp2
          go_loop [12] (fun s => ∃ j : Nat, j < xs.length ∧ s = .int .i64 (j : Int) ∧ lz ds = j + lz (ds.drop j)) (fun s => xs.length - (intOf s).toNat)
          case atStart => exact ⟨0, by omega, rfl, by simp⟩
          case round =>
            obtain ⟨j, hj, rfl, hz⟩ := hrel
            have HZ := Lib.hid hz
            have hkd : j < ds.length := by rw [HDL.out]; exact hj
            have hcell := RR.out.at.2.2.2.2.1 j hkd
            obtain ⟨q, hq⟩ : ∃ q, q = ds[j] := ⟨_, rfl⟩
            have HQ := Lib.hid hq
            rw [← hq] at hcell
            clear hz hq
            by_cases h1k : j + 1 < xs.length
            · have h1I : (j : Int) < ((xs.length - 1 : Nat) : Int) := by omega
              have h1J : (j : Int) < (xs.length : Int) - 1 := by omega
              by_cases hq0 : q = 0
              · have HN := Lib.hid (show lz ds = (j + 1) + lz (ds.drop (j + 1)) by rw [HZ.out, lz_drop ds j (by rw [HDL.out]; omega) (by rw [← HQ.out]; exact hq0)]; omega)
                subst hq0
                go_wp2
                go_round
                case rel => exact ⟨j + 1, by omega, by go_num, HN.out⟩
                case measure => simp [intOf]; omega
              · have hqb : (q == 0) = false := beq_no hq0
                have HN := Lib.hid (lz_end ds j hkd (.inr (by rw [← HQ.out]; exact hq0)))
                have hjl : j ≤ xs.length := by omega
                have hjn : ¬ xs.length = j := by omega
                have hjm : ¬ j = xs.length := by omega
                clear hq0
                go_wp2
                go_ret2
                refine ⟨_, rfl, .inr ?_, BB.out⟩
                rw [HSD.out, HZ.out, HN.out, Nat.add_zero]
                exact (Ro.of RR.out hj).mono HLT5.out
            · have h1I : ¬ (j : Int) < ((xs.length - 1 : Nat) : Int) := by omega
              have h1J : ¬ (j : Int) < (xs.length : Int) - 1 := by omega
              have HN := Lib.hid (lz_end ds j hkd (.inl (by rw [HDL.out]; omega)))
              have hjl : j ≤ xs.length := by omega
              have hjn : ¬ xs.length = j := by omega
              have hjm : ¬ j = xs.length := by omega
              go_wp2
              go_ret2
              refine ⟨_, rfl, .inr ?_, BB.out⟩
              rw [HSD.out, HZ.out, HN.out, Nat.add_zero]
              exact (Ro.of RR.out hj).mono HLT5.out
  · have HO := Lib.hid ho
    rw [LFD_no ho, ho]
    clear ho
    go_enter Try.func15, Try.ntmps15
    go_wp2_with (go_at_call 45; go_loud (refine (rvGood_any _ _ _ _ _ H.out hl).mono ?_; rw [HO.out]; rintro e w1 ⟨rfl, rfl⟩))
    go_ret2
    exact ⟨_, rfl, Rn.nil _ _, Below.refl _ _⟩

end Go.Proofs.Ytnggfcopndcppaa
