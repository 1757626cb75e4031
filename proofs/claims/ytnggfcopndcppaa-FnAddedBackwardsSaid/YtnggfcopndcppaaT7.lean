/-
  Differences of numbers and the same backwards: the program and the model (written by wip/tools/gen_rvsub.py).
-/
import Derived.Test.YtnggfcopndcppaaT6
namespace Go.Proofs.Ytnggfcopndcppaa
open Go.RowKit
set_option linter.unusedVariables false
set_option linter.unusedSimpArgs false
set_option maxRecDepth 100000

theorem ltL_step (xs ys : List Int) (k : Nat) (h1 : k < xs.length) (h2 : k < ys.length) : ltL (xs.drop k) (ys.drop k) = if xs[k] = ys[k] then ltL (xs.drop (k + 1)) (ys.drop (k + 1)) else decide (xs[k] < ys[k]) := by
  rw [List.drop_eq_getElem_cons h1, List.drop_eq_getElem_cons h2]; rfl

theorem rvLess_any (v u : Value) (xs ys : List Int) (w : World) (hv : Sl w v xs) (hu : Sl w u ys) (hl : xs.length ≤ 1000000) (he : xs.length = ys.length) :
    Calls Try.prog 55 #[v, u] w fun e w' => e = .returned (.bool (ltL xs ys)) ∧ Below w.heap.size w w' := by
  obtain ⟨a, cap, rfl, hx⟩ := hv
  obtain ⟨c, cap2, rfl, hy⟩ := hu
  have HX := Lib.hid hx
  have HY := Lib.hid hy
  have HE := Lib.hid he
  clear hx hy he
  go_enter Try.func55, Try.ntmps55
  go_wp2
  go_loopw [8] (fun i wr => ∃ k : Nat, k ≤ xs.length ∧ i = .int .i64 k ∧ ltL (xs.drop k) (ys.drop k) = ltL xs ys ∧ Below w.heap.size w wr) (fun i _ => xs.length - (intOf i).toNat)
  case atStart => exact ⟨0, Nat.zero_le _, rfl, rfl, Below.refl _ _⟩
  case round =>
    obtain ⟨k, hk, rfl, ht, hb⟩ := hrel
    have HT := Lib.hid ht
    have HB := Lib.hid hb
    clear ht hb
    by_cases hlt : k < xs.length
    · rcases HX.out with hx | ⟨b, off, rfl, hbl, hc⟩
      · rw [hx] at hlt; simp at hlt
      rcases HY.out with hy | ⟨b2, off2, rfl, hbl2, hc2⟩
      · have hy0 := congrArg List.length hy
        rw [List.length_nil, ← HE.out] at hy0
        omega
      have hlt2 : k < ys.length := by have := HE.out; omega
      have hcell : wr.cell? ⟨b, off + k, none⟩ = some (.int .i64 xs[k]) := (HB.out.cell (p := ⟨b, off + k, none⟩) hbl).trans (hc k hlt)
      have hcell2 : wr.cell? ⟨b2, off2 + k, none⟩ = some (.int .i64 ys[k]) := (HB.out.cell (p := ⟨b2, off2 + k, none⟩) hbl2).trans (hc2 k hlt2)
      have HS := Lib.hid (ltL_step xs ys k hlt hlt2)
      obtain ⟨x, hx⟩ : ∃ x, x = xs[k] := ⟨_, rfl⟩
      obtain ⟨y, hy⟩ : ∃ y, y = ys[k] := ⟨_, rfl⟩
      rw [← hx] at hcell HS
      rw [← hy] at hcell2 HS
      clear hc hc2 hx hy
      by_cases hxy : x = y
      · have HN := Lib.hid (show ltL (xs.drop (k + 1)) (ys.drop (k + 1)) = ltL xs ys by rw [← HT.out, HS.out, if_pos hxy])
        have hbn : (x != y) = false := bne_no hxy
        have hlty : k < ys.length := hlt2
        clear hxy
        go_wp2
        go_region
        all_goals
          go_wp2
          go_roundw
          case rel => exact ⟨k + 1, by omega, by go_num, HN.out, HB.out.drew⟩
          case measure => simp [intOf]; omega
      · have HN := Lib.hid (show decide (x < y) = ltL xs ys by rw [← HT.out, HS.out, if_neg hxy])
        have hbn : (x != y) = true := bne_yes hxy
        clear hxy
        go_wp2
        go_region
        all_goals
          go_wp2
          go_region
          all_goals
            go_wp2
            go_ret
            exact ⟨ret_bool HN.out, HB.out.drew.drew⟩
    · obtain rfl : k = xs.length := by omega
      have HN := Lib.hid (show ltL xs ys = false by
        rw [← HT.out, List.drop_of_length_le (Nat.le_refl _), List.drop_of_length_le (by rw [HE.out]; exact Nat.le_refl _)]; rfl)
      go_wp2
      go_ret
      exact ⟨ret_bool HN.out.symm, HB.out⟩

/-- The length of a slice value. -/
def lenS : Value → Nat
  | .slice _ n _ => n
  | _ => 0

theorem minusReversed_any (g cap : Nat) (xs : List Int) (b : Int) (B : Nat) (w : World) (h : Rd w B (.slice (some ⟨g, 0, none⟩) xs.length cap) xs) (hd : Dg b xs) :
    Calls Try.prog 52 #[lng (.slice (some ⟨g, 0, none⟩) xs.length cap) b] w fun e w' => ∃ u, e = .returned u ∧ Ro w' w.heap.size u (rvD b xs) ∧ Below w.heap.size w w' := by
  have H := Lib.hid h
  have HD := Lib.hid hd
  have h1 := hd.l1
  have h40 := hd.l40
  have HAL := Lib.hid (alloc_below w (.cells #[.slice (some ⟨g, 0, none⟩) xs.length cap, .int .i64 b] 56))
  have HCL := Lib.hid (co_less b hd.b2 xs hd.all)
  obtain ⟨cc, hcc⟩ : ∃ cc, cc = coA b (smA 1 (-1) xs) 0 := ⟨_, rfl⟩
  obtain ⟨cc1, cc2⟩ := coA_bd b hd.b2 (smA 1 (-1) xs) 0 (smA_in b 1 (-1) xs hd.all (.inl rfl) (.inr rfl) (.inl rfl)) (by omega) (by omega)
  rw [← hcc] at cc1 cc2 HCL
  have hcl := cyA_len b (smA 1 (-1) xs) 0
  rw [smA_len] at hcl
  have hlast : (cyA b (smA 1 (-1) xs) 0)[xs.length - 1]? = some cc := by
    have := cyA_last b (smA 1 (-1) xs) 0 (fun e => by have h9 := congrArg List.length e; rw [smA_len, List.length_nil] at h9; omega)
    rw [smA_len] at this
    rw [this, hcc]
  have HLA := Lib.hid hlast
  have HCY := Lib.hid hcl
  have HAD1 := Lib.hid (fun w' (hw : Rd w' B (.slice (some ⟨g, 0, none⟩) xs.length cap) xs) => add_any g cap xs b 1 (-1) B w' hw hd (.inl rfl) (.inr rfl) (.inl rfl))
  have HAD2 := Lib.hid (fun w' (hw : Rd w' B (.slice (some ⟨g, 0, none⟩) xs.length cap) xs) => add_any g cap xs b (-1) 1 B w' hw hd (.inr rfl) (.inl rfl) (.inr rfl))
  have hwl : IntKind.i64.wrap ((xs.length : Int) - 1) = ((xs.length - 1 : Nat) : Int) := by rw [IntWalk.i64_in _ (by omega)]; omega
  have HSD := Lib.hid (show rvD b xs = (dgA b (sdA xs) 0).reverse.drop (lz (dgA b (sdA xs) 0).reverse) from rfl)
  have HDL := Lib.hid (show (dgA b (sdA xs) 0).reverse.length = xs.length by rw [List.length_reverse, dgA_len, sdA_len])
  obtain ⟨ds, hds⟩ : ∃ ds, ds = (dgA b (sdA xs) 0).reverse := ⟨_, rfl⟩
  have HDS := Lib.hid hds
  rw [← hds] at HSD HDL
  clear h hd hcc hcl hlast hds
  have HC0 := Lib.hid (show (w.alloc (.cells #[.slice (some ⟨g, 0, none⟩) xs.length cap, .int .i64 b] 56)).cell? ⟨w.heap.size, 0, none⟩ = some (.slice (some ⟨g, 0, none⟩) xs.length cap) by simp [go_sem])
  have HC1 := Lib.hid (show (w.alloc (.cells #[.slice (some ⟨g, 0, none⟩) xs.length cap, .int .i64 b] 56)).cell? ⟨w.heap.size, 1, none⟩ = some (.int .i64 b) by simp [go_sem])
  go_enter Try.func52, Try.ntmps52
  go_wp2_with fail
  refine (HAD1.out _ (H.out.keep HAL.out)).mono ?_
  rintro e w2 ⟨g1, g2, rfl, hr1, hr2, hb1⟩
  have B2 := Lib.hid (Below.step HAL.out HAL.out.size hb1)
  have c0 := Below.keeps_cell hb1 HC0.out
  have c1 := Below.keeps_cell hb1 HC1.out
  have hlc := hr2.at.2.2.2.2.1 (xs.length - 1) (by rw [HCY.out]; omega)
  rw [(List.getElem?_eq_some_iff.1 HLA.out).2] at hlc
  have R1 := Lib.hid (hr1.mono HAL.out.size)
  have H2 := Lib.hid ((H.out.keep HAL.out).keep hb1)
  clear hr1 hr2 hb1
  by_cases hneg : cc < 0
  · have HDE := Lib.hid (show (dgA b (smA (-1) 1 xs) 0).reverse = ds by rw [HDS.out]; unfold sdA; rw [if_pos (HCL.out.1 hneg)])
    go_wp2_with fail
    refine (HAD2.out _ H2.out).mono ?_
    rw [HDE.out]
    rintro e w3 ⟨g3, g4, rfl, hr3, hr4, hb3⟩
    have B3 := Lib.hid (Below.step B2.out B2.out.size hb3)
    have R3 := Lib.hid (hr3.mono B2.out.size)
    clear hr3 hr4 hb3
    go_wp2
    go_loop [3] (fun s => ∃ k : Nat, k < xs.length ∧ s = .slice (some ⟨g3, k, none⟩) (xs.length - k) (xs.length - k) ∧ lz ds = k + lz (ds.drop k)) (fun s => lenS s)
    case atStart => exact ⟨0, by omega, rfl, by simp⟩
    case round =>
      obtain ⟨k, hk, rfl, hz⟩ := hrel
      have HZ := Lib.hid hz
      have hkd : k < ds.length := by rw [HDL.out]; exact hk
      have hcell := R3.out.at.2.2.2.2.1 k hkd
      obtain ⟨q, hq⟩ : ∃ q, q = ds[k] := ⟨_, rfl⟩
      have HQ := Lib.hid hq
      rw [← hq] at hcell
      clear hz hq
      by_cases h1k : 1 < xs.length - k
      · have h1I : (1:Int) < ((xs.length - k : Nat) : Int) := by omega
        by_cases hq0 : q = 0
        · have HN := Lib.hid (show lz ds = (k + 1) + lz (ds.drop (k + 1)) by rw [HZ.out, lz_drop ds k (by rw [HDL.out]; omega) (by rw [← HQ.out]; exact hq0)]; omega)
          have HSUB := Lib.hid (show xs.length - k - 1 = xs.length - (k + 1) by omega)
          have hle1 : 1 ≤ xs.length - k := by omega
          have hne1 : ¬ xs.length - k = 1 := by omega
          have hne2 : ¬ 1 = xs.length - k := by omega
          subst hq0
          go_wp2
          go_round
          case rel => exact ⟨k + 1, by omega, by rw [← HSUB.out], HN.out⟩
          case measure => simp [lenS]; omega
        · have hqb : (q == 0) = false := beq_no hq0
          have HN := Lib.hid (lz_end ds k hkd (.inr (by rw [← HQ.out]; exact hq0)))
          clear hq0
          go_wp2
          go_ret
          refine ⟨_, rfl, ?_, B3.out⟩
          rw [HSD.out, HZ.out, HN.out, Nat.add_zero]
          exact Ro.of R3.out hk
      · have h1I : ¬ (1:Int) < ((xs.length - k : Nat) : Int) := by omega
        have HN := Lib.hid (lz_end ds k hkd (.inl (by rw [HDL.out]; omega)))
        go_wp2
        go_ret
        refine ⟨_, rfl, ?_, B3.out⟩
        rw [HSD.out, HZ.out, HN.out, Nat.add_zero]
        exact Ro.of R3.out hk
  · have HDE := Lib.hid (show (dgA b (smA 1 (-1) xs) 0).reverse = ds by rw [HDS.out]; unfold sdA; rw [if_neg (fun h => hneg (HCL.out.2 h))])
    have R1b := Lib.hid (HDE.out ▸ R1.out)
    go_wp2
    go_loop [3] (fun s => ∃ k : Nat, k < xs.length ∧ s = .slice (some ⟨g1, k, none⟩) (xs.length - k) (xs.length - k) ∧ lz ds = k + lz (ds.drop k)) (fun s => lenS s)
    case atStart => exact ⟨0, by omega, rfl, by simp⟩
    case round =>
      obtain ⟨k, hk, rfl, hz⟩ := hrel
      have HZ := Lib.hid hz
      have hkd : k < ds.length := by rw [HDL.out]; exact hk
      have hcell := R1b.out.at.2.2.2.2.1 k hkd
      obtain ⟨q, hq⟩ : ∃ q, q = ds[k] := ⟨_, rfl⟩
      have HQ := Lib.hid hq
      rw [← hq] at hcell
      clear hz hq
      by_cases h1k : 1 < xs.length - k
      · have h1I : (1:Int) < ((xs.length - k : Nat) : Int) := by omega
        by_cases hq0 : q = 0
        · have HN := Lib.hid (show lz ds = (k + 1) + lz (ds.drop (k + 1)) by rw [HZ.out, lz_drop ds k (by rw [HDL.out]; omega) (by rw [← HQ.out]; exact hq0)]; omega)
          have HSUB := Lib.hid (show xs.length - k - 1 = xs.length - (k + 1) by omega)
          have hle1 : 1 ≤ xs.length - k := by omega
          have hne1 : ¬ xs.length - k = 1 := by omega
          have hne2 : ¬ 1 = xs.length - k := by omega
          subst hq0
          go_wp2
          go_round
          case rel => exact ⟨k + 1, by omega, by rw [← HSUB.out], HN.out⟩
          case measure => simp [lenS]; omega
        · have hqb : (q == 0) = false := beq_no hq0
          have HN := Lib.hid (lz_end ds k hkd (.inr (by rw [← HQ.out]; exact hq0)))
          clear hq0
          go_wp2
          go_ret
          refine ⟨_, rfl, ?_, B2.out⟩
          rw [HSD.out, HZ.out, HN.out, Nat.add_zero]
          exact Ro.of R1b.out hk
      · have h1I : ¬ (1:Int) < ((xs.length - k : Nat) : Int) := by omega
        have HN := Lib.hid (lz_end ds k hkd (.inl (by rw [HDL.out]; omega)))
        go_wp2
        go_ret
        refine ⟨_, rfl, ?_, B2.out⟩
        rw [HSD.out, HZ.out, HN.out, Nat.add_zero]
        exact Ro.of R1b.out hk

end Go.Proofs.Ytnggfcopndcppaa
