/-
  The program's words: their lists, and their gaps.
-/
import Derived.Test.YtadjjmlneghklaaJD
import Derived.Test.YtadjjmlneghklaaH2
import Derived.StillTailTactics
import Derived.IntWalk
namespace Go.Proofs.Ytadjjmlneghklaa
open Go.RowKit
set_option linter.unusedVariables false
set_option linter.unusedSimpArgs false
set_option maxRecDepth 100000

theorem srt_all' {m : Int} {xs : List Int} (h : ∀ x ∈ xs, 0 ≤ x ∧ x ≤ m) : ∀ x ∈ srt xs, 0 ≤ x ∧ x ≤ m := fun x hx => h x (srt_mem.1 hx)

/-- Digits in the block of an array. -/
theorem ar_row {w : World} {B g : Nat} {xs : List Int} (hg : w.heap[g]? = some (.cells (dw xs) 65 (0, 0))) (hB : B ≤ g) (hl : xs.length ≤ 8) : Rg 65 w B (.slice (some ⟨g, 0, none⟩) xs.length 8) (xs.map (Value.int .i64)) := by
  refine ⟨by simp, .inr ⟨g, 8, dw xs, by simp, hB, hg, by simpa using hl, by unfold maxLen; omega, by rw [dw_size hl], ?_⟩⟩
  simp [dw]

theorem Rg.src {w : World} {B g n cap : Nat} {e : TypeId} {xs : List Int} (h : Rg e w B (.slice (some ⟨g, 0, none⟩) n cap) (xs.map (Value.int .i64))) : Src w (.slice (some ⟨g, 0, none⟩) n cap) xs := by
  obtain ⟨h1, _, _, _, _, h2, _⟩ := h.at
  rw [List.length_map] at h1
  subst h1
  refine .inr ⟨⟨g, 0, none⟩, cap, rfl, fun j hj => ?_⟩
  rw [addr_add, Nat.zero_add, h2 j (by simpa using hj)]
  simp
theorem Below.keeps_cell {w w' : World} (h : Below w.heap.size w w') {a : Addr} {u : Value} (hc : w.cell? a = some u) : w'.cell? a = some u := by
  have hlt : a.block < w.heap.size := by
    by_cases hl : a.block < w.heap.size
    · exact hl
    · unfold World.cell? at hc
      simp [Array.getElem?_eq_none (Nat.le_of_not_lt hl)] at hc
  rw [h.cell (p := a) hlt]
  exact hc
theorem Src.keep {w w' : World} {u : Value} {ys : List Int} (h : Src w u ys) (hb : Below w.heap.size w w') : Src w' u ys := by
  rcases h with h | ⟨ad, c, h1, h2⟩
  · exact .inl h
  · exact .inr ⟨ad, c, h1, fun j hj => Below.keeps_cell hb (h2 j hj)⟩
theorem alloc_below (w : World) (o : Obj) : Below w.heap.size w (w.alloc o) := (Below.refl _ _).alloc (Nat.le_refl _) o

theorem clone_src (g n cap : Nat) (xs : List Int) (w : World) (h : Src w (.slice (some ⟨g, 0, none⟩) n cap) xs) (hl : xs.length ≤ 2000000) :
    Calls Try.prog 61 #[.slice (some ⟨g, 0, none⟩) n cap] w fun e w' => ∃ u, e = .returned u ∧ Rd w' w.heap.size u xs ∧ Below w.heap.size w w' := by
  have H := Lib.hid h
  clear h
  have hnil := fun (w : World) => Lib.run_eql_slice_nil (P := Try.prog) w 33 3 (some ⟨g, 0, none⟩) n cap 0 0 Try.underlying33
  go_enter Try.func61, Try.ntmps61
  go_wp2_with (at_builtin; refine wpList_appS rfl _ _ rfl w.heap.size _ _ [] xs rfl rfl (rd_empty _) (H.out.keep (alloc_below w _)) (by simp; omega) (by simp) ?_; intro v1 w1 hr1 hg1 hb1; have R1 := Lib.hid hr1; have B1 := Lib.hid ((alloc_below w (.cells #[] 3)).trans hb1); clear hr1 hg1 hb1)
  go_ret
  exact ⟨_, rfl, by have := R1.out; rwa [List.nil_append] at this, B1.out⟩

theorem list_any (xs : List Int) (b : Int) (w : World) (hl : xs.length ≤ 8) :
    Calls Try.prog 43 #[shp (xs.length : Int) b, .agg (dw xs)] w fun e w' => ∃ u, e = .returned u ∧ Rd w' w.heap.size u xs ∧ Below w.heap.size w w' := by
  have HB := Lib.hid (show Below w.heap.size w ((w.alloc (.cells #[.int .i64 (xs.length : Int), .int .i64 b] 45)).alloc (.cells (dw xs) 65)) from ((Below.refl _ _).alloc (Nat.le_refl _) _).alloc (by simp) _)
  have HS := Lib.hid (show Src ((w.alloc (.cells #[.int .i64 (xs.length : Int), .int .i64 b] 45)).alloc (.cells (dw xs) 65)) (.slice (some ⟨w.heap.size + 1, 0, none⟩) xs.length 8) xs from
    Rg.src (ar_row (B := 0) (by have := heap_alloc_new (w.alloc (.cells #[.int .i64 (xs.length : Int), .int .i64 b] 45)) (.cells (dw xs) 65); rwa [World.size_alloc] at this) (Nat.zero_le _) hl))
  have hsz := dw_size hl
  have hsl := fun w g => slA w g xs.length hl
  go_enter Try.func43, Try.ntmps43
  go_wp2_with fail
  refine (clone_src _ _ _ xs _ HS.out (by omega)).mono ?_
  rintro e w1 ⟨u, rfl, hr, hb⟩
  have R1 := Lib.hid (hr.mono HB.out.size)
  have B1 := Lib.hid (Below.step HB.out HB.out.size hb)
  clear hr hb
  go_wp2
  go_ret
  exact ⟨u, rfl, R1.out, B1.out⟩

/-- Slices.Sort on digits in the block of an array. -/
theorem sort_ar (g n cap : Nat) (xs : List Int) (B : Nat) (e0 : TypeId) (w : World) (h : Rg e0 w B (.slice (some ⟨g, 0, none⟩) n cap) (xs.map (Value.int .i64))) (hl : xs.length ≤ 2000000) :
    Calls Try.prog 78 #[.slice (some ⟨g, 0, none⟩) n cap] w fun e w' => e = .returned (.tuple #[]) ∧ Rg e0 w' B (.slice (some ⟨g, 0, none⟩) n cap) ((srt xs).map (Value.int .i64)) ∧ w.grownBy w' (some g) := by
  obtain ⟨hn0, _⟩ := h.at
  rw [List.length_map] at hn0
  subst hn0
  rcases h.2 with ⟨h1, _⟩ | ⟨g', cap', cur, hv, hg, hh, hn, hm, hc, ht⟩
  · simp at h1
  · simp only [Value.slice.injEq, Option.some.injEq, Addr.mk.injEq, and_true, true_and] at hv
    obtain ⟨rfl, hlen, rfl⟩ := hv
    rw [List.length_map] at hn ht
    refine (Try.slices_Sort_int g 0 cap xs w (holds_of_blockI hh (by simpa using ht)) (Array.getElem?_eq_some_iff.1 hh).1 (by omega)).mono ?_
    rintro e w' ⟨rfl, nn, os, rfl⟩
    refine ⟨rfl, ?_, grownBy_sortedI _⟩
    have := ownsRow_sortedI (n := nn) (os := os) (ts := srt xs) (srt_len xs) hg hh hn hm hc
    unfold Rg
    rw [List.length_map, srt_len]
    exact this

/-- The gaps of a word. -/
def gp (xs : List Int) : List Int := gpU (srt xs)
theorem gp_len (xs : List Int) : (gp xs).length = xs.length / 2 := by unfold gp; rw [gpU_len, srt_len]

theorem take_set_next {xs zs : List Int} {k : Nat} (hz : k < zs.length) (hx : k < xs.length) (h : zs.take k = xs.take k) (q : Int) (he : xs[k] = q) : (zs.set k q).take (k + 1) = xs.take (k + 1) := by
  rw [take_snoc' _ k (by simpa using hz), take_snoc' xs k hx, List.take_set, List.set_eq_of_length_le (by simp; omega), h, he]
  simp
theorem gpU_get (ys : List Int) (W k : Nat) (h : ys.length = W) (h1 : k < (gpU ys).length) (h2 : W - 1 - k < ys.length) (h3 : k < ys.length) : (gpU ys)[k] = ys[W - 1 - k] - ys[k] := by
  subst h
  rw [gpU_at]
  simp [h2, h3]

theorem gaps_any (xs : List Int) (b : Int) (w : World) (hl : xs.length ≤ 8) (hb' : b ≤ 16) (hx : ∀ x ∈ xs, 0 ≤ x ∧ x ≤ b - 1) :
    Calls Try.prog 68 #[shp (xs.length : Int) b, .agg (dw xs)] w fun e w' => ∃ u, e = .returned u ∧ Rd w' w.heap.size u (gp xs) ∧ Below w.heap.size w w' := by
  have HB := Lib.hid (show Below w.heap.size w ((w.alloc (.cells #[.int .i64 (xs.length : Int), .int .i64 b] 45)).alloc (.cells (dw xs) 65)) from ((Below.refl _ _).alloc (Nat.le_refl _) _).alloc (by simp) _)
  have HS := Lib.hid (show Rg 65 ((w.alloc (.cells #[.int .i64 (xs.length : Int), .int .i64 b] 45)).alloc (.cells (dw xs) 65)) w.heap.size (.slice (some ⟨w.heap.size + 1, 0, none⟩) xs.length 8) (xs.map (Value.int .i64)) from
    ar_row (by have := heap_alloc_new (w.alloc (.cells #[.int .i64 (xs.length : Int), .int .i64 b] 45)) (.cells (dw xs) 65); rwa [World.size_alloc] at this) (by omega) hl)
  have HC0 := Lib.hid (show ((w.alloc (.cells #[.int .i64 (xs.length : Int), .int .i64 b] 45)).alloc (.cells (dw xs) 65)).cell? ⟨w.heap.size, 0, none⟩ = some (.int .i64 (xs.length : Int)) by simp [go_sem])
  have HC1 := Lib.hid (show ((w.alloc (.cells #[.int .i64 (xs.length : Int), .int .i64 b] 45)).alloc (.cells (dw xs) 65)).cell? ⟨w.heap.size, 1, none⟩ = some (.int .i64 b) by simp [go_sem])
  have HX := Lib.hid (srt_all' hx)
  clear hx
  have hsz := dw_size hl
  have hsl := fun w g => slA w g xs.length hl
  go_enter Try.func68, Try.ntmps68
  go_wp2_with fail
  refine (sort_ar _ _ _ xs _ _ _ HS.out (by omega)).mono ?_
  rintro e w1 ⟨rfl, hr, hg⟩
  have R1 := Lib.hid hr
  have B1 := Lib.hid (HB.out.grown hg HB.out.size (fun k hk => by simp at hk; omega))
  have c0 := hg.cell HC0.out (by simp)
  have c1 := hg.cell HC1.out (by simp)
  clear hr hg
  obtain ⟨ys, hys⟩ : ∃ ys, ys = srt xs := ⟨_, rfl⟩
  have HG := Lib.hid (show gp xs = gpU ys by unfold gp; rw [hys])
  have HYL := Lib.hid (show ys.length = xs.length by rw [hys, srt_len])
  rw [← hys] at R1 HX
  clear hys HS HC0 HC1 HB
  obtain ⟨W, hW⟩ : ∃ W, W = xs.length := ⟨_, rfl⟩
  rw [← hW] at hl c0 HYL R1
  have HGL := Lib.hid (show (gpU ys).length = W / 2 by rw [gpU_len, HYL.out])
  rw [← hW]
  clear hsl hsz hW
  go_wp2_with fail
  refine (countGaps_any W b _ hl).mono ?_
  rintro e w2 ⟨rfl, hb2⟩
  have R2 := Lib.hid (R1.out.keep hb2)
  have B2 := Lib.hid (Below.step B1.out B1.out.size hb2)
  have d0 := Below.keeps_cell hb2 c0
  have d1 := Below.keeps_cell hb2 c1
  clear hb2 c0 c1 R1 B1
  go_wp2_with (refine wpList_mkR rfl _ _ rfl .i64 .i64 ((W / 2 : Nat) : Int) ((W / 2 : Nat) : Int) (W / 2) rfl rfl rfl rfl (by omega) ?_; intro w3 hr3 hg3 hb3; have R3 := Lib.hid hr3; have S3 := Lib.hid (R2.out.keep hb3); have A3 := Lib.hid (Rd.apart (fun k hk => (R2.out.lt k hk).2) hr3); have B3 := Lib.hid (Below.step B2.out B2.out.size hb3); have e0 := Below.keeps_cell hb3 d0; clear hr3 hg3 hb3 d0 d1)
  go_loopw [18] (fun i wr => ∃ (k : Nat) (zs : List Int), k ≤ W / 2 ∧ i = .int .i64 (k : Int) ∧ zs.length = W / 2 ∧ zs.take k = (gpU ys).take k ∧ Rd wr w2.heap.size (.slice (some ⟨w2.heap.size, 0, none⟩) (W / 2) (W / 2)) zs ∧
    Rg 65 wr w.heap.size (.slice (some ⟨w.heap.size + 1, 0, none⟩) W 8) (ys.map (Value.int .i64)) ∧ Below w.heap.size w wr ∧ wr.cell? ⟨w.heap.size, 0, none⟩ = some (.int .i64 (W : Int))) (fun i _ => W / 2 - (intOf i).toNat)
  case atStart => exact ⟨0, List.replicate (W / 2) 0, Nat.zero_le _, rfl, by simp, rfl, R3.out, S3.out, B3.out, e0⟩
  case round =>
    obtain ⟨k, zs, hk, rfl, hzl, hzt, hrz, hry, hbl, c0⟩ := hrel
    have HZL := Lib.hid hzl
    have HZT := Lib.hid hzt
    have RZ := Lib.hid hrz
    have RY := Lib.hid hry
    have HB := Lib.hid hbl
    have hW2 : w.heap.size + 1 < w2.heap.size := by have := R2.out.at.2.2.1; exact this
    clear hzl hzt hrz hry hbl
    by_cases hlt : k < W / 2
    · have hc1 := RY.out.at.2.2.2.2.2.1 (W - 1 - k) (by rw [List.length_map, HYL.out]; omega)
      have hc2 := RY.out.at.2.2.2.2.2.1 k (by rw [List.length_map, HYL.out]; omega)
      rw [List.getElem_map] at hc1 hc2
      obtain ⟨x1, x2⟩ := HX.out (ys[W - 1 - k]'(by rw [HYL.out]; omega)) (List.getElem_mem _)
      obtain ⟨y1, y2⟩ := HX.out (ys[k]'(by rw [HYL.out]; omega)) (List.getElem_mem _)
      have HGK := Lib.hid (gpU_get ys W k HYL.out (by rw [HGL.out]; exact hlt) (by rw [HYL.out]; omega) (by rw [HYL.out]; omega))
      obtain ⟨x, hx⟩ : ∃ x, x = ys[W - 1 - k]'(by rw [HYL.out]; omega) := ⟨_, rfl⟩
      obtain ⟨y, hy⟩ : ∃ y, y = ys[k]'(by rw [HYL.out]; omega) := ⟨_, rfl⟩
      rw [← hx] at hc1 x1 x2 HGK
      rw [← hy] at hc2 y1 y2 HGK
      have hcz := RZ.out.at.2.2.2.2.1 k (by rw [HZL.out]; exact hlt)
      obtain ⟨z, hz⟩ : ∃ z, z = zs[k]'(by rw [HZL.out]; exact hlt) := ⟨_, rfl⟩
      rw [← hz] at hcz
      have hfz := RZ.out.at.2.2.2.2.2 k
      clear hx hy hz
      go_wp2
      have hw1 : IntKind.i64.wrap ((W : Int) - 1) = ((W - 1 : Nat) : Int) := by rw [IntWalk.i64_in _ (by omega)]; omega
      have hw2 : IntKind.i64.wrap (((W - 1 : Nat) : Int) - (k : Int)) = ((W - 1 - k : Nat) : Int) := by rw [IntWalk.i64_in _ (by omega)]; omega
      have hw3 : IntKind.i64.wrap (x - y) = x - y := IntWalk.i64_in _ (by omega)
      have hlt1 : W - 1 - k < W := by omega
      have hlt2 : k < W := by omega
      go_still_tail 16, (by kernel_rfl)
      change wpList _ _ _ _ _ wr.drew
      have RZd := Lib.hid (show Rd wr.drew w2.heap.size (.slice (some ⟨w2.heap.size, 0, none⟩) (W / 2) (W / 2)) zs from RZ.out)
      have RYd := Lib.hid (show Rg 65 wr.drew w.heap.size (.slice (some ⟨w.heap.size + 1, 0, none⟩) W 8) (ys.map (Value.int .i64)) from RY.out)
      have HBd := Lib.hid (show Below w.heap.size w wr.drew from HB.out.drew)
      have hczd : wr.drew.cell? ⟨w2.heap.size, k, none⟩ = some (.int .i64 z) := hcz
      have hfzd : wr.drew.frozen? ⟨w2.heap.size, k, none⟩ = false := hfz
      have c0d : wr.drew.cell? ⟨w.heap.size, 0, none⟩ = some (.int .i64 (W : Int)) := c0
      clear RZ RY HB hcz hfz c0 hc1 hc2
      generalize wr.drew = wd at *
      go_wp2
      go_roundw
      case rel =>
        have h2 := RZd.out.set k (x - y)
        exact ⟨k + 1, zs.set k (x - y), by omega, by go_num, by rw [List.length_set, HZL.out], take_set_next (by rw [HZL.out]; exact hlt) (by rw [HGL.out]; exact hlt) HZT.out (x - y) HGK.out, h2.1, RYd.out.grown h2.2 (.inr (by simp [Value.ownBlock]; omega)), HBd.out.trans (grown_below h2.2 HBd.out.size (by omega)), h2.2.cell c0d (by simp <;> omega)⟩
      case measure => simp [intOf] <;> omega
    · obtain rfl : k = W / 2 := by omega
      have HE := Lib.hid (show zs = gp xs by
        have h1 := HZT.out
        rw [List.take_of_length_le (by rw [HZL.out]; exact Nat.le_refl _), List.take_of_length_le (by rw [HGL.out]; exact Nat.le_refl _)] at h1
        rw [h1, HG.out])
      go_wp2
      go_ret
      exact ⟨_, rfl, by rw [← HE.out]; exact RZ.out.mono (by omega), HB.out⟩

end Go.Proofs.Ytadjjmlneghklaa
