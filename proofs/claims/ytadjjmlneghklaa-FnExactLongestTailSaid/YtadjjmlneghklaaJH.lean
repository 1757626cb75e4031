/-
  The model's words: values, digits, steps, gaps.
-/
import Derived.Test.YtadjjmlneghklaaJE
import Derived.Test.YtadjjmlneghklaaB
import Derived.Deep.RegionLaw
import Derived.Deep.RegionHeld3
import Derived.Laws.AppendOwn
namespace Go.Proofs.Ytadjjmlneghklaa
open Go.RowKit
set_option linter.unusedVariables false
set_option linter.unusedSimpArgs false
set_option maxRecDepth 100000

/-- An append at a step of a region that draws its order. -/
theorem step_appS {w : World} {ops : Array Oper} {o : Oper} {a : Act} {K : Act → World → Prop} {Q : Exit → Act → World → Prop} {E : Prop} (hgd : o.guard = none) (s x : Operand)
    (ho : o.op = .call { callee := .builtin .append, args := #[s, x], argTypes := #[33, 33] })
    (B : Nat) (v : Value) (xs ys : List Int) (ad : Addr) (m c : Nat) (hs : a.eval s = v) (hx : a.eval x = .slice (some ad) m c) (hv : Rd w B v xs) (hm : ys.length = m)
    (hc : ∀ j (h : j < ys.length), w.cell? (ad.add j) = some (.int .i64 ys[j])) (hlen : xs.length + ys.length ≤ 17179869184) (hB : B ≤ w.heap.size)
    (h : ∀ v' w', Rd w' B v' (xs ++ ys) → w.grownBy w' v.ownBlock → Below B w w' → K (a.put o.dst v') w') :
    if Region.wanted o (yielded ops a.tmps) = true then Oper.wp Try.prog o a w K Q else E := by
  have hw : Region.wanted o (yielded ops a.tmps) = true := by simp [Region.wanted, hgd]
  rw [if_pos hw]
  obtain ⟨i0, hi, hz0, hz1, hz2⟩ := info_parts info3
  subst hm
  obtain ⟨v', w', hr, h2, h3, _⟩ := run_append_own (P := Try.prog) w B 33 o.type 3 i0 (.int .i64 0) 1 8 Try.underlying33 hi hz0 hz1 hz2 rfl (by decide) v xs.length _ hv ad ys.length c (ys.map (Value.int .i64)) (by simp) (fun j q hj => by
    have hj' : j < ys.length := by have := (List.getElem?_eq_some_iff.1 hj).1; simpa using this
    rw [hc j hj', ← hj]
    simp [hj']) (ints_oneCell _ _) (by unfold maxLen; omega) (by omega) hB
  unfold Oper.wp execOp
  simp only [ho, resolve, invoke, builtin, Sem.run_bind, Sem.run_pure, Result.andThen_ok, List.map_toArray, List.map_cons, List.map_nil, hs, hx, hr]
  refine h v' w' ?_ h3 ((Below.refl _ _).grown h3 hB (fun k hk => (hv.lt k hk).1))
  unfold Rd
  rw [List.length_append, List.map_append]
  exact h2

theorem gpValue_any (v : Value) (xs : List Int) (b : Int) (w : World) (h : Sl w v xs) (hb : 2 ≤ b) (hb' : b ≤ 16) (hx : ∀ x ∈ xs, 0 ≤ x ∧ x ≤ b - 1) (hl : xs.length ≤ 8) :
    Calls Try.prog 50 #[v, .int .i64 b] w fun e w' => e = .returned (.int .i64 (vl b xs)) ∧ w = w' := by
  obtain ⟨a, cap, rfl, hc⟩ := h
  have HC := Lib.hid hc
  have HV := Lib.hid (show ∀ k, k ≤ xs.length → 0 ≤ vl b (xs.take k) ∧ vl b (xs.take k) ≤ 4294967296 from fun k hk => by
    have h1 := vl_bd hb k (xs.take k) (by simp; omega) (fun x h => hx x (List.mem_of_mem_take h))
    have h2 := (ws_all hb hb' (show k ≤ 8 by omega)).2.2
    omega)
  have HX := Lib.hid hx
  clear hx hc
  go_enter Try.func50, Try.ntmps50
  go_wp2
  go_loop [5, 10] (fun p i => ∃ k : Nat, k ≤ xs.length ∧ i = .int .i64 (k : Int) ∧ p = .int .i64 (vl b (xs.take k))) (fun _ i => xs.length - (intOf i).toNat)
  case atStart => exact ⟨0, Nat.zero_le _, rfl, rfl⟩
  case round =>
    obtain ⟨k, hk, rfl, rfl⟩ := hrel
    obtain ⟨v1, v2⟩ := HV.out k hk
    obtain ⟨p, hp⟩ : ∃ p, p = vl b (xs.take k) := ⟨_, rfl⟩
    rw [← hp] at v1 v2
    by_cases hlt : k < xs.length
    · rcases HC.out with hx | ⟨g, off, rfl, hgl, hc⟩
      · rw [hx] at hlt; simp at hlt
      have HS := Lib.hid (show vl b (xs.take (k + 1)) = p * b + xs[k] by rw [take_snoc' xs k hlt, vl_snoc, ← hp])
      have hcell := hc k hlt
      clear hc
      obtain ⟨d1, d2⟩ := HX.out xs[k] (List.getElem_mem hlt)
      obtain ⟨d, hd⟩ : ∃ d, d = xs[k] := ⟨_, rfl⟩
      rw [← hd] at d1 d2 HS hcell
      obtain ⟨m1, m2⟩ : 0 ≤ p * b ∧ p * b ≤ 4294967296 * 16 := ⟨Int.mul_nonneg (by omega) (by omega), Int.mul_le_mul v2 hb' (by omega) (by omega)⟩
      rw [← hp]
      clear hp hd
      go_wp2
      go_round
      case rel => exact ⟨k + 1, by omega, by go_num, by rw [HS.out]⟩
      case measure => simp [intOf]; omega
    · obtain rfl : k = xs.length := by omega
      have HE := Lib.hid (show p = vl b xs by rw [hp, List.take_of_length_le (Nat.le_refl _)])
      rw [← hp]
      clear hp
      go_wp2
      go_ret
      exact ⟨ret_int HE.out, rfl⟩

theorem gpWith_any (W : Nat) (n b : Int) (w : World) (hb : 2 ≤ b) (hb' : b ≤ 16) (hW : W ≤ 8) (hn : 0 ≤ n) (hn' : n ≤ 4294967296) :
    Calls Try.prog 33 #[.int .i64 n, .int .i64 (W : Int), .int .i64 b] w fun e w' => ∃ u, e = .returned u ∧ Rd w' w.heap.size u (wd b W n) ∧ Below w.heap.size w w' := by
  go_enter Try.func33, Try.ntmps33
  go_wp2_with (refine wpList_mkR rfl _ _ rfl .i64 .i64 (W : Int) (W : Int) W rfl rfl rfl rfl (by omega) ?_; intro w3 hr3 hg3 hb3; have R3 := Lib.hid hr3; have B3 := Lib.hid hb3; clear hr3 hg3 hb3)
  go_loopw [0, 8] (fun v i wr => ∃ (j : Nat) (m : Int) (ts : List Int), j ≤ W ∧ i = .int .i64 ((j : Int) - 1) ∧ v = .int .i64 m ∧ 0 ≤ m ∧ m ≤ 4294967296 ∧ wd b W n = wd b j m ++ ts ∧ ts.length + j = W ∧
    Rd wr w.heap.size (.slice (some ⟨w.heap.size, 0, none⟩) W W) (List.replicate j 0 ++ ts) ∧ Below w.heap.size w wr) (fun _ i _ => (intOf i + 1).toNat)
  case atStart => exact ⟨W, n, [], Nat.le_refl _, rfl, rfl, hn, hn', (List.append_nil _).symm, Nat.zero_add _, by rw [List.append_nil]; exact R3.out, B3.out⟩
  case round =>
    obtain ⟨j, m, ts, hj, rfl, rfl, m0, m1, he, hl, hr, hbl⟩ := hrel
    have HE := Lib.hid he
    have HTL := Lib.hid hl
    have HR := Lib.hid hr
    have HB := Lib.hid hbl
    clear he hl hr hbl
    cases j with
    | zero =>
      have HD := Lib.hid (show List.replicate 0 0 ++ ts = wd b W n by rw [HE.out]; rfl)
      go_wp2
      go_ret
      exact ⟨_, rfl, by rw [← HD.out]; exact HR.out, HB.out⟩
    | succ j =>
      have hmod := Int.emod_lt_of_pos m (show 0 < b by omega)
      have hmod0 := Int.emod_nonneg m (show b ≠ 0 by omega)
      have hdiv0 := Int.ediv_nonneg m0 (show 0 ≤ b by omega)
      have hdiv1 : m / b ≤ m := Int.ediv_le_self b m0
      have hcast : ((j + 1 : Nat) : Int) - 1 = (j : Int) := by omega
      have HW := Lib.hid (wd_step b j m ts)
      have hlen : (List.replicate (j + 1) (0 : Int) ++ ts).length = W := by have := HTL.out; simp; omega
      have hcell := HR.out.at.2.2.2.2.1 j (by rw [hlen]; omega)
      have hfr := HR.out.at.2.2.2.2.2 j
      obtain ⟨z, hz⟩ : ∃ z, z = (List.replicate (j + 1) 0 ++ ts)[j]'(by rw [hlen]; omega) := ⟨_, rfl⟩
      rw [← hz] at hcell
      have HS := Lib.hid (HR.out.set j (m % b))
      have HSL := Lib.hid (rep_set j (m % b) ts)
      have jW : j < W := by omega
      rw [hcast]
      clear hcast hz hlen
      go_wp2
      go_roundw
      case rel =>
        refine ⟨j, m / b, m % b :: ts, by omega, rfl, rfl, by omega, by omega, by rw [HE.out, HW.out], by have := HTL.out; simp; omega, ?_, HB.out.trans (grown_below HS.out.2 HB.out.size (Nat.le_refl _))⟩
        have := HS.out.1; rw [HSL.out] at this; exact this
      case measure => simp [intOf] <;> omega

/-- The value behind a word. -/
def stv (b : Int) (xs : List Int) : Int := gv b xs.length (gp xs)

theorem srt_sorted (xs : List Int) : (srt xs).Pairwise (· ≤ ·) := by
  have hs : (srt xs).Pairwise (fun a b => decide (a ≤ b) = true) := List.pairwise_mergeSort (fun a b c h1 h2 => by simp at h1 h2 ⊢; omega) (fun a b => by simp; omega) xs
  exact hs.imp (fun h => by simpa using h)
theorem gp_all {xs : List Int} {b : Int} (hx : ∀ x ∈ xs, 0 ≤ x ∧ x ≤ b - 1) : ∀ x ∈ gp xs, 0 ≤ x ∧ x ≤ b - 1 := by
  have h1 := srt_all' hx
  have hs' := srt_sorted xs
  intro x hx
  unfold gp at hx
  obtain ⟨i, hi, rfl⟩ := List.getElem_of_mem hx
  rw [gpU_len] at hi
  rw [gpU_get (srt xs) (srt xs).length i rfl (by rw [gpU_len]; exact hi) (by omega) (by omega)]
  have h2 := h1 _ (List.getElem_mem (show (srt xs).length - 1 - i < (srt xs).length by omega))
  have h3 := h1 _ (List.getElem_mem (show i < (srt xs).length by omega))
  have h4 := List.pairwise_iff_getElem.1 hs' i ((srt xs).length - 1 - i) (by omega) (by omega) (by omega)
  omega
theorem stv_bd {b : Int} {xs : List Int} (hb : 2 ≤ b) (hb' : b ≤ 16) (hl : xs.length ≤ 8) (hx : ∀ x ∈ xs, 0 ≤ x ∧ x ≤ b - 1) : 0 ≤ stv b xs ∧ stv b xs < b ^ xs.length := gv_bd hb hb' hl (gp_all hx)
theorem stv_back (b : Int) (xs : List Int) (hl : xs.length ≤ 8) : vl b (srt xs).reverse - vl b (srt xs) = stv b xs := by
  have := back_less b (srt xs) (by rw [srt_len]; exact hl)
  rw [srt_len] at this
  exact this

theorem gpStep_any (v : Value) (xs : List Int) (b : Int) (w : World) (h : Sl w v xs) (hb : 2 ≤ b) (hb' : b ≤ 16) (hl : xs.length ≤ 8) (hx : ∀ x ∈ xs, 0 ≤ x ∧ x ≤ b - 1) :
    Calls Try.prog 63 #[v, .int .i64 b] w fun e w' => ∃ u, e = .returned u ∧ Rd w' w.heap.size u (wd b xs.length (stv b xs)) ∧ Below w.heap.size w w' := by
  have H := Lib.hid h
  have HX := Lib.hid (srt_all' hx)
  have HXR := Lib.hid (show ∀ x ∈ (srt xs).reverse, 0 ≤ x ∧ x ≤ b - 1 from fun x h => srt_all' hx x (List.mem_reverse.1 h))
  have HST := Lib.hid (stv_back b xs hl)
  obtain ⟨s0, s1⟩ := stv_bd hb hb' hl hx
  have hp := (ws_all hb hb' hl).2.2
  have HSL := Lib.hid (srt_len xs)
  have HSR := Lib.hid (show (srt xs).reverse.length = xs.length by rw [List.length_reverse, srt_len])
  obtain ⟨a, cap, hv, _⟩ := h
  subst hv
  obtain ⟨x1, x2⟩ := vl_bd hb xs.length (srt xs) (srt_len xs) HX.out
  obtain ⟨y1, y2⟩ := vl_bd hb xs.length (srt xs).reverse HSR.out HXR.out
  obtain ⟨X, hX⟩ : ∃ X, X = vl b (srt xs) := ⟨_, rfl⟩
  obtain ⟨Y, hY⟩ : ∃ Y, Y = vl b (srt xs).reverse := ⟨_, rfl⟩
  obtain ⟨Z, hZ⟩ : ∃ Z, Z = stv b xs := ⟨_, rfl⟩
  have HV1 := Lib.hid (fun (u : Value) (w' : World) (h : Sl w' u (srt xs)) => gpValue_any u (srt xs) b w' h hb hb' HX.out (by rw [HSL.out]; exact hl))
  have HV2 := Lib.hid (fun (u : Value) (w' : World) (h : Sl w' u (srt xs).reverse) => gpValue_any u (srt xs).reverse b w' h hb hb' HXR.out (by rw [HSR.out]; exact hl))
  rw [← hX] at HV1 x1 x2 HST
  rw [← hY] at HV2 y1 y2 HST
  rw [← hZ] at HST s0 s1
  rw [← hZ]
  have hp1 : X ≤ 4294967296 := by omega
  have hp2 : Y ≤ 4294967296 := by omega
  have hp3 : Z ≤ 4294967296 := by omega
  clear hX hY hZ hx x2 y2 s1 hp
  go_enter Try.func63, Try.ntmps63
  go_wp2_with fail
  refine (dgSorted_any _ xs _ H.out (by omega)).mono ?_
  rintro e w1 ⟨u1, rfl, hr1, hb1⟩
  have R1 := Lib.hid hr1
  have B1 := Lib.hid hb1
  clear hr1 hb1
  go_wp2_with fail
  refine (dgBack_any _ (srt xs) _ R1.out.sl (by rw [HSL.out]; omega)).mono ?_
  rintro e w2 ⟨u2, rfl, hr2, hb2⟩
  have R2 := Lib.hid hr2
  have R1' := Lib.hid (R1.out.keep hb2)
  have B2 := Lib.hid (Below.step B1.out B1.out.size hb2)
  clear hr2 hb2
  go_wp2_with fail
  refine (HV2.out _ _ R2.out.sl).mono ?_
  rintro e w3 ⟨rfl, rfl⟩
  go_wp2_with fail
  refine (HV1.out _ _ R1'.out.sl).mono ?_
  rintro e w3 ⟨rfl, rfl⟩
  have hYX : Y - X = Z := HST.out
  go_wp2_with fail
  refine (gpWith_any xs.length Z b _ hb hb' hl s0 hp3).mono ?_
  rintro e w3 ⟨u3, rfl, hr3, hb3⟩
  have R3 := Lib.hid (hr3.mono B2.out.size)
  have B3 := Lib.hid (Below.step B2.out B2.out.size hb3)
  clear hr3 hb3
  go_wp2
  go_ret
  exact ⟨u3, rfl, R3.out, B3.out⟩

theorem gpGaps_any (v : Value) (xs : List Int) (b : Int) (w : World) (h : Sl w v xs) (hl : xs.length ≤ 8) (hb' : b ≤ 16) (hx : ∀ x ∈ xs, 0 ≤ x ∧ x ≤ b - 1) :
    Calls Try.prog 55 #[v] w fun e w' => ∃ u, e = .returned u ∧ Rd w' w.heap.size u (gp xs) ∧ Below w.heap.size w w' := by
  have H := Lib.hid h
  have HX := Lib.hid (srt_all' hx)
  obtain ⟨a, cap, hv, _⟩ := h
  subst hv
  clear hx
  go_enter Try.func55, Try.ntmps55
  go_wp2_with fail
  refine (dgSorted_any _ xs _ H.out (by omega)).mono ?_
  rintro e w1 ⟨u1, rfl, hr1, hb1⟩
  obtain ⟨ys, hys⟩ : ∃ ys, ys = srt xs := ⟨_, rfl⟩
  have HG := Lib.hid (show gp xs = gpU ys by unfold gp; rw [hys])
  have HYL := Lib.hid (show ys.length = xs.length by rw [hys, srt_len])
  rw [← hys] at hr1 HX
  have R1 := Lib.hid hr1
  have B1 := Lib.hid hb1
  obtain ⟨g1, c1, rfl⟩ : ∃ g1 c1, u1 = .slice g1 xs.length c1 := by obtain ⟨g1, c1, hu⟩ := hr1.sl.len; rw [HYL.out] at hu; exact ⟨g1, c1, hu⟩
  clear hys hr1 hb1
  have HGL := Lib.hid (show (gpU ys).length = xs.length / 2 by rw [gpU_len, HYL.out])
  obtain ⟨W, hW⟩ : ∃ W, W = xs.length := ⟨_, rfl⟩
  rw [← hW] at hl HYL HGL R1 H
  rw [← hW]
  clear hW
  go_wp2
  go_loopw [4, 5] (fun o i wr => ∃ k : Nat, k ≤ W / 2 ∧ i = .int .i64 (k : Int) ∧ Rd wr w1.heap.size o ((gpU ys).take k) ∧ Below w1.heap.size w1 wr) (fun _ i _ => W / 2 - (intOf i).toNat)
  case atStart => exact ⟨0, Nat.zero_le _, rfl, Rd.nil _ _, Below.refl _ _⟩
  case round =>
    obtain ⟨k, hk, rfl, hr, hbl⟩ := hrel
    have HR := Lib.hid hr
    have HB := Lib.hid hbl
    have RY := Lib.hid (R1.out.keep hbl)
    clear hr hbl
    by_cases hlt : k < W / 2
    · have hyl : ys.length = W := HYL.out
      rcases RY.out.cases with ⟨_, hn⟩ | ⟨g1', c1', hu, _, _, _, _, hc, _⟩
      · rw [hn] at hyl; simp at hyl; omega
      have hg1s : g1' < w1.heap.size := by have := (R1.out.lt g1' (by rw [hu]; rfl)).2; exact this
      have HNE := Lib.hid (show some g1' ≠ u4.ownBlock from fun e => by have := (HR.out.lt g1' e.symm).1; omega)
      simp only [Value.slice.injEq] at hu
      obtain ⟨rfl, hz0, rfl⟩ := hu
      clear hz0
      have hc1 := hc (W - 1 - k) (by rw [hyl]; omega)
      have hc2 := hc k (by rw [hyl]; omega)
      obtain ⟨x1, x2⟩ := HX.out (ys[W - 1 - k]'(by rw [hyl]; omega)) (List.getElem_mem _)
      obtain ⟨y1, y2⟩ := HX.out (ys[k]'(by rw [hyl]; omega)) (List.getElem_mem _)
      have HGK := Lib.hid (gpU_get ys W k hyl (by rw [HGL.out]; exact hlt) (by rw [hyl]; omega) (by rw [hyl]; omega))
      have HTK := Lib.hid (take_snoc' (gpU ys) k (by rw [HGL.out]; exact hlt))
      have HTL := Lib.hid (show ((gpU ys).take k).length = k by rw [List.length_take, HGL.out]; omega)
      obtain ⟨x, hx⟩ : ∃ x, x = ys[W - 1 - k]'(by rw [hyl]; omega) := ⟨_, rfl⟩
      obtain ⟨y, hy⟩ : ∃ y, y = ys[k]'(by rw [hyl]; omega) := ⟨_, rfl⟩
      rw [← hx] at hc1 x1 x2 HGK
      rw [← hy] at hc2 y1 y2 HGK
      rw [HGK.out] at HTK
      clear hx hy hc hyl
      go_wp2
      have hw1 : IntKind.i64.wrap ((W : Int) - 1) = ((W - 1 : Nat) : Int) := by rw [IntWalk.i64_in _ (by omega)]; omega
      have hw2 : IntKind.i64.wrap (((W - 1 : Nat) : Int) - (k : Int)) = ((W - 1 - k : Nat) : Int) := by rw [IntWalk.i64_in _ (by omega)]; omega
      have hw3 : IntKind.i64.wrap (x - y) = x - y := IntWalk.i64_in _ (by omega)
      have hlt1 : W - 1 - k < W := by omega
      have hlt2 : k < W := by omega
      have HRd := Lib.hid (show Rd wr.drew w1.heap.size _ ((gpU ys).take k) from HR.out)
      have HBd := Lib.hid (show Below w1.heap.size w1 wr.drew from HB.out.drew)
      have hsz := HB.out.size
      have k1 : wr.drew.cell? ⟨g1', W - 1 - k, none⟩ = some (.int .i64 x) := hc1
      have k2 : wr.drew.cell? ⟨g1', k, none⟩ = some (.int .i64 y) := hc2
      have KA := Lib.hid (alloc_below wr.drew (.cells #[.int .i64 (x - y)] 3))
      have l1 := Below.keeps_cell KA.out k1
      have l2 := Below.keeps_cell KA.out k2
      have HLT := Lib.hid (Rd.litB wr.drew w1.heap.size (x - y) hsz)
      have HAP := Lib.hid (show ∀ j (h : j < [x - y].length), (wr.drew.alloc (.cells #[.int .i64 (x - y)] 3)).cell? ((⟨wr.heap.size, 0, none⟩ : Addr).add j) = some (.int .i64 [x - y][j]) from fun j h => by rw [addr_add, Nat.zero_add]; exact HLT.out.at.2.2.2.2.1 j h)
      have hg1l : g1' < w1.heap.size := hg1s
      clear HR HB RY
      go_region_held3 (fun w' => w'.cell? ⟨g1', W - 1 - k, none⟩ = some (.int .i64 x) ∧ w'.cell? ⟨g1', k, none⟩ = some (.int .i64 y)) (first | exact ⟨k1, k2⟩ | exact ⟨l1, l2⟩ | exact ⟨m1, m2⟩) (first
        | (refine step_appS rfl (.tmp 15) (.tmp 29) rfl w1.heap.size _ ((gpU ys).take k) [x - y] ⟨wr.heap.size, 0, none⟩ 1 1 rfl rfl (HRd.out.alloc _) rfl HAP.out (by rw [HTL.out]; simp; omega) (by simp; omega) ?_; intro v2 w2 hr2 hg2 hb2; have R2 := Lib.hid hr2; have B2 := Lib.hid ((HBd.out.alloc (by have := HBd.out.size; omega) _).trans hb2); have m1 := hg2.cell l1 HNE.out; have m2 := hg2.cell l2 HNE.out; clear hr2 hg2 hb2))
      go_wp2
      go_roundw
      case rel => exact ⟨k + 1, by omega, by go_num, by rw [HTK.out]; exact R2.out, B2.out⟩
      case measure => simp [intOf] <;> omega
    · obtain rfl : k = W / 2 := by omega
      have HE := Lib.hid (show (gpU ys).take (W / 2) = gp xs by rw [List.take_of_length_le (by rw [HGL.out]; exact Nat.le_refl _), HG.out])
      go_wp2
      go_ret
      exact ⟨_, rfl, by rw [← HE.out]; exact HR.out.mono B1.out.size, Below.step B1.out B1.out.size HB.out⟩

end Go.Proofs.Ytadjjmlneghklaa
