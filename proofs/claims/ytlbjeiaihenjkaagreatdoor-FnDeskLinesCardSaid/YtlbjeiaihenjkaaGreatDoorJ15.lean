/-
  Joint text of UI, UJ, UK: what each proves stands ahead of it.
-/
import Derived.Test.YtlbjeiaihenjkaaGreatDoorJ14
import Derived.Deep.RegionLaw
import Derived.Laws.AppendOwn
import Derived.BigRegion
import Derived.Lib.AppendZeros
/- from UI: The model's run of a number, and a cycle with its least number first.  -/
namespace Go.Proofs.YtlbjeiaihenjkaaGreatDoor
open Go.RowKit
set_option linter.unusedVariables false
set_option linter.unusedSimpArgs false
set_option maxRecDepth 100000

theorem Src3.keep {w w' : World} {u : Value} {ys : List Int} (h : Src3 w u ys) (hb : Below w.heap.size w w') : Src3 w' u ys := by
  rcases h with h | ⟨ad, c, h1, h2⟩
  · exact .inl h
  · exact .inr ⟨ad, c, h1, fun j hj => Below.keeps_cell hb (h2 j hj)⟩

theorem rd_empty0 (w : World) : Rd (w.alloc (.cells #[] 3)) w.heap.size (.slice (some ⟨w.heap.size, 0, none⟩) 0 0) [] := by
  have := World.ownsRow_lit (e := 3) (size := 1) (base := w.heap.size) w #[] 0 (Nat.le_refl _) (by unfold maxLen; omega) rfl
  exact this

theorem alloc_below (w : World) (o : Obj) : Below w.heap.size w (w.alloc o) := (Below.refl _ _).alloc (Nat.le_refl _) o

theorem own_src (v : Value) (xs : List Int) (w : World) (h : Src3 w v xs) (hl : xs.length ≤ 2000000000) :
    Calls Tryz.prog 205 #[v] w fun e w' => ∃ u, e = .returned u ∧ Rd w' w.heap.size u xs ∧ Below w.heap.size w w' := by
  have H := Lib.hid h
  clear h
  go_enter Tryz.func205, Tryz.ntmps205
  go_wp2_with (at_builtin; refine wpList_appS3 rfl (.tmp 3) (.tmp 4) rfl w.heap.size _ _ [] xs rfl rfl (rd_empty0 w) (H.out.keep (alloc_below w _)) (by simp; omega) (by simp) ?_; intro v1 w1 hr1 hg1 hb1; have R1 := Lib.hid hr1; have B1 := Lib.hid ((alloc_below w (.cells #[] 3)).trans hb1); clear hr1 hg1 hb1)
  go_ret
  exact ⟨_, rfl, by have := R1.out; rwa [List.nil_append] at this, B1.out⟩

/-- An append at a step of a region that draws its order. -/
theorem step_appS {w : World} {ops : Array Oper} {o : Oper} {a : Act} {K : Act → World → Prop} {Q : Exit → Act → World → Prop} {E : Prop} (hgd : o.guard = none) (s x : Operand)
    (ho : o.op = .call { callee := .builtin .append, args := #[s, x], argTypes := #[38, 38] })
    (B : Nat) (v : Value) (xs ys : List Int) (ad : Addr) (m c : Nat) (hs : a.eval s = v) (hx : a.eval x = .slice (some ad) m c) (hv : Rd w B v xs) (hm : ys.length = m)
    (hc : ∀ j (h : j < ys.length), w.cell? (ad.add j) = some (.int .i64 ys[j])) (hlen : xs.length + ys.length ≤ 17179869184) (hB : B ≤ w.heap.size)
    (h : ∀ v' w', Rd w' B v' (xs ++ ys) → w.grownBy w' v.ownBlock → Below B w w' → K (a.put o.dst v') w') :
    if Region.wanted o (yielded ops a.tmps) = true then Oper.wp Tryz.prog o a w K Q else E := by
  have hw : Region.wanted o (yielded ops a.tmps) = true := by simp [Region.wanted, hgd]
  rw [if_pos hw]
  obtain ⟨i0, hi, hz0, hz1, hz2⟩ := info_parts info3
  subst hm
  obtain ⟨v', w', hr, h2, h3, _⟩ := run_append_own (P := Tryz.prog) w B 38 o.type 3 i0 (.int .i64 0) 1 8 Tryz.underlying38 hi hz0 hz1 hz2 rfl (by decide) v xs.length _ hv ad ys.length c (ys.map (Value.int .i64)) (by simp) (fun j q hj => by
    have hj' : j < ys.length := by have := (List.getElem?_eq_some_iff.1 hj).1; simpa using this
    rw [hc j hj', ← hj]
    simp [hj']) (ints_oneCell _ _) (by unfold maxLen; omega) (by omega) hB
  unfold Oper.wp execOp
  simp only [ho, resolve, invoke, builtin, Sem.run_bind, Sem.run_pure, Result.andThen_ok, List.map_toArray, List.map_cons, List.map_nil, hs, hx, hr]
  refine h v' w' ?_ h3 ((Below.refl _ _).grown h3 hB (fun k hk => (hv.lt k hk).1))
  unfold Rd
  rw [List.length_append, List.map_append]
  exact h2

theorem pwRun_any (n b p : Nat) (w : World) (hn : n ≤ 1000000000000) (hb : 2 ≤ b) (hb' : b ≤ 16) (hp : 1 ≤ p) (hp' : p ≤ 4) :
    Calls Tryz.prog 154 #[.int .i64 (n : Int), .int .i64 (b : Int), .int .i64 (p : Int)] w fun e w' => ∃ g c, e = .returned (.tuple #[.slice (some ⟨g, 0, none⟩) (rl (ps b p) PM n) c, .int .i64 ((tl (ps b p) PM n : Nat) : Int)]) ∧
      Rd w' w.heap.size (.slice (some ⟨g, 0, none⟩) (rl (ps b p) PM n) c) (run (ps b p) PM n) ∧ Below w.heap.size w w' := by
  have HP := Lib.hid (it_ps hb hb' hp' hn)
  have HX := Lib.hid (it_ps_le hb hb' hp' hn)
  obtain ⟨s1, s2, s3, s4, s5, s6⟩ := rl_spec HP.out
  have hrl : rl (ps b p) PM n ≤ 1012502 := by unfold PM at s2; exact s2
  obtain ⟨L, hL⟩ : ∃ L, L = rl (ps b p) PM n := ⟨_, rfl⟩
  obtain ⟨T, hTl⟩ : ∃ T, T = tl (ps b p) PM n := ⟨_, rfl⟩
  obtain ⟨F, hF⟩ : ∃ F : Nat → Nat, F = fun k => it (ps b p) k n := ⟨_, rfl⟩
  have HAT := Lib.hid (show ∀ k i, k ≤ L → i < k → F i = F k → k = L ∧ i = T by rw [hL, hTl, hF]; intro k i h1 h2 h3; exact rl_at HP.out h1 h2 h3)
  have HON := Lib.hid (show ∀ k, k ≤ L → (∀ i, i < k → F i ≠ F k) → k < L by rw [hL, hF]; intro k h1 h2; exact rl_on HP.out h1 h2)
  have HRUN := Lib.hid (show run (ps b p) PM n = lst L F by rw [hL, hF]; rfl)
  have HFS := Lib.hid (show ∀ k, F (k + 1) = ps b p (F k) by rw [hF]; intro k; rfl)
  have HFB := Lib.hid (show ∀ k, F k ≤ 1000000000000 by rw [hF]; exact HX.out)
  have HF0 := Lib.hid (show F 0 = n by rw [hF]; rfl)
  have hL1 : 1 ≤ L := by rw [hL]; exact s1
  rw [← hL] at hrl
  rw [← hTl, ← hL]
  clear s1 s2 s3 s4 s5 s6 HX HP hL hTl hF
  rw [HRUN.out]
  go_enter Tryz.func154, Tryz.ntmps154
  go_wp2
  go_loopw [0, 8] (fun x o wr => ∃ (k : Nat) (u : Value), k < L ∧ x = .int .i64 ((F k : Nat) : Int) ∧ u = o ∧ Rd wr w.heap.size u (lst (k + 1) F) ∧ Below w.heap.size w wr) (fun _ o _ => L - lenV o)
  case atStart => exact ⟨0, _, by omega, by rw [HF0.out], rfl, by rw [show lst (0 + 1) F = [(n : Int)] by rw [lst_succ, HF0.out]; rfl]; exact Rd.lit _ _, alloc_below _ _⟩
  case round =>
    obtain ⟨k, u, hk, rfl, rfl, hr, hbl⟩ := hrel
    obtain ⟨wo, hwo⟩ : ∃ wo : World, wo = wr := ⟨_, rfl⟩
    obtain ⟨gu, cu, rfl⟩ : ∃ gu cu, u = .slice (some ⟨gu, 0, none⟩) (k + 1) cu := by
      rcases hr.cases with ⟨_, hx⟩ | ⟨gu, cu, hu, _⟩
      · have := congrArg List.length hx; rw [lst_len] at this; simp at this
      · rw [lst_len] at hu; exact ⟨gu, cu, hu⟩
    have HR := Lib.hid hr
    have HB := Lib.hid hbl
    have hcast : ((k + 1 : Nat) : Int) = (k : Int) + 1 := by omega
    clear hr hbl hwo
    obtain ⟨x, hx⟩ : ∃ x, x = F k := ⟨_, rfl⟩
    obtain ⟨y, hy⟩ : ∃ y, y = F (k + 1) := ⟨_, rfl⟩
    have HY := Lib.hid hy
    have HYP := Lib.hid (show ps b p x = y by rw [hx, hy, HFS.out])
    have hxb : x ≤ 1000000000000 := by rw [hx]; exact HFB.out k
    have hyb : y ≤ 1000000000000 := by rw [hy]; exact HFB.out (k + 1)
    rw [← hx]
    clear hx hy
    go_wp2_with (go_at_call 146; refine (pwSum_any x b p _ hxb hb hb' (by omega)).mono ?_; rw [HYP.out]; rintro e w1 ⟨rfl, rfl⟩)
    go_loopw [19] (fun i wq => ∃ j : Nat, j ≤ k + 1 ∧ i = .int .i64 (j : Int) ∧ Hid (∀ i, i < j → F i ≠ y) ∧ wq = wr) (fun i _ => k + 1 - (intOf i).toNat)
    case atStart => exact ⟨0, by omega, rfl, Lib.hid (fun i hi => by omega), rfl⟩
    case round =>
      obtain ⟨j, hj, rfl, HN, rfl⟩ := hrel
      by_cases hlt : j < k + 1
      · have hcell := HR.out.at.2.2.2.2.1 j (by rw [lst_len]; exact hlt)
        rw [lst_at] at hcell
        obtain ⟨z, hz⟩ : ∃ z, z = F j := ⟨_, rfl⟩
        rw [← hz] at hcell
        by_cases he : z = y
        · have hq := HAT.out (k + 1) j (by omega) hlt (by rw [← hz, he, HY.out])
          have hbe : ((z : Int) == (y : Int)) = true := beq_yes (by omega)
          have HI := Lib.hid (show L = k + 1 from hq.1.symm)
          have HJ := Lib.hid (show T = j from hq.2.symm)
          clear hz he hq
          go_wp2
          go_ret2
          exact ⟨gu, cu, by rw [HI.out, HJ.out]; rfl, by rw [HI.out]; exact HR.out, HB.out⟩
        · have hbe : ((z : Int) == (y : Int)) = false := beq_no (by omega)
          have HN2 := Lib.hid (show ∀ i, i < j + 1 → F i ≠ y from fun i hi => by
            by_cases e : i = j
            · subst e; rw [← hz]; exact he
            · exact HN.out i (by omega))
          clear hz he
          go_wp2
          go_roundw
          case rel => exact ⟨j + 1, by omega, by go_num, HN2, by first | trivial | rfl⟩
          case measure => simp [intOf]; omega
      · obtain rfl : j = k + 1 := by omega
        have hkL : k + 1 < L := HON.out (k + 1) (by omega) (fun i hi => by rw [← HY.out]; exact HN.out i hi)
        have hsz := HB.out.size
        go_wp2_with (at_builtin; refine wpList_appR rfl _ _ rfl w.heap.size w.heap.size _ _ (lst (k + 1) F) [(y : Int)] rfl rfl (HR.out.alloc _) (Rd.litB _ _ _ (by omega)) (by simp [lst_len]; omega) (by simp; omega) ?_; intro v1 w1 hr1 hg1 hb1)
        have HR1 := Lib.hid (show Rd w1 w.heap.size v1 (lst (k + 1 + 1) F) by rw [lst_succ, ← HY.out]; exact hr1)
        have HB1 := Lib.hid ((HB.out.alloc (by omega) _).trans hb1)
        have HLV := Lib.hid (HR1.out.lenV)
        clear hr1 hg1 hb1
        go_wp2
        go_roundw
        case rel => exact ⟨k + 1, v1, by omega, by rw [HY.out], rfl, HR1.out, HB1.out⟩
        case measure => rw [HLV.out, lst_len]; simp [lenV]; omega

end Go.Proofs.YtlbjeiaihenjkaaGreatDoor

/- from UJ: A cycle with its least number first; where a run ends.  -/
namespace Go.Proofs.YtlbjeiaihenjkaaGreatDoor
open Go.RowKit
set_option linter.unusedVariables false
set_option linter.unusedSimpArgs false
set_option maxRecDepth 100000

/-- The place of the least of the first k numbers. -/
def miTo (xs : List Int) : Nat → Nat
  | 0 => 0
  | k + 1 => if xs.getD k 0 < xs.getD (miTo xs k) 0 then k else miTo xs k
theorem miTo_succ (xs : List Int) (k : Nat) : miTo xs (k + 1) = if xs.getD k 0 < xs.getD (miTo xs k) 0 then k else miTo xs k := rfl
theorem miTo_lt (xs : List Int) : ∀ k, miTo xs k ≤ k - 1
  | 0 => Nat.le_refl _
  | k + 1 => by rw [miTo_succ]; have := miTo_lt xs k; split <;> omega
theorem miTo_min (xs : List Int) : ∀ k, k < xs.length → xs.getD (miTo xs (k + 1)) 0 = Lib.minOf (xs.take (k + 1))
  | 0, h => by
    rw [Lib.minOf_one]
    have : miTo xs (0 + 1) = 0 := by have := miTo_lt xs (0 + 1); omega
    rw [this]
  | k + 1, h => by
    have ih := miTo_min xs k (by omega)
    rw [Lib.minOf_step xs (k + 1) (by omega) h, ← ih, miTo_succ xs (k + 1)]
    split
    · omega
    · omega
/-- The place of the least number. -/
def mi (xs : List Int) : Nat := miTo xs xs.length
theorem mi_lt {xs : List Int} (h : 0 < xs.length) : mi xs < xs.length := by have := miTo_lt xs xs.length; unfold mi; omega
theorem mi_min {xs : List Int} (h : 0 < xs.length) : xs.getD (mi xs) 0 = Lib.minOf xs := by
  obtain ⟨k, hk⟩ : ∃ k, xs.length = k + 1 := ⟨xs.length - 1, by omega⟩
  unfold mi
  rw [hk, miTo_min xs k (by omega), ← hk, List.take_of_length_le (Nat.le_refl _)]
/-- A cycle turned. -/
def turn (xs : List Int) : List Int := xs.drop (mi xs) ++ xs.take (mi xs)
theorem turn_len (xs : List Int) : (turn xs).length = xs.length := by simp [turn]; omega
theorem turn_head {xs : List Int} (h : 0 < xs.length) : (turn xs).getD 0 0 = Lib.minOf xs := by
  rw [← mi_min h]
  have h2 := mi_lt h
  unfold turn
  rw [List.getD_eq_getElem?_getD, List.getElem?_append_left (by simp; omega), List.getElem?_drop, Nat.add_zero, ← List.getD_eq_getElem?_getD]

theorem src_cells {w : World} {g o c m : Nat} {xs : List Int} (h : CellsAt w g o xs) (hm : m = xs.length) : Src3 w (.slice (some ⟨g, o, none⟩) m c) xs := by
  subst hm
  refine .inr ⟨⟨g, o, none⟩, c, rfl, fun j hj => ?_⟩
  rw [addr_add3, h j hj, List.getD_eq_getElem?_getD, List.getElem?_eq_getElem hj]
  rfl
theorem CellsAt.drop {w : World} {g o : Nat} {xs : List Int} (h : CellsAt w g o xs) (t : Nat) : CellsAt w g (o + t) (xs.drop t) := by
  intro j hj
  rw [List.length_drop] at hj
  rw [Nat.add_assoc, h (t + j) (by omega)]
  congr 2
  simp [List.getD_eq_getElem?_getD, List.getElem?_drop]
theorem CellsAt.take {w : World} {g o : Nat} {xs : List Int} (h : CellsAt w g o xs) (t : Nat) : CellsAt w g o (xs.take t) := by
  intro j hj
  rw [List.length_take] at hj
  rw [h j (by omega)]
  congr 2
  simp [List.getD_eq_getElem?_getD, List.getElem?_take, show j < t by omega]
theorem CellsAt.keep {w w' : World} {g o : Nat} {xs : List Int} (h : CellsAt w g o xs) (hb : Below w.heap.size w w') : CellsAt w' g o xs := fun j hj => Below.keeps_cell hb (h j hj)
theorem CellsAt.drew {w : World} {g o : Nat} {xs : List Int} (h : CellsAt w g o xs) : CellsAt w.drew g o xs := h

set_option maxHeartbeats 1000000 in
theorem pwTurned_any (g o n c : Nat) (xs : List Int) (w : World) (h : CellsAt w g o xs) (hn : n = xs.length) (h0 : 0 < n) (hl : n ≤ 3000000) (hc : n ≤ c) :
    Calls Tryz.prog 207 #[.slice (some ⟨g, o, none⟩) n c] w fun e w' => ∃ u, e = .returned u ∧ Rd w' w.heap.size u (turn xs) ∧ Below w.heap.size w w' := by
  have H := Lib.hid h
  have HN := Lib.hid hn
  have HML := Lib.hid (miTo_lt xs)
  clear h hn
  go_enter Tryz.func207, Tryz.ntmps207
  go_wp2
  go_loop [3, 8] (fun at' i => ∃ (k q : Nat), k ≤ n ∧ q < n ∧ i = .int .i64 (k : Int) ∧ at' = .int .i64 (q : Int) ∧ miTo xs k = q) (fun _ i => n - (intOf i).toNat)
  case atStart => exact ⟨0, 0, by omega, h0, rfl, rfl, rfl⟩
  case round =>
    obtain ⟨k, q, hk, hqn, rfl, rfl, hq⟩ := hrel
    have HQ := Lib.hid hq
    clear hq
    by_cases hlt : k < n
    · have hck := H.out k (by rw [← HN.out]; exact hlt)
      have hcq := H.out q (by rw [← HN.out]; exact hqn)
      have HS := Lib.hid (miTo_succ xs k)
      rw [HQ.out] at HS
      obtain ⟨x, hx⟩ : ∃ x, x = xs.getD k 0 := ⟨_, rfl⟩
      obtain ⟨y, hy⟩ : ∃ y, y = xs.getD q 0 := ⟨_, rfl⟩
      rw [← hx] at hck HS
      rw [← hy] at hcq HS
      clear hx hy
      by_cases hxy : x < y
      · have HE := Lib.hid (show miTo xs (k + 1) = k by rw [HS.out, if_pos hxy])
        go_wp2
        go_round
        case rel => exact ⟨k + 1, k, by omega, by omega, by go_num, rfl, HE.out⟩
        case measure => simp [intOf]; omega
      · have HE := Lib.hid (show miTo xs (k + 1) = q by rw [HS.out, if_neg hxy])
        go_wp2
        go_round
        case rel => exact ⟨k + 1, q, by omega, hqn, by go_num, rfl, HE.out⟩
        case measure => simp [intOf]; omega
    · obtain rfl : k = n := by omega
      have HMI := Lib.hid (show turn xs = xs.drop q ++ xs.take q by unfold turn mi; rw [← HN.out, HQ.out])
      have HDL := Lib.hid (show (xs.drop q).length = k - q by rw [List.length_drop, ← HN.out])
      have HTL := Lib.hid (show (xs.take q).length = q by rw [List.length_take, ← HN.out]; omega)
      have HSD := Lib.hid (show ∀ (W1 : World) (cc : Nat), Below w.heap.size w W1 → Src3 W1 (.slice (some ⟨g, o + q, none⟩) (k - q) cc) (xs.drop q) from fun W1 cc hb => src_cells ((H.out.drop q).keep hb) HDL.out.symm)
      have hqc : ¬ c = q := by omega
      have hqc2 : q < c := by omega
      have hqk : q ≤ k := by omega
      have hqc3 : q ≤ c := by omega
      have HB0 := Lib.hid (show Below w.heap.size w w.drew from (Below.refl _ _).drew)
      have HST := Lib.hid (show ∀ W1 : World, Below w.heap.size w W1 → ∀ j (hj : j < (xs.take q).length), W1.cell? ((⟨g, o, none⟩ : Addr).add j) = some (.int .i64 (xs.take q)[j]) from fun W1 hb j hj => by
        rw [addr_add3, ((H.out.take q).keep hb) j hj, List.getD_eq_getElem?_getD, List.getElem?_eq_getElem hj]; rfl)
      go_wp2
      go_region_law (first
        | (refine step_appS rfl (.tmp 24) (.tmp 27) rfl w.heap.size _ (xs.drop q) (xs.take q) ⟨g, o, none⟩ q c rfl rfl HR1.out HTL.out (HST.out _ HB1.out) (by rw [HDL.out, HTL.out]; omega) HB1.out.size ?_; intro v2 w2 hr2 hg2 hb2; have HR2 := Lib.hid hr2; have HB2 := Lib.hid (HB1.out.trans hb2); clear hr2 hg2 hb2)
        | (go_simp; go_at_call 205; refine (own_src _ (xs.drop q) _ (HSD.out _ _ HB0.out) (by rw [HDL.out]; omega)).mono ?_; rintro e w1 ⟨v1, rfl, hr1, hb1⟩; have HR1 := Lib.hid hr1; have HB1 := Lib.hid (Below.step HB0.out HB0.out.size hb1); clear hr1 hb1))
      all_goals
        go_simp
        go_wp2
        go_ret
        exact ⟨_, rfl, by rw [HMI.out]; exact HR2.out, HB2.out⟩

theorem pwEnds_any (n b p : Nat) (w : World) (hn : n ≤ 1000000000000) (hb : 2 ≤ b) (hb' : b ≤ 16) (hp : 1 ≤ p) (hp' : p ≤ 4) :
    Calls Tryz.prog 155 #[.int .i64 (n : Int), .int .i64 (b : Int), .int .i64 (p : Int)] w fun e w' => e = .returned (.int .i64 (endOf (ps b p) PM n)) ∧ Below w.heap.size w w' := by
  obtain ⟨s1, s2, s3, s4, s5, s6⟩ := rl_spec (it_ps hb hb' hp' hn)
  have hpm : rl (ps b p) PM n ≤ 1012502 := by unfold PM at s2; exact s2
  have HRN := Lib.hid (show ∀ w' : World, Calls Tryz.prog 154 #[.int .i64 (n : Int), .int .i64 (b : Int), .int .i64 (p : Int)] w' fun e w'' => ∃ g c, e = .returned (.tuple #[.slice (some ⟨g, 0, none⟩) (rl (ps b p) PM n) c, .int .i64 ((tl (ps b p) PM n : Nat) : Int)]) ∧
      Rd w'' w'.heap.size (.slice (some ⟨g, 0, none⟩) (rl (ps b p) PM n) c) (run (ps b p) PM n) ∧ Below w'.heap.size w' w'' from fun w' => pwRun_any n b p w' hn hb hb' hp hp')
  obtain ⟨L, hL⟩ : ∃ L, L = rl (ps b p) PM n := ⟨_, rfl⟩
  obtain ⟨T, hTl⟩ : ∃ T, T = tl (ps b p) PM n := ⟨_, rfl⟩
  obtain ⟨xs, hxs⟩ : ∃ xs, xs = run (ps b p) PM n := ⟨_, rfl⟩
  have HE := Lib.hid (show endOf (ps b p) PM n = Lib.minOf (xs.drop T) by unfold endOf; rw [← hxs, ← hTl])
  have HXL := Lib.hid (show xs.length = L by rw [hxs, run_len, hL])
  rw [← hL, ← hTl, ← hxs] at HRN
  rw [← hL] at hpm s3 s1
  rw [← hTl] at s3
  clear s2 s4 s5 s6 hL hTl hxs
  go_enter Tryz.func155, Tryz.ntmps155
  go_wp2_with fail
  refine (HRN.out _).mono ?_
  rintro e w1 ⟨g, c, rfl, hr, hb1⟩
  have HB1 := Lib.hid hb1
  have hcap := hr.at.2.2.2.1
  rw [HXL.out] at hcap
  have HC := Lib.hid (hr.cellsAt T)
  have hTc : ¬ c = T := by omega
  have hTL : T ≤ L := by omega
  clear hb1 hr
  go_wp2_with fail
  refine (pwTurned_any g T (L - T) (c - T) (xs.drop T) _ HC.out (by rw [List.length_drop, HXL.out]) (by omega) (by omega) (by omega)).mono ?_
  rintro e w2 ⟨u, rfl, hr, hb2⟩
  have HB2 := Lib.hid (Below.step HB1.out HB1.out.size hb2)
  have hl0 : 0 < (xs.drop T).length := by rw [List.length_drop, HXL.out]; omega
  obtain ⟨gu, cu, rfl⟩ : ∃ gu cu, u = .slice (some ⟨gu, 0, none⟩) (L - T) cu := by
    rcases hr.cases with ⟨_, hx⟩ | ⟨gu, cu, hu, _⟩
    · have h9 := congrArg List.length hx; rw [turn_len] at h9; rw [h9] at hl0; exact absurd hl0 (Nat.lt_irrefl 0)
    · rw [turn_len, List.length_drop, HXL.out] at hu; exact ⟨gu, cu, hu⟩
  have hcell : w2.cell? ⟨gu, 0, none⟩ = some (.int .i64 (Lib.minOf (xs.drop T))) := by
    have h3 := hr.at.2.2.2.2.1 0 (by rw [turn_len]; exact hl0)
    rw [h3, ← turn_head hl0, List.getD_eq_getElem?_getD, List.getElem?_eq_getElem (by rw [turn_len]; exact hl0)]
    rfl
  have hpos : 0 < L - T := by omega
  clear hb2 hr hl0
  go_wp2
  go_ret
  exact ⟨by rw [HE.out]; rfl, HB2.out⟩

end Go.Proofs.YtlbjeiaihenjkaaGreatDoor

/- from UK: slices.Concat of a tail and a cycle: the numbers of a run.  -/
namespace Go.Proofs.YtlbjeiaihenjkaaGreatDoor
open Go.RowKit
set_option linter.unusedVariables false
set_option linter.unusedSimpArgs false
set_option maxRecDepth 100000

theorem rd_zero_len {w : World} {g cap : Nat} {cur : Array Value} (h : w.heap[g]? = some (.cells cur 3 (0, 0))) (hc : cur.size = cap) (hm : cap ≤ maxLen) (B : Nat) (hB : B ≤ g) : Rd w B (.slice (some ⟨g, 0, none⟩) 0 cap) [] :=
  ⟨rfl, .inr ⟨g, cap, cur, rfl, hB, h, Nat.zero_le _, hm, by rw [hc, Nat.mul_one], rfl⟩⟩

theorem heap_alloc_last (w : World) (o : Obj) : (w.alloc o).heap[w.heap.size]? = some o := heap_alloc_new w o

theorem wpList_growC {w : World} {ops : Array Oper} {rest : List Oper} {o : Oper} {a : Act} {Q : Exit → Act → World → Prop} (hgd : o.guard = none) (s x : Operand)
    (ho : o.op = .call { callee := .builtin .append, args := #[s, x], argTypes := #[248, 3] }) (n : Nat) (hn : 1 ≤ n) (hn2 : n ≤ 1000000000)
    (hs : a.eval s = .slice none 0 0) (hx : a.eval x = .int .i64 (n : Int))
    (h : ∀ G w', G ≤ maxLen → n ≤ G → Rd w' w.heap.size (.slice (some ⟨w.heap.size, 0, none⟩) 0 G) [] → Below w.heap.size w w' → wpList Tryz.prog ops Q rest (a.put o.dst (.slice (some ⟨w.heap.size, 0, none⟩) n G)) w') : wpList Tryz.prog ops Q (o :: rest) a w := by
  obtain ⟨i0, hi, hz0, hz1, hz2⟩ := info_parts info3
  have hrun := fun ty => Lib.run_append_nil_zeros (P := Tryz.prog) w 248 3 ty 3 i0 (.int .i64 0) .i64 .i64 Tryz.underlying248 Tryz.underlying3 hi hz0 n (by omega) (by omega) (by omega) (by rw [hz2]; omega)
  refine wpList_plain hgd fun K hK => ?_
  unfold Oper.wp
  simp [execOp, ho, resolve, invoke, builtin, hs, hx, hrun, Result.andThen]
  refine hK _ _ (h (grownCap w n 0 3) _ (grownCap_le_maxLen w n 0 _ (by unfold maxLen; omega)) (grownCap_ge w n 0 _) ?_ (((Below.refl w.heap.size w).drew).alloc (Nat.le_refl _) _))
  refine rd_zero_len (heap_alloc_new w.drew _) ?_ (grownCap_le_maxLen w n 0 _ (by unfold maxLen; omega)) _ (Nat.le_refl _)
  rw [Array.size_append, size_zeroCells, size_zeroCells]
  have := grownCap_ge w n 0 3
  show n * 1 + (grownCap w n 0 3 - n) * 1 = grownCap w n 0 3
  omega

theorem growC_none (n : Nat) (w : World) (hn : 1 ≤ n) (hn2 : n ≤ 1000000000) :
    Calls Tryz.prog 329 #[.slice none 0 0, .int .i64 (n : Int)] w fun e w' => ∃ u, e = .returned u ∧ Rd w' w.heap.size u [] ∧ Below w.heap.size w w' := by
  go_enter Tryz.func329, Tryz.ntmps329
  go_wp2_with (at_builtin; refine wpList_growC rfl (.tmp 20) (.tmp 21) rfl n hn hn2 rfl rfl ?_; intro G w1 hG hGn hr hb; have R := Lib.hid hr; have B := Lib.hid hb; have hG63 : G ≤ 9223372036854775807 := (by unfold maxLen at hG; exact hG); clear hr hb hG)
  go_ret
  exact ⟨_, rfl, R.out, B.out⟩

theorem wpList_appC {w : World} {ops : Array Oper} {rest : List Oper} {o : Oper} {a : Act} {Q : Exit → Act → World → Prop} (hgd : o.guard = none) (s x : Operand)
    (ho : o.op = .call { callee := .builtin .append, args := #[s, x], argTypes := #[248, 248] })
    (B : Nat) (v u : Value) (xs ys : List Int) (hs : a.eval s = v) (hx : a.eval x = u) (hv : Rd w B v xs) (hu : Src3 w u ys)
    (hlen : xs.length + ys.length ≤ 17179869184) (hB : B ≤ w.heap.size)
    (h : ∀ v' w', Rd w' B v' (xs ++ ys) → w.grownBy w' v.ownBlock → Below B w w' → wpList Tryz.prog ops Q rest (a.put o.dst v') w') : wpList Tryz.prog ops Q (o :: rest) a w := by
  obtain ⟨i0, hi, hz0, hz1, hz2⟩ := info_parts info3
  have hbel : ∀ w', w.grownBy w' v.ownBlock → Below B w w' := fun w' hg => (Below.refl _ _).grown hg hB (fun k hk => (hv.lt k hk).1)
  rcases hu with ⟨rfl, rfl⟩ | ⟨ad, cap, rfl, hc⟩
  · refine wpList_append_own_none hgd s x 248 ho B 3 i0 1 Tryz.underlying248 hi v xs.length _ hs hv hx ?_
    exact h v w (by simpa using hv) (World.grownBy.refl _ _) (Below.refl _ _)
  · refine wpList_append_own w hgd s x 248 ho B 3 i0 (.int .i64 0) 1 8 Tryz.underlying248 hi hz0 hz1 hz2 rfl (by decide) v xs.length _ hs hv ad ys.length cap (ys.map (Value.int .i64)) hx (by simp) ?_ (ints_oneCell _ _) (by unfold maxLen; omega) (by omega) hB ?_
    · intro j q hj
      have hj' : j < ys.length := by
        have := (List.getElem?_eq_some_iff.1 hj).1
        simpa using this
      rw [hc j hj', ← hj]
      simp [hj']
    · intro v' w' h2 h3 _
      refine h v' w' ?_ h3 (hbel w' h3)
      unfold Rd
      rw [List.length_append, List.map_append]
      exact h2

theorem concat_any (gs t m c1 c2 : Nat) (a1 a2 : Option Addr) (xa xb : List Int) (w : World) (hs0 : w.cell? ⟨gs, 0, none⟩ = some (.slice a1 t c1)) (hs1 : w.cell? ⟨gs, 1, none⟩ = some (.slice a2 m c2))
    (h1 : Src3 w (.slice a1 t c1) xa) (h2 : Src3 w (.slice a2 m c2) xb) (ht : xa.length = t) (hm : xb.length = m) (hpos : 1 ≤ t + m) (hlen : t + m ≤ 1000000000) :
    Calls Tryz.prog 328 #[.slice (some ⟨gs, 0, none⟩) 2 2] w fun e w' => ∃ u, e = .returned u ∧ Rd w' w.heap.size u (xa ++ xb) ∧ Below w.heap.size w w' := by
  have H1 := Lib.hid h1
  have H2 := Lib.hid h2
  have HT := Lib.hid ht
  have HM := Lib.hid hm
  have HC0 := Lib.hid hs0
  have HC1 := Lib.hid hs1
  clear h1 h2 ht hm hs0 hs1
  go_enter Tryz.func328, Tryz.ntmps328
  go_wp2
  go_loop [3, 11] (fun s i => ∃ j z : Nat, ((j = 0 ∧ z = 0) ∨ (j = 1 ∧ z = t) ∨ (j = 2 ∧ z = t + m)) ∧ i = .int .i64 (j : Int) ∧ s = .int .i64 (z : Int)) (fun _ i => 2 - (intOf i).toNat)
  case atStart => exact ⟨0, 0, .inl ⟨rfl, rfl⟩, rfl, rfl⟩
  case round =>
    obtain ⟨j, z, ⟨rfl, rfl⟩ | ⟨rfl, rfl⟩ | ⟨rfl, rfl⟩, rfl, rfl⟩ := hrel
    · have hcell := HC0.out
      go_wp2
      go_round
      case rel => exact ⟨1, t, .inr (.inl ⟨rfl, rfl⟩), by go_num, by go_num⟩
      case measure => simp [intOf]
    · have hcell := HC1.out
      go_wp2
      go_round
      case rel => exact ⟨2, z + m, .inr (.inr ⟨rfl, rfl⟩), by go_num, by go_num⟩
      case measure => simp [intOf]
    · go_wp2_with (go_at_call 329; refine (growC_none (t + m) _ hpos hlen).mono ?_; rintro e w1 ⟨u1, rfl, hr1, hb1⟩)
      have R1 := Lib.hid hr1
      have B1 := Lib.hid hb1
      clear hr1 hb1
      go_loopw [6, 27] (fun o i wr => ∃ (j : Nat) (xs : List Int), ((j = 0 ∧ xs = []) ∨ (j = 1 ∧ xs = xa) ∨ (j = 2 ∧ xs = xa ++ xb)) ∧ i = .int .i64 (j : Int) ∧ Rd wr w.heap.size o xs ∧ Below w.heap.size w wr) (fun _ i _ => 2 - (intOf i).toNat)
      case atStart => exact ⟨0, [], .inl ⟨rfl, rfl⟩, rfl, R1.out, B1.out⟩
      case round =>
        obtain ⟨j, xs, hj, rfl, hr, hb⟩ := hrel
        have R := Lib.hid hr
        have B := Lib.hid hb
        have S1 := Lib.hid (H1.out.keep hb)
        have S2 := Lib.hid (H2.out.keep hb)
        have C0 := Lib.hid (Below.keeps_cell hb HC0.out)
        have C1 := Lib.hid (Below.keeps_cell hb HC1.out)
        clear hr hb
        obtain ⟨rfl, rfl⟩ | ⟨rfl, rfl⟩ | ⟨rfl, rfl⟩ := hj
        · have hcell := C0.out
          go_wp2_with (at_builtin; refine wpList_appC rfl (.tmp 31) (.tmp 32) rfl w.heap.size _ _ [] xa rfl rfl R.out S1.out (by rw [HT.out]; simp; omega) B.out.size ?_; intro v1 w1 hr1 hg1 hb1; have R3 := Lib.hid hr1; have B3 := Lib.hid (B.out.trans hb1); clear hr1 hg1 hb1)
          go_roundw
          case rel => exact ⟨1, xa, .inr (.inl ⟨rfl, rfl⟩), by go_num, by have := R3.out; rwa [List.nil_append] at this, B3.out⟩
          case measure => simp [intOf]
        · have hcell := C1.out
          go_wp2_with (at_builtin; refine wpList_appC rfl (.tmp 31) (.tmp 32) rfl w.heap.size _ _ xs xb rfl rfl R.out S2.out (by rw [HT.out, HM.out]; omega) B.out.size ?_; intro v1 w1 hr1 hg1 hb1; have R3 := Lib.hid hr1; have B3 := Lib.hid (B.out.trans hb1); clear hr1 hg1 hb1)
          go_roundw
          case rel => exact ⟨2, xs ++ xb, .inr (.inr ⟨rfl, rfl⟩), by go_num, R3.out, B3.out⟩
          case measure => simp [intOf]
        · go_wp2
          go_ret
          exact ⟨_, rfl, R.out, B.out⟩

theorem cell_alloc2 (w : World) (o : Obj) (cs : Array Value) (t : TypeId) (j : Nat) : ((w.alloc o).alloc (.cells cs t)).cell? ⟨w.heap.size + 1, j, none⟩ = cs[j]? := by
  have h := heap_alloc_new (w.alloc o) (.cells cs t)
  rw [World.size_alloc] at h
  exact cell_of_row _ _ j cs t (0, 0) h

theorem numbers_tailed (g t n cap B : Nat) (xs : List Int) (w : World) (h : Rd w B (.slice (some ⟨g, 0, none⟩) n cap) xs) (hn : n = xs.length) (ht : 0 < t) (htn : t < n) (hl : n ≤ 1000000000) :
    Calls Tryz.prog 327 #[.agg #[.slice (some ⟨g, 0, none⟩) t cap, .slice (some ⟨g, t, none⟩) (n - t) (cap - t)]] w fun e w' => ∃ u, e = .returned u ∧ Rd w' w.heap.size u xs ∧ Below w.heap.size w w' := by
  have H := Lib.hid h
  have HN := Lib.hid hn
  have HC0 := Lib.hid (src_cells (c := cap) (m := t) ((h.cellsAt 0).take t) (by rw [List.drop_zero, List.length_take]; omega))
  have HC1 := Lib.hid (src_cells (c := cap - t) (m := n - t) (h.cellsAt t) (by rw [List.length_drop]; omega))
  rw [List.drop_zero] at HC0
  have HX := Lib.hid (List.take_append_drop t xs)
  have HL0 := Lib.hid (show (xs.take t).length = t by rw [List.length_take]; omega)
  have HL1 := Lib.hid (show (xs.drop t).length = n - t by rw [List.length_drop]; omega)
  clear h hn
  go_enter Tryz.func327, Tryz.ntmps327
  go_wp2_with fail
  refine (concat_any (w.heap.size + 1) t (n - t) cap (cap - t) (some ⟨g, 0, none⟩) (some ⟨g, t, none⟩) (xs.take t) (xs.drop t) _ ?c0 ?c1 ?s0 ?s1 HL0.out HL1.out (by omega) (by omega)).mono ?_
  case c0 => rw [cell_alloc2]; rfl
  case c1 => rw [cell_alloc2]; rfl
  case s0 => exact HC0.out.keep ((alloc_below w _).alloc (by simp) _)
  case s1 => exact HC1.out.keep ((alloc_below w _).alloc (by simp) _)
  rw [HX.out]
  rintro e w1 ⟨u, rfl, hr, hb⟩
  have R := Lib.hid (hr.mono (show w.heap.size ≤ _ by simp; omega))
  have B1 := Lib.hid (((alloc_below w _).alloc (by simp) _).trans (hb.mono (show w.heap.size ≤ _ by simp; omega)))
  clear hr hb
  go_wp2
  go_ret
  exact ⟨u, rfl, R.out, B1.out⟩

end Go.Proofs.YtlbjeiaihenjkaaGreatDoor
