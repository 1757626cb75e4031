/-
  The model's run of a number, and a cycle with its least number first.
-/
import Derived.Test.YtnniiobiedfmoaaUH
import Derived.Test.YtnniiobiedfmoaaH3
import Derived.Deep.RegionLaw
import Derived.Laws.AppendOwn
namespace Go.Proofs.Ytnniiobiedfmoaa
open Go.RowKit
set_option linter.unusedVariables false
set_option linter.unusedSimpArgs false
set_option maxRecDepth 100000

theorem Src3.keep {w w' : World} {u : Value} {ys : List Int} (h : Src3 w u ys) (hb : Below w.heap.size w w') : Src3 w' u ys := by
  rcases h with h | ⟨ad, c, h1, h2⟩
  · exact .inl h
  · exact .inr ⟨ad, c, h1, fun j hj => Below.keeps_cell hb (h2 j hj)⟩

theorem rd_empty0 (w : World) : Rd (w.alloc (.cells #[] 3)) w.heap.size (.slice (some ⟨w.heap.size, 0, none⟩) 0 0) [] := by
  have := World.ownsRow_lit (e := 3) (size := 1) (base := w.heap.size) w #[] 0 (Nat.le_refl _) (by unfold maxLen; omega) rfl
  exact this

theorem alloc_below (w : World) (o : Obj) : Below w.heap.size w (w.alloc o) := (Below.refl _ _).alloc (Nat.le_refl _) o

theorem own_src (v : Value) (xs : List Int) (w : World) (h : Src3 w v xs) (hl : xs.length ≤ 2000000000) :
    Calls Try.prog 88 #[v] w fun e w' => ∃ u, e = .returned u ∧ Rd w' w.heap.size u xs ∧ Below w.heap.size w w' := by
  have H := Lib.hid h
  clear h
  go_enter Try.func88, Try.ntmps88
  go_wp2_with (at_builtin; refine wpList_appS3 rfl (.tmp 3) (.tmp 4) rfl w.heap.size _ _ [] xs rfl rfl (rd_empty0 w) (H.out.keep (alloc_below w _)) (by simp; omega) (by simp) ?_; intro v1 w1 hr1 hg1 hb1; have R1 := Lib.hid hr1; have B1 := Lib.hid ((alloc_below w (.cells #[] 3)).trans hb1); clear hr1 hg1 hb1)
  go_ret
  exact ⟨_, rfl, by have := R1.out; rwa [List.nil_append] at this, B1.out⟩

/-- An append at a step of a region that draws its order. -/
theorem step_appS {w : World} {ops : Array Oper} {o : Oper} {a : Act} {K : Act → World → Prop} {Q : Exit → Act → World → Prop} {E : Prop} (hgd : o.guard = none) (s x : Operand)
    (ho : o.op = .call { callee := .builtin .append, args := #[s, x], argTypes := #[26, 26] })
    (B : Nat) (v : Value) (xs ys : List Int) (ad : Addr) (m c : Nat) (hs : a.eval s = v) (hx : a.eval x = .slice (some ad) m c) (hv : Rd w B v xs) (hm : ys.length = m)
    (hc : ∀ j (h : j < ys.length), w.cell? (ad.add j) = some (.int .i64 ys[j])) (hlen : xs.length + ys.length ≤ 17179869184) (hB : B ≤ w.heap.size)
    (h : ∀ v' w', Rd w' B v' (xs ++ ys) → w.grownBy w' v.ownBlock → Below B w w' → K (a.put o.dst v') w') :
    if Region.wanted o (yielded ops a.tmps) = true then Oper.wp Try.prog o a w K Q else E := by
  have hw : Region.wanted o (yielded ops a.tmps) = true := by simp [Region.wanted, hgd]
  rw [if_pos hw]
  obtain ⟨i0, hi, hz0, hz1, hz2⟩ := info_parts info3
  subst hm
  obtain ⟨v', w', hr, h2, h3, _⟩ := run_append_own (P := Try.prog) w B 26 o.type 3 i0 (.int .i64 0) 1 8 Try.underlying26 hi hz0 hz1 hz2 rfl (by decide) v xs.length _ hv ad ys.length c (ys.map (Value.int .i64)) (by simp) (fun j q hj => by
    have hj' : j < ys.length := by have := (List.getElem?_eq_some_iff.1 hj).1; simpa using this
    rw [hc j hj', ← hj]
    simp [hj']) (ints_oneCell _ _) (by unfold maxLen; omega) (by omega) hB
  unfold Oper.wp execOp
  simp only [ho, resolve, invoke, builtin, Sem.run_bind, Sem.run_pure, Result.andThen_ok, List.map_toArray, List.map_cons, List.map_nil, hs, hx, hr]
  refine h v' w' ?_ h3 ((Below.refl _ _).grown h3 hB (fun k hk => (hv.lt k hk).1))
  unfold Rd
  rw [List.length_append, List.map_append]
  exact h2

theorem pwRun_any (n b p : Nat) (w : World) (hn : n ≤ 1000000000000) (hb : 2 ≤ b) (hb' : b ≤ 16) (hp : 1 ≤ p) (hp' : p ≤ 4) :
    Calls Try.prog 43 #[.int .i64 (n : Int), .int .i64 (b : Int), .int .i64 (p : Int)] w fun e w' => ∃ g c, e = .returned (.tuple #[.slice (some ⟨g, 0, none⟩) (rl (ps b p) PM n) c, .int .i64 ((tl (ps b p) PM n : Nat) : Int)]) ∧
      Rd w' w.heap.size (.slice (some ⟨g, 0, none⟩) (rl (ps b p) PM n) c) (run (ps b p) PM n) ∧ Below w.heap.size w w' := by
  have HP := Lib.hid (it_ps hb hb' hp' hn)
  have HX := Lib.hid (it_ps_le hb hb' hp' hn)
  obtain ⟨s1, s2, s3, s4, s5, s6⟩ := rl_spec HP.out
  have hrl : rl (ps b p) PM n ≤ 1012502 := by unfold PM at s2; exact s2
  obtain ⟨L, hL⟩ : ∃ L, L = rl (ps b p) PM n := ⟨_, rfl⟩
  obtain ⟨T, hTl⟩ : ∃ T, T = tl (ps b p) PM n := ⟨_, rfl⟩
  obtain ⟨F, hF⟩ : ∃ F : Nat → Nat, F = fun k => it (ps b p) k n := ⟨_, rfl⟩
  have HAT := Lib.hid (show ∀ k i, k ≤ L → i < k → F i = F k → k = L ∧ i = T by rw [hL, hTl, hF]; intro k i h1 h2 h3; exact rl_at HP.out h1 h2 h3)
  have HON := Lib.hid (show ∀ k, k ≤ L → (∀ i, i < k → F i ≠ F k) → k < L by rw [hL, hF]; intro k h1 h2; exact rl_on HP.out h1 h2)
  have HRUN := Lib.hid (show run (ps b p) PM n = lst L F by rw [hL, hF]; rfl)
  have HFS := Lib.hid (show ∀ k, F (k + 1) = ps b p (F k) by rw [hF]; intro k; rfl)
  have HFB := Lib.hid (show ∀ k, F k ≤ 1000000000000 by rw [hF]; exact HX.out)
  have HF0 := Lib.hid (show F 0 = n by rw [hF]; rfl)
  have hL1 : 1 ≤ L := by rw [hL]; exact s1
  rw [← hL] at hrl
  rw [← hTl, ← hL]
  clear s1 s2 s3 s4 s5 s6 HX HP hL hTl hF
  rw [HRUN.out]
  go_enter Try.func43, Try.ntmps43
  go_wp2
  go_loopw [0, 8] (fun x o wr => ∃ (k : Nat) (u : Value), k < L ∧ x = .int .i64 ((F k : Nat) : Int) ∧ u = o ∧ Rd wr w.heap.size u (lst (k + 1) F) ∧ Below w.heap.size w wr) (fun _ o _ => L - lenV o)
  case atStart => exact ⟨0, _, by omega, by rw [HF0.out], rfl, by rw [show lst (0 + 1) F = [(n : Int)] by rw [lst_succ, HF0.out]; rfl]; exact Rd.lit _ _, alloc_below _ _⟩
  case round =>
    obtain ⟨k, u, hk, rfl, rfl, hr, hbl⟩ := hrel
    obtain ⟨wo, hwo⟩ : ∃ wo : World, wo = wr := ⟨_, rfl⟩
    obtain ⟨gu, cu, rfl⟩ : ∃ gu cu, u = .slice (some ⟨gu, 0, none⟩) (k + 1) cu := by
      rcases hr.cases with ⟨_, hx⟩ | ⟨gu, cu, hu, _⟩
      · have := congrArg List.length hx; rw [lst_len] at this; simp at this
      · rw [lst_len] at hu; exact ⟨gu, cu, hu⟩
    have HR := Lib.hid hr
    have HB := Lib.hid hbl
    have hcast : ((k + 1 : Nat) : Int) = (k : Int) + 1 := by omega
    clear hr hbl hwo
    obtain ⟨x, hx⟩ : ∃ x, x = F k := ⟨_, rfl⟩
    obtain ⟨y, hy⟩ : ∃ y, y = F (k + 1) := ⟨_, rfl⟩
    have HY := Lib.hid hy
    have HYP := Lib.hid (show ps b p x = y by rw [hx, hy, HFS.out])
    have hxb : x ≤ 1000000000000 := by rw [hx]; exact HFB.out k
    have hyb : y ≤ 1000000000000 := by rw [hy]; exact HFB.out (k + 1)
    rw [← hx]
    clear hx hy
    go_wp2_with (go_at_call 62; refine (pwSum_any x b p _ hxb hb hb' (by omega)).mono ?_; rw [HYP.out]; rintro e w1 ⟨rfl, rfl⟩)
    go_loopw [19] (fun i wq => ∃ j : Nat, j ≤ k + 1 ∧ i = .int .i64 (j : Int) ∧ Hid (∀ i, i < j → F i ≠ y) ∧ wq = wr) (fun i _ => k + 1 - (intOf i).toNat)
    case atStart => exact ⟨0, by omega, rfl, Lib.hid (fun i hi => by omega), rfl⟩
    case round =>
      obtain ⟨j, hj, rfl, HN, rfl⟩ := hrel
      by_cases hlt : j < k + 1
      · have hcell := HR.out.at.2.2.2.2.1 j (by rw [lst_len]; exact hlt)
        rw [lst_at] at hcell
        obtain ⟨z, hz⟩ : ∃ z, z = F j := ⟨_, rfl⟩
        rw [← hz] at hcell
        by_cases he : z = y
        · have hq := HAT.out (k + 1) j (by omega) hlt (by rw [← hz, he, HY.out])
          have hbe : ((z : Int) == (y : Int)) = true := beq_yes (by omega)
          have HI := Lib.hid (show L = k + 1 from hq.1.symm)
          have HJ := Lib.hid (show T = j from hq.2.symm)
          clear hz he hq
          go_wp2
          go_ret2
          exact ⟨gu, cu, by rw [HI.out, HJ.out]; rfl, by rw [HI.out]; exact HR.out, HB.out⟩
        · have hbe : ((z : Int) == (y : Int)) = false := beq_no (by omega)
          have HN2 := Lib.hid (show ∀ i, i < j + 1 → F i ≠ y from fun i hi => by
            by_cases e : i = j
            · subst e; rw [← hz]; exact he
            · exact HN.out i (by omega))
          clear hz he
          go_wp2
          go_roundw
          case rel => exact ⟨j + 1, by omega, by go_num, HN2, by first | trivial | rfl⟩
          case measure => simp [intOf]; omega
      · obtain rfl : j = k + 1 := by omega
        have hkL : k + 1 < L := HON.out (k + 1) (by omega) (fun i hi => by rw [← HY.out]; exact HN.out i hi)
        have hsz := HB.out.size
        go_wp2_with (at_builtin; refine wpList_appR rfl _ _ rfl w.heap.size w.heap.size _ _ (lst (k + 1) F) [(y : Int)] rfl rfl (HR.out.alloc _) (Rd.litB _ _ _ (by omega)) (by simp [lst_len]; omega) (by simp; omega) ?_; intro v1 w1 hr1 hg1 hb1)
        have HR1 := Lib.hid (show Rd w1 w.heap.size v1 (lst (k + 1 + 1) F) by rw [lst_succ, ← HY.out]; exact hr1)
        have HB1 := Lib.hid ((HB.out.alloc (by omega) _).trans hb1)
        have HLV := Lib.hid (HR1.out.lenV)
        clear hr1 hg1 hb1
        go_wp2
        go_roundw
        case rel => exact ⟨k + 1, v1, by omega, by rw [HY.out], rfl, HR1.out, HB1.out⟩
        case measure => rw [HLV.out, lst_len]; simp [lenV]; omega

end Go.Proofs.Ytnniiobiedfmoaa
