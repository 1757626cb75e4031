/-
  The program's run of a number.
-/
import Derived.Test.YtnniiobiedfmoaaUF
import Derived.Test.YtnniiobiedfmoaaS5
import Derived.Lib.Slices
namespace Go.Proofs.Ytnniiobiedfmoaa
open Go.RowKit
set_option linter.unusedVariables false
set_option linter.unusedSimpArgs false
set_option maxRecDepth 100000

theorem lst_getD (k : Nat) (F : Nat → Nat) (j : Nat) (h : j < k) : (lst k F).getD j 0 = ((F j : Nat) : Int) := by
  have h2 : j < (lst k F).length := by rw [lst_len]; exact h
  rw [List.getD_eq_getElem?_getD, List.getElem?_eq_getElem h2, lst_at]; rfl

theorem index_hit (g c k i : Nat) (F : Nat → Nat) (x : Nat) (B : Nat) (w : World) (h : Rd w B (.slice (some ⟨g, 0, none⟩) k c) (lst k F)) (hi : i < k) (hk : k ≤ 100000000) (he : F i = x) (hne : ∀ j, j < i → F j ≠ x) :
    Calls Try.prog 97 #[.slice (some ⟨g, 0, none⟩) k c, .int .i64 (x : Int)] w fun e w' => e = .returned (.int .i64 (i : Int)) ∧ w' = w := by
  refine (Try.slices_Index_int g 0 k c (lst k F) (x : Int) w (by rw [lst_len]; exact Nat.le_refl _) (by omega) (fun j hj => ?_)).mono ?_
  · rw [Nat.zero_add, h.at.2.2.2.2.1 j hj, List.getD_eq_getElem?_getD, List.getElem?_eq_getElem hj]; rfl
  · rintro e w' ⟨rfl, rfl⟩
    rw [Lib.idxOf_hit (lst k F) k i (x : Int) hi (by rw [lst_len]; exact Nat.le_refl _) (by rw [lst_getD k F i hi, he]) (fun j hj => by rw [lst_getD k F j (by omega)]; have := hne j hj; omega)]
    exact ⟨rfl, rfl⟩

theorem index_miss (v : Value) (k : Nat) (F : Nat → Nat) (x : Nat) (B : Nat) (w : World) (h : Rd w B v (lst k F)) (hk : k ≤ 100000000) (hne : ∀ j, j < k → F j ≠ x) :
    Calls Try.prog 97 #[v, .int .i64 (x : Int)] w fun e w' => e = .returned (.int .i64 (-1)) ∧ w' = w := by
  rcases h.cases with ⟨rfl, h0⟩ | ⟨g, c, rfl, _, _, _, _, hc, _⟩
  · refine (Try.slices_Index_int_empty none 0 (x : Int) w).mono ?_
    rintro e w' ⟨rfl, rfl⟩
    exact ⟨rfl, rfl⟩
  · rw [lst_len]
    refine (Try.slices_Index_int g 0 k c (lst k F) (x : Int) w (by rw [lst_len]; exact Nat.le_refl _) (by omega) (fun j hj => ?_)).mono ?_
    · rw [Nat.zero_add, hc j hj, List.getD_eq_getElem?_getD, List.getElem?_eq_getElem hj]; rfl
    · rintro e w' ⟨rfl, rfl⟩
      rw [Lib.idxOf_miss (lst k F) k (x : Int) (fun j hj => by rw [lst_getD k F j hj]; have := hne j hj; omega)]
      exact ⟨rfl, rfl⟩

theorem below_drewN' {B : Nat} {a w : World} (h : Below B a w) (n : Nat) : Below B a (w.drewN n) := ⟨h.os, h.tape, h.output, h.size, h.block⟩

/-- A run behind its interface: on its cycle from its beginning, or not. -/
def RunV (w : World) (B : Nat) (r : Value) (xs : List Int) (t : Nat) : Prop :=
  ∃ g cap, Rd w B (.slice (some ⟨g, 0, none⟩) xs.length cap) xs ∧ ((t = 0 ∧ r = .iface 83 (.slice (some ⟨g, 0, none⟩) xs.length cap)) ∨
    (0 < t ∧ t < xs.length ∧ r = .iface 85 (.agg #[.slice (some ⟨g, 0, none⟩) t cap, .slice (some ⟨g, t, none⟩) (xs.length - t) (cap - t)])))

theorem RunV.mono {w : World} {B C : Nat} {r : Value} {xs : List Int} {t : Nat} (h : RunV w B r xs t) (hC : C ≤ B) : RunV w C r xs t := by
  obtain ⟨g, cap, h1, h2⟩ := h
  exact ⟨g, cap, h1.mono hC, h2⟩

/-- The length of a slice value. -/
def lenV : Value → Nat
  | .slice _ n _ => n
  | _ => 0
theorem Rd.lenV {w : World} {B : Nat} {v : Value} {xs : List Int} (h : Rd w B v xs) : lenV v = xs.length := by
  rcases h.cases with ⟨rfl, rfl⟩ | ⟨g, c, rfl, _⟩ <;> rfl

theorem runP_any (g c b p x : Nat) (w : World) (hT : Tp w g b p) (hb : 2 ≤ b) (hb' : b ≤ 16) (hp : 1 ≤ p) (hp' : p ≤ 4) (hx : x ≤ 1000000000000) :
    Calls Try.prog 78 #[.slice (some ⟨g, 0, none⟩) b c, .int .i64 (x : Int)] w fun e w' => ∃ r, e = .returned r ∧ RunV w' w.heap.size r (run (ps b p) PM x) (tl (ps b p) PM x) ∧ Below w.heap.size w w' := by
  have HT := Lib.hid hT
  have HP := Lib.hid (it_ps hb hb' hp' hx)
  have HX := Lib.hid (it_ps_le hb hb' hp' hx)
  obtain ⟨s1, s2, s3, s4, s5, s6⟩ := rl_spec HP.out
  have HS6 := Lib.hid s6
  have hrl : rl (ps b p) PM x ≤ 1012502 := by unfold PM at s2; exact s2
  obtain ⟨L, hL⟩ : ∃ L, L = rl (ps b p) PM x := ⟨_, rfl⟩
  obtain ⟨T, hTl⟩ : ∃ T, T = tl (ps b p) PM x := ⟨_, rfl⟩
  obtain ⟨F, hF⟩ : ∃ F : Nat → Nat, F = fun k => it (ps b p) k x := ⟨_, rfl⟩
  have HAT := Lib.hid (show ∀ k i, k ≤ L → i < k → F i = F k → k = L ∧ i = T by rw [hL, hTl, hF]; intro k i h1 h2 h3; exact rl_at HP.out h1 h2 h3)
  have HON := Lib.hid (show ∀ k, k ≤ L → (∀ i, i < k → F i ≠ F k) → k < L by rw [hL, hF]; intro k h1 h2; exact rl_on HP.out h1 h2)
  have HRUN := Lib.hid (show run (ps b p) PM x = lst L F by rw [hL, hF]; rfl)
  have HFS := Lib.hid (show ∀ k, F (k + 1) = ps b p (F k) by rw [hF]; intro k; rfl)
  have HFB := Lib.hid (show ∀ k, F k ≤ 1000000000000 by rw [hF]; exact HX.out)
  have HF0 := Lib.hid (show F 0 = x by rw [hF]; rfl)
  rw [← hL] at hrl
  rw [← hTl]
  clear hT s1 s2 s3 s4 s5 s6 HS6 HX HP hL hTl hF
  rw [HRUN.out]
  go_enter Try.func78, Try.ntmps78
  go_wp2
  go_loopw [1, 5] (fun n o wr => ∃ (k : Nat) (u : Value), k ≤ L ∧ n = .int .i64 ((F k : Nat) : Int) ∧ u = o ∧ Rd wr w.heap.size u (lst k F) ∧ Below w.heap.size w wr) (fun _ o _ => L - lenV o)
  case atStart => exact ⟨0, _, Nat.zero_le _, by rw [HF0.out], rfl, Rd.nil _ _, Below.refl _ _⟩
  case round =>
    obtain ⟨k, u, hk, rfl, rfl, hr, hbl⟩ := hrel
    have HR := Lib.hid hr
    have HB := Lib.hid hbl
    have HLV := Lib.hid hr.lenV
    clear hr hbl
    obtain ⟨y, hy⟩ : ∃ y, y = F k := ⟨_, rfl⟩
    have HY := Lib.hid hy
    rw [← hy]
    clear hy
    by_cases hex : ∃ i, i < k ∧ F i = y
    · obtain ⟨i, hi, he⟩ := hex
      obtain ⟨hkL, hiT⟩ := HAT.out k i hk hi (by rw [he, HY.out])
      have HU := Lib.hid (show ∀ j, j < i → F j ≠ y from fun j hj e => by have := (HAT.out k j hk (by omega) (by rw [e, HY.out])).2; omega)
      obtain ⟨gu, cu, rfl⟩ : ∃ gu cu, u = .slice (some ⟨gu, 0, none⟩) k cu := by
        rcases HR.out.cases with ⟨_, hx⟩ | ⟨gu, cu, hu, _⟩
        · have := congrArg List.length hx; rw [lst_len] at this; simp at this; omega
        · rw [lst_len] at hu; exact ⟨gu, cu, hu⟩
      have HE := Lib.hid he
      have hcap := HR.out.at.2.2.2.1
      rw [lst_len] at hcap
      have HI := Lib.hid (show L = k from hkL.symm)
      have HJ := Lib.hid (show T = i from hiT.symm)
      clear he hkL hiT
      by_cases h0 : i = 0
      · have hz : ((i : Int) == 0) = true := beq_yes (by omega)
        go_wp2_with (go_at_call 97; refine (index_hit gu cu k i F y _ _ HR.out hi (by omega) HE.out HU.out).mono ?_; rintro e w1 ⟨rfl, rfl⟩)
        go_ret
        exact ⟨_, rfl, ⟨gu, cu, by rw [lst_len, HI.out]; exact HR.out, .inl ⟨by rw [HJ.out]; exact h0, by rw [lst_len, HI.out]; rfl⟩⟩, HB.out⟩
      · have hz : ((i : Int) == 0) = false := beq_no (by omega)
        have hpos : (0 : Int) < (i : Int) := by omega
        go_wp2_with (go_at_call 97; refine (index_hit gu cu k i F y _ _ HR.out hi (by omega) HE.out HU.out).mono ?_; rintro e w1 ⟨rfl, rfl⟩)
        go_quiet (fail)
        go_wp2
        go_ret
        exact ⟨_, rfl, ⟨gu, cu, by rw [lst_len, HI.out]; exact HR.out.drewN _, .inr ⟨by rw [HJ.out]; omega, by rw [lst_len, HI.out, HJ.out]; exact hi, by rw [lst_len, HI.out, HJ.out]; rfl⟩⟩, below_drewN' HB.out _⟩
    · have hne : ∀ j, j < k → F j ≠ y := fun j hj e => hex ⟨j, hj, e⟩
      have hkL : k < L := HON.out k hk (fun j hj e => hne j hj (by rw [HY.out]; exact e))
      have HN := Lib.hid hne
      have hyb : y ≤ 1000000000000 := by rw [HY.out]; exact HFB.out k
      have HTr := Lib.hid (HT.out.keep HB.out)
      clear hex hne
      go_wp2_with fail
      refine (index_miss u k F y _ _ HR.out (by omega) HN.out).mono ?_
      rintro e w1 ⟨rfl, rfl⟩
      have hsz := HB.out.size
      go_wp2_with (at_builtin; refine wpList_appR rfl _ _ rfl w.heap.size w.heap.size _ _ (lst k F) [(y : Int)] rfl rfl (HR.out.alloc _) (Rd.litB _ _ _ (by omega)) (by simp [lst_len]; omega) (by simp; omega) ?_; intro v1 w1 hr1 hg1 hb1)
      have HR1 := Lib.hid hr1
      have hB1 := (HB.out.alloc (by omega) _).trans hb1
      have HB1 := Lib.hid hB1
      have HT1 := Lib.hid (HT.out.keepB (hB1) HT.out.lt (Nat.le_trans (Nat.le_refl _) hB1.size))
      clear hr1 hg1 hb1 hB1
      go_wp2_with fail
      refine (sumP_any g c b p y _ HT1.out hb hb' hp (by omega) hyb).mono ?_
      rintro e w2 ⟨rfl, hb2⟩
      have HN2 := Lib.hid (show ((ps b p y : Nat) : Int) = ((F (k + 1) : Nat) : Int) by rw [HFS.out, HY.out])
      have HR2 := Lib.hid (show Rd w2 w.heap.size v1 (lst (k + 1) F) by rw [lst_succ, ← HY.out]; exact HR1.out.keep hb2)
      have HB2 := Lib.hid (Below.step HB1.out HB1.out.size hb2)
      have HLV2 := Lib.hid (HR2.out.lenV)
      clear hb2
      go_wp2
      go_roundw
      case rel => exact ⟨k + 1, v1, by omega, by rw [HN2.out], rfl, HR2.out, HB2.out⟩
      case measure => rw [HLV2.out, HLV.out, lst_len, lst_len]; omega

theorem findRun_yes (n b p : Nat) (w : World) (hn : n ≤ 1000000000000) (hb : 2 ≤ b) (hb' : b ≤ 16) (hp : 1 ≤ p) (hp' : p ≤ 4) :
    Calls Try.prog 40 #[.int .i64 (n : Int), .int .i64 (b : Int), .int .i64 (p : Int)] w fun e w' => ∃ r, e = .returned (.tuple #[r, .bool true]) ∧ RunV w' w.heap.size r (run (ps b p) PM n) (tl (ps b p) PM n) ∧ Below w.heap.size w w' := by
  have a1 : decide (Num (n : Int)) = true := decide_eq_true ⟨by omega, by omega⟩
  have a2 : decide (Bas (b : Int)) = true := decide_eq_true ⟨by omega, by omega⟩
  have a3 : decide (Pow (p : Int) 4) = true := decide_eq_true ⟨by omega, by omega⟩
  go_enter Try.func40, Try.ntmps40
  go_wp2_with (first | (go_at_call 47; refine (isNumber_any _ _).mono ?_; rintro e w1 ⟨rfl, rfl⟩) | (go_at_call 48; refine (isBase_any _ _).mono ?_; rintro e w1 ⟨rfl, rfl⟩) | (go_at_call 49; refine (isPower_any _ _ _).mono ?_; rintro e w1 ⟨rfl, rfl⟩))
  refine (powersOf_any b p _ hb hb' hp (by omega)).mono ?_
  rintro e w1 ⟨g, c, rfl, hg, hT, hB⟩
  have HT := Lib.hid hT
  have HB := Lib.hid hB
  clear hg hT hB
  go_wp2_with fail
  refine (runP_any g c b p n _ HT.out hb hb' hp hp' hn).mono ?_
  rintro e w2 ⟨r, rfl, hr, hb2⟩
  have HB2 := Lib.hid (Below.step HB.out HB.out.size hb2)
  have HR2 := Lib.hid hr
  clear hb2 hr
  go_wp2
  go_ret2
  exact ⟨r, rfl, HR2.out.mono HB.out.size, HB2.out⟩

theorem findRun_no (n b p : Int) (w : World) (h : OK3 n b p 4 = false) :
    Calls Try.prog 40 #[.int .i64 n, .int .i64 b, .int .i64 p] w fun e w' => e = .returned (.tuple #[.nilIface, .bool false]) ∧ w = w' := by
  have h2 := of_decide_eq_false h
  clear h
  by_cases hn : Num n
  · have a1 : decide (Num n) = true := decide_eq_true hn
    by_cases hb : Bas b
    · have a2 : decide (Bas b) = true := decide_eq_true hb
      have a3 : decide (Pow p 4) = false := decide_eq_false (fun hp => h2 ⟨hn, hb, hp⟩)
      clear hn hb h2
      go_enter Try.func40, Try.ntmps40
      go_wp2_with (first | (go_at_call 47; refine (isNumber_any _ _).mono ?_; rintro e w1 ⟨rfl, rfl⟩) | (go_at_call 48; refine (isBase_any _ _).mono ?_; rintro e w1 ⟨rfl, rfl⟩) | (go_at_call 49; refine (isPower_any _ _ _).mono ?_; rintro e w1 ⟨rfl, rfl⟩))
      go_ret2
      exact ⟨rfl, rfl⟩
    · have a2 : decide (Bas b) = false := decide_eq_false hb
      clear hn hb h2
      go_enter Try.func40, Try.ntmps40
      go_wp2_with (first | (go_at_call 47; refine (isNumber_any _ _).mono ?_; rintro e w1 ⟨rfl, rfl⟩) | (go_at_call 48; refine (isBase_any _ _).mono ?_; rintro e w1 ⟨rfl, rfl⟩))
      go_ret2
      exact ⟨rfl, rfl⟩
  · have a1 : decide (Num n) = false := decide_eq_false hn
    clear hn h2
    go_enter Try.func40, Try.ntmps40
    go_wp2_with (go_at_call 47; refine (isNumber_any _ _).mono ?_; rintro e w1 ⟨rfl, rfl⟩)
    go_ret2
    exact ⟨rfl, rfl⟩

end Go.Proofs.Ytnniiobiedfmoaa
