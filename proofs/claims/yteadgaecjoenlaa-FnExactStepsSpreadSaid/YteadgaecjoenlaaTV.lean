/-
  How many times are needed: the program and the model.
-/
import Derived.Test.YteadgaecjoenlaaTU
namespace Go.Proofs.Yteadgaecjoenlaa
open Go.RowKit
set_option linter.unusedVariables false
set_option linter.unusedSimpArgs false
set_option maxRecDepth 100000

/-- Times that may be asked for. -/
def okM (m : Int) : Bool := decide (0 ≤ m ∧ m ≤ 100)

theorem areTimes_any (m : Int) (w : World) : Calls Try.prog 59 #[.int .i64 m] w fun e w' => e = .returned (.bool (okM m)) ∧ w = w' := by
  by_cases h0 : 0 ≤ m
  · by_cases h1 : m ≤ 100
    · have HO := Lib.hid (show okM m = true from decide_eq_true ⟨h0, h1⟩)
      go_enter Try.func59, Try.ntmps59
      go_wp2
      go_ret
      exact ⟨ret_bool (by rw [HO.out]; try simp [h1]), rfl⟩
    · have HO := Lib.hid (show okM m = false from decide_eq_false (fun h => h1 h.2))
      go_enter Try.func59, Try.ntmps59
      go_wp2
      go_ret
      exact ⟨ret_bool (by rw [HO.out]; try (simp; omega)), rfl⟩
  · have HO := Lib.hid (show okM m = false from decide_eq_false (fun h => h0 h.1))
    go_enter Try.func59, Try.ntmps59
    go_wp2
    go_ret
    exact ⟨ret_bool (by rw [HO.out]), rfl⟩

theorem rvMost_any (m : Int) (w : World) : Calls Try.prog 57 #[.int .i64 m] w fun e w' => e = .returned (.bool (okM m)) ∧ w = w' := by
  by_cases h : 0 ≤ m ∧ m ≤ 100
  · have HO := Lib.hid (show okM m = true from decide_eq_true h)
    obtain ⟨h1, h2⟩ := h
    go_enter Try.func57, Try.ntmps57
    go_wp2_with (go_at_call 77; refine (l1In_yes _ _ _ _ h1 h2).mono ?_; rintro e w' ⟨rfl, rfl⟩)
    go_ret
    exact ⟨ret_bool HO.out.symm, rfl⟩
  · have HO := Lib.hid (show okM m = false from decide_eq_false h)
    have H := Lib.hid (show m < 0 ∨ 100 < m by omega)
    clear h
    go_enter Try.func57, Try.ntmps57
    go_wp2_with (go_at_call 77; refine (l1In_no _ _ _ _ H.out).mono ?_; rintro e w' ⟨rfl, rfl⟩)
    go_ret
    exact ⟨ret_bool HO.out.symm, rfl⟩

/-- The program's number of times, -1 for none. -/
def tmN (o : Option Nat) : Int := match o with
  | some k => (k : Int)
  | none => -1

theorem timesNeeded_any (g c : Nat) (cur : List Int) (b : Int) (n : Nat) (al : Option Addr) (cl D : Nat) (w : World) (h : Rd w D (.slice (some ⟨g, 0, none⟩) cur.length c) cur) (h1 : 1 ≤ cur.length) (hl : cur.length ≤ 1000000) (hn : n ≤ 100000) :
    Calls Try.prog 61 #[.agg #[.slice (some ⟨g, 0, none⟩) cur.length c, .int .i64 b, .slice al n cl]] w fun e w' => e = .returned (.int .i64 (if palB cur = true then (n : Int) else -1)) ∧ Below w.heap.size w w' := by
  have H := Lib.hid h
  have HAL := Lib.hid (alloc_below w (.cells #[.slice (some ⟨g, 0, none⟩) cur.length c, .int .i64 b, .slice al n cl] 62))
  have HC2 := Lib.hid (show (w.alloc (.cells #[.slice (some ⟨g, 0, none⟩) cur.length c, .int .i64 b, .slice al n cl] 62)).cell? ⟨w.heap.size, 2, none⟩ = some (.slice al n cl) by simp [go_sem])
  clear h
  by_cases hp : palB cur = true
  · have HP := Lib.hid hp
    rw [if_pos hp]
    clear hp
    go_enter Try.func61, Try.ntmps61
    go_wp2_with fail
    refine (isSymmetric_any g c cur b D _ (H.out.keep HAL.out) h1 hl).mono ?_
    rw [HP.out]
    rintro e w1 ⟨rfl, hb⟩
    have B1 := Lib.hid (Below.step HAL.out HAL.out.size hb)
    have c2 := Below.keeps_cell hb HC2.out
    clear hb
    go_wp2
    go_ret
    exact ⟨rfl, B1.out⟩
  · have hp' : palB cur = false := by simpa using hp
    have HP := Lib.hid hp'
    rw [if_neg hp]
    clear hp hp'
    go_enter Try.func61, Try.ntmps61
    go_wp2_with fail
    refine (isSymmetric_any g c cur b D _ (H.out.keep HAL.out) h1 hl).mono ?_
    rw [HP.out]
    rintro e w1 ⟨rfl, hb⟩
    have B1 := Lib.hid (Below.step HAL.out HAL.out.size hb)
    clear hb
    go_wp2
    go_ret
    exact ⟨rfl, B1.out⟩

theorem tmN_of {b : Int} {most : Nat} {x0 cur : List Int} {ls : List (List Int)} (h : ls ++ [cur] = rvR b most x0) : (if palB cur = true then (ls.length : Int) else -1) = tmN (rvT b most x0) := by
  rw [rvT_of h]
  by_cases hp : palB cur = true
  · rw [if_pos hp, if_pos hp]; rfl
  · rw [if_neg hp, if_neg hp]; rfl
theorem ls_le {b : Int} {most : Nat} {x0 cur : List Int} {ls : List (List Int)} (h : ls ++ [cur] = rvR b most x0) : ls.length ≤ most := by
  have := (rvR_len b most x0).2
  rw [← h, List.length_append, List.length_singleton] at this
  omega

/-- The program's times for digits that are good. -/
theorem runTimes_any (g cap : Nat) (xs : List Int) (b : Int) (most D : Nat) (w : World) (h : Rd w D (.slice (some ⟨g, 0, none⟩) xs.length cap) xs) (hD : D ≤ w.heap.size) (hd : Dg b xs) (hm : most ≤ 100) :
    Calls Try.prog 60 #[lng (.slice (some ⟨g, 0, none⟩) xs.length cap) b, .int .i64 (most : Int)] w fun e w' => ∃ g' c' al n cl, e = .returned (.agg #[g', .int .i64 b, .slice al n cl]) ∧ Below w.heap.size w w' ∧
      (∃ gg m, g' = .slice (some ⟨gg, 0, none⟩) m c') ∧ ∀ w'', Below w'.heap.size w' w'' → Calls Try.prog 61 #[.agg #[g', .int .i64 b, .slice al n cl]] w'' fun e w3 => e = .returned (.int .i64 (tmN (rvT b most xs))) ∧ Below w''.heap.size w'' w3 := by
  refine (runUpTo_any g cap xs b most D w h hD hd hm).mono ?_
  rintro e w' ⟨vs, ls, cur, g', c', al, cl, rfl, hlf, hrd, _, heq, hdg, hb⟩
  refine ⟨_, c', al, ls.length, cl, rfl, hb, ⟨_, _, rfl⟩, fun w'' hb2 => ?_⟩
  refine (timesNeeded_any g' c' cur b ls.length al cl D w'' (hrd.keep hb2) hdg.l1 (by have := hdg.l40; omega) (by have := ls_le heq; omega)).mono ?_
  rintro e w3 ⟨rfl, hb3⟩
  exact ⟨by rw [tmN_of heq], hb3⟩

theorem rvSteps_any (v : Value) (xs : List Int) (b : Int) (most B : Nat) (w : World) (h : Rd w B v xs) (hd : Dg b xs) (hm : most ≤ 100) :
    Calls Try.prog 58 #[v, .int .i64 b, .int .i64 (most : Int)] w fun e w' => e = .returned (.tuple #[.int .i64 (((rvT b most xs).getD 0 : Nat) : Int), .bool (rvT b most xs).isSome]) ∧ Below w.heap.size w w' := by
  have H := Lib.hid h
  have HD := Lib.hid hd
  obtain ⟨a, cap, rfl⟩ := h.sl.len
  clear h hd
  obtain ⟨L, hL⟩ : ∃ L, L = rvR b most xs := ⟨_, rfl⟩
  have hln := rvR_len b most xs
  have hall := rvR_all (most := most) HD.out
  rw [← hL] at hln hall
  obtain ⟨ls, cur, hsp⟩ : ∃ ls cur, L = ls ++ [cur] := by
    have hne : L ≠ [] := fun e => by rw [e] at hln; simp at hln
    exact ⟨L.dropLast, L.getLast hne, (List.dropLast_concat_getLast hne).symm⟩
  have hT := rvT_of (b := b) (most := most) (x0 := xs) (cur := cur) (ls := ls) (by rw [← hsp, hL])
  have HRUN := Lib.hid (fun w' (h : Rd w' B (.slice a xs.length cap) xs) => rvRun_any _ xs b most B w' h HD.out hm)
  rw [← hL] at HRUN
  have hk : L.length = ls.length + 1 := by rw [hsp]; simp
  have hcl : cur.length ≤ 40 := (hall cur (by rw [hsp]; simp)).l40
  have HGET := Lib.hid (show ∀ (h : ls.length < L.length), L[ls.length] = cur by rw [hsp]; intro h; simp)
  have hlb : ls.length ≤ 100 := by omega
  rw [hk] at HRUN
  have HK := Lib.hid hk
  clear hL hln hall hsp hk
  by_cases hp : palB cur = true
  · have HP := Lib.hid hp
    rw [hT, if_pos hp]
    clear hp hT
    go_enter Try.func58, Try.ntmps58
    go_wp2_with fail
    refine (HRUN.out _ H.out).mono ?_
    rintro e w1 ⟨g1, c1, vs, rfl, hll, hb⟩
    obtain ⟨z, g3, c3, hz, hv3, hcell, hrz⟩ := hll.get ls.length (by rw [HK.out]; omega)
    simp only [Value.slice.injEq, Option.some.injEq, Addr.mk.injEq, and_true] at hv3
    obtain ⟨rfl, hvx, rfl⟩ := hv3
    clear hvx
    rw [HGET.out] at hrz
    obtain ⟨az, cz, rfl⟩ := hrz.sl.len
    have RZ := Lib.hid hrz
    have B1 := Lib.hid hb
    clear hll hz hrz hb
    have hw1 : IntKind.i64.wrap (((ls.length + 1 : Nat) : Int) - 1) = ((ls.length : Nat) : Int) := by rw [IntWalk.i64_in _ (by omega)]; omega
    have hw2 : IntKind.i64.wrap ((ls.length : Int) + 1 - 1) = ((ls.length : Nat) : Int) := by rw [IntWalk.i64_in _ (by omega)]; omega
    go_wp2_with (go_at_call 55; go_loud (refine (dgPalindrome_any _ _ _ _ RZ.out (by omega)).mono ?_; rw [HP.out]; rintro e w2 ⟨rfl, hb2⟩; have B2 := Lib.hid (Below.step B1.out B1.out.size hb2); clear hb2))
    go_ret2
    exact ⟨by simp, B2.out⟩
  · have hp' : palB cur = false := by simpa using hp
    have HP := Lib.hid hp'
    rw [hT, if_neg hp]
    clear hp hp' hT
    go_enter Try.func58, Try.ntmps58
    go_wp2_with fail
    refine (HRUN.out _ H.out).mono ?_
    rintro e w1 ⟨g1, c1, vs, rfl, hll, hb⟩
    obtain ⟨z, g3, c3, hz, hv3, hcell, hrz⟩ := hll.get ls.length (by rw [HK.out]; omega)
    simp only [Value.slice.injEq, Option.some.injEq, Addr.mk.injEq, and_true] at hv3
    obtain ⟨rfl, hvx, rfl⟩ := hv3
    clear hvx
    rw [HGET.out] at hrz
    obtain ⟨az, cz, rfl⟩ := hrz.sl.len
    have RZ := Lib.hid hrz
    have B1 := Lib.hid hb
    clear hll hz hrz hb
    go_wp2_with (go_at_call 55; go_loud (refine (dgPalindrome_any _ _ _ _ RZ.out (by omega)).mono ?_; rw [HP.out]; rintro e w2 ⟨rfl, hb2⟩; have B2 := Lib.hid (Below.step B1.out B1.out.size hb2); clear hb2))
    go_ret2
    exact ⟨rfl, B2.out⟩

end Go.Proofs.Yteadgaecjoenlaa
