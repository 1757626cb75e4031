/-
  What the law of digits draws: numbers, lists of digits, texts of numbers.
-/
import Derived.Test.Ytdlohdjejmpmcaa0I
import Derived.Test.Ytdlohdjejmpmcaa0D
import Derived.Test.YtdlohdjejmpmcaaC
import Derived.Test.YtdlohdjejmpmcaaNT
namespace Go.Proofs.Ytdlohdjejmpmcaa
open Go.RowKit
set_option linter.unusedVariables false
set_option linter.unusedSimpArgs false
set_option maxRecDepth 100000

/-- The digits that are drawn first: a number's, or none. -/
def fstD (z y : Int) : List Int := if Bas y then dgs y z else []
theorem fstD_len {z y : Int} (h0 : 0 ≤ z) (h1 : z ≤ 1000000000000) : (fstD z y).length ≤ 40 := by
  unfold fstD
  by_cases hB : Bas y
  · rw [if_pos hB]; exact dgs_len40 y z hB.1 h0 h1
  · rw [if_neg hB]; simp

def lenD : Value → Nat
  | .slice _ n _ => n
  | _ => 0
theorem lenD_rd {w : World} {B : Nat} {v : Value} {xs : List Int} (h : Rd w B v xs) : lenD v = xs.length := by
  obtain ⟨a, cap, rfl⟩ := h.shape
  rfl
theorem rd_apartD {w : World} {g : Nat} {v : Value} {xs : List Int} (h : Rd w (g + 1) v xs) : v.ownBlock = none ∨ v.ownBlock ≠ some g := by
  cases hv : v.ownBlock with
  | none => exact .inl rfl
  | some k =>
    right
    intro e
    simp only [Option.some.injEq] at e
    subst e
    have := (h.lt _ hv).1
    omega

set_option maxHeartbeats 4000000 in
theorem draw_NumberOf (v : Value) (xs : List Int) (w : World) (h : Sb w v xs) (hs : xs.length ≤ 1048576) :
    Calls Try.prog 26 #[v] w fun e w' => ∃ (u : Value) (ds : List Int) (z : Int), e = .returned (.tuple #[u, .int .i64 z]) ∧ Rd w' w.heap.size u ds ∧ ds.length ≤ 200 ∧ Below w.heap.size w w' := by
  have HC := Lib.hid (Cu.start h hs)
  obtain ⟨a, cap, rfl⟩ := h.len
  have HB := Lib.hid (alloc_below w (.cells #[.slice a xs.length cap, .int .i64 0, .int .u64 0] 47))
  clear h
  obtain ⟨g, hg0⟩ : ∃ g, g = w.heap.size := ⟨_, rfl⟩
  rw [← hg0] at HC
  have HG0 := Lib.hid hg0
  go_enter Try.func26, Try.ntmps26
  go_wp2_with fail
  rw [← hg0]
  clear hg0
  refine (sureM g _ xs _ _ HC.out (by omega)).mono ?_
  rintro e w1 ⟨z, rfl, z0, z1, hc, hg⟩
  have C1 := Lib.hid hc
  have HB1 := Lib.hid (HB.out.trans (grown_below hg (by simp) (by rw [HG0.out]; exact Nat.le_refl _)))
  clear hc hg
  go_wp2_with fail
  refine (baseM g _ xs _ _ C1.out (by omega)).mono ?_
  rintro e w2 ⟨y, rfl, y0, y1, hc, hg⟩
  have C2 := Lib.hid hc
  have HB2 := Lib.hid (HB1.out.trans (grown_below hg HB1.out.size (by rw [HG0.out]; exact Nat.le_refl _)))
  clear hc hg
  go_wp2_with fail
  refine (dgBase_any _ _).mono ?_
  rintro e w2' ⟨rfl, rfl⟩
  by_cases hB : Bas y
  · have hd : decide (Bas y) = true := decide_eq_true hB
    rw [hd]
    obtain ⟨hB1, hB2⟩ := hB
    have HD := Lib.hid (dgOf_s z y w2 z0 z1 hB1 hB2)
    have HL := Lib.hid (dgs_len40 y z hB1 z0 z1)
    obtain ⟨ds, hds⟩ : ∃ ds, ds = dgs y z := ⟨_, rfl⟩
    rw [← hds] at HD HL
    clear hds hB1 hB2 hd
    go_wp2_with fail
    refine HD.out.mono ?_
    rintro e w3 ⟨g3, cap3, rfl, hr, hb⟩
    have R3 := Lib.hid (hr.mono (show g + 1 ≤ w2.heap.size from Nat.succ_le_of_lt C2.out.lt))
    have C3 := Lib.hid (C2.out.keep (hb.mono (Nat.succ_le_of_lt C2.out.lt)))
    have HB3 := Lib.hid (HB2.out.trans (hb.mono HB2.out.size))
    clear hr hb HD
    go_wp2_with fail
    refine (pick_any g _ xs _ 10 _ C3.out (by omega) (by omega) (by omega)).mono ?_
    rintro e w4 ⟨x, rfl, x0, x1, hc, hg⟩
    have C4 := Lib.hid hc
    have R4 := Lib.hid (R3.out.grown hg (rd_apartD R3.out))
    have HB4 := Lib.hid (HB3.out.trans (grown_below hg HB3.out.size (by rw [HG0.out]; exact Nat.le_refl _)))
    have hgz := C4.out.lt
    have hx : x = 0 ∨ x = 1 ∨ x = 2 ∨ x = 3 ∨ 4 ≤ x := by omega
    clear hc hg x1
    rcases hx with rfl | rfl | rfl | rfl | hx
    · have HA := Lib.hid (amongM g _ xs _ [-1, 0, 1, y, y - 1, 4611686018427387904] w4 C4.out (by omega) (by simp) (by simp))
      go_wp2_with fail
      refine HA.out.mono ?_
      rintro e w5 ⟨t, rfl, _, hc, hg⟩
      have R5 := Lib.hid (R4.out.grown hg (rd_apartD R4.out))
      have HB5 := Lib.hid (HB4.out.trans (grown_below hg HB4.out.size (by rw [HG0.out]; exact Nat.le_refl _)))
      have hgz5 := hc.lt
      clear hc hg
      go_wp2_with (at_builtin; refine wpList_appR rfl _ _ rfl (g + 1) (g + 1) _ _ ds [t] rfl rfl (R5.out.alloc _) (Rd.litB _ _ _ (by omega)) (by have := HL.out; simp; omega) (by simp; omega) ?_; intro v6 w6 hr1 hg1 hb2; have R6 := Lib.hid (hr1.mono (show w.heap.size ≤ g + 1 by rw [HG0.out]; omega)); have HB6 := Lib.hid ((HB5.out.alloc HB5.out.size _).trans (hb2.mono (show w.heap.size ≤ g + 1 by rw [HG0.out]; omega))); clear hr1 hg1 hb2)
      go_ret2
      exact ⟨v6, ds ++ [t], y, rfl, R6.out, by have := HL.out; simp; omega, HB6.out⟩
    · go_wp2_with (at_builtin; refine wpList_appR rfl _ _ rfl (g + 1) (g + 1) _ _ [0] ds rfl rfl (Rd.litB _ _ _ (by omega)) (R4.out.alloc _) (by have := HL.out; simp; omega) (by simp; omega) ?_; intro v6 w6 hr1 hg1 hb2; have R6 := Lib.hid (hr1.mono (show w.heap.size ≤ g + 1 by rw [HG0.out]; omega)); have HB6 := Lib.hid ((HB4.out.alloc HB4.out.size _).trans (hb2.mono (show w.heap.size ≤ g + 1 by rw [HG0.out]; omega))); clear hr1 hg1 hb2)
      go_ret2
      exact ⟨v6, [0] ++ ds, y, rfl, R6.out, by have := HL.out; simp; omega, HB6.out⟩
    · go_wp2
      go_loopw [7] (fun u wr => ∃ es : List Int, es.length ≤ 60 ∧ Rd wr (g + 1) u es ∧ Cu wr g (.slice a xs.length cap) xs (200 + 2 * es.length) ∧ Below w.heap.size w wr) (fun u _ => 60 - lenD u)
      case atStart => exact ⟨ds, by have := HL.out; simp at this ⊢; omega, R4.out, C4.out.mono (by omega), HB4.out⟩
      case round =>
        obtain ⟨es, hes, hr, hc, hb⟩ := hrel
        obtain ⟨ue, uc, rfl⟩ := hr.shape
        have RR := Lib.hid hr
        have CC := Lib.hid hc
        have BB := Lib.hid hb
        clear hr hc hb
        go_wp2_with fail
        refine (pick_any g _ xs _ 2 _ CC.out (by omega) (by omega) (by omega)).mono ?_
        rintro e w5 ⟨p, rfl, p0, p1, hc, hg⟩
        have R5 := Lib.hid (RR.out.grown hg (rd_apartD RR.out))
        have C5 := Lib.hid hc
        have HB5 := Lib.hid (BB.out.trans (grown_below hg BB.out.size (by rw [HG0.out]; exact Nat.le_refl _)))
        have hgz5 := hc.lt
        have hp1 : p ≤ 1 := by omega
        clear hc hg p1
        by_cases hlt : (es.length : Int) < 40 + p
        · go_wp2_with (at_builtin; refine wpList_appR rfl _ _ rfl (g + 1) (g + 1) _ _ es [1] rfl rfl (R5.out.alloc _) (Rd.litB _ _ _ (by omega)) (by simp; omega) (by simp; omega) ?_; intro v6 w6 hr1 hg1 hb2; have R6 := Lib.hid hr1; have C6 := Lib.hid ((C5.out.alloc _).keep hb2); have HB6 := Lib.hid ((HB5.out.alloc HB5.out.size _).trans (hb2.mono (show w.heap.size ≤ g + 1 by rw [HG0.out]; omega))); clear hr1 hg1 hb2)
          go_roundw
          case rel => exact ⟨es ++ [1], by simp; omega, R6.out, C6.out.mono (by simp; omega), HB6.out⟩
          case measure =>
            rw [lenD_rd R6.out]
            simp [lenD]
            omega
        · go_wp2
          go_ret2
          exact ⟨_, es, y, rfl, R5.out.mono (by rw [HG0.out]; omega), by omega, HB5.out⟩
    · go_wp2
      go_ret2
      exact ⟨.slice none 0 0, [], y, rfl, Rd.nil _ _, by simp, HB4.out⟩
    · have b0 : (x == 0) = false := beq_no (by omega)
      have b1 : (x == 1) = false := beq_no (by omega)
      have b2 : (x == 2) = false := beq_no (by omega)
      have b3 : (x == 3) = false := beq_no (by omega)
      go_wp2
      go_ret2
      exact ⟨_, ds, y, rfl, R4.out.mono (by rw [HG0.out]; omega), by have := HL.out; omega, HB4.out⟩
  · have hd : decide (Bas y) = false := decide_eq_false hB
    rw [hd]
    have R3 : Go.RowKit.Hid (Rd w2 (g + 1) (.slice none 0 0) []) := Lib.hid (Rd.nil _ _)
    have C3 := C2
    have HB3 := HB2
    have HL := Lib.hid (show ([] : List Int).length ≤ 40 by simp)
    clear hB hd
    go_wp2_with fail
    refine (pick_any g _ xs _ 10 _ C3.out (by omega) (by omega) (by omega)).mono ?_
    rintro e w4 ⟨x, rfl, x0, x1, hc, hg⟩
    have C4 := Lib.hid hc
    have R4 := Lib.hid (R3.out.grown hg (rd_apartD R3.out))
    have HB4 := Lib.hid (HB3.out.trans (grown_below hg HB3.out.size (by rw [HG0.out]; exact Nat.le_refl _)))
    have hgz := C4.out.lt
    have hx : x = 0 ∨ x = 1 ∨ x = 2 ∨ x = 3 ∨ 4 ≤ x := by omega
    clear hc hg x1
    rcases hx with rfl | rfl | rfl | rfl | hx
    · have HA := Lib.hid (amongM g _ xs _ [-1, 0, 1, y, y - 1, 4611686018427387904] w4 C4.out (by omega) (by simp) (by simp))
      go_wp2_with fail
      refine HA.out.mono ?_
      rintro e w5 ⟨t, rfl, _, hc, hg⟩
      have R5 := Lib.hid (R4.out.grown hg (rd_apartD R4.out))
      have HB5 := Lib.hid (HB4.out.trans (grown_below hg HB4.out.size (by rw [HG0.out]; exact Nat.le_refl _)))
      have hgz5 := hc.lt
      clear hc hg
      go_wp2_with (at_builtin; refine wpList_appR rfl _ _ rfl (g + 1) (g + 1) _ _ [] [t] rfl rfl (R5.out.alloc _) (Rd.litB _ _ _ (by omega)) (by simp) (by simp; omega) ?_; intro v6 w6 hr1 hg1 hb2; have R6 := Lib.hid (hr1.mono (show w.heap.size ≤ g + 1 by rw [HG0.out]; omega)); have HB6 := Lib.hid ((HB5.out.alloc HB5.out.size _).trans (hb2.mono (show w.heap.size ≤ g + 1 by rw [HG0.out]; omega))); clear hr1 hg1 hb2)
      go_ret2
      exact ⟨v6, [] ++ [t], y, rfl, R6.out, by simp, HB6.out⟩
    · go_wp2_with (at_builtin; refine wpList_appR rfl _ _ rfl (g + 1) (g + 1) _ _ [0] [] rfl rfl (Rd.litB _ _ _ (by omega)) (R4.out.alloc _) (by simp) (by simp; omega) ?_; intro v6 w6 hr1 hg1 hb2; have R6 := Lib.hid (hr1.mono (show w.heap.size ≤ g + 1 by rw [HG0.out]; omega)); have HB6 := Lib.hid ((HB4.out.alloc HB4.out.size _).trans (hb2.mono (show w.heap.size ≤ g + 1 by rw [HG0.out]; omega))); clear hr1 hg1 hb2)
      go_ret2
      exact ⟨v6, [0] ++ [], y, rfl, R6.out, by simp, HB6.out⟩
    · go_wp2
      go_loopw [7] (fun u wr => ∃ es : List Int, es.length ≤ 60 ∧ Rd wr (g + 1) u es ∧ Cu wr g (.slice a xs.length cap) xs (200 + 2 * es.length) ∧ Below w.heap.size w wr) (fun u _ => 60 - lenD u)
      case atStart => exact ⟨[], by simp, R4.out, C4.out.mono (by omega), HB4.out⟩
      case round =>
        obtain ⟨es, hes, hr, hc, hb⟩ := hrel
        obtain ⟨ue, uc, rfl⟩ := hr.shape
        have RR := Lib.hid hr
        have CC := Lib.hid hc
        have BB := Lib.hid hb
        clear hr hc hb
        go_wp2_with fail
        refine (pick_any g _ xs _ 2 _ CC.out (by omega) (by omega) (by omega)).mono ?_
        rintro e w5 ⟨p, rfl, p0, p1, hc, hg⟩
        have R5 := Lib.hid (RR.out.grown hg (rd_apartD RR.out))
        have C5 := Lib.hid hc
        have HB5 := Lib.hid (BB.out.trans (grown_below hg BB.out.size (by rw [HG0.out]; exact Nat.le_refl _)))
        have hgz5 := hc.lt
        have hp1 : p ≤ 1 := by omega
        clear hc hg p1
        by_cases hlt : (es.length : Int) < 40 + p
        · go_wp2_with (at_builtin; refine wpList_appR rfl _ _ rfl (g + 1) (g + 1) _ _ es [1] rfl rfl (R5.out.alloc _) (Rd.litB _ _ _ (by omega)) (by simp; omega) (by simp; omega) ?_; intro v6 w6 hr1 hg1 hb2; have R6 := Lib.hid hr1; have C6 := Lib.hid ((C5.out.alloc _).keep hb2); have HB6 := Lib.hid ((HB5.out.alloc HB5.out.size _).trans (hb2.mono (show w.heap.size ≤ g + 1 by rw [HG0.out]; omega))); clear hr1 hg1 hb2)
          go_roundw
          case rel => exact ⟨es ++ [1], by simp; omega, R6.out, C6.out.mono (by simp; omega), HB6.out⟩
          case measure =>
            rw [lenD_rd R6.out]
            simp [lenD]
            omega
        · go_wp2
          go_ret2
          exact ⟨_, es, y, rfl, R5.out.mono (by rw [HG0.out]; omega), by omega, HB5.out⟩
    · go_wp2
      go_ret2
      exact ⟨.slice none 0 0, [], y, rfl, Rd.nil _ _, by simp, HB4.out⟩
    · have b0 : (x == 0) = false := beq_no (by omega)
      have b1 : (x == 1) = false := beq_no (by omega)
      have b2 : (x == 2) = false := beq_no (by omega)
      have b3 : (x == 3) = false := beq_no (by omega)
      go_wp2
      go_ret2
      exact ⟨_, [], y, rfl, R4.out.mono (by rw [HG0.out]; omega), by simp, HB4.out⟩

theorem draw_ParseNumber (v : Value) (xs : List Int) (w : World) (h : Sb w v xs) (hs : xs.length ≤ 1048576) :
    Calls Try.prog 29 #[v] w fun e w' => ∃ (T : List UInt8) (z : Int), e = .returned (.tuple #[strA T, .int .i64 z]) ∧ T.length ≤ 4002 ∧ Below w.heap.size w w' := by
  have HC := Lib.hid (Cu.start h hs)
  obtain ⟨a, cap, rfl⟩ := h.len
  have HB := Lib.hid (alloc_below w (.cells #[.slice a xs.length cap, .int .i64 0, .int .u64 0] 47))
  clear h
  go_enter Try.func29, Try.ntmps29
  go_wp2_with fail
  refine (sureM w.heap.size _ xs _ _ HC.out (by omega)).mono ?_
  rintro e w1 ⟨z, rfl, z0, z1, hc, hg⟩
  have C1 := Lib.hid hc
  have HB1 := Lib.hid (HB.out.trans (grown_below hg (by simp) (Nat.le_refl _)))
  clear hc hg
  go_wp2_with fail
  refine (baseM w.heap.size _ xs _ _ C1.out (by omega)).mono ?_
  rintro e w2 ⟨y, rfl, y0, y1, hc, hg⟩
  have C2 := Lib.hid hc
  have HB2 := Lib.hid (HB1.out.trans (grown_below hg HB1.out.size (Nat.le_refl _)))
  clear hc hg
  go_wp2_with fail
  refine (dgBase_any _ _).mono ?_
  rintro e w2' ⟨rfl, rfl⟩
  by_cases hB : Bas y
  · have hd : decide (Bas y) = true := decide_eq_true hB
    rw [hd]
    have HT := Lib.hid (dgText_any z y w2 z0 z1 hB.1 hB.2)
    have hl : (txt (dgs y z)).length ≤ 40 := by unfold txt; rw [List.length_map]; exact dgs_len40 y z hB.1 z0 z1
    obtain ⟨u, hu⟩ : ∃ u, u = txt (dgs y z) := ⟨_, rfl⟩
    rw [← hu] at HT hl
    clear hu hB hd
    go_wp2_with fail
    refine HT.out.mono ?_
    rintro e w3 ⟨rfl, hb⟩
    have C3 := Lib.hid (C2.out.keep (hb.mono (Nat.succ_le_of_lt C2.out.lt)))
    have HB3 := Lib.hid (HB2.out.trans (hb.mono HB2.out.size))
    clear hb HT
    go_wp2_with fail
    refine (one_any w.heap.size _ xs _ 3 _ C3.out (by omega) (by omega) (by omega)).mono ?_
    rintro e w4 ⟨q, rfl, hc, hg⟩
    have C4 := Lib.hid hc
    have HB4 := Lib.hid (HB3.out.trans (grown_below hg HB3.out.size (Nat.le_refl _)))
    clear hc hg
    cases q
    · go_wp2
      go_ret2
      exact ⟨u, y, rfl, by omega, HB4.out⟩
    · go_wp2_with fail
      refine (spoilt_any w.heap.size _ xs _ u [48, 49, 57, 97, 102, 103, 45] w4 C4.out (by omega) (by omega) (by simp)).mono ?_
      rintro e w5 ⟨T, rfl, hT, hc, hg⟩
      have HB5 := Lib.hid (HB4.out.trans (grown_below hg HB4.out.size (Nat.le_refl _)))
      have HTL := Lib.hid hT
      clear hc hg hT
      go_wp2
      go_ret2
      exact ⟨T, y, rfl, HTL.out, HB5.out⟩
  · have hd : decide (Bas y) = false := decide_eq_false hB
    rw [hd]
    clear hB hd
    go_wp2_with fail
    refine (one_any w.heap.size _ xs _ 3 _ C2.out (by omega) (by omega) (by omega)).mono ?_
    rintro e w4 ⟨q, rfl, hc, hg⟩
    have C4 := Lib.hid hc
    have HB4 := Lib.hid (HB2.out.trans (grown_below hg HB2.out.size (Nat.le_refl _)))
    clear hc hg
    cases q
    · go_wp2
      go_ret2
      exact ⟨[49, 50, 48], y, rfl, by simp, HB4.out⟩
    · go_wp2_with fail
      refine (spoilt_any w.heap.size _ xs _ [49, 50, 48] [48, 49, 57, 97, 102, 103, 45] w4 C4.out (by omega) (by simp) (by simp)).mono ?_
      rintro e w5 ⟨T, rfl, hT, hc, hg⟩
      have HB5 := Lib.hid (HB4.out.trans (grown_below hg HB4.out.size (Nat.le_refl _)))
      have HTL := Lib.hid hT
      clear hc hg hT
      go_wp2
      go_ret2
      exact ⟨T, y, rfl, HTL.out, HB5.out⟩

end Go.Proofs.Ytdlohdjejmpmcaa
