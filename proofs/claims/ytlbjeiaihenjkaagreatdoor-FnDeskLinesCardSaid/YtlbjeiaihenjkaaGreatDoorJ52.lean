/-
  Joint text of P1, P2, P3: what each proves stands ahead of it.
-/
import Derived.Test.YtlbjeiaihenjkaaGreatDoorJ51
import Derived.Test.YtlbjeiaihenjkaaGreatDoorJ35
import Derived.Test.YtlbjeiaihenjkaaGreatDoorJ40
import Derived.Test.YtlbjeiaihenjkaaGreatDoorJ03
import Derived.Test.YtlbjeiaihenjkaaGreatDoorJ07
import Derived.Deep.AppendLies
import Derived.Test.YtlbjeiaihenjkaaGreatDoorJ27
import Derived.Test.YtlbjeiaihenjkaaGreatDoorJ24
import Derived.Test.YtlbjeiaihenjkaaGreatDoorJ46
import Derived.Test.YtlbjeiaihenjkaaGreatDoorJ43
import Derived.Test.YtlbjeiaihenjkaaGreatDoorJ44
/- from P1: The desks and lines that the console's laws draw.  -/
namespace Go.Proofs.YtlbjeiaihenjkaaGreatDoor
open Go.RowKit
set_option linter.unusedVariables false
set_option linter.unusedSimpArgs false
set_option maxRecDepth 100000

/-- What is chosen is one of the list. -/
theorem amongM (g : Nat) (v : Value) (xs : List Int) (K : Nat) (ys : List Int) (w : World) (h : Cu w g v xs K) (hK : K ≤ 1000000) (h1 : 1 ≤ ys.length) (h2 : ys.length ≤ 1000) :
    Calls Tryz.prog 73 #[.pointer (some ⟨g, 0, none⟩), .slice (some ⟨w.heap.size, 0, none⟩) ys.length ys.length] (w.alloc (.cells (ys.map (Value.int .i64)).toArray 3)) fun e w' => ∃ x : Int, e = .returned (.int .i64 x) ∧ x ∈ ys ∧ Cu w' g v xs (K + 2) ∧ w.grownBy w' (some g) := by
  have HG := Lib.hid (grown_alloc w (.cells (ys.map (Value.int .i64)).toArray 3) (some g))
  have HY := Lib.hid (rd_consts w ys h2)
  have HB := Lib.hid (show ¬ w.heap.size = g from fun e => by have := h.lt; omega)
  have HC := Lib.hid (h.alloc (.cells (ys.map (Value.int .i64)).toArray 3))
  obtain ⟨b, hb⟩ : ∃ b, b = w.heap.size := ⟨_, rfl⟩
  obtain ⟨w1, hw1⟩ : ∃ w1, w1 = w.alloc (.cells (ys.map (Value.int .i64)).toArray 3) := ⟨_, rfl⟩
  rw [← hb] at HY HB
  rw [← hw1] at HG HY HC
  rw [← hb, ← hw1]
  have HP := Lib.hid (pick_any g v xs K (ys.length : Int) w1 HC.out hK (by omega) (by omega))
  obtain ⟨L, hL⟩ : ∃ L, L = ys.length := ⟨_, rfl⟩
  rw [← hL] at HP HY h1 h2 ⊢
  have HLL := Lib.hid hL
  clear h hL hb hw1
  go_enter Tryz.func73, Tryz.ntmps73
  go_wp2_with fail
  refine HP.out.mono ?_
  rintro e w2 ⟨x, rfl, x0, x1, hc, hg⟩
  have C1 := Lib.hid hc
  have G1 := Lib.hid (grown_trans HG.out hg)
  obtain ⟨X, rfl⟩ : ∃ X : Nat, x = (X : Int) := ⟨x.toNat, by omega⟩
  have hX : X < L := by omega
  have hXy : X < ys.length := by rw [← HLL.out]; exact hX
  have hcell : w2.cell? ⟨b, X, none⟩ = some (.int .i64 ys[X]) := by
    have hr : Rd w2 _ (.slice (some ⟨b, 0, none⟩) L L) ys := HY.out.grown hg (.inr (fun e => HB.out (by simpa [Value.ownBlock] using e)))
    exact hr.at.2.2.2.2.1 X hXy
  have HM := Lib.hid (List.getElem_mem hXy)
  obtain ⟨y, hy⟩ : ∃ y, y = ys[X] := ⟨_, rfl⟩
  rw [← hy] at hcell HM
  clear hc hg hy x1 hXy
  go_wp2
  go_ret
  exact ⟨y, rfl, HM.out, C1.out, G1.out⟩

/-- A list of constant texts. -/
theorem rg_texts (w : World) (ts : List Tx) (h : ts.length ≤ 1000) : Rg 9 (w.alloc (.cells (ts.map str).toArray 9)) w.heap.size (.slice (some ⟨w.heap.size, 0, none⟩) ts.length ts.length) (ts.map str) := by
  have := World.ownsRow_lit (e := 9) (size := 1) (base := w.heap.size) w (ts.map str).toArray ts.length (Nat.le_refl _) (by unfold maxLen; omega) (by simp)
  unfold Rg
  simpa using this

theorem ofM (g : Nat) (v : Value) (xs : List Int) (K : Nat) (ts : List Tx) (w : World) (h : Cu w g v xs K) (hK : K ≤ 1000000) (h1 : 1 ≤ ts.length) (h2 : ts.length ≤ 1000) :
    Calls Tryz.prog 76 #[.pointer (some ⟨g, 0, none⟩), .slice (some ⟨w.heap.size, 0, none⟩) ts.length ts.length] (w.alloc (.cells (ts.map str).toArray 9)) fun e w' => ∃ T : Tx, e = .returned (str T) ∧ T ∈ ts ∧ Cu w' g v xs (K + 2) ∧ w.grownBy w' (some g) := by
  have HG := Lib.hid (grown_alloc w (.cells (ts.map str).toArray 9) (some g))
  have HY := Lib.hid (rg_texts w ts h2)
  have HB := Lib.hid (show ¬ w.heap.size = g from fun e => by have := h.lt; omega)
  have HC := Lib.hid (h.alloc (.cells (ts.map str).toArray 9))
  obtain ⟨b, hb⟩ : ∃ b, b = w.heap.size := ⟨_, rfl⟩
  obtain ⟨w1, hw1⟩ : ∃ w1, w1 = w.alloc (.cells (ts.map str).toArray 9) := ⟨_, rfl⟩
  rw [← hb] at HY HB
  rw [← hw1] at HG HY HC
  rw [← hb, ← hw1]
  have HP := Lib.hid (pick_any g v xs K (ts.length : Int) w1 HC.out hK (by omega) (by omega))
  obtain ⟨L, hL⟩ : ∃ L, L = ts.length := ⟨_, rfl⟩
  rw [← hL] at HP HY h1 h2 ⊢
  have HLL := Lib.hid hL
  clear h hL hb hw1
  go_enter Tryz.func76, Tryz.ntmps76
  go_wp2_with fail
  refine HP.out.mono ?_
  rintro e w2 ⟨x, rfl, x0, x1, hc, hg⟩
  have C1 := Lib.hid hc
  have G1 := Lib.hid (grown_trans HG.out hg)
  obtain ⟨X, rfl⟩ : ∃ X : Nat, x = (X : Int) := ⟨x.toNat, by omega⟩
  have hX : X < L := by omega
  have hXy : X < ts.length := by rw [← HLL.out]; exact hX
  have hcell : w2.cell? ⟨b, X, none⟩ = some (str ts[X]) := by
    have hr : Rg 9 w2 _ (.slice (some ⟨b, 0, none⟩) L L) (ts.map str) := HY.out.grown hg (.inr (fun e => HB.out (by simpa [Value.ownBlock] using e)))
    rw [hr.at.2.2.2.2.2.1 X (by simpa using hXy)]
    simp
  have HM := Lib.hid (List.getElem_mem hXy)
  obtain ⟨y, hy⟩ : ∃ y, y = ts[X] := ⟨_, rfl⟩
  rw [← hy] at hcell HM
  clear hc hg hy x1 hXy
  go_wp2
  go_ret
  exact ⟨y, rfl, HM.out, C1.out, G1.out⟩

theorem sureM (g : Nat) (v : Value) (xs : List Int) (K : Nat) (w : World) (h : Cu w g v xs K) (hK : K ≤ 950000) :
    Calls Tryz.prog 75 #[.pointer (some ⟨g, 0, none⟩)] w fun e w' => ∃ z : Int, e = .returned (.int .i64 z) ∧ 0 ≤ z ∧ z ≤ 1000000000000 ∧ Cu w' g v xs (K + 30) ∧ w.grownBy w' (some g) := by
  have HP8 := Lib.hid (fun (K : Nat) (w' : World) (hK : K ≤ 1000000) (h : Cu w' g v xs K) => pick_any g v xs K 8 w' h hK (by omega) (by omega))
  have HP2 := Lib.hid (fun (K : Nat) (w' : World) (hK : K ≤ 1000000) (h : Cu w' g v xs K) => pick_any g v xs K 256 w' h hK (by omega) (by omega))
  have HP11 := Lib.hid (fun (K : Nat) (w' : World) (hK : K ≤ 1000000) (h : Cu w' g v xs K) => pick_any g v xs K 11 w' h hK (by omega) (by omega))
  have HP10 := Lib.hid (fun (K : Nat) (w' : World) (hK : K ≤ 1000000) (h : Cu w' g v xs K) => pick_any g v xs K 10 w' h hK (by omega) (by omega))
  have HA2 := Lib.hid (fun (K : Nat) (w' : World) (hK : K ≤ 1000000) (h : Cu w' g v xs K) => amongM g v xs K [0, 1, 9, 10, 99, 100, 153, 370, 1000, 6174, 9999, 999999999999, 1000000000000] w' h hK (by simp) (by simp))
  have HM2 := Lib.hid (show ∀ z : Int, z ∈ [0, 1, 9, 10, 99, 100, 153, 370, 1000, 6174, 9999, 999999999999, (1000000000000 : Int)] → 0 ≤ z ∧ z ≤ 1000000000000 by decide)
  have H := Lib.hid h
  clear h
  go_enter Tryz.func75, Tryz.ntmps75
  go_wp2_with fail
  refine (HP8.out K _ (by omega) H.out).mono ?_
  rintro e w1 ⟨x, rfl, x0, x1, hc, hg⟩
  have C1 := Lib.hid hc
  have G1 := Lib.hid hg
  clear hc hg
  have hx7 : x ≤ 7 := by omega
  clear x1
  by_cases e0 : x = 0
  · subst e0
    go_wp2_with (go_at_call 71; refine (HP2.out _ _ (by omega) C1.out).mono ?_; rintro e w2 ⟨z, rfl, z0, z1, hc, hg⟩; have C2 := Lib.hid hc; have G2 := Lib.hid (grown_trans G1.out hg); clear hc hg)
    go_ret
    exact ⟨z, rfl, z0, by omega, C2.out.mono (by omega), G2.out⟩
  · have b0 : (x == 0) = false := beq_no e0
    by_cases e1 : x = 1
    · subst e1
      clear e0
      go_wp2_with (go_at_call 73; refine (HA2.out _ _ (by omega) C1.out).mono ?_; rintro e w2 ⟨z, rfl, hm, hc, hg⟩; have C2 := Lib.hid hc; have G2 := Lib.hid (grown_trans G1.out hg); have M2 := Lib.hid (HM2.out z hm); clear hc hg hm)
      go_ret
      exact ⟨z, rfl, M2.out.1, M2.out.2, C2.out.mono (by omega), G2.out⟩
    · have b1 : (x == 1) = false := beq_no e1
      by_cases e2 : x = 2
      · subst e2
        clear e0 e1
        go_wp2_with fail
        refine (HP2.out _ _ (by omega) C1.out).mono ?_
        rintro e w2 ⟨y, rfl, y0, y1, hc, hg⟩
        have C2 := Lib.hid hc
        have G2 := Lib.hid (grown_trans G1.out hg)
        clear hc hg
        go_wp2_with fail
        refine (HP2.out _ _ (by omega) C2.out).mono ?_
        rintro e w3 ⟨y', rfl, y0', y1', hc, hg⟩
        have C3 := Lib.hid hc
        have G3 := Lib.hid (grown_trans G2.out hg)
        clear hc hg
        have m0 : 0 ≤ y * y' := Int.mul_nonneg y0 y0'
        have m1 : y * y' ≤ 65536 := by
          have := Int.mul_le_mul (show y ≤ 255 by omega) (show y' ≤ 255 by omega) y0' (by omega)
          omega
        go_wp2
        go_ret
        exact ⟨_, rfl, m0, by omega, C3.out.mono (by omega), G3.out⟩
      · have b2 : (x == 2) = false := beq_no e2
        clear e0 e1 e2
        go_wp2_with fail
        refine (HP11.out _ _ (by omega) C1.out).mono ?_
        rintro e w2 ⟨y, rfl, y0, y1, hc, hg⟩
        have C2 := Lib.hid hc
        have G2 := Lib.hid (grown_trans G1.out hg)
        obtain ⟨Y, rfl⟩ : ∃ Y : Nat, y = (Y : Int) := ⟨y.toNat, by omega⟩
        have hY : Y ≤ 10 := by omega
        clear hc hg y1
        go_wp2
        go_loopw [3, 4] (fun n k wr => ∃ (z : Int) (j : Nat), n = .int .i64 z ∧ k = .int .i64 (j : Int) ∧ j ≤ 11 ∧ 0 ≤ z ∧ z + 1 ≤ ((10 ^ (11 - j) : Nat) : Int) ∧ Cu wr g v xs (K + 4 + 2 * (11 - j)) ∧ w.grownBy wr (some g)) (fun _ k _ => (intOf k).toNat)
        case atStart => exact ⟨0, Y + 1, rfl, by go_num, by omega, by omega, by have h1 : 0 < 10 ^ (11 - (Y + 1)) := Nat.pow_pos (by omega); omega, C2.out.mono (by omega), G2.out⟩
        case round =>
          obtain ⟨z, j, rfl, rfl, hj, hz0, hz1, hc, hg⟩ := hrel
          have C3 := Lib.hid hc
          have G3 := Lib.hid hg
          have hzz : z + 1 ≤ 100000000000 := by
            have h1 : 10 ^ (11 - j) ≤ 10 ^ 11 := Nat.pow_le_pow_right (by omega) (by omega)
            have h2 : (10 : Nat) ^ 11 = 100000000000 := by decide
            omega
          have HZ := Lib.hid hz1
          clear hc hg hz1
          by_cases hp : 0 < j
          · have hp2 : (0 : Int) < (j : Int) := by omega
            go_wp2_with (go_at_call 71; refine (HP10.out _ _ (by omega) C3.out).mono ?_; rintro e w4 ⟨z', rfl, z0', z1', hc, hg⟩; have C4 := Lib.hid hc; have G4 := Lib.hid (grown_trans G3.out hg); clear hc hg)
            go_roundw
            case rel =>
              refine ⟨_, j - 1, rfl, by go_num, by omega, by omega, ?_, C4.out.mono (by omega), G4.out⟩
              have e : 11 - (j - 1) = (11 - j) + 1 := by omega
              have h2 : 10 ^ ((11 - j) + 1) = 10 ^ (11 - j) * 10 := Nat.pow_succ 10 (11 - j)
              have := HZ.out
              rw [e, h2]
              omega
            case measure => simp [intOf]; omega
          · obtain rfl : j = 0 := by omega
            go_wp2
            go_ret
            exact ⟨z, rfl, hz0, by omega, C3.out.mono (by omega), G3.out⟩

theorem box_new (v : World) (a b : Value) (t : TypeId) : Box2 (v.alloc (.cells #[a, b] t)) v.heap.size := by
  refine ⟨fun j hj => ?_, fun j => by simp [go_sem]⟩
  match j, hj with
  | 0, _ => exact ⟨a, by simp [go_sem]⟩
  | 1, _ => exact ⟨b, by simp [go_sem]⟩
  | j + 2, h => omega
theorem Box2.grown' {w w' : World} {s g : Nat} (h : Box2 w s) (hg : w.grownBy w' (some g)) (hs : s < w.heap.size) (hne : s ≠ g) : Box2 w' s :=
  ⟨fun j hj => by
    obtain ⟨y, hy⟩ := h.cell j hj
    exact ⟨y, (hg.cell_far ⟨s, j, none⟩ hs (by simpa using hne)).trans hy⟩, fun j => (hg.frozen_far ⟨s, j, none⟩ hs (by simpa using hne)).trans (h.free j)⟩
theorem grown_ownC {w w' : World} {row : Option Nat} (h : w.grownBy w' row) (s : Nat) (hs : w.heap.size ≤ s) (x : Value) (j : Nat) : w.grownBy (w'.setCell ⟨s, j, none⟩ x) row := by
  refine ⟨h.os, h.tape, h.output, by simpa [World.setCell] using h.size, fun i hi hne => ?_⟩
  have : i ≠ s := by omega
  simp only [World.setCell, Array.getElem?_modify]
  rw [if_neg (fun e => this e.symm)]
  exact h.block i hi hne
theorem grown_belowC {w w' : World} (hb : Below w.heap.size w w') (row : Option Nat) : w.grownBy w' row := ⟨hb.os, hb.tape, hb.output, hb.size, fun i hi _ => hb.block i hi⟩

theorem desk_any (g : Nat) (v : Value) (xs : List Int) (K : Nat) (w : World) (h : Cu w g v xs K) (hK : K ≤ 800) :
    Calls Tryz.prog 43 #[.pointer (some ⟨g, 0, none⟩)] w fun e w' => ∃ n b : Int, e = .returned (dsk n b) ∧ Cu w' g v xs (K + 40) ∧ w.grownBy w' (some g) := by
  have HBX := Lib.hid (box_new w (.int .i64 0) (.int .i64 0) 24)
  have HC := Lib.hid (h.alloc (.cells #[.int .i64 0, .int .i64 0] 24))
  have HG := Lib.hid (grown_alloc w (.cells #[.int .i64 0, .int .i64 0] 24) (some g))
  have hlt := h.lt
  obtain ⟨V, hV⟩ : ∃ V, V = w.alloc (.cells #[.int .i64 0, .int .i64 0] 24) := ⟨_, rfl⟩
  have HVZ := Lib.hid (show V.heap.size = w.heap.size + 1 by rw [hV]; simp)
  rw [← hV] at HBX HC HG
  clear h
  go_enter Tryz.func43, Tryz.ntmps43
  go_wp2_with fail
  rw [← hV]
  clear hV
  refine (numberD_any g v xs K V HC.out (by omega)).mono ?_
  rintro e w1 ⟨z, rfl, hc, hg⟩
  have C1 := Lib.hid hc
  have B1 := Lib.hid (HBX.out.grown' hg (by rw [HVZ.out]; omega) (by omega))
  have G1 := Lib.hid (grown_trans HG.out hg)
  have Z1 := Lib.hid (show w.heap.size < w1.heap.size by have := hg.size; have := HVZ.out; omega)
  clear hc hg
  go_wp2_with fail
  refine (base_any g v xs _ w1 C1.out (by omega)).mono ?_
  rintro e w2 ⟨y, rfl, hc, hg⟩
  have C2 := Lib.hid hc
  have B2 := Lib.hid (B1.out.grown' hg Z1.out (by omega))
  have G2 := Lib.hid (grown_trans G1.out hg)
  clear hc hg
  obtain ⟨y0, e0⟩ := B2.out.cell 0 (by omega)
  obtain ⟨y1, e1⟩ := B2.out.cell 1 (by omega)
  have ef := B2.out.free
  have HS := Lib.hid (set2_cells B2.out (.int .i64 z) (.int .i64 y))
  go_wp2
  refine bodyPost_ret (v := dsk z y) (results_one rfl _ _ w.heap.size _ rfl (load_dk _ _ _ _ HS.out.1 HS.out.2)) rfl ?_
  exact ⟨z, y, rfl, (C2.out.keep (set2_below (Below.refl (g + 1) _) (by omega) _ _)).mono (by omega), grown_ownC (grown_ownC G2.out w.heap.size (Nat.le_refl _) _ 0) w.heap.size (Nat.le_refl _) _ 1⟩

set_option maxHeartbeats 1000000 in
theorem line10_any (g : Nat) (v : Value) (xs : List Int) (K : Nat) (w : World) (h : Cu w g v xs K) (hK : K ≤ 900000) :
    Calls Tryz.prog 45 #[.pointer (some ⟨g, 0, none⟩)] w fun e w' => ∃ T : Tx, e = .returned (str T) ∧ T.length ≤ 60 ∧ Cu w' g v xs (K + 40) ∧ w.grownBy w' (some g) := by
  have HA := Lib.hid (amongM g v xs K [0, 1, 2, 3, 4, 5, 8, 20, 21] w h (by omega) (by simp) (by simp))
  have HM := Lib.hid (show ∀ z : Int, z ∈ [0, 1, 2, 3, 4, 5, 8, 20, (21 : Int)] → 0 ≤ z ∧ z ≤ 1000 by decide)
  have HB := Lib.hid (fun (K : Nat) (w' : World) (hK : K ≤ 1000000) (h : Cu w' g v xs K) => amongM g v xs K [2, 3, 8, 10, 10, 16, 17, 1] w' h hK (by simp) (by simp))
  have HMB := Lib.hid (show ∀ z : Int, z ∈ [2, 3, 8, 10, 10, 16, 17, (1 : Int)] → 0 ≤ z ∧ z ≤ 1000 by decide)
  have HO1 := Lib.hid (fun (K : Nat) (w' : World) (hK : K ≤ 1000000) (h : Cu w' g v xs K) => ofM g v xs K [[114, 101, 118, 101, 114, 115, 101], [117, 112], [100, 111, 119, 110], [115, 116, 101, 112], [115, 104, 111, 114, 116], [110, 101, 120, 116]] w' h hK (by simp) (by simp))
  have HO2 := Lib.hid (fun (K : Nat) (w' : World) (hK : K ≤ 1000000) (h : Cu w' g v xs K) => ofM g v xs K [[115, 104, 111, 119], [100, 105, 103, 105, 116, 115], [115, 117, 109], [114, 111, 111, 116], [119, 97, 121, 115]] w' h hK (by simp) (by simp))
  have HO3 := Lib.hid (fun (K : Nat) (w' : World) (hK : K ≤ 1000000) (h : Cu w' g v xs K) => ofM g v xs K [[104, 97, 112, 112, 121], [115, 116, 101, 112, 115], [111, 119, 110, 32, 51], [111, 119, 110, 32, 50]] w' h hK (by simp) (by simp))
  have HO4 := Lib.hid (fun (K : Nat) (w' : World) (hK : K ≤ 1000000) (h : Cu w' g v xs K) => ofM g v xs K [[102, 108, 121], [], [115, 104, 111, 119, 32], [116, 97, 107, 101, 32], [116, 97, 107, 101, 32, 48, 49, 50], [116, 97, 107, 101, 32, 103], [98, 97, 115, 101, 32, 48], [112, 111, 119, 101, 114, 32, 57], [114, 117, 110, 32, 48], [111, 119, 110, 32, 55], [119, 111, 114, 100, 32, 120], [110, 117, 109, 98, 101, 114, 32], [110, 117, 109, 98, 101, 114, 32, 49, 49, 49, 48], [110, 117, 109, 98, 101, 114, 32, 48, 49, 50], [110, 117, 109, 98, 101, 114, 32, 49, 49, 49, 49, 49, 49, 49, 49, 49, 49, 49, 49, 49, 49, 49, 49, 49, 49, 49, 49, 49]] w' h hK (by simp) (by simp))
  have HL1 := Lib.hid (show ∀ T ∈ ([[114, 101, 118, 101, 114, 115, 101], [117, 112], [100, 111, 119, 110], [115, 116, 101, 112], [115, 104, 111, 114, 116], [110, 101, 120, 116]] : List Tx), T.length ≤ 60 by decide)
  have HL2 := Lib.hid (show ∀ T ∈ ([[115, 104, 111, 119], [100, 105, 103, 105, 116, 115], [115, 117, 109], [114, 111, 111, 116], [119, 97, 121, 115]] : List Tx), T.length ≤ 60 by decide)
  have HL3 := Lib.hid (show ∀ T ∈ ([[104, 97, 112, 112, 121], [115, 116, 101, 112, 115], [111, 119, 110, 32, 51], [111, 119, 110, 32, 50]] : List Tx), T.length ≤ 60 by decide)
  have HL4 := Lib.hid (show ∀ T ∈ ([[102, 108, 121], [], [115, 104, 111, 119, 32], [116, 97, 107, 101, 32], [116, 97, 107, 101, 32, 48, 49, 50], [116, 97, 107, 101, 32, 103], [98, 97, 115, 101, 32, 48], [112, 111, 119, 101, 114, 32, 57], [114, 117, 110, 32, 48], [111, 119, 110, 32, 55], [119, 111, 114, 100, 32, 120], [110, 117, 109, 98, 101, 114, 32], [110, 117, 109, 98, 101, 114, 32, 49, 49, 49, 48], [110, 117, 109, 98, 101, 114, 32, 48, 49, 50], [110, 117, 109, 98, 101, 114, 32, 49, 49, 49, 49, 49, 49, 49, 49, 49, 49, 49, 49, 49, 49, 49, 49, 49, 49, 49, 49, 49]] : List Tx), T.length ≤ 60 by decide)
  have HIT := Lib.hid (show ∀ z : Int, 0 ≤ z → z ≤ 1000 → (Lib.itoa z).length ≤ 21 from fun z h0 h1 => Lib.itoa_length_le _ (by omega) (by omega))
  have HP := Lib.hid (fun (w' : World) (h : Cu w' g v xs (K + 2)) => pick_any g v xs (K + 2) 12 w' h (by omega) (by omega) (by omega))
  clear h
  go_enter Tryz.func45, Tryz.ntmps45
  go_wp2_with fail
  refine HA.out.mono ?_
  rintro e w1 ⟨z, rfl, hm, hc, hg⟩
  have C1 := Lib.hid hc
  have G1 := Lib.hid hg
  obtain ⟨z0, z1⟩ := HM.out z hm
  clear hm hc hg
  go_wp2_with fail
  refine (l1Num_i z z0 (by omega) w1).mono ?_
  rintro e w2 ⟨rfl, hb⟩
  have C2 := Lib.hid (C1.out.keep (hb.mono (Nat.succ_le_of_lt C1.out.lt)))
  have G2 := Lib.hid (grown_trans G1.out (grown_belowC hb (some g)))
  have hkl := HIT.out z z0 z1
  obtain ⟨k, hk⟩ : ∃ k, k = Lib.itoa z := ⟨_, rfl⟩
  rw [← hk] at hkl ⊢
  clear hb hk z0 z1
  go_wp2_with fail
  refine (HP.out _ C2.out).mono ?_
  rintro e w3 ⟨x, rfl, x0, x1, hc, hg⟩
  have C3 := Lib.hid hc
  have G3 := Lib.hid (grown_trans G2.out hg)
  clear hc hg
  have hx : x = 0 ∨ x = 1 ∨ x = 2 ∨ x = 3 ∨ x = 4 ∨ x = 5 ∨ x = 6 ∨ x = 7 ∨ x = 8 ∨ x = 9 ∨ x = 10 ∨ x = 11 := by omega
  clear x0 x1
  rcases hx with rfl | rfl | rfl | rfl | rfl | rfl | rfl | rfl | rfl | rfl | rfl | rfl
  · go_wp2_with fail
    refine (sureM g v xs _ w3 C3.out (by omega)).mono ?_
    rintro e w4 ⟨y, rfl, y0, y1, hc, hg⟩
    have C4 := Lib.hid hc
    have G4 := Lib.hid (grown_trans G3.out hg)
    clear hc hg
    go_wp2_with fail
    refine (dgText_any y 10 w4 y0 y1 (by omega) (by omega)).mono ?_
    rintro e w5 ⟨rfl, hb⟩
    have C5 := Lib.hid (C4.out.keep (hb.mono (Nat.succ_le_of_lt C4.out.lt)))
    have G5 := Lib.hid (grown_trans G4.out (grown_belowC hb (some g)))
    have hl : (txt (dgs 10 y)).length ≤ 40 := by unfold txt; rw [List.length_map]; exact dgs_len40 10 y (by omega) y0 y1
    obtain ⟨u, hu⟩ : ∃ u, u = txt (dgs 10 y) := ⟨_, rfl⟩
    rw [← hu] at hl ⊢
    clear hb hu
    go_wp2
    go_ret
    exact ⟨[116, 97, 107, 101, 32] ++ u, congrArg Ending.returned (congrArg Value.string (ByteArray.ext (by simp))), by simp; omega, C5.out.mono (by omega), G5.out⟩
  · go_wp2_with fail
    refine (sureM g v xs _ w3 C3.out (by omega)).mono ?_
    rintro e w4 ⟨y, rfl, y0, y1, hc, hg⟩
    have C4 := Lib.hid hc
    have G4 := Lib.hid (grown_trans G3.out hg)
    clear hc hg
    go_wp2_with fail
    refine (dgText_any y 10 w4 y0 y1 (by omega) (by omega)).mono ?_
    rintro e w5 ⟨rfl, hb⟩
    have C5 := Lib.hid (C4.out.keep (hb.mono (Nat.succ_le_of_lt C4.out.lt)))
    have G5 := Lib.hid (grown_trans G4.out (grown_belowC hb (some g)))
    have hl : (txt (dgs 10 y)).length ≤ 40 := by unfold txt; rw [List.length_map]; exact dgs_len40 10 y (by omega) y0 y1
    obtain ⟨u, hu⟩ : ∃ u, u = txt (dgs 10 y) := ⟨_, rfl⟩
    rw [← hu] at hl ⊢
    clear hb hu
    go_wp2
    go_ret
    exact ⟨[116, 97, 107, 101, 32] ++ u, congrArg Ending.returned (congrArg Value.string (ByteArray.ext (by simp))), by simp; omega, C5.out.mono (by omega), G5.out⟩
  · go_wp2_with fail
    refine (HB.out _ w3 (by omega) C3.out).mono ?_
    rintro e w4 ⟨y, rfl, hm, hc, hg⟩
    have C4 := Lib.hid hc
    have G4 := Lib.hid (grown_trans G3.out hg)
    obtain ⟨y0, y1⟩ := HMB.out y hm
    clear hm hc hg
    go_wp2_with fail
    refine (l1Num_i y y0 (by omega) w4).mono ?_
    rintro e w5 ⟨rfl, hb⟩
    have C5 := Lib.hid (C4.out.keep (hb.mono (Nat.succ_le_of_lt C4.out.lt)))
    have G5 := Lib.hid (grown_trans G4.out (grown_belowC hb (some g)))
    have hl := HIT.out y y0 y1
    obtain ⟨u, hu⟩ : ∃ u, u = Lib.itoa y := ⟨_, rfl⟩
    rw [← hu] at hl ⊢
    clear hb hu
    go_wp2
    go_ret
    exact ⟨[98, 97, 115, 101, 32] ++ u, congrArg Ending.returned (congrArg Value.string (ByteArray.ext (by simp))), by simp; omega, C5.out.mono (by omega), G5.out⟩
  · go_wp2_with fail
    refine (HO1.out _ w3 (by omega) C3.out).mono ?_
    rintro e w4 ⟨u, rfl, hm, hc, hg⟩
    have C4 := Lib.hid hc
    have G4 := Lib.hid (grown_trans G3.out hg)
    have hl := HL1.out u hm
    clear hm hc hg
    go_wp2
    go_ret
    exact ⟨u, rfl, hl, C4.out.mono (by omega), G4.out⟩
  · go_wp2_with fail
    refine (HO1.out _ w3 (by omega) C3.out).mono ?_
    rintro e w4 ⟨u, rfl, hm, hc, hg⟩
    have C4 := Lib.hid hc
    have G4 := Lib.hid (grown_trans G3.out hg)
    have hl := HL1.out u hm
    clear hm hc hg
    go_wp2
    go_ret
    exact ⟨u, rfl, hl, C4.out.mono (by omega), G4.out⟩
  · go_wp2
    go_ret
    exact ⟨[112, 111, 119, 101, 114, 32] ++ k, congrArg Ending.returned (congrArg Value.string (ByteArray.ext (by simp))), by simp; omega, C3.out.mono (by omega), G3.out⟩
  · go_wp2_with fail
    refine (HO2.out _ w3 (by omega) C3.out).mono ?_
    rintro e w4 ⟨u, rfl, hm, hc, hg⟩
    have C4 := Lib.hid hc
    have G4 := Lib.hid (grown_trans G3.out hg)
    have hl := HL2.out u hm
    clear hm hc hg
    go_wp2
    go_ret
    exact ⟨u, rfl, hl, C4.out.mono (by omega), G4.out⟩
  · go_wp2_with fail
    refine (HO2.out _ w3 (by omega) C3.out).mono ?_
    rintro e w4 ⟨u, rfl, hm, hc, hg⟩
    have C4 := Lib.hid hc
    have G4 := Lib.hid (grown_trans G3.out hg)
    have hl := HL2.out u hm
    clear hm hc hg
    go_wp2
    go_ret
    exact ⟨u, rfl, hl, C4.out.mono (by omega), G4.out⟩
  · go_wp2
    go_ret
    exact ⟨[114, 117, 110, 32] ++ k, congrArg Ending.returned (congrArg Value.string (ByteArray.ext (by simp))), by simp; omega, C3.out.mono (by omega), G3.out⟩
  · go_wp2_with fail
    refine (HO3.out _ w3 (by omega) C3.out).mono ?_
    rintro e w4 ⟨u, rfl, hm, hc, hg⟩
    have C4 := Lib.hid hc
    have G4 := Lib.hid (grown_trans G3.out hg)
    have hl := HL3.out u hm
    clear hm hc hg
    go_wp2
    go_ret
    exact ⟨u, rfl, hl, C4.out.mono (by omega), G4.out⟩
  · go_wp2
    go_ret
    exact ⟨[119, 111, 114, 100, 32] ++ k, congrArg Ending.returned (congrArg Value.string (ByteArray.ext (by simp))), by simp; omega, C3.out.mono (by omega), G3.out⟩
  · go_wp2_with fail
    refine (HO4.out _ w3 (by omega) C3.out).mono ?_
    rintro e w4 ⟨u, rfl, hm, hc, hg⟩
    have C4 := Lib.hid hc
    have G4 := Lib.hid (grown_trans G3.out hg)
    have hl := HL4.out u hm
    clear hm hc hg
    go_wp2
    go_ret
    exact ⟨u, rfl, hl, C4.out.mono (by omega), G4.out⟩

end Go.Proofs.YtlbjeiaihenjkaaGreatDoor

/- from P2: Facts of digits, plain: sorted digits make the least number; a number's digits are the digits of a number.  -/
namespace Go.Proofs.YtlbjeiaihenjkaaGreatDoor
set_option linter.unusedVariables false
set_option linter.unusedSimpArgs false

theorem val_mono (b : Int) (hb : 2 ≤ b) : ∀ (xs : List Int) (a c : Int), a ≤ c → val b xs a ≤ val b xs c
  | [], a, c, h => h
  | x :: xs, a, c, h => by
    have h1 : a * b ≤ c * b := Int.mul_le_mul_of_nonneg_right h (by omega)
    rw [val, val]
    exact val_mono b hb xs _ _ (by omega)
theorem ins_least (b y : Int) (hb : 2 ≤ b) : ∀ (zs : List Int), zs.Pairwise (· ≤ ·) → ∃ ws, ws.Perm (y :: zs) ∧ ws.Pairwise (· ≤ ·) ∧ ∀ a, val b ws a ≤ val b (y :: zs) a
  | [], _ => ⟨[y], List.Perm.refl _, by simp, fun a => Int.le_refl _⟩
  | z :: zs, h => by
    obtain ⟨h1, h2⟩ := List.pairwise_cons.1 h
    by_cases hyz : y ≤ z
    · refine ⟨y :: z :: zs, List.Perm.refl _, List.pairwise_cons.2 ⟨fun q hq => ?_, h⟩, fun a => Int.le_refl _⟩
      rcases List.mem_cons.1 hq with rfl | hq
      · exact hyz
      · exact Int.le_trans hyz (h1 q hq)
    · obtain ⟨ws, p1, p2, p3⟩ := ins_least b y hb zs h2
      refine ⟨z :: ws, ((List.Perm.cons z p1).trans (List.Perm.swap y z zs)), List.pairwise_cons.2 ⟨fun q hq => ?_, p2⟩, fun a => ?_⟩
      · rcases List.mem_cons.1 (p1.mem_iff.1 hq) with rfl | hq
        · omega
        · exact h1 q hq
      · have e := p3 (a * b + z)
        rw [val] at e
        rw [val, val, val]
        refine Int.le_trans e (val_mono b hb zs _ _ ?_)
        have h3 : (b - 1) * z ≤ (b - 1) * y := Int.mul_le_mul_of_nonneg_left (by omega) (by omega)
        rw [Int.sub_mul, Int.sub_mul] at h3
        rw [Int.add_mul, Int.add_mul]
        have c1 : z * b = b * z := Int.mul_comm _ _
        have c2 : y * b = b * y := Int.mul_comm _ _
        omega
theorem srt_least (b : Int) (hb : 2 ≤ b) : ∀ (xs : List Int) (a : Int), val b (srt xs) a ≤ val b xs a := by
  have key : ∀ xs : List Int, ∃ ws, ws.Perm xs ∧ ws.Pairwise (· ≤ ·) ∧ ∀ a, val b ws a ≤ val b xs a := by
    intro xs
    induction xs with
    | nil => exact ⟨[], List.Perm.refl _, by simp, fun a => Int.le_refl _⟩
    | cons x xs ih =>
      obtain ⟨zs, p1, p2, p3⟩ := ih
      obtain ⟨ws, q1, q2, q3⟩ := ins_least b x hb zs p2
      refine ⟨ws, q1.trans (List.Perm.cons x p1), q2, fun a => Int.le_trans (q3 a) ?_⟩
      rw [val, val]
      exact p3 _
  intro xs a
  obtain ⟨ws, p1, p2, p3⟩ := key xs
  rw [← srt_unique p1 p2]
  exact p3 a
/-- Sorted digits make a number that is no greater. -/
theorem sorted_some {b n : Int} (hb : 2 ≤ b) (h0 : 0 ≤ n) (h1 : n ≤ 1000000000000) : ∃ m, numF b (srt (dgs b n)) 0 = some m := by
  have hd := dgs_all b n hb h0
  rw [numF_val b hb _ 0 (fun x hx => (hd x (srt_mem.1 hx)).1) (by omega) (by omega), if_pos]
  · exact ⟨_, rfl⟩
  · have := srt_least b hb (dgs b n) 0
    rw [val_dgs b hb n.toNat n (Nat.le_refl _) h0] at this
    omega
theorem dgs_num {b n : Int} (hb : 2 ≤ b) (h0 : 0 ≤ n) (h1 : n ≤ 1000000000000) : numF b (dgs b n) 0 = some n := by
  have hd := dgs_all b n hb h0
  rw [numF_val b hb _ 0 (fun x hx => (hd x hx).1) (by omega) (by omega), val_dgs b hb n.toNat n (Nat.le_refl _) h0, if_pos h1]
/-- The first digit is none 0, but for the number 0. -/
theorem revD_last (b : Int) (hb : 2 ≤ b) : ∀ (k : Nat) (n : Int), n.toNat ≤ k → 0 < n → ∃ x, (revD b n).getLast? = some x ∧ x ≠ 0
  | 0, n, hk, h0 => by omega
  | k + 1, n, hk, h0 => by
    by_cases h : b ≤ n
    · have h2 := div_lt b n hb h
      have h3 := div_pos b n hb h
      obtain ⟨x, e, hx⟩ := revD_last b hb k (n / b) (by omega) (by omega)
      refine ⟨x, ?_, hx⟩
      rw [revD_big b n hb h, List.getLast?_cons, e]
      rfl
    · rw [revD_small b n h]
      exact ⟨n, rfl, by omega⟩
theorem dgs_areD {b n : Int} (hb : 2 ≤ b) (h0 : 0 ≤ n) : areD b (dgs b n) = true := by
  have h1 := dgs_pos b n
  have h2 : allIn 0 (b - 1) (dgs b n) = true := (allIn_iff _ _ _).2 (dgs_all b n hb h0)
  unfold areD
  rw [h2, decide_eq_true (show (dgs b n).length ≠ 0 by omega)]
  by_cases hz : n = 0
  · subst hz
    have : dgs b 0 = [0] := by rw [dgs, revD_zero b hb]; rfl
    rw [this]; rfl
  · obtain ⟨x, e, hx⟩ := revD_last b hb n.toNat n (Nat.le_refl _) (by omega)
    have : (dgs b n).headD 0 = x := by
      rw [dgs, List.headD_eq_head?_getD, List.head?_reverse, e]; rfl
    rw [this, decide_eq_true hx]
    simp

end Go.Proofs.YtlbjeiaihenjkaaGreatDoor

/- from P3: Facts of lines, plain: what is told of a line's reply by the lines behind it.  -/
namespace Go.Proofs.YtlbjeiaihenjkaaGreatDoor
open Go.RowKit
set_option linter.unusedVariables false
set_option linter.unusedSimpArgs false
set_option maxRecDepth 100000

theorem idx_ltr : ∀ d : Fin 16, idx (ltr d.val) = (d.val : Int) := by decide
theorem ltr_no : ∀ d : Fin 16, ltr d.val ≠ 32 ∧ ltr d.val ≠ 10 := by decide
/-- A number's text is read back as the number. -/
theorem parse_text {n b : Int} (hN : Num n) (hB : Bas b) : RParse b (RText n b) = some n := by
  have hd := dgs_all b n hB.1 hN.1
  have e : (RText n b).map idx = dgs b n := by
    unfold RText
    rw [if_pos ⟨hN, hB⟩]
    unfold txt
    rw [List.map_map]
    have : ∀ x ∈ dgs b n, (idx ∘ fun d : Int => ltr d.toNat) x = id x := fun x hx => by
      obtain ⟨h1, h2⟩ := hd x hx
      have hb := hB.2
      have h := idx_ltr ⟨x.toNat, by omega⟩
      show idx (ltr x.toNat) = x
      rw [h]
      show ((x.toNat : Nat) : Int) = x
      omega
    rw [List.map_congr_left this, List.map_id]
  have l : (RText n b).length ≤ 40 := by rw [← List.length_map (f := idx), e]; exact dgs_len40 b n hB.1 hN.1 hN.2
  unfold RParse
  rw [e, if_pos ⟨hB, l, dgs_areD hB.1 hN.1⟩]
  exact dgs_num hB.1 hN.1 hN.2
theorem text_facts {n b : Int} (hN : Num n) (hB : Bas b) : (∀ c ∈ RText n b, c ≠ 32 ∧ c ≠ 10) ∧ (RText n b).length ≤ 40 := by
  have hd := dgs_all b n hB.1 hN.1
  unfold RText
  rw [if_pos ⟨hN, hB⟩]
  refine ⟨fun c hc => ?_, by unfold txt; rw [List.length_map]; exact dgs_len40 b n hB.1 hN.1 hN.2⟩
  unfold txt at hc
  obtain ⟨x, hx, rfl⟩ := List.mem_map.1 hc
  obtain ⟨h1, h2⟩ := hd x hx
  have hb := hB.2
  exact ltr_no ⟨x.toNat, by omega⟩
theorem spA_none (c : UInt8) : ∀ (l acc : Tx), c ∉ l → spA c acc l = [acc ++ l]
  | [], acc, _ => by simp [spA]
  | x :: l, acc, h => by
    have hx : ¬ x = c := fun e => h (by simp [e])
    unfold spA
    rw [if_neg hx, spA_none c l _ (fun hm => h (by simp [hm]))]
    simp
theorem spA_two (c : UInt8) : ∀ (l acc r : Tx), c ∉ l → spA c acc (l ++ c :: r) = (acc ++ l) :: spA c [] r
  | [], acc, r, _ => by simp [spA]
  | x :: l, acc, r, h => by
    have hx : ¬ x = c := fun e => h (by simp [e])
    show (if x = c then acc :: spA c [] (l ++ c :: r) else spA c (acc ++ [x]) (l ++ c :: r)) = _
    rw [if_neg hx, spA_two c l _ r (fun hm => h (by simp [hm]))]
    simp

/-- What fails leaves the desk as it is. -/
def same (n b : Int) (r : Int × Int × Rp) : Prop := failR r.2.2 = true → r.1 = n ∧ r.2.1 = b
theorem sm_bec (n b : Int) (o : Option Int) : same n b (becF n b o) := by
  intro h
  cases o with
  | none => exact ⟨rfl, rfl⟩
  | some m => simp [becF, failR] at h
theorem sm_say (n b : Int) (o : Option Tx) : same n b (sayF n b o) := by
  intro h
  cases o with
  | none => exact ⟨rfl, rfl⟩
  | some m => simp [sayF, failR] at h
theorem sm_ite {P : Prop} [Decidable P] {n b : Int} {x y : Int × Int × Rp} (h1 : same n b x) (h2 : same n b y) : same n b (if P then x else y) := by
  by_cases h : P
  · rw [if_pos h]; exact h1
  · rw [if_neg h]; exact h2
theorem sm_here (n b : Int) (rp : Rp) : same n b (n, b, rp) := fun _ => ⟨rfl, rfl⟩
theorem sm_said (n b m k : Int) (t : Tx) : same n b (m, k, .say t) := fun h => by simp [failR] at h
theorem sm_alone (n b : Int) (x : Tx) : same n b (aloneF n b x) :=
  sm_ite (sm_bec _ _ _) <| sm_ite (sm_bec _ _ _) <| sm_ite (sm_bec _ _ _) <| sm_ite (sm_bec _ _ _) <| sm_ite (sm_bec _ _ _) <| sm_ite (sm_bec _ _ _) <|
  sm_ite (sm_here _ _ _) <| sm_ite (sm_say _ _ _) <| sm_ite (sm_say _ _ _) <| sm_ite (sm_say _ _ _) <| sm_ite (sm_say _ _ _) <| sm_ite (sm_here _ _ _) <| sm_ite (sm_say _ _ _) (sm_here _ _ _)
theorem sm_num2 (n b : Int) (x : Tx) (k : Int) : same n b (numF2 n b x k) :=
  sm_ite (sm_ite (sm_said _ _ _ _ _) (sm_here _ _ _)) <| sm_ite (sm_bec _ _ _) <| sm_ite (sm_say _ _ _) <| sm_ite (sm_say _ _ _) <| sm_ite (sm_say _ _ _) (sm_here _ _ _)
theorem sm_with (n b : Int) (x y : Tx) : same n b (withF n b x y) := by
  refine sm_ite ?_ <| sm_ite (sm_ite (sm_say _ _ _) (sm_here _ _ _)) ?_
  · cases h : RParse b y with
    | some m => exact sm_bec n b (some m)
    | none => exact sm_here _ _ _
  · cases h : rdN y with
    | some k => exact sm_num2 n b x k
    | none => exact sm_here _ _ _
theorem sm_line (n b : Int) (ws : List Tx) : same n b (lineF n b ws) := by
  unfold lineF
  split
  · exact sm_alone _ _ _
  · exact sm_with _ _ _ _
  · exact sm_here _ _ _

/-- What the law of lines asks of the desk behind a line. -/
structure Lin (n b n' b' : Int) (Y : Tx) : Prop where
  dk : Num n' ∧ Bas b'
  fail : noW Y = true → n' = n ∧ b' = b
  show' : dlF n' b' [115, 104, 111, 119] = (n', b', RText n' b', true)
  take' : dlF n' b' ([116, 97, 107, 101, 32] ++ RText n' b') = (n', b', RText n' b', true)
  up' : ∃ m Z, RSortedUp b' n' = some m ∧ dlF n' b' [117, 112] = (m, b', Z, true)
theorem lin_of {n b : Int} {S : Tx} {n' b' : Int} {Y : Tx} {q : Bool} (h : dlF n b S = (n', b', Y, q)) (hq : q = true) : Lin n b n' b' Y := by
  subst hq
  by_cases hok : dlOk n b S
  · rw [dlF, if_pos hok] at h
    simp only [Prod.mk.injEq, and_true] at h
    obtain ⟨h1, h2, h3⟩ := h
    obtain ⟨hN, hB, _, _⟩ := hok
    have hd := line_dk hN hB (spl 32 S)
    have hD : Num n' ∧ Bas b' := by rw [← h1, ← h2]; exact hd
    obtain ⟨hN', hB'⟩ := hD
    obtain ⟨t1, t2⟩ := text_facts hN' hB'
    have e32 : (32 : UInt8) ∉ RText n' b' := fun hm => (t1 _ hm).1 rfl
    refine ⟨⟨hN', hB'⟩, fun hw => ?_, ?_, ?_, ?_⟩
    · rw [← h3, noW_fail (ok_line hN hB _)] at hw
      have := sm_line n b _ hw
      rw [h1, h2] at this
      exact this
    · have hk : dlOk n' b' [115, 104, 111, 119] := ⟨hN', hB', by decide, by decide⟩
      rw [dlF, if_pos hk]
      rfl
    · have hk : dlOk n' b' ([116, 97, 107, 101, 32] ++ RText n' b') := by
        refine ⟨hN', hB', by simp; omega, ?_⟩
        rw [List.count_append]
        have : (RText n' b').count 10 = 0 := List.count_eq_zero.2 (fun hm => (t1 _ hm).2 rfl)
        rw [this]
        rfl
      have es : spl 32 ([116, 97, 107, 101, 32] ++ RText n' b') = [[116, 97, 107, 101], RText n' b'] := by
        have := spA_two 32 [116, 97, 107, 101] [] (RText n' b') (by decide)
        rw [spA_none 32 (RText n' b') [] e32] at this
        simpa using this
      have el : lineF n' b' [[116, 97, 107, 101], RText n' b'] = (n', b', .say (RText n' b')) := by
        show withF n' b' [116, 97, 107, 101] (RText n' b') = _
        unfold withF
        rw [if_pos rfl, parse_text hN' hB']
        rfl
      rw [dlF, if_pos hk, es, el]
      rfl
    · obtain ⟨m, hm⟩ := sorted_some hB'.1 hN'.1 hN'.2
      have hk : dlOk n' b' [117, 112] := ⟨hN', hB', by decide, by decide⟩
      refine ⟨m, RText m b', hm, ?_⟩
      have el : lineF n' b' (spl 32 [117, 112]) = (m, b', .say (RText m b')) := by
        show becF n' b' (askF RSortedUp n' b') = _
        unfold askF
        rw [if_pos ⟨hN', hB'⟩]
        show becF n' b' (numF b' (srt (dgs b' n')) 0) = _
        rw [hm]
        rfl
      rw [dlF, if_pos hk, el]
      rfl
  · rw [dlF, if_neg hok] at h
    simp at h

end Go.Proofs.YtlbjeiaihenjkaaGreatDoor
