/-
  Levels: the program's and the model's answers.
-/
import Derived.Test.YtbgnieajeipllaaYS
namespace Go.Proofs.Ytbgnieajeipllaa
open Go.RowKit
set_option linter.unusedVariables false
set_option linter.unusedSimpArgs false
set_option maxRecDepth 100000

theorem rise_len : ∀ (l : List Int) (a b : Int), l.Pairwise (· < ·) → (∀ x ∈ l, a ≤ x ∧ x ≤ b) → a ≤ b + 1 → (l.length : Int) ≤ b - a + 1
  | [], a, b, _, _, h => by simp; omega
  | x :: t, a, b, hp, hm, h => by
    have h1 := hm x (by simp)
    have h2 := (List.pairwise_cons.1 hp)
    have ih := rise_len t (x + 1) b h2.2 (fun y hy => ⟨by have := h2.1 y hy; omega, (hm y (by simp [hy])).2⟩) (by omega)
    simp only [List.length_cons]
    push_cast
    omega

theorem befO_mem {x z : Int} (hx : 1 ≤ x ∧ x ≤ 32768) (h : z ∈ bef x) : 1 ≤ z ∧ z ≤ 65536 := by
  unfold bef at h
  rcases List.mem_append.1 h with h | h
  · split at h
    · simp at h; omega
    · simp at h
  · split at h
    · simp at h; omega
    · simp at h
theorem nxt_bd {l : List Int} (hb : ∀ x ∈ l, 1 ≤ x ∧ x ≤ 32768) {z : Int} (h : z ∈ nxt l) : 1 ≤ z ∧ z ≤ 65536 := by
  obtain ⟨n, h1, h2⟩ := (mem_nxt z l).1 h
  exact befO_mem (hb n h1) ((List.mem_filter.1 h2).1)
theorem bef_pos {x : Int} (hx : 1 ≤ x ∧ x ≤ 32768) : 1 ≤ (bef x).length ∧ (bef x).length ≤ 2 := by
  refine ⟨?_, bef_len x⟩
  unfold bef
  rw [if_pos (show 2 * x ≤ 1000000000000 by omega)]
  simp
theorem nxt_take {l : List Int} {j : Nat} (h : j < l.length) : nxt (l.take (j + 1)) = nxt (l.take j) ++ befO l[j] := by
  rw [take_snoc' l j h, nxt_append]
  simp [nxt]
theorem filt_step {D : List Int} {k : Nat} (h : k < D.length) (hn : D[k] ≠ 1) : (D.take (k + 1)).filter notOne = (D.take k).filter notOne ++ [D[k]] := by
  rw [take_snoc' D k h, List.filter_append]
  congr 1
  simp [notOne, hn]
theorem filt_skip {D : List Int} {k : Nat} (h : k < D.length) (hn : D[k] = 1) : (D.take (k + 1)).filter notOne = (D.take k).filter notOne := by
  rw [take_snoc' D k h, List.filter_append, List.filter_cons]
  simp [notOne, hn]
theorem filt_all (x : Int) : ((bef x).take (bef x).length).filter notOne = befO x := by rw [List.take_of_length_le (Nat.le_refl _)]; rfl
theorem lenN (l : List Int) (j : Nat) (h : l.length ≤ 100) : (nxt (l.take j)).length ≤ 200 := by
  have h1 := nxt_len (l.take j)
  have h2 : (l.take j).length ≤ l.length := by simp; omega
  omega
theorem filt_len (D : List Int) (k : Nat) (h : D.length ≤ 2) : ((D.take k).filter notOne).length ≤ 2 := by
  have h1 := List.length_filter_le notOne (D.take k)
  have h2 : (D.take k).length ≤ D.length := by simp; omega
  omega

theorem levelBefore_any (g cap : Nat) (l : List Int) (B : Nat) (w : World) (h : Rd w B (.slice (some ⟨g, 0, none⟩) l.length cap) l) (hl : l.length ≤ 100) (hb : ∀ x ∈ l, 1 ≤ x ∧ x ≤ 32768) :
    Calls Try.prog 73 #[.slice (some ⟨g, 0, none⟩) l.length cap] w fun e w' => ∃ v, e = .returned v ∧ Rd w' w.heap.size v (nxt l) ∧ Below w.heap.size w w' := by
  have H := Lib.hid h
  have HBD := Lib.hid hb
  clear h hb
  go_enter Try.func73, Try.ntmps73
  go_wp2
  go_loopw [3, 12] (fun o i wr => ∃ j : Nat, j ≤ l.length ∧ i = .int .i64 j ∧ Rd wr w.heap.size o (nxt (l.take j)) ∧ Below w.heap.size w wr) (fun _ i _ => l.length - (intOf i).toNat)
  case atStart => exact ⟨0, Nat.zero_le _, rfl, by simpa [nxt] using Rd.nil _ _, Below.refl _ _⟩
  case round =>
    rename World => wa
    obtain ⟨j, hj, rfl, hr, hbl⟩ := hrel
    have HR := Lib.hid hr
    have HB := Lib.hid hbl
    clear hr hbl
    by_cases hlt : j < l.length
    · have hcell := (H.out.keep HB.out).at.2.2.2.2.1 j hlt
      have HX := Lib.hid (HBD.out _ (List.getElem_mem hlt))
      have HNT := Lib.hid (nxt_take hlt)
      obtain ⟨x, hx⟩ : ∃ x, x = l[j] := ⟨_, rfl⟩
      rw [← hx] at hcell HX HNT
      have HN := Lib.hid (show Nst x from ⟨HX.out.1, by have := HX.out.2; omega⟩)
      have HFA := Lib.hid (filt_all x)
      obtain ⟨D, hD⟩ : ∃ D, D = bef x := ⟨_, rfl⟩
      have HDL := bef_pos HX.out
      have HDD := Lib.hid hD
      rw [← hD] at HDL HFA
      obtain ⟨d1, d2⟩ := HDL
      obtain ⟨P, hP⟩ : ∃ P, P = nxt (l.take j) := ⟨_, rfl⟩
      have HPL := lenN l j hl
      rw [← hP] at HR HNT HPL
      clear hx hD hP
      go_wp2_with fail
      refine (before_any x _ HN.out).mono ?_
      rintro e w1 ⟨v2, rfl, hr2, hb2⟩
      rw [← HDD.out] at hr2
      obtain ⟨g2, c2, rfl, hg2⟩ : ∃ g cap, v2 = .slice (some ⟨g, 0, none⟩) D.length cap ∧ wa.heap.size ≤ g := by
        rcases hr2.cases with ⟨_, hx⟩ | ⟨g, cap, hu, hg, _⟩
        · rw [hx] at d1; simp at d1
        · exact ⟨g, cap, hu, hg⟩
      have HC2 := Lib.hid hr2.at.2.2.2.2.1
      have HR1 := Lib.hid (HR.out.keep hb2)
      have HAP := Lib.hid (show ∀ b, u3.ownBlock = some b → b ≠ g2 from fun b hb => by have := (HR.out.lt b hb).2; omega)
      have HB1 := Lib.hid (Below.step HB.out HB.out.size hb2)
      clear hr2 hb2
      go_wp2
      go_loopw [3, 23] (fun o i wr => ∃ k : Nat, k ≤ D.length ∧ i = .int .i64 k ∧ Rd wr w.heap.size o (P ++ (D.take k).filter notOne) ∧ Below w.heap.size w wr ∧ Hid (∀ t (ht : t < D.length), k ≤ t → wr.cell? ⟨g2, t, none⟩ = some (.int .i64 D[t])) ∧ Hid (k = 0 → ∀ b, o.ownBlock = some b → b ≠ g2)) (fun _ i _ => D.length - (intOf i).toNat)
      case atStart => exact ⟨0, Nat.zero_le _, rfl, by simpa using HR1.out, HB1.out, Lib.hid (fun t ht _ => HC2.out t ht), Lib.hid (fun _ => HAP.out)⟩
      case round =>
        obtain ⟨k, hk, rfl, hr, hbl, HC, HA⟩ := hrel
        have HR2 := Lib.hid hr
        have HB2 := Lib.hid hbl
        clear hr hbl
        by_cases hlk : k < D.length
        · have hcell2 := HC.out k hlk (Nat.le_refl _)
          have hsz2 := HB2.out.size
          have HFL := filt_len D k d2
          by_cases h1 : D[k] = 1
          · have HF := Lib.hid (filt_skip hlk h1)
            have hn1 : (D[k] != 1) = false := bne_no h1
            obtain ⟨y, hy⟩ : ∃ y, y = D[k] := ⟨_, rfl⟩
            rw [← hy] at hcell2 hn1
            clear hy h1
            go_wp2
            go_roundw
            case rel => exact ⟨k + 1, by omega, by go_num, by rw [HF.out]; exact HR2.out, HB2.out, Lib.hid (fun t ht hkt => HC.out t ht (by omega)), Lib.hid (fun h => by omega)⟩
            case measure => simp [intOf]; omega
          · have HF := Lib.hid (filt_step hlk h1)
            have hn1 : (D[k] != 1) = true := bne_yes h1
            obtain ⟨y, hy⟩ : ∃ y, y = D[k] := ⟨_, rfl⟩
            rw [← hy] at hcell2 hn1 HF
            clear hy h1
            go_wp2_with (at_builtin; refine wpList_appR rfl _ _ rfl w.heap.size w.heap.size _ _ (P ++ (D.take k).filter notOne) [y] rfl rfl (HR2.out.alloc _) (Rd.litB _ _ _ hsz2) (by simp at HFL ⊢; omega) (by simp; omega) ?_; intro v1 w2 hr1 hg1 hbn; have HR3 := Lib.hid hr1; have HG3 := Lib.hid hg1; have HB3 := Lib.hid ((HB2.out.alloc hsz2 _).trans hbn); clear hr1 hg1 hbn)
            go_roundw
            case rel => exact ⟨k + 1, by omega, by go_num, by rw [HF.out, ← List.append_assoc]; exact HR3.out, HB3.out, Lib.hid (fun t ht hkt => HG3.out.cell (by have := HC.out t ht (by omega); simpa [go_sem] using Below.keeps_cell (al_below _ _) this) (fun e => HA.out (by omega) g2 e.symm rfl)), Lib.hid (fun h => by omega)⟩
            case measure => simp [intOf]; omega
        · obtain rfl : k = D.length := by omega
          have HE := Lib.hid (show P ++ (D.take D.length).filter notOne = nxt (l.take (j + 1)) by rw [HNT.out, HFA.out])
          rw [HE.out] at HR2
          go_wp2
          go_roundw
          case rel => exact ⟨j + 1, by omega, by go_num, HR2.out, HB2.out⟩
          case measure => simp [intOf]; omega
    · obtain rfl : j = l.length := by omega
      have HE := Lib.hid (show nxt (l.take l.length) = nxt l by rw [List.take_of_length_le (Nat.le_refl _)])
      go_wp2
      go_ret
      exact ⟨_, rfl, by rw [← HE.out]; exact HR.out, HB.out⟩

def OK_lev (k : Int) : Bool := decide (0 ≤ k ∧ k ≤ 15)
theorem lev_pos : ∀ k : Nat, k ≤ 15 → 1 ≤ (lev k).length := by
  have h : (List.range 16).all (fun k => decide (1 ≤ (lev k).length)) = true := by decide +kernel
  intro k hk
  simpa using List.all_eq_true.1 h k (List.mem_range.2 (by omega))

theorem rd_shape {w : World} {B : Nat} {v : Value} {xs : List Int} (h : Rd w B v xs) (hp : 1 ≤ xs.length) : ∃ g cap, v = .slice (some ⟨g, 0, none⟩) xs.length cap ∧ B ≤ g := by
  rcases h.cases with ⟨_, hx⟩ | ⟨g, cap, hu, hg, _⟩
  · rw [hx] at hp; simp at hp
  · exact ⟨g, cap, hu, hg⟩

theorem impl_LevelOf (k : Int) (w : World) :
    Calls Try.prog 39 #[.int .i64 k] w fun e w' => ∃ v, e = .returned (.tuple #[v, .bool (OK_lev k)]) ∧ Rd w' w.heap.size v (LF_LevelOf k) ∧ Below w.heap.size w w' := by
  by_cases hk0 : 0 ≤ k
  · by_cases hk1 : k ≤ 15
    · have HO := Lib.hid (show OK_lev k = true from decide_eq_true ⟨hk0, hk1⟩)
      obtain ⟨m, rfl⟩ : ∃ m : Nat, k = (m : Int) := ⟨k.toNat, by omega⟩
      have hm : m ≤ 15 := by omega
      have HL := Lib.hid (show LF_LevelOf (m : Int) = LV m by rw [LF_LevelOf, if_pos ⟨hk0, hk1⟩]; rfl)
      rw [HO.out, HL.out]
      go_enter Try.func39, Try.ntmps39
      go_wp2
      go_loopw [4, 13] (fun o i wr => ∃ j : Nat, j ≤ m ∧ i = .int .i64 j ∧ Rd wr w.heap.size o (lev j) ∧ Below w.heap.size w wr) (fun _ i _ => m - (intOf i).toNat)
      case atStart => exact ⟨0, Nat.zero_le _, rfl, Rd.litB _ _ _ (Nat.le_refl _), al_below _ _⟩
      case round =>
        obtain ⟨j, hj, rfl, hr, hbl⟩ := hrel
        have HR := Lib.hid hr
        have HB := Lib.hid hbl
        obtain ⟨_, f2, f3, f4⟩ := lev_facts j (by omega)
        have HF4 := Lib.hid f4
        have hlp := lev_pos j (by omega)
        obtain ⟨g4, c4, rfl, hg4⟩ := rd_shape hr hlp
        by_cases hlt : j < m
        · have HLS := Lib.hid (lev_succ j)
          clear hr hbl f2 f4
          go_wp2_with (go_at_call 73; refine (levelBefore_any g4 c4 (lev j) _ _ HR.out f3 HF4.out).mono ?_; rintro e w1 ⟨v2, rfl, hr2, hb2⟩; have HR2 := Lib.hid (hr2.mono HB.out.size); have HB2 := Lib.hid (Below.step HB.out HB.out.size hb2); clear hr2 hb2)
          go_roundw
          case rel => exact ⟨j + 1, by omega, by go_num, by rw [HLS.out]; exact HR2.out, HB2.out⟩
          case measure => simp [intOf]; omega
        · obtain rfl : j = m := by omega
          have HS := Lib.hid (show srt (lev j) = LV j from lev_sorted hm (by
            have h2 : (srt (lev j)).Pairwise (fun a b => decide (a ≤ b) = true) := List.pairwise_mergeSort (fun a b c h1 h2 => by simp at h1 h2 ⊢; omega) (fun a b => by simp; omega) _
            exact h2.imp (fun h => by simpa using h)) (List.mergeSort_perm _ _))
          clear hr hbl f2 f4
          go_wp2_with (go_at_call 74; refine (sort_any g4 _ c4 (lev j) _ _ HR.out (by omega)).mono ?_; rintro e w1 ⟨rfl, hr2, hg2⟩; rw [HS.out] at hr2; have HR2 := Lib.hid hr2; have HB2 := Lib.hid (HB.out.grown hg2 HB.out.size (fun q hq => by cases hq; exact hg4)); clear hr2 hg2)
          go_ret2
          exact ⟨_, rfl, HR2.out, HB2.out⟩
    · rw [show OK_lev k = false from decide_eq_false (fun h => hk1 h.2), show LF_LevelOf k = [] from if_neg (fun h => hk1 h.2)]
      go_enter Try.func39, Try.ntmps39
      go_wp2
      go_ret2
      exact ⟨_, rfl, Rd.nil _ _, Below.refl _ _⟩
  · rw [show OK_lev k = false from decide_eq_false (fun h => hk0 h.1), show LF_LevelOf k = [] from if_neg (fun h => hk0 h.1)]
    go_enter Try.func39, Try.ntmps39
    go_wp2
    go_ret2
    exact ⟨_, rfl, Rd.nil _ _, Below.refl _ _⟩

theorem spec_LevelOf (k : Int) (w : World) :
    Calls Try.prog 38 #[.int .i64 k] w fun e w' => ∃ v, e = .returned (.tuple #[v, .bool (OK_lev k)]) ∧ Rd w' w.heap.size v (LF_LevelOf k) ∧ Below w.heap.size w w' := by
  by_cases hk : 0 ≤ k ∧ k ≤ 15
  · have HO := Lib.hid (show OK_lev k = true from decide_eq_true hk)
    obtain ⟨hk0, hk1⟩ := hk
    obtain ⟨m, rfl⟩ : ∃ m : Nat, k = (m : Int) := ⟨k.toNat, by omega⟩
    have hm : m ≤ 15 := by omega
    have HL := Lib.hid (show LF_LevelOf (m : Int) = LV m by rw [LF_LevelOf, if_pos ⟨hk0, hk1⟩]; rfl)
    rw [HO.out, HL.out]
    go_enter Try.func38, Try.ntmps38
    go_wp2_with (go_at_call 71; refine (l1In_yes _ _ _ _ hk0 hk1).mono ?_; rintro e w1 ⟨rfl, rfl⟩)
    go_loopw [4, 5] (fun o i wr => ∃ j : Nat, j ≤ m ∧ i = .int .i64 j ∧ Rd wr w.heap.size o (LV j) ∧ Below w.heap.size w wr) (fun _ i _ => m - (intOf i).toNat)
    case atStart => exact ⟨0, Nat.zero_le _, rfl, Rd.litB _ _ _ (Nat.le_refl _), al_below _ _⟩
    case round =>
      rename World => wa
      obtain ⟨j, hj, rfl, hr, hbl⟩ := hrel
      have HR := Lib.hid hr
      have HB := Lib.hid hbl
      obtain ⟨f1, f2, f3, f4⟩ := lev_facts j (by omega)
      have HF4 := Lib.hid (show ∀ x ∈ LV j, 1 ≤ x ∧ x ≤ 32768 from fun x hx => f4 x (f2.mem_iff.2 hx))
      have hlp : 1 ≤ (LV j).length := by rw [← f2.length_eq]; exact lev_pos j (by omega)
      have hl : (LV j).length ≤ 100 := by rw [← f2.length_eq]; exact f3
      obtain ⟨g4, c4, rfl, hg4⟩ := rd_shape hr hlp
      have HPM := Lib.hid f2
      by_cases hjm : j < m
      · have HNEW := Lib.hid (show ∀ ys : List Int, ys.Pairwise (· < ·) → (∀ z, z ∈ ys ↔ z ∈ nxt (LV j)) → ys = LV (j + 1) from fun ys h1 h2 => lev_rise (by omega) h1 (fun z => (h2 z).trans (nxt_mem (fun z => HPM.out.mem_iff.symm) z)))
        obtain ⟨l, hll⟩ : ∃ l, l = LV j := ⟨_, rfl⟩
        rw [← hll] at HR HF4 hlp hl HNEW ⊢
        clear hr hbl f1 f2 f3 f4 HPM hll
        go_wp2
        go_loopw [6, 22] (fun o i wr => ∃ (p : Nat) (ys : List Int), p ≤ l.length ∧ i = .int .i64 p ∧ Rd wr w.heap.size o ys ∧ Hid (ys.Pairwise (· < ·)) ∧ Hid (∀ z, z ∈ ys ↔ z ∈ nxt (l.take p)) ∧ Below w.heap.size w wr ∧ Below wa.heap.size wa wr) (fun _ i _ => l.length - (intOf i).toNat)
        case atStart => exact ⟨0, [], Nat.zero_le _, rfl, Rd.nil _ _, Lib.hid List.Pairwise.nil, Lib.hid (fun z => by simp [nxt]), HB.out, Below.refl _ _⟩
        case round =>
          rename World => wb
          obtain ⟨p, ys, hp, rfl, hr, HP, HM, hbl, hbw⟩ := hrel
          have HRy := Lib.hid hr
          have HBy := Lib.hid hbl
          have HBW := Lib.hid hbw
          clear hr hbl hbw
          by_cases hlt : p < l.length
          · have hcell := (HR.out.keep HBW.out).at.2.2.2.2.1 p hlt
            have HX := Lib.hid (HF4.out _ (List.getElem_mem hlt))
            have HNT := Lib.hid (nxt_take hlt)
            obtain ⟨x, hx⟩ : ∃ x, x = l[p] := ⟨_, rfl⟩
            rw [← hx] at hcell HX HNT
            have HN := Lib.hid (show Nst x from ⟨HX.out.1, by have := HX.out.2; omega⟩)
            have HFA := Lib.hid (filt_all x)
            obtain ⟨D, hD⟩ : ∃ D, D = bef x := ⟨_, rfl⟩
            have HDL := bef_pos HX.out
            have HDD := Lib.hid hD
            rw [← hD] at HDL HFA
            obtain ⟨d1, d2⟩ := HDL
            have HDM := Lib.hid (show ∀ z, z ∈ D → 1 ≤ z ∧ z ≤ 65536 from fun z hz => befO_mem HX.out (by rw [← HDD.out]; exact hz))
            clear hx hD
            go_wp2_with fail
            refine (stBefore_any x _ HN.out).mono ?_
            rintro e w1 ⟨v2, rfl, hr2, hb2⟩
            rw [← HDD.out] at hr2
            obtain ⟨g2, c2, rfl, hg2⟩ := rd_shape hr2 d1
            have HR2 := Lib.hid hr2
            have HR1 := Lib.hid (HRy.out.keep hb2)
            have HB1 := Lib.hid (Below.step HBy.out HBy.out.size hb2)
            have HBW1 := Lib.hid (Below.step HBW.out HBW.out.size hb2)
            clear hr2 hb2
            go_wp2
            go_loopw [6, 29] (fun o i wr => ∃ (k : Nat) (zs : List Int), k ≤ D.length ∧ i = .int .i64 k ∧ Rd wr w.heap.size o zs ∧ Hid (zs.Pairwise (· < ·)) ∧ Hid (∀ z, z ∈ zs ↔ (z ∈ nxt (l.take p) ∨ z ∈ (D.take k).filter notOne)) ∧ Below w.heap.size w wr ∧ Below wa.heap.size wa wr ∧ Below w1.heap.size w1 wr) (fun _ i _ => D.length - (intOf i).toNat)
            case atStart => exact ⟨0, ys, Nat.zero_le _, rfl, HR1.out, Lib.hid HP.out, Lib.hid (fun z => by rw [HM.out]; simp), HB1.out, HBW1.out, Below.refl _ _⟩
            case round =>
              obtain ⟨k, zs, hk, rfl, hr, HPZ, HMZ, hbl, hbw, hb1⟩ := hrel
              have HRz := Lib.hid hr
              have HBz := Lib.hid hbl
              have HBWz := Lib.hid hbw
              have HB1z := Lib.hid hb1
              clear hr hbl hbw hb1
              by_cases hlk : k < D.length
              · have hcell2 := (HR2.out.keep HB1z.out).at.2.2.2.2.1 k hlk
                have hzl : zs.length ≤ 65536 := by
                  have := rise_len zs 1 65536 HPZ.out (fun z hz => by
                    rcases (HMZ.out z).1 hz with h | h
                    · exact nxt_bd (fun y hy => HF4.out y (List.mem_of_mem_take hy)) h
                    · exact HDM.out z (List.mem_of_mem_take (List.mem_filter.1 h).1)) (by omega)
                  omega
                have hsz := HBz.out.size
                by_cases h1 : D[k] = 1
                · have HF := Lib.hid (filt_skip hlk h1)
                  have hn1 : (D[k] != 1) = false := bne_no h1
                  obtain ⟨y, hy⟩ : ∃ y, y = D[k] := ⟨_, rfl⟩
                  rw [← hy] at hcell2 hn1
                  clear hy h1
                  go_wp2
                  go_roundw
                  case rel => exact ⟨k + 1, zs, by omega, by go_num, HRz.out, HPZ, Lib.hid (by rw [HF.out]; exact HMZ.out), HBz.out, HBWz.out, HB1z.out⟩
                  case measure => simp [intOf]; omega
                · have HF := Lib.hid (filt_step hlk h1)
                  have hn1 : (D[k] != 1) = true := bne_yes h1
                  obtain ⟨y, hy⟩ : ∃ y, y = D[k] := ⟨_, rfl⟩
                  rw [← hy] at hcell2 hn1 HF
                  clear hy h1
                  go_wp2_with (go_at_call 72; refine (l1PutV_any _ zs y _ _ HRz.out hsz (by omega) HPZ.out).mono ?_; rintro e w2 ⟨u, rfl, us, hr3, hp3, hm3, hb3⟩; have HR3 := Lib.hid hr3; have HP3 := Lib.hid hp3; have HM3 := Lib.hid hm3; have HB3 := Lib.hid (Below.step HBz.out HBz.out.size hb3); have HBW3 := Lib.hid (Below.step HBWz.out HBWz.out.size hb3); have HB13 := Lib.hid (Below.step HB1z.out HB1z.out.size hb3); clear hr3 hp3 hm3 hb3)
                  go_roundw
                  case rel => exact ⟨k + 1, us, by omega, by go_num, HR3.out, HP3, Lib.hid (fun z => by rw [HM3.out, HF.out, HMZ.out, List.mem_append, List.mem_singleton, or_assoc]), HB3.out, HBW3.out, HB13.out⟩
                  case measure => simp [intOf]; omega
              · obtain rfl : k = D.length := by omega
                have HE := Lib.hid (show ∀ z, z ∈ zs ↔ z ∈ nxt (l.take (p + 1)) from fun z => by rw [HMZ.out, HNT.out, HFA.out, List.mem_append])
                go_wp2
                go_roundw
                case rel => exact ⟨p + 1, zs, by omega, by go_num, HRz.out, HPZ, HE, HBz.out, HBWz.out⟩
                case measure => simp [intOf]; omega
          · obtain rfl : p = l.length := by omega
            have HE := Lib.hid (HNEW.out ys HP.out (fun z => by rw [HM.out, List.take_of_length_le (Nat.le_refl _)]))
            go_wp2
            go_roundw
            case rel => exact ⟨j + 1, by omega, by go_num, by rw [← HE.out]; exact HRy.out, HBy.out⟩
            case measure => simp [intOf]; omega
      · obtain rfl : j = m := by omega
        clear hr hbl f1 f2 f3 f4
        go_wp2
        go_ret2
        exact ⟨_, rfl, HR.out, HB.out⟩
  · rw [show OK_lev k = false from decide_eq_false hk, show LF_LevelOf k = [] from if_neg hk]
    have h2 : k < 0 ∨ 15 < k := by omega
    clear hk
    go_enter Try.func38, Try.ntmps38
    go_wp2_with (go_at_call 71; refine (l1In_no _ _ _ _ h2).mono ?_; rintro e w1 ⟨rfl, rfl⟩)
    go_ret2
    exact ⟨_, rfl, Rd.nil _ _, Below.refl _ _⟩

end Go.Proofs.Ytbgnieajeipllaa
