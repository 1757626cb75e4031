/-
  slices.DeleteFunc by the number of digits.
-/
import Derived.Test.YtejehmplebjnmaaVG
namespace Go.Proofs.Ytejehmplebjnmaa
open Go.RowKit
set_option linter.unusedVariables false
set_option linter.unusedSimpArgs false
set_option maxRecDepth 100000

abbrev FW (gb gk : Nat) : Value := .func (Fn.func 80) #[] #[.pointer (some ⟨gb, 0, none⟩), .pointer (some ⟨gk, 0, none⟩)]

theorem indexFunc_any (g n cap B b k gb gk : Nat) (xs : List Int) (w : World) (h : Rd w B (.slice (some ⟨g, 0, none⟩) n cap) xs) (hn : n ≤ 1000000) (hX : ∀ x ∈ xs, 0 ≤ x ∧ x ≤ 1000000000000) (hb : 2 ≤ b) (hb' : b ≤ 16)
    (hgb : w.cell? ⟨gb, 0, none⟩ = some (.int .i64 (b : Int))) (hgk : w.cell? ⟨gk, 0, none⟩ = some (.int .i64 (k : Int))) :
    Calls Try.prog 101 #[.slice (some ⟨g, 0, none⟩) n cap, FW gb gk] w fun e w' => ∃ z : Int, e = .returned (.int .i64 z) ∧ ((z = -1 ∧ ∀ x ∈ xs, keep' b k x = true) ∨ ∃ i : Nat, z = (i : Int) ∧ i < xs.length ∧ odd' b k (xs.getD i 0) = true ∧ ∀ t, t < i → keep' b k (xs.getD t 0) = true) ∧ Below w.heap.size w w' := by
  have H := Lib.hid h
  have HX := Lib.hid hX
  have HGB := Lib.hid hgb
  have HGK := Lib.hid hgk
  have hnl := h.at.1
  have HNL := Lib.hid hnl
  clear h hX hgb hgk hnl
  go_enter Try.func101, Try.ntmps101
  go_wp2
  go_loopw [8] (fun i wr => ∃ j : Nat, j ≤ n ∧ i = .int .i64 (j : Int) ∧ Hid (∀ t, t < j → keep' b k (xs.getD t 0) = true) ∧ Below w.heap.size w wr) (fun i _ => n - (intOf i).toNat)
  case atStart => exact ⟨0, Nat.zero_le _, rfl, Lib.hid (fun t ht => absurd ht (Nat.not_lt_zero _)), Below.refl _ _⟩
  case round =>
    obtain ⟨j, hj, rfl, HK, hbl⟩ := hrel
    have HB := Lib.hid hbl
    clear hbl
    by_cases hlt : j < n
    · have hjl : j < xs.length := by rw [← HNL.out]; exact hlt
      have hcell := (H.out.keep HB.out).at.2.2.2.2.1 j hjl
      have hg1 : xs.getD j 0 = xs[j] := by rw [List.getD_eq_getElem?_getD, List.getElem?_eq_getElem hjl]; rfl
      obtain ⟨x0, x1⟩ := HX.out _ (List.getElem_mem hjl)
      obtain ⟨X, hXX⟩ : ∃ X : Nat, xs[j] = (X : Int) := ⟨xs[j].toNat, by omega⟩
      rw [hXX] at hcell hg1
      have hXb : X ≤ 1000000000000 := by omega
      have HW := Lib.hid (fun w' (hb2 : Below w.heap.size w w') => width_any X b k gb gk w' hXb hb hb' (Below.keeps_cell hb2 HGB.out) (Below.keeps_cell hb2 HGK.out))
      have HG1 := Lib.hid hg1
      clear hg1 hXX x0 x1
      cases hq : odd' b k (X : Int)
      · have HK2 := Lib.hid (show ∀ t, t < j + 1 → keep' b k (xs.getD t 0) = true from fun t ht => by
          by_cases e : t = j
          · subst e; rw [HG1.out]; unfold keep'; rw [hq]; rfl
          · exact HK.out t (by omega))
        go_wp2_with (go_at_call 80; refine (HW.out _ HB.out).mono ?_; rw [hq]; rintro e w1 ⟨rfl, hb1⟩; have HB1 := Lib.hid (Below.step HB.out HB.out.size hb1); clear hb1)
        go_roundw
        case rel => exact ⟨j + 1, by omega, by go_num, HK2, HB1.out⟩
        case measure => simp [intOf]; omega
      · have HQ := Lib.hid (show odd' b k (xs.getD j 0) = true by rw [HG1.out]; exact hq)
        go_wp2_with (go_at_call 80; refine (HW.out _ HB.out).mono ?_; rw [hq]; rintro e w1 ⟨rfl, hb1⟩; have HB1 := Lib.hid (Below.step HB.out HB.out.size hb1); clear hb1)
        go_ret
        exact ⟨_, rfl, .inr ⟨j, rfl, hjl, HQ.out, HK.out⟩, HB1.out⟩
    · obtain rfl : j = n := by omega
      have HAll := Lib.hid (show ∀ x ∈ xs, keep' b k x = true from fun x hx => by
        obtain ⟨t, ht, rfl⟩ := List.getElem_of_mem hx
        have := HK.out t (by rw [HNL.out]; exact ht)
        rwa [List.getD_eq_getElem?_getD, List.getElem?_eq_getElem ht] at this)
      go_wp2
      go_ret
      exact ⟨_, rfl, .inl ⟨rfl, HAll.out⟩, HB.out⟩

theorem filter_take_succ (P : Int → Bool) (xs : List Int) (j : Nat) (h : j < xs.length) : (xs.take (j + 1)).filter P = (xs.take j).filter P ++ (if P (xs.getD j 0) = true then [xs.getD j 0] else []) := by
  have hg : xs.getD j 0 = xs[j] := by rw [List.getD_eq_getElem?_getD, List.getElem?_eq_getElem h]; rfl
  rw [take_snoc' xs j h, List.filter_append, hg]
  by_cases hp : P xs[j] = true
  · simp [hp]
  · simp [hp]
theorem filter_take_all (P : Int → Bool) (xs : List Int) : ∀ i, i ≤ xs.length → (∀ t, t < i → P (xs.getD t 0) = true) → (xs.take i).filter P = xs.take i
  | 0, _, _ => rfl
  | i + 1, h, hp => by
    rw [filter_take_succ P xs i (by omega), filter_take_all P xs i (by omega) (fun t ht => hp t (by omega)), if_pos (hp i (by omega)), take_snoc' xs i (by omega)]
    congr 2
    rw [List.getD_eq_getElem?_getD, List.getElem?_eq_getElem (show i < xs.length by omega)]
    rfl

set_option maxHeartbeats 1000000 in
theorem deleteFunc_any (g n cap B b k gb gk : Nat) (xs : List Int) (w : World) (h : Rd w B (.slice (some ⟨g, 0, none⟩) n cap) xs) (hn : n ≤ 1000000) (hX : ∀ x ∈ xs, 0 ≤ x ∧ x ≤ 1000000000000) (hb : 2 ≤ b) (hb' : b ≤ 16)
    (hgb : w.cell? ⟨gb, 0, none⟩ = some (.int .i64 (b : Int))) (hgk : w.cell? ⟨gk, 0, none⟩ = some (.int .i64 (k : Int))) (hbB : gb < B) (hkB : gk < B) (hBw : B ≤ w.heap.size) :
    Calls Try.prog 82 #[.slice (some ⟨g, 0, none⟩) n cap, FW gb gk] w fun e w' => ∃ m, e = .returned (.slice (some ⟨g, 0, none⟩) m cap) ∧ Rd w' B (.slice (some ⟨g, 0, none⟩) m cap) (xs.filter (keep' b k)) ∧ Below B w w' := by
  have H := Lib.hid h
  have HX := Lib.hid hX
  have HGB := Lib.hid hgb
  have HGK := Lib.hid hgk
  have HNL := Lib.hid h.at.1
  have hgB := h.at.2.1
  have hcap := h.at.2.2.2.1
  rw [← HNL.out] at hcap
  clear h hX hgb hgk
  go_enter Try.func82, Try.ntmps82
  go_wp2_with fail
  refine (indexFunc_any g n cap B b k gb gk xs _ H.out hn HX.out hb hb' HGB.out HGK.out).mono ?_
  rintro e w1 ⟨z, rfl, hz, hb1⟩
  have B1 := Lib.hid (hb1.mono hBw)
  have R1 := Lib.hid (H.out.keep hb1)
  clear hb1
  rcases hz with ⟨rfl, hall⟩ | ⟨i, rfl, hi, hodd, hkeep⟩
  · have HE := Lib.hid (show xs.filter (keep' b k) = xs from List.filter_eq_self.2 hall)
    clear hall
    go_wp2
    go_ret
    exact ⟨n, rfl, by rw [HE.out]; exact R1.out, B1.out⟩
  · have hin : i < n := by rw [HNL.out]; exact hi
    have hz : ((i : Int) == -1) = false := beq_no (by omega)
    have HOD := Lib.hid hodd
    have HKE := Lib.hid (show (xs.take (i + 1)).filter (keep' b k) = xs.take i by
      rw [filter_take_succ _ xs i hi, filter_take_all _ xs i (by omega) hkeep, if_neg (by unfold keep'; rw [hodd]; simp), List.append_nil])
    clear hodd hkeep hi
    go_wp2
    go_loopw [5, 6] (fun a c wr => ∃ (q j : Nat) (ys : List Int), j ≤ n ∧ q < j ∧ a = .int .i64 (q : Int) ∧ c = .int .i64 (j : Int) ∧ Rd wr B (.slice (some ⟨g, 0, none⟩) n cap) ys ∧ Hid (ys.length = n) ∧ Hid (ys.take q = (xs.take j).filter (keep' b k)) ∧ Hid (∀ t, j ≤ t → ys.getD t 0 = xs.getD t 0) ∧ Below B w wr) (fun _ c _ => n - (intOf c).toNat)
    case atStart => exact ⟨i, i + 1, xs, by omega, by omega, rfl, by go_num, R1.out, Lib.hid HNL.out.symm, Lib.hid HKE.out.symm, Lib.hid (fun t _ => rfl), B1.out⟩
    case round =>
      obtain ⟨q, j, ys, hj, hqj, rfl, rfl, hr, HYL, HYT, HYD, hbl⟩ := hrel
      have HR := Lib.hid hr
      have HB := Lib.hid hbl
      clear hr hbl
      by_cases hlt : j < n
      · have hjl : j < ys.length := by rw [HYL.out]; exact hlt
        have hjx : j < xs.length := by rw [← HNL.out]; exact hlt
        have hcell := HR.out.at.2.2.2.2.1 j hjl
        have hyx : ys[j] = xs[j] := by
          have := HYD.out j (Nat.le_refl _)
          rwa [List.getD_eq_getElem?_getD, List.getElem?_eq_getElem hjl, List.getD_eq_getElem?_getD, List.getElem?_eq_getElem hjx] at this
        have hg1 : xs.getD j 0 = xs[j] := by rw [List.getD_eq_getElem?_getD, List.getElem?_eq_getElem hjx]; rfl
        obtain ⟨x0, x1⟩ := HX.out _ (List.getElem_mem hjx)
        obtain ⟨X, hXX⟩ : ∃ X : Nat, xs[j] = (X : Int) := ⟨xs[j].toNat, by omega⟩
        rw [hyx, hXX] at hcell
        rw [hXX] at hg1
        have hXb : X ≤ 1000000000000 := by omega
        have HW := Lib.hid (fun w' (hb2 : Below B w w') => width_any X b k gb gk w' hXb hb hb' ((hb2.cell (p := ⟨gb, 0, none⟩) hbB).trans HGB.out) ((hb2.cell (p := ⟨gk, 0, none⟩) hkB).trans HGK.out))
        have HFS := Lib.hid (filter_take_succ (keep' b k) xs j hjx)
        rw [hg1] at HFS
        have hBr := HB.out.size
        have hBs := Nat.le_trans hBw hBr
        clear hyx hg1 hXX x0 x1
        cases hq : odd' b k (X : Int)
        · have hkp : keep' b k (X : Int) = true := by unfold keep'; rw [hq]; rfl
          have HF2 := Lib.hid (show (xs.take (j + 1)).filter (keep' b k) = (xs.take j).filter (keep' b k) ++ [(X : Int)] by rw [HFS.out, if_pos hkp])
          have HCQ := Lib.hid (fun w' (hr : Rd w' B (.slice (some ⟨g, 0, none⟩) n cap) ys) => (show ∃ y : Int, w'.cell? ⟨g, q, none⟩ = some (.int .i64 y) from ⟨_, hr.at.2.2.2.2.1 q (by rw [HYL.out]; omega)⟩))
          have hqn : q < n := by omega
          clear hkp
          go_wp2_with (go_at_call 80; refine (HW.out _ HB.out).mono ?_; rw [hq]; rintro e w2 ⟨rfl, hb2⟩; have HB2 := Lib.hid (HB.out.trans (hb2.mono hBs)); have HR2 := Lib.hid (HR.out.keep hb2); obtain ⟨y, hcy⟩ := HCQ.out _ HR2.out; have hfy := HR2.out.at.2.2.2.2.2 q; have HR3 := Lib.hid (HR2.out.set q (X : Int)).1; have HB3 := Lib.hid (HB2.out.setCell (p := ⟨g, q, none⟩) hgB (.int .i64 (X : Int))); clear hb2)
          go_roundw
          case rel => exact ⟨q + 1, j + 1, ys.set q (X : Int), by omega, by omega, by go_num, by go_num, HR3.out, Lib.hid (by rw [List.length_set]; exact HYL.out), Lib.hid (by
              rw [HF2.out, ← HYT.out, take_snoc' _ q (by rw [List.length_set, HYL.out]; exact hqn), List.take_set_of_le (Nat.le_refl q)]
              congr 2
              simp), Lib.hid (fun t ht => by rw [← HYD.out t (by omega), List.getD_eq_getElem?_getD, List.getElem?_set, if_neg (by omega), ← List.getD_eq_getElem?_getD]), HB3.out⟩
          case measure => simp [intOf]; omega
        · have hkp : keep' b k (X : Int) = false := by unfold keep'; rw [hq]; rfl
          have HF2 := Lib.hid (show (xs.take (j + 1)).filter (keep' b k) = (xs.take j).filter (keep' b k) by rw [HFS.out, hkp]; simp)
          clear hkp
          go_wp2_with (go_at_call 80; refine (HW.out _ HB.out).mono ?_; rw [hq]; rintro e w2 ⟨rfl, hb2⟩; have HB2 := Lib.hid (HB.out.trans (hb2.mono hBs)); have HR2 := Lib.hid (HR.out.keep hb2); clear hb2)
          go_roundw
          case rel => exact ⟨q, j + 1, ys, by omega, by omega, rfl, by go_num, HR2.out, HYL, Lib.hid (by rw [HF2.out, HYT.out]), Lib.hid (fun t ht => HYD.out t (by omega)), HB2.out⟩
          case measure => simp [intOf]; omega
      · obtain rfl : j = n := by omega
        have hqc : ¬ cap = q := by omega
        have hqc2 : q < cap := by omega
        have hqc3 : q ≤ cap := by omega
        have hqj2 : q ≤ j := by omega
        obtain ⟨zs, hz1, hz2, hz3, hz4⟩ := rd_zeros (j - q) q ys _ HR.out
        have hcl := fun ty => Lib.run_clear_slice (P := Try.prog) wr 25 3 ty (.int .i64 0) Try.underlying25 Try.zeroValue3 rfl rfl g q (j - q) (cap - q) (by omega) (fun t ht => by rw [HR.out.at.2.2.2.2.1 (q + t) (by rw [HYL.out]; omega)]; rfl) (fun t ht => HR.out.at.2.2.2.2.2 (q + t))
        have RZ := Lib.hid (hz1.take q (by rw [hz2, HYL.out]; omega))
        have HBz := Lib.hid (HB.out.trans ((Below.refl B wr).grown hz4 (Nat.le_trans hBw HB.out.size) (fun k hk => by simp at hk; omega)))
        have HE := Lib.hid (show zs.take q = xs.filter (keep' b k) by rw [hz3, HYT.out, List.take_of_length_le (by rw [HNL.out]; exact Nat.le_refl _)])
        rw [HE.out] at RZ
        clear hz1 hz2 hz3 hz4
        go_wp2
        go_ret
        exact ⟨q, rfl, RZ.out, HBz.out⟩

end Go.Proofs.Ytejehmplebjnmaa
