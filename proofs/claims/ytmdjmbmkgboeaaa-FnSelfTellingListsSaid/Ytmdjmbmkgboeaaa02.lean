/-
  What the law of self telling lists asks of the answers; lists held against each other, summed, in their order.
-/
import Derived.Test.Ytmdjmbmkgboeaaa9Y
import Derived.Test.Ytmdjmbmkgboeaaa0Z
import Derived.Test.Ytmdjmbmkgboeaaa0D
import Derived.Test.Ytmdjmbmkgboeaaa0S
namespace Go.Proofs.Ytmdjmbmkgboeaaa
open Go.RowKit
set_option linter.unusedVariables false
set_option linter.unusedSimpArgs false
set_option maxRecDepth 100000

/-- All lists of few numbers that tell themselves. -/
def sTab : Nat → List (List Int)
  | 4 => [[1, 2, 1, 0], [2, 0, 2, 0]]
  | 5 => [[2, 1, 2, 0, 0]]
  | 7 => [[3, 2, 1, 1, 0, 0, 0]]
  | 8 => [[4, 2, 1, 0, 1, 0, 0, 0]]
  | 9 => [[5, 2, 1, 0, 0, 1, 0, 0, 0]]
  | 10 => [[6, 2, 1, 0, 0, 0, 1, 0, 0, 0]]
  | _ => []
theorem selL_tab : ∀ n, 1 ≤ n → n ≤ 10 → selL n = sTab n := by
  have h : ((List.range 11).all fun n => decide (n = 0 ∨ pS n n [] n = sTab n)) = true := by decide +kernel
  intro n h1 h2
  rw [← p_selL]
  have h3 := of_decide_eq_true (List.all_eq_true.1 h n (List.mem_range.2 (by omega)))
  rcases h3 with h3 | h3
  · omega
  · exact h3
theorem sTab_rows (n : Nat) (h1 : 1 ≤ n) (h2 : n ≤ 10) : ∀ l ∈ sTab n, selB l = true ∧ l.length = n ∧ l.sum = (n : Int) ∧ (∀ x ∈ l, 0 ≤ x ∧ x ≤ 10) := by
  have h : ((List.range 11).all fun n => (sTab n).all fun l => selB l && decide (l.length = n) && decide (l.sum = (n : Int)) && l.all fun x => decide (0 ≤ x ∧ x ≤ 10)) = true := by decide +kernel
  intro l hl
  have h3 := List.all_eq_true.1 (List.all_eq_true.1 h n (List.mem_range.2 (by omega))) l hl
  simp only [Bool.and_eq_true, decide_eq_true_eq, List.all_eq_true] at h3
  exact ⟨h3.1.1.1, h3.1.1.2, h3.1.2, fun x hx => h3.2 x hx⟩
theorem sTab_less (n : Nat) (h1 : 1 ≤ n) (h2 : n ≤ 10) (k : Nat) (hk : k + 1 < (sTab n).length) : (lsZ (sTab n) k).getD 0 0 < (lsZ (sTab n) (k + 1)).getD 0 0 := by
  have h : ((List.range 11).all fun n => (List.range 2).all fun k => decide (k + 1 < (sTab n).length → (lsZ (sTab n) k).getD 0 0 < (lsZ (sTab n) (k + 1)).getD 0 0)) = true := by decide +kernel
  have hb : ((List.range 11).all fun n => decide ((sTab n).length ≤ 2)) = true := by decide +kernel
  have h4 := of_decide_eq_true (List.all_eq_true.1 hb n (List.mem_range.2 (by omega)))
  exact of_decide_eq_true (List.all_eq_true.1 (List.all_eq_true.1 h n (List.mem_range.2 (by omega))) k (List.mem_range.2 (by omega))) hk

/-- What the law asks of all self telling lists. -/
structure SelFacts (n : Int) (ls : List (List Int)) (q : Bool) : Prop where
  row : ∀ k, k < ls.length → ∃ N : Nat, n = (N : Int) ∧ 1 ≤ N ∧ N ≤ 10 ∧ (lsZ ls k).length = N ∧ VAL_IsSelfTelling (lsZ ls k) = .tuple #[.bool true, .bool true] ∧ OK_TellCounts (lsZ ls k) = true ∧ LF_TellCounts (lsZ ls k) = lsZ ls k ∧ (lsZ ls k).sum = n ∧ (∀ x ∈ lsZ ls k, 0 ≤ x ∧ x ≤ 10)
  rise : ∀ k, k + 1 < ls.length → (lsZ ls k).getD 0 0 < (lsZ ls (k + 1)).getD 0 0
  few : ls.length ≤ 2
  one : q = true → 7 ≤ n → ∃ N : Nat, n = (N : Int) ∧ 7 ≤ N ∧ N ≤ 10 ∧ ls = sTab N
theorem sel_facts (n : Int) : SelFacts n (LF_SelfTelling n) (OK_SelfTelling n) := by
  by_cases h : SelR n
  · obtain ⟨N, rfl⟩ : ∃ N : Nat, n = (N : Int) := ⟨n.toNat, by have := h.1; omega⟩
    have h1 : 1 ≤ N := by have := h.1; omega
    have h2 : N ≤ 10 := by have := h.2; omega
    have e : LF_SelfTelling (N : Int) = sTab N := by
      unfold LF_SelfTelling
      rw [if_pos h, Int.toNat_natCast]
      exact selL_tab N h1 h2
    rw [e]
    refine ⟨fun k hk => ?_, fun k hk => sTab_less N h1 h2 k hk, ?_, fun _ h7 => ⟨N, rfl, by omega, h2, rfl⟩⟩
    · have hm : lsZ (sTab N) k ∈ sTab N := by
        unfold lsZ
        rw [List.getD_eq_getElem?_getD, List.getElem?_eq_getElem hk]
        exact List.getElem_mem hk
      obtain ⟨r1, r2, r3, r4⟩ := sTab_rows N h1 h2 _ hm
      have hT : TelR (lsZ (sTab N) k) := ⟨by omega, by omega⟩
      refine ⟨N, rfl, h1, h2, r2, ?_, decide_eq_true hT, ?_, r3, r4⟩
      · unfold VAL_IsSelfTelling
        rw [decide_eq_true hT, r1]
        rfl
      · unfold LF_TellCounts
        rw [if_pos hT]
        exact of_decide_eq_true r1
    · have hb : ((List.range 11).all fun n => decide ((sTab n).length ≤ 2)) = true := by decide +kernel
      exact of_decide_eq_true (List.all_eq_true.1 hb N (List.mem_range.2 (by omega)))
  · obtain ⟨e1, e2⟩ := SelR_no h
    rw [e1, e2]
    exact ⟨fun k hk => by simp at hk, fun k hk => by simp at hk, by simp, fun c => by cases c⟩

theorem tell_facts (xs : List Int) : OK_TellCounts xs = decide (TelR xs) ∧ (OK_TellCounts xs = true → selB xs = decide (LF_TellCounts xs = xs)) := by
  refine ⟨rfl, fun h => ?_⟩
  have hT : TelR xs := of_decide_eq_true h
  unfold LF_TellCounts selB
  rw [if_pos hT]

set_option maxHeartbeats 1000000 in
theorem qSame_dec (v u : Value) (xs ys : List Int) (w : World) (hv : Sl w v xs) (hu : Sl w u ys) (hl : xs.length ≤ 2000000) (hl2 : ys.length ≤ 2000000) :
    Calls Try.prog 11 #[v, u] w fun e w' => e = .returned (.bool (decide (xs = ys))) ∧ Below w.heap.size w w' := by
  obtain ⟨a, cap, rfl, hx⟩ := hv
  obtain ⟨c, cap2, rfl, hy⟩ := hu
  have HX := Lib.hid hx
  have HY := Lib.hid hy
  clear hx hy
  by_cases hlen : xs.length = ys.length
  · obtain ⟨n, hn⟩ : ∃ n, xs.length = n := ⟨_, rfl⟩
    have HN := Lib.hid hn
    have HN2 := Lib.hid (hlen.symm.trans hn)
    rw [HN2.out, hn]
    rw [hn] at hl
    clear hn hlen hl2
    go_enter Try.func11, Try.ntmps11
    go_wp2
    go_loopw [13] (fun i wr => ∃ k : Nat, k ≤ n ∧ i = .int .i64 k ∧ Hid (xs.take k = ys.take k) ∧ Below w.heap.size w wr) (fun i _ => n - (intOf i).toNat)
    case atStart => exact ⟨0, Nat.zero_le _, rfl, Lib.hid (by simp), Below.refl _ _⟩
    case round =>
      obtain ⟨k, hk, rfl, HT, hb⟩ := hrel
      have HB := Lib.hid hb
      clear hb
      by_cases hlt : k < n
      · have hlx : k < xs.length := by rw [HN.out]; exact hlt
        have hly : k < ys.length := by rw [HN2.out]; exact hlt
        rcases HX.out with hx | ⟨b, off, rfl, hbl, hc⟩
        · rw [hx] at hlx; simp at hlx
        rcases HY.out with hy | ⟨b2, off2, rfl, hbl2, hc2⟩
        · rw [hy] at hly; simp at hly
        have hcell : wr.cell? ⟨b, off + k, none⟩ = some (.int .i64 xs[k]) := (HB.out.cell (p := ⟨b, off + k, none⟩) hbl).trans (hc k hlx)
        have hcell2 : wr.cell? ⟨b2, off2 + k, none⟩ = some (.int .i64 ys[k]) := (HB.out.cell (p := ⟨b2, off2 + k, none⟩) hbl2).trans (hc2 k hly)
        obtain ⟨x, hx⟩ : ∃ x, x = xs[k] := ⟨_, rfl⟩
        obtain ⟨y, hy⟩ : ∃ y, y = ys[k] := ⟨_, rfl⟩
        rw [← hx] at hcell
        rw [← hy] at hcell2
        by_cases hxy : x = y
        · subst hxy
          have HT2 := Lib.hid (take_eq_snoc hlx hly HT.out (by rw [← hx, ← hy]))
          clear hc hc2 hx hy hlx hly
          go_wp2
          go_region
          all_goals
            go_wp2
            go_roundw
            case rel => exact ⟨k + 1, by omega, by go_num, HT2, HB.out.drew⟩
            case measure => simp [intOf]; omega
        · have HD := Lib.hid (show decide (xs = ys) = false from decide_eq_false (fun e => hxy (by subst e; rw [hx, hy])))
          have hne : (x == y) = false := beq_no hxy
          have hne2 : (x != y) = true := by rw [bne, hne]; rfl
          clear hc hc2 hx hy hlx hly
          go_wp2
          go_region
          all_goals
            go_wp2
            go_ret
            exact ⟨by rw [HD.out]; rfl, HB.out.drew⟩
      · obtain rfl : k = n := by omega
        have HD := Lib.hid (show decide (xs = ys) = true from decide_eq_true (by
          have h5 := HT.out
          rw [List.take_of_length_le (by rw [HN.out]; exact Nat.le_refl _), List.take_of_length_le (by rw [HN2.out]; exact Nat.le_refl _)] at h5
          exact h5))
        go_wp2
        go_ret
        exact ⟨by rw [HD.out]; rfl, HB.out⟩
  · have HD := Lib.hid (show decide (xs = ys) = false from decide_eq_false (fun e => hlen (by rw [e])))
    rw [HD.out]
    obtain ⟨n, hn⟩ : ∃ n, xs.length = n := ⟨_, rfl⟩
    obtain ⟨m, hm⟩ : ∃ m, ys.length = m := ⟨_, rfl⟩
    rw [hn, hm] at hlen ⊢
    have hne : ((n : Int) == (m : Int)) = false := beq_no (by omega)
    have hne2 : ((n : Int) != (m : Int)) = true := by rw [bne, hne]; rfl
    clear hn hm
    go_enter Try.func11, Try.ntmps11
    go_wp2
    go_ret
    exact ⟨rfl, Below.refl _ _⟩

theorem qSum_any (v : Value) (xs : List Int) (w : World) (hv : Sl w v xs) (hl : xs.length ≤ 100) (hx9 : ∀ x ∈ xs, 0 ≤ x ∧ x ≤ 10) :
    Calls Try.prog 26 #[v] w fun e w' => e = .returned (.int .i64 xs.sum) ∧ Below w.heap.size w w' := by
  obtain ⟨a, cap, rfl, hx⟩ := hv
  have HX := Lib.hid hx
  have HS := Lib.hid (show ∀ k, 0 ≤ (xs.take k).sum ∧ (xs.take k).sum ≤ 10 * k from fun k => by
    induction k with
    | zero => simp
    | succ k ih =>
      by_cases hk : k < xs.length
      · rw [take_snoc' xs k hk, List.sum_append]
        have := hx9 _ (List.getElem_mem hk)
        simp
        omega
      · rw [List.take_of_length_le (by omega)] at ih ⊢
        omega)
  have H9 := Lib.hid hx9
  obtain ⟨n, hn⟩ : ∃ n, xs.length = n := ⟨_, rfl⟩
  have HN := Lib.hid hn
  rw [hn] at hl ⊢
  clear hx hn hx9
  go_enter Try.func26, Try.ntmps26
  go_wp2
  go_loopw [3, 8] (fun t i wr => ∃ k : Nat, ∃ T : Int, k ≤ n ∧ i = .int .i64 k ∧ t = .int .i64 T ∧ Hid (T = (xs.take k).sum) ∧ 0 ≤ T ∧ T ≤ 10 * k ∧ Below w.heap.size w wr) (fun _ i _ => n - (intOf i).toNat)
  case atStart => exact ⟨0, 0, Nat.zero_le _, rfl, rfl, Lib.hid (by simp), by omega, by omega, Below.refl _ _⟩
  case round =>
    obtain ⟨k, T, hk, rfl, rfl, HT, t0, t1, hb⟩ := hrel
    have HB := Lib.hid hb
    clear hb
    by_cases hlt : k < n
    · have hlx : k < xs.length := by rw [HN.out]; exact hlt
      rcases HX.out with hx | ⟨b, off, rfl, hbl, hc⟩
      · rw [hx] at hlx; simp at hlx
      have hcell : wr.cell? ⟨b, off + k, none⟩ = some (.int .i64 xs[k]) := (HB.out.cell (p := ⟨b, off + k, none⟩) hbl).trans (hc k hlx)
      obtain ⟨x0, x1⟩ := H9.out _ (List.getElem_mem hlx)
      have hsn := take_snoc' xs k hlx
      obtain ⟨x, hx⟩ : ∃ x, x = xs[k] := ⟨_, rfl⟩
      rw [← hx] at hcell x0 x1 hsn
      have HS2 := Lib.hid (show T + x = (xs.take (k + 1)).sum by rw [hsn, List.sum_append, ← HT.out]; simp)
      clear hc hx hlx hsn
      go_wp2
      go_roundw
      case rel => exact ⟨k + 1, T + x, by omega, by go_num, by go_num, HS2, by omega, by omega, HB.out⟩
      case measure => simp [intOf]; omega
    · obtain rfl : k = n := by omega
      have HE := Lib.hid (show T = xs.sum by have h5 := HT.out; rw [List.take_of_length_le (by rw [HN.out]; exact Nat.le_refl _)] at h5; exact h5)
      go_wp2
      go_ret
      exact ⟨by rw [HE.out]; rfl, HB.out⟩

theorem qLess_first (v u : Value) (xs ys : List Int) (w : World) (hv : Sl w v xs) (hu : Sl w u ys) (h0 : 0 < xs.length) (h1 : 0 < ys.length) (hx : xs.getD 0 0 < ys.getD 0 0) (hl : xs.length ≤ 100) :
    Calls Try.prog 27 #[v, u] w fun e w' => e = .returned (.bool true) ∧ Below w.heap.size w w' := by
  obtain ⟨a, cap, rfl, hvx⟩ := hv
  obtain ⟨c, cap2, rfl, hvy⟩ := hu
  rcases hvx with h2 | ⟨b, off, rfl, hbl, hc⟩
  · rw [h2] at h0; simp at h0
  rcases hvy with h2 | ⟨b2, off2, rfl, hbl2, hc2⟩
  · rw [h2] at h1; simp at h1
  have hcell := hc 0 h0
  have hcell2 := hc2 0 h1
  rw [Nat.add_zero] at hcell hcell2
  have e1 : xs.getD 0 0 = xs[0] := by simp [h0]
  have e2 : ys.getD 0 0 = ys[0] := by simp [h1]
  rw [e1, e2] at hx
  obtain ⟨x, hxx⟩ : ∃ x, x = xs[0] := ⟨_, rfl⟩
  obtain ⟨y, hyy⟩ : ∃ y, y = ys[0] := ⟨_, rfl⟩
  rw [← hxx, ← hyy] at hx
  rw [← hxx] at hcell
  rw [← hyy] at hcell2
  obtain ⟨n, hn⟩ : ∃ n, xs.length = n := ⟨_, rfl⟩
  obtain ⟨m, hm⟩ : ∃ m, ys.length = m := ⟨_, rfl⟩
  rw [hn] at h0 hl ⊢
  rw [hm] at h1 ⊢
  have hne : (x == y) = false := beq_no (by omega)
  have hne2 : (x != y) = true := by rw [bne, hne]; rfl
  have hn0 : (0 : Int) < (n : Int) := by omega
  clear hc hc2 e1 e2 hxx hyy hn hm
  go_enter Try.func27, Try.ntmps27
  go_wp2
  refine wp_loop_rounds 1 ?_
  rw [rounds_succ]
  go_wp2
  go_region
  all_goals
    go_wp2
    go_region
    all_goals
      go_wp2
      go_ret
      exact ⟨rfl, (Below.refl _ _).drew.drew⟩

end Go.Proofs.Ytmdjmbmkgboeaaa
