/-
  Lists asked by the laws of chapter 5: the same or not, summed up, backwards.
-/
import Derived.Test.Ytnggfcopndcppaa0D
import Derived.Test.Ytnggfcopndcppaa0B
import Derived.Test.Ytnggfcopndcppaa5A
namespace Go.Proofs.Ytnggfcopndcppaa
open Go.RowKit
set_option linter.unusedVariables false
set_option linter.unusedSimpArgs false
set_option maxRecDepth 100000

theorem qSame_dec (v u : Value) (xs ys : List Int) (w : World) (hv : Sl w v xs) (hu : Sl w u ys) (hl : xs.length ≤ 2000000) (hl2 : ys.length ≤ 2000000) :
    Calls Try.prog 16 #[v, u] w fun e w' => e = .returned (.bool (decide (xs = ys))) ∧ Below w.heap.size w w' := by
  obtain ⟨a, cap, rfl, hx⟩ := hv
  obtain ⟨c, cap2, rfl, hy⟩ := hu
  have HX := Lib.hid hx
  have HY := Lib.hid hy
  clear hx hy
  by_cases hlen : xs.length = ys.length
  · obtain ⟨n, hn⟩ : ∃ n, xs.length = n := ⟨_, rfl⟩
    have HN := Lib.hid hn
    have HN2 := Lib.hid (hlen.symm.trans hn)
    rw [HN2.out, hn]
    rw [hn] at hl
    clear hn hlen hl2
    go_enter Try.func16, Try.ntmps16
    go_wp2
    go_loopw [13] (fun i wr => ∃ k : Nat, k ≤ n ∧ i = .int .i64 k ∧ Hid (xs.take k = ys.take k) ∧ Below w.heap.size w wr) (fun i _ => n - (intOf i).toNat)
    case atStart => exact ⟨0, Nat.zero_le _, rfl, Lib.hid (by simp), Below.refl _ _⟩
    case round =>
      obtain ⟨k, hk, rfl, HT, hb⟩ := hrel
      have HB := Lib.hid hb
      clear hb
      by_cases hlt : k < n
      · have hlx : k < xs.length := by rw [HN.out]; exact hlt
        have hly : k < ys.length := by rw [HN2.out]; exact hlt
        rcases HX.out with hx | ⟨b, off, rfl, hbl, hc⟩
        · rw [hx] at hlx; simp at hlx
        rcases HY.out with hy | ⟨b2, off2, rfl, hbl2, hc2⟩
        · rw [hy] at hly; simp at hly
        have hcell : wr.cell? ⟨b, off + k, none⟩ = some (.int .i64 xs[k]) := (HB.out.cell (p := ⟨b, off + k, none⟩) hbl).trans (hc k hlx)
        have hcell2 : wr.cell? ⟨b2, off2 + k, none⟩ = some (.int .i64 ys[k]) := (HB.out.cell (p := ⟨b2, off2 + k, none⟩) hbl2).trans (hc2 k hly)
        obtain ⟨x, hx⟩ : ∃ x, x = xs[k] := ⟨_, rfl⟩
        obtain ⟨y, hy⟩ : ∃ y, y = ys[k] := ⟨_, rfl⟩
        rw [← hx] at hcell
        rw [← hy] at hcell2
        by_cases hxy : x = y
        · subst hxy
          have HT2 := Lib.hid (take_eq_snoc hlx hly HT.out (by rw [← hx, ← hy]))
          clear hc hc2 hx hy hlx hly
          go_wp2
          go_region
          all_goals
            go_wp2
            go_roundw
            case rel => exact ⟨k + 1, by omega, by go_num, HT2, HB.out.drew⟩
            case measure => simp [intOf]; omega
        · have HD := Lib.hid (show decide (xs = ys) = false from decide_eq_false (fun e => hxy (by subst e; rw [hx, hy])))
          have hne : (x == y) = false := beq_no hxy
          have hne2 : (x != y) = true := by rw [bne, hne]; rfl
          clear hc hc2 hx hy hlx hly
          go_wp2
          go_region
          all_goals
            go_wp2
            go_ret
            exact ⟨by rw [HD.out]; rfl, HB.out.drew⟩
      · obtain rfl : k = n := by omega
        have HD := Lib.hid (show decide (xs = ys) = true from decide_eq_true (by
          have h5 := HT.out
          rw [List.take_of_length_le (by rw [HN.out]; exact Nat.le_refl _), List.take_of_length_le (by rw [HN2.out]; exact Nat.le_refl _)] at h5
          exact h5))
        go_wp2
        go_ret
        exact ⟨by rw [HD.out]; rfl, HB.out⟩
  · have HD := Lib.hid (show decide (xs = ys) = false from decide_eq_false (fun e => hlen (by rw [e])))
    rw [HD.out]
    obtain ⟨n, hn⟩ : ∃ n, xs.length = n := ⟨_, rfl⟩
    obtain ⟨m, hm⟩ : ∃ m, ys.length = m := ⟨_, rfl⟩
    rw [hn, hm] at hlen ⊢
    have hne : ((n : Int) == (m : Int)) = false := beq_no (by omega)
    have hne2 : ((n : Int) != (m : Int)) = true := by rw [bne, hne]; rfl
    clear hn hm
    go_enter Try.func16, Try.ntmps16
    go_wp2
    go_ret
    exact ⟨rfl, Below.refl _ _⟩

theorem qSum_any (v : Value) (xs : List Int) (w : World) (hv : Sl w v xs) (hl : xs.length ≤ 100) (hx9 : ∀ x ∈ xs, 0 ≤ x ∧ x ≤ 10) :
    Calls Try.prog 17 #[v] w fun e w' => e = .returned (.int .i64 xs.sum) ∧ Below w.heap.size w w' := by
  obtain ⟨a, cap, rfl, hx⟩ := hv
  have HX := Lib.hid hx
  have HS := Lib.hid (show ∀ k, 0 ≤ (xs.take k).sum ∧ (xs.take k).sum ≤ 10 * k from fun k => by
    induction k with
    | zero => simp
    | succ k ih =>
      by_cases hk : k < xs.length
      · rw [take_snoc' xs k hk, List.sum_append]
        have := hx9 _ (List.getElem_mem hk)
        simp
        omega
      · rw [List.take_of_length_le (by omega)] at ih ⊢
        omega)
  have H9 := Lib.hid hx9
  obtain ⟨n, hn⟩ : ∃ n, xs.length = n := ⟨_, rfl⟩
  have HN := Lib.hid hn
  rw [hn] at hl ⊢
  clear hx hn hx9
  go_enter Try.func17, Try.ntmps17
  go_wp2
  go_loopw [3, 8] (fun t i wr => ∃ k : Nat, ∃ T : Int, k ≤ n ∧ i = .int .i64 k ∧ t = .int .i64 T ∧ Hid (T = (xs.take k).sum) ∧ 0 ≤ T ∧ T ≤ 10 * k ∧ Below w.heap.size w wr) (fun _ i _ => n - (intOf i).toNat)
  case atStart => exact ⟨0, 0, Nat.zero_le _, rfl, rfl, Lib.hid (by simp), by omega, by omega, Below.refl _ _⟩
  case round =>
    obtain ⟨k, T, hk, rfl, rfl, HT, t0, t1, hb⟩ := hrel
    have HB := Lib.hid hb
    clear hb
    by_cases hlt : k < n
    · have hlx : k < xs.length := by rw [HN.out]; exact hlt
      rcases HX.out with hx | ⟨b, off, rfl, hbl, hc⟩
      · rw [hx] at hlx; simp at hlx
      have hcell : wr.cell? ⟨b, off + k, none⟩ = some (.int .i64 xs[k]) := (HB.out.cell (p := ⟨b, off + k, none⟩) hbl).trans (hc k hlx)
      obtain ⟨x0, x1⟩ := H9.out _ (List.getElem_mem hlx)
      have hsn := take_snoc' xs k hlx
      obtain ⟨x, hx⟩ : ∃ x, x = xs[k] := ⟨_, rfl⟩
      rw [← hx] at hcell x0 x1 hsn
      have HS2 := Lib.hid (show T + x = (xs.take (k + 1)).sum by rw [hsn, List.sum_append, ← HT.out]; simp)
      clear hc hx hlx hsn
      go_wp2
      go_roundw
      case rel => exact ⟨k + 1, T + x, by omega, by go_num, by go_num, HS2, by omega, by omega, HB.out⟩
      case measure => simp [intOf]; omega
    · obtain rfl : k = n := by omega
      have HE := Lib.hid (show T = xs.sum by have h5 := HT.out; rw [List.take_of_length_le (by rw [HN.out]; exact Nat.le_refl _)] at h5; exact h5)
      go_wp2
      go_ret
      exact ⟨by rw [HE.out]; rfl, HB.out⟩
theorem rd_liesB {w : World} {B : Nat} {v : Value} {xs : List Int} (hr : Rd w B v xs) : ∃ a cap, v = .slice a xs.length cap ∧ xs.length ≤ cap ∧ (xs.length = 0 ∨ ∃ g, a = some ⟨g, 0, none⟩ ∧ g < w.heap.size ∧ ∀ (j : Nat) x, xs[j]? = some x → w.cell? ⟨g, j, none⟩ = some (.int .i64 x)) := by
  rcases hr.cases with ⟨rfl, rfl⟩ | ⟨g, cap, rfl, _⟩
  · exact ⟨none, 0, rfl, Nat.le_refl _, .inl rfl⟩
  · refine ⟨_, _, rfl, hr.at.2.2.2.1, .inr ⟨g, rfl, hr.at.2.2.1, fun j x hx => ?_⟩⟩
    obtain ⟨h1, h2⟩ := List.getElem?_eq_some_iff.1 hx
    rw [hr.at.2.2.2.2.1 j h1, h2]

/-- A list backwards, in a list of its own. -/
theorem qBack_any (v : Value) (xs : List Int) (B : Nat) (w : World) (h : Rd w B v xs) (hl : xs.length ≤ 1000) :
    Calls Try.prog 18 #[v] w fun e w' => ∃ u, e = .returned u ∧ Rd w' w.heap.size u xs.reverse ∧ Below w.heap.size w w' := by
  obtain ⟨a, cap, rfl, hcap, hlies⟩ := rd_liesB h
  obtain ⟨N, hN⟩ : ∃ N, N = xs.length := ⟨_, rfl⟩
  have HN := Lib.hid hN
  have HLI := Lib.hid hlies
  rw [← hN] at hcap hl ⊢
  clear hN hlies h
  go_enter Try.func18, Try.ntmps18
  go_wp2
  go_loopw [3, 4] (fun o i wr => ∃ k : Nat, k ≤ N ∧ i = .int .i64 ((k : Int) - 1) ∧ Rd wr w.heap.size o (xs.drop k).reverse ∧ Below w.heap.size w wr) (fun _ i _ => (intOf i + 1).toNat)
  case atStart => exact ⟨N, Nat.le_refl _, by go_num, by rw [HN.out, List.drop_length]; exact Rd.nil _ _, Below.refl _ _⟩
  case round =>
    obtain ⟨k, hk, rfl, hr, hb⟩ := hrel
    have HR := Lib.hid hr
    have HB := Lib.hid hb
    clear hr hb
    by_cases h0 : k = 0
    · subst h0
      go_wp2
      go_ret
      exact ⟨_, rfl, HR.out, HB.out⟩
    · have hk1 : k - 1 < xs.length := by have := HN.out; omega
      have hge : (0 : Int) ≤ (k : Int) - 1 := by omega
      rcases HLI.out with hz | ⟨g, rfl, hg, hc⟩
      · exfalso; omega
      have z0 := (HB.out.cell (p := ⟨g, k - 1, none⟩) hg).trans (hc (k - 1) _ (List.getElem?_eq_getElem hk1))
      have HD := Lib.hid (show (xs.drop (k - 1)).reverse = (xs.drop k).reverse ++ [xs[k - 1]] by
        rw [List.drop_eq_getElem_cons hk1, List.reverse_cons, show k - 1 + 1 = k by omega])
      obtain ⟨x, hx⟩ : ∃ x, x = xs[k - 1] := ⟨_, rfl⟩
      rw [← hx] at z0 HD
      obtain ⟨j, hj⟩ : ∃ j, k = j + 1 := ⟨k - 1, by omega⟩
      subst hj
      rw [Nat.add_sub_cancel] at z0 HD
      have hji : ((j + 1 : Nat) : Int) - 1 = (j : Int) := by omega
      rw [hji]
      have HLR := Lib.hid (show ((xs.drop (j + 1)).reverse).length ≤ 1000 by rw [List.length_reverse, List.length_drop]; have := HN.out; omega)
      clear hc hx hk1 hge h0
      go_wp2_with (at_builtin; refine wpList_appR rfl _ _ rfl w.heap.size w.heap.size _ _ (xs.drop (j + 1)).reverse [x] rfl rfl (HR.out.alloc _) (Rd.litB _ _ _ HB.out.size) (by have := HLR.out; rw [List.length_singleton]; omega) (by have := HB.out.size; simp; omega) ?_; intro v1 w4 hr4 hg4 hb4; have HR4 := Lib.hid hr4; have HB4 := Lib.hid ((HB.out.alloc HB.out.size _).grown hg4 (by have := HB.out.size; simp; omega) (fun k e => (HR.out.lt k e).1)); clear hr4 hg4 hb4)
      go_roundw
      case rel => exact ⟨j, by omega, by go_num, by rw [HD.out]; exact HR4.out, HB4.out⟩
      case measure => simp [intOf]

end Go.Proofs.Ytnggfcopndcppaa
