/-
  What a list says: the model's stretches and answers.
-/
import Derived.Test.Ytmdjmbmkgboeaaa9M
namespace Go.Proofs.Ytmdjmbmkgboeaaa
open Go.RowKit
set_option linter.unusedVariables false
set_option linter.unusedSimpArgs false
set_option maxRecDepth 100000

theorem below_drewT {B : Nat} {a w : World} (h : Below B a w) (n : Nat) : Below B a (w.drewN n) := ⟨h.1, h.2, h.3, h.4, h.5⟩

theorem run_ex (x : Int) : ∀ ys : List Int, ∃ r, r ≤ ys.length ∧ (∀ k, k < r → ys[k]? = some x) ∧ ys[r]? ≠ some x ∧ ys = List.replicate r x ++ ys.drop r
  | [] => ⟨0, Nat.le_refl _, fun k hk => by omega, by simp, rfl⟩
  | y :: zs => by
    by_cases h : y = x
    · obtain ⟨r, h1, h2, h3, h4⟩ := run_ex x zs
      refine ⟨r + 1, by simp; omega, fun k hk => ?_, by simpa using h3, ?_⟩
      · cases k with
        | zero => simp [h]
        | succ k => simpa using h2 k (by omega)
      · rw [List.replicate_succ, List.drop_succ_cons, List.cons_append, ← h4, h]
    · exact ⟨0, Nat.zero_le _, fun k hk => by omega, by simpa using h, rfl⟩

/-- A longest stretch of a list from a place on. -/
theorem stretch_at {xs : List Int} {i : Nat} (hi : i < xs.length) : ∃ r, 1 ≤ r ∧ i + r ≤ xs.length ∧ (∀ k, k < r → xs[i + k]? = some xs[i]) ∧ xs[i + r]? ≠ some xs[i] ∧ strs (xs.drop i) = (r, xs[i]) :: strs (xs.drop (i + r)) := by
  obtain ⟨r, h1, h2, h3, h4⟩ := run_ex xs[i] (xs.drop i)
  rw [List.length_drop] at h1
  rw [List.getElem?_drop] at h3
  have h0 : r ≠ 0 := fun e => by subst e; exact h3 (by simp [hi])
  refine ⟨r, by omega, by omega, fun k hk => by have := h2 k hk; rwa [List.getElem?_drop] at this, h3, ?_⟩
  rw [List.drop_drop] at h4
  conv => lhs; rw [h4]
  exact strs_rep xs[i] r (by omega) _ (by rw [List.head?_drop]; exact h3)

/-- What the model's answer of a list is, its numbers apart. -/
def okT (xs : List Int) : Bool := n9 (strs xs) && decide ((sayL xs).length ≤ 400)

def LT9 (xs : List Int) : List Int := if n9 (strs xs) = true then sayL xs else []

theorem teSay_any (v : Value) (xs : List Int) (w : World) (hv : Sl w v xs) (hl : xs.length ≤ 2000) :
    Calls Try.prog 58 #[v] w fun e w' => ∃ u, e = .returned (.tuple #[u, .bool (okT xs)]) ∧ Rd w' w.heap.size u (LT9 xs) ∧ Below w.heap.size w w' := by
  have HX := Lib.hid hv
  obtain ⟨a, cap, rfl⟩ := hv.len
  have HSt := Lib.hid (fun i (h : i < xs.length) => stretch_at h)
  have HS0 := Lib.hid (show strs xs = [] ++ strs (xs.drop 0) by simp)
  have HSz := Lib.hid (strs_len xs)
  obtain ⟨N, hN⟩ : ∃ N, N = xs.length := ⟨_, rfl⟩
  have HN := Lib.hid hN
  rw [← hN] at HX hl HSz ⊢
  have HOT := Lib.hid (show okT xs = (n9 (strs xs) && decide ((sayL xs).length ≤ 400)) from rfl)
  have HSY := Lib.hid (show sayL xs = sayF (strs xs) from rfl)
  clear hv hN
  go_enter Try.func58, Try.ntmps58
  go_wp2
  go_loopw [4, 5] (fun o i wr => ∃ (j : Nat) (S : List (Nat × Int)), j ≤ N ∧ i = .int .i64 (j : Int) ∧ Hid (strs xs = S ++ strs (xs.drop j)) ∧ Hid (n9 S = true) ∧ Rd wr w.heap.size o (sayF S) ∧ Below w.heap.size w wr) (fun _ i _ => N - (intOf i).toNat)
  case atStart => exact ⟨0, [], Nat.zero_le _, rfl, HS0, Lib.hid rfl, Rd.nil _ _, Below.refl _ _⟩
  case round =>
    obtain ⟨j, S, hj, rfl, HSS, HN9, hr, hbl⟩ := hrel
    have HR := Lib.hid hr
    have HB := Lib.hid hbl
    clear hr hbl
    have hSl : S.length ≤ 2000 := by have := HSz.out; rw [HSS.out, List.length_append] at this; omega
    by_cases hlt : j < N
    · have hjx : j < xs.length := by rw [← HN.out]; exact hlt
      obtain ⟨r, r1, r2, r3, r4, r5⟩ := HSt.out j hjx
      have hrN : j + r ≤ N := by rw [HN.out]; exact r2
      have H3 := Lib.hid r3
      have H4 := Lib.hid r4
      have H5 := Lib.hid r5
      obtain ⟨b, off, cap2, hv2, hbk, hc⟩ := HX.out.at9 hjx
      simp only [Value.slice.injEq] at hv2
      obtain ⟨rfl, hNx, rfl⟩ := hv2
      clear hNx
      have HC := Lib.hid hc
      have hcj : wr.cell? ⟨b, off + j, none⟩ = some (.int .i64 xs[j]) := (HB.out.cell (p := ⟨b, off + j, none⟩) hbk).trans (hc j hjx)
      obtain ⟨x, hx⟩ : ∃ x, x = xs[j] := ⟨_, rfl⟩
      rw [← hx] at hcj H3 H4 H5
      clear hc r2 r3 r4 r5 hx
      rename World => wo
      go_wp2
      go_loopw [6] (fun i wr => ∃ k : Nat, k ≤ r ∧ i = .int .i64 (k : Int) ∧ Below wo.heap.size wo wr) (fun i _ => r - (intOf i).toNat)
      case atStart => exact ⟨0, Nat.zero_le _, rfl, Below.refl _ _⟩
      case round =>
        obtain ⟨k, hk, rfl, hbl⟩ := hrel
        have HB2 := Lib.hid hbl
        have hcj2 := Below.keeps_cell hbl hcj
        clear hbl
        by_cases hkr : k < r
        · have hlt2 : j + k < N := by omega
          have hlt3 : (j : Int) + (k : Int) < (N : Int) := by omega
          have hck : wr.cell? ⟨b, off + (j + k), none⟩ = some (.int .i64 x) := by
            have h1 := H3.out k hkr
            have h2 : j + k < xs.length := by rw [← HN.out]; exact hlt2
            rw [List.getElem?_eq_getElem h2] at h1
            rw [← Option.some.inj h1]
            exact Below.keeps_cell HB2.out ((HB.out.cell (p := ⟨b, off + (j + k), none⟩) hbk).trans (HC.out (j + k) h2))
          go_wp2
          go_quiet (fail)
          rename_i nq
          go_wp2
          go_roundw
          case rel => exact ⟨k + 1, by omega, by go_num, below_drewT HB2.out _⟩
          case measure => simp [intOf]; omega
        · obtain rfl : k = r := by omega
          have HRk := Lib.hid (HR.out.keep (w' := wr) (Below.mono HB2.out (Nat.le_refl _)))
          have HSS2 := Lib.hid (show strs xs = (S ++ [(k, x)]) ++ strs (xs.drop (j + k)) by rw [HSS.out, H5.out]; simp)
          have HN92 := Lib.hid (fun (h : k ≤ 9) => Lib.hid (show n9 (S ++ [(k, x)]) = true by rw [n9_app, HN9.out]; simp [n9, h]))
          have HSn := Lib.hid (show sayF S ++ [(k : Int), x] = sayF (S ++ [(k, x)]) by rw [sayF_app]; rfl)
          have HLS := Lib.hid (show (sayF S).length ≤ 4000 by rw [sayF_len]; omega)
          obtain ⟨q, hq⟩ : ∃ q, j + k = q := ⟨_, rfl⟩
          have HQ := Lib.hid hq
          have hqb : q ≤ 2000 := by omega
          by_cases hend : q < N
          · have hlt3 : decide ((q : Int) < (N : Int)) = true := decide_eq_true (by omega)
            have h2 : q < xs.length := by rw [← HN.out]; exact hend
            have hck : wr.cell? ⟨b, off + q, none⟩ = some (.int .i64 (xs[q])) := Below.keeps_cell HB2.out ((HB.out.cell (p := ⟨b, off + q, none⟩) hbk).trans (HC.out q h2))
            have hne : (xs[q] == x) = false := beq_no (fun c => H4.out (by rw [hq, List.getElem?_eq_getElem h2, c]))
            obtain ⟨y, hy⟩ : ∃ y, y = xs[q] := ⟨_, rfl⟩
            rw [← hy] at hck hne
            have hqN : (q : Int) < (N : Int) := by omega
            clear hy h2 hq
            by_cases h9 : k ≤ 9
            · have h9i : ¬ (9 : Int) < (k : Int) := by omega
              have HBa := Lib.hid (Below.step HB.out HB.out.size HB2.out)
              have hw1 : IntKind.i64.wrap ((j : Int) + (k : Int)) = (q : Int) := by rw [IntWalk.i64_in _ (by omega)]; have := HQ.out; omega
              go_wp2
              go_quiet (fail)
              rename_i nq
              clear hw1 hlt3
              go_wp2_with (at_builtin; refine wpList_appR rfl _ _ rfl w.heap.size w.heap.size _ _ (sayF S) [(k : Int), x] rfl rfl ((HRk.out.drewN _).alloc _) (Rd.lit2B _ _ _ _ HBa.out.size) (by have := HLS.out; simp; omega) (by have := HBa.out.size; simp; omega) ?_; intro v1 w4 hr4 hg4 hb4; rw [HSn.out] at hr4; have HR4 := Lib.hid hr4; have HB4 := Lib.hid (Below.trans ((below_drewT HBa.out _).alloc HBa.out.size _) hb4); clear hr4 hg4 hb4)
              go_roundw
              case rel => exact ⟨j + k, S ++ [(k, x)], by omega, by go_num, HSS2, HN92.out h9, HR4.out, HB4.out⟩
              case measure => simp [intOf]; omega
            · have h9i : (9 : Int) < (k : Int) := by omega
              have HBa := Lib.hid (Below.step HB.out HB.out.size HB2.out)
              have HF := Lib.hid (show n9 (strs xs) = false by
                rw [HSS2.out, ← Bool.not_eq_true, n9_iff]
                intro c
                exact h9 (c (k, x) (by simp)))
              have HO := Lib.hid (show okT xs = false by rw [HOT.out, HF.out, Bool.false_and])
              have HL0 := Lib.hid (show LT9 xs = [] by unfold LT9; rw [HF.out]; rfl)
              have hw1 : IntKind.i64.wrap ((j : Int) + (k : Int)) = (q : Int) := by rw [IntWalk.i64_in _ (by omega)]; have := HQ.out; omega
              go_wp2
              go_quiet (fail)
              rename_i nq
              clear hw1 hlt3
              go_wp2
              go_ret2
              exact ⟨_, by rw [HO.out]; rfl, by rw [HL0.out]; exact Rd.nil _ _, below_drewT HBa.out _⟩
          · have hlt3 : decide ((q : Int) < (N : Int)) = false := decide_eq_false (by omega)
            clear hq
            by_cases h9 : k ≤ 9
            · have h9i : ¬ (9 : Int) < (k : Int) := by omega
              have HBa := Lib.hid (Below.step HB.out HB.out.size HB2.out)
              have hw1 : IntKind.i64.wrap ((j : Int) + (k : Int)) = (q : Int) := by rw [IntWalk.i64_in _ (by omega)]; have := HQ.out; omega
              go_wp2
              go_quiet (fail)
              rename_i nq
              clear hw1 hlt3
              go_wp2_with (at_builtin; refine wpList_appR rfl _ _ rfl w.heap.size w.heap.size _ _ (sayF S) [(k : Int), x] rfl rfl ((HRk.out.drewN _).alloc _) (Rd.lit2B _ _ _ _ HBa.out.size) (by have := HLS.out; simp; omega) (by have := HBa.out.size; simp; omega) ?_; intro v1 w4 hr4 hg4 hb4; rw [HSn.out] at hr4; have HR4 := Lib.hid hr4; have HB4 := Lib.hid (Below.trans ((below_drewT HBa.out _).alloc HBa.out.size _) hb4); clear hr4 hg4 hb4)
              go_roundw
              case rel => exact ⟨j + k, S ++ [(k, x)], by omega, by go_num, HSS2, HN92.out h9, HR4.out, HB4.out⟩
              case measure => simp [intOf]; omega
            · have h9i : (9 : Int) < (k : Int) := by omega
              have HBa := Lib.hid (Below.step HB.out HB.out.size HB2.out)
              have HF := Lib.hid (show n9 (strs xs) = false by
                rw [HSS2.out, ← Bool.not_eq_true, n9_iff]
                intro c
                exact h9 (c (k, x) (by simp)))
              have HO := Lib.hid (show okT xs = false by rw [HOT.out, HF.out, Bool.false_and])
              have HL0 := Lib.hid (show LT9 xs = [] by unfold LT9; rw [HF.out]; rfl)
              have hw1 : IntKind.i64.wrap ((j : Int) + (k : Int)) = (q : Int) := by rw [IntWalk.i64_in _ (by omega)]; have := HQ.out; omega
              go_wp2
              go_quiet (fail)
              rename_i nq
              clear hw1 hlt3
              go_wp2
              go_ret2
              exact ⟨_, by rw [HO.out]; rfl, by rw [HL0.out]; exact Rd.nil _ _, below_drewT HBa.out _⟩
    · obtain rfl : j = N := by omega
      have HE := Lib.hid (show strs xs = S by
        have := HSS.out
        rw [List.drop_eq_nil_of_le (by have := HN.out; omega)] at this
        rw [this]
        simp [strs])
      have HL := Lib.hid (sayF_len S)
      obtain ⟨a5, c5, rfl⟩ := HR.out.sl.len
      obtain ⟨L, hL⟩ : ∃ L, L = (sayF S).length := ⟨_, rfl⟩
      have HLX := Lib.hid hL
      rw [← hL] at HR HL ⊢
      have hLb : L ≤ 4000 := by have := HL.out; omega
      have HO := Lib.hid (show okT xs = decide ((L : Int) ≤ 400) by
        rw [HOT.out, HSY.out, HE.out, HN9.out, Bool.true_and, ← HLX.out]
        exact decide_eq_decide.2 (by omega))
      have HR2 := Lib.hid (show LT9 xs = sayF S by unfold LT9; rw [HSY.out, HE.out, if_pos HN9.out])
      clear hL
      go_wp2
      go_ret2
      exact ⟨_, by rw [HO.out]; rfl, by rw [HR2.out]; exact HR.out, HB.out⟩

end Go.Proofs.Ytmdjmbmkgboeaaa
