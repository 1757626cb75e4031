/-
  Lists that are unsaid: the model's answer.
-/
import Derived.Test.Ytmdjmbmkgboeaaa9Z
import Derived.Test.Ytmdjmbmkgboeaaa9O
namespace Go.Proofs.Ytmdjmbmkgboeaaa
open Go.RowKit
set_option linter.unusedVariables false
set_option linter.unusedSimpArgs false
set_option maxRecDepth 100000

def OK_UnsayWord (ws : List Int) : Bool := decide (Uns ws)
def LF_UnsayWord (ws : List Int) : List Int := if Uns ws then unsF (prs ws) else []
theorem LF_UnsayWord_len (ws : List Int) (h : ws.length ≤ 1048576) : (LF_UnsayWord ws).length ≤ 2000000 := by
  unfold LF_UnsayWord
  split
  · rename_i h
    rw [unsF_len]
    have := h.2.2.2
    omega
  · simp
theorem Uns_no {ws : List Int} (h : ¬ Uns ws) : OK_UnsayWord ws = false ∧ LF_UnsayWord ws = [] := ⟨decide_eq_false h, if_neg h⟩
theorem Uns_yes {ws : List Int} (h : Uns ws) : OK_UnsayWord ws = true ∧ LF_UnsayWord ws = unsF (prs ws) := ⟨decide_eq_true h, if_pos h⟩

theorem unsF_next {S : List (Nat × Int)} {k t : Nat} {v : Int} (h : S[k]? = some (t, v)) : unsF (S.take (k + 1)) = unsF (S.take k) ++ List.replicate t v := by
  rw [take_snocP h, unsF_app]
  simp [unsF]
theorem alt_next {S : List (Nat × Int)} {k : Nat} {p : Nat × Int} (h : S[k]? = some p) (ha : Alt (S.take k)) (hd : ∀ q, 0 < k → S[k - 1]? = some q → q.2 ≠ p.2) : Alt (S.take (k + 1)) := by
  rw [alt_iff] at ha ⊢
  intro j a b hj hj1
  rw [take_snocP h] at hj hj1
  have hk : k < S.length := (List.getElem?_eq_some_iff.1 h).1
  have hl : (S.take k).length = k := by rw [List.length_take]; omega
  by_cases e : j + 1 < k
  · rw [List.getElem?_append_left (by omega)] at hj hj1
    exact ha j a b hj hj1
  · by_cases e2 : j + 1 = k
    · rw [List.getElem?_append_left (by omega)] at hj
      rw [List.getElem?_append_right (by omega), hl, e2, Nat.sub_self] at hj1
      simp at hj1
      subst hj1
      refine hd a (by omega) ?_
      rw [List.getElem?_take] at hj
      split at hj
      · rw [show k - 1 = j by omega]; exact hj
      · cases hj
    · have h1 := (List.getElem?_eq_some_iff.1 hj1).1
      rw [List.length_append, hl, List.length_singleton] at h1
      omega
theorem alt_bad {S : List (Nat × Int)} {k : Nat} {p q : Nat × Int} (h0 : 0 < k) (h : S[k]? = some p) (h1 : S[k - 1]? = some q) (he : q.2 = p.2) : ¬ Alt S := fun c => by
  rw [alt_iff] at c
  exact c (k - 1) q p h1 (by rw [show k - 1 + 1 = k by omega]; exact h) he

theorem getD_at {xs : List Int} {j : Nat} (h : j < xs.length) : xs.getD j 0 = xs[j] := by simp [h]

theorem spec_UnsayWord (v : Value) (xs : List Int) (B : Nat) (w : World) (h : Rd w B v xs) (hl : xs.length ≤ 1048576) :
    Calls Try.prog 14 #[v] w fun e w' => ∃ u, e = .returned (.tuple #[u, .bool (OK_UnsayWord xs)]) ∧ Rd w' w.heap.size u (LF_UnsayWord xs) ∧ Below w.heap.size w w' := by
  have H := Lib.hid h
  have HG := Lib.hid (fun w' (h : Rd w' B v xs) => teGood_any v xs B w' h (by omega))
  have HSl := Lib.hid h.sl
  obtain ⟨a, cap, rfl⟩ := h.sl.len
  cases hg : gdW xs with
  | false =>
    obtain ⟨e1, e2⟩ := Uns_no (ws := xs) (fun c => by have := c.1; rw [hg] at this; cases this)
    rw [e1, e2]
    rw [hg] at HG
    clear hg h e1 e2
    go_enter Try.func14, Try.ntmps14
    go_wp2_with (go_at_call 57; refine (HG.out _ H.out).mono ?_; rintro e w1 ⟨rfl, rfl⟩)
    go_ret2
    exact ⟨_, rfl, Rd.nil _ _, Below.refl _ _⟩
  | true =>
    rw [hg] at HG
    have h4 : xs.length ≤ 400 := by
      unfold gdW at hg
      simp only [Bool.and_eq_true, decide_eq_true_eq] at hg
      exact hg.1
    by_cases he : xs.length % 2 = 0
    · have hin : ∀ x ∈ xs, 1 ≤ x ∧ x ≤ 9 := by
        unfold gdW at hg
        simp only [Bool.and_eq_true] at hg
        exact (allIn_iff 1 9 xs).1 hg.2
      have HIn := Lib.hid hin
      have HU := Lib.hid (show Alt (prs xs) → toT (prs xs) ≤ 400 → Uns xs from fun c d => ⟨hg, he, c, d⟩)
      have HP9 := Lib.hid (prs_in xs hin)
      obtain ⟨N, hN⟩ : ∃ N, N = xs.length := ⟨_, rfl⟩
      have HN := Lib.hid hN
      obtain ⟨M, hM⟩ : ∃ M, N = M + M := ⟨N / 2, by omega⟩
      have HM := Lib.hid hM
      have HPl := Lib.hid (show (prs xs).length = M by rw [prs_len]; omega)
      have HPa := Lib.hid (fun k (hk : k < M) => prs_at xs k (by omega))
      obtain ⟨S, hS⟩ : ∃ S, S = prs xs := ⟨_, rfl⟩
      have HS := Lib.hid hS
      rw [← hS] at HU HP9 HPl HPa
      have HT9 := Lib.hid (fun k => toT_le9 (S.take k) (fun p hp => (HP9.out p (List.mem_of_mem_take hp)).2.1))
      rw [← hN] at H HG HSl h4 ⊢
      have hmod : ((N : Int) % 2 == 1) = false := beq_no (by omega)
      have hM200 : M ≤ 200 := by omega
      clear hg h hN he hin hS hM hl
      go_enter Try.func14, Try.ntmps14
      go_wp2_with (go_at_call 57; refine (HG.out _ H.out).mono ?_; rintro e w1 ⟨rfl, rfl⟩)
      go_loopw [4, 5] (fun o i wr => ∃ k i2 : Nat, k ≤ M ∧ Hid (i2 = k + k) ∧ i2 ≤ 400 ∧ i = .int .i64 (i2 : Int) ∧ Hid (Alt (S.take k)) ∧ Rd wr w.heap.size o (unsF (S.take k)) ∧ Below w.heap.size w wr) (fun _ i _ => N - (intOf i).toNat)
      case atStart => exact ⟨0, 0, Nat.zero_le _, Lib.hid rfl, by omega, rfl, Lib.hid trivial, Rd.nil _ _, Below.refl _ _⟩
      case round =>
        obtain ⟨k, i2, hk, HI2, hi4, rfl, HAl, hr, hbl⟩ := hrel
        have HR := Lib.hid hr
        have HB := Lib.hid hbl
        clear hr hbl
        by_cases hlt : k < M
        · have hltN : (i2 : Int) < (N : Int) := by have := HI2.out; have := HM.out; omega
          have hi2N : i2 + 1 < N := by have := HI2.out; have := HM.out; omega
          have hx0 : i2 < xs.length := by rw [← HN.out]; omega
          have hx1 : i2 + 1 < xs.length := by rw [← HN.out]; omega
          have hpk := HPa.out k hlt
          rw [show 2 * k = i2 by have := HI2.out; omega] at hpk
          obtain ⟨hx9a, hx9b⟩ := HIn.out (xs.getD i2 0) (by rw [getD_at hx0]; exact List.getElem_mem hx0)
          obtain ⟨b, off, cap2, hv2, hbk, hc⟩ := HSl.out.at9 hx0
          simp only [Value.slice.injEq] at hv2
          obtain ⟨rfl, hNx, rfl⟩ := hv2
          clear hNx
          have HC := Lib.hid (fun j (hj : j < xs.length) => show w.cell? ⟨b, off + j, none⟩ = some (.int .i64 (xs.getD j 0)) by rw [getD_at hj]; exact hc j hj)
          have hc0 : wr.cell? ⟨b, off + i2, none⟩ = some (.int .i64 (xs.getD i2 0)) := (HB.out.cell (p := ⟨b, off + i2, none⟩) hbk).trans (HC.out i2 hx0)
          have hc1 : wr.cell? ⟨b, off + (i2 + 1), none⟩ = some (.int .i64 (xs.getD (i2 + 1) 0)) := (HB.out.cell (p := ⟨b, off + (i2 + 1), none⟩) hbk).trans (HC.out (i2 + 1) hx1)
          obtain ⟨t, ht⟩ : ∃ t : Nat, xs.getD i2 0 = (t : Int) := ⟨(xs.getD i2 0).toNat, by omega⟩
          obtain ⟨x, hx⟩ : ∃ x, xs.getD (i2 + 1) 0 = x := ⟨_, rfl⟩
          rw [ht] at hpk hc0 hx9a hx9b
          rw [hx] at hpk hc1
          rw [Int.toNat_natCast] at hpk
          have HPK := Lib.hid hpk
          have HNx := Lib.hid (unsF_next hpk)
          have HLn := Lib.hid (show (unsF (S.take k)).length ≤ 1800 by
            rw [unsF_len]
            have h5 := HT9.out k
            rw [List.length_take] at h5
            omega)
          have HX0 := Lib.hid hx0
          have HX1 := Lib.hid hx1
          have HT := Lib.hid ht
          have HXv := Lib.hid hx
          have ht9 : t ≤ 9 := by omega
          obtain ⟨q1, hq1⟩ : ∃ q, i2 + 1 = q := ⟨_, rfl⟩
          have hq1b : q1 ≤ 401 := by omega
          have hw1 : IntKind.i64.wrap ((i2 : Int) + 1) = (q1 : Int) := by rw [IntWalk.i64_in _ (by omega)]; omega
          have hc1q : wr.cell? ⟨b, off + q1, none⟩ = some (.int .i64 x) := by rw [← hq1]; exact hc1
          have HQ1 := Lib.hid hq1
          have hq1N : q1 < N := by omega
          clear hc hx0 hx1 ht hx hpk hq1 hx9a hx9b hi2N
          by_cases hk0 : k = 0
          · have HAl2 := Lib.hid (alt_next HPK.out HAl.out (fun q hq _ => absurd hq (by omega)))
            have hz : decide ((0 : Int) < (i2 : Int)) = false := decide_eq_false (by have := HI2.out; omega)
            have hz2 : decide (0 < i2) = false := decide_eq_false (by have := HI2.out; omega)
            rename World => wo
            clear hk0 hc1
            go_wp2
            go_quiet (fail)
            rename_i nq
            go_wp2
            go_loopw [4, 6] (fun o i wr => ∃ c : Nat, c ≤ t ∧ i = .int .i64 (c : Int) ∧ Rd wr w.heap.size o (unsF (S.take k) ++ List.replicate c x) ∧ Below w.heap.size w wr) (fun _ i _ => t - (intOf i).toNat)
            case atStart => exact ⟨0, Nat.zero_le _, rfl, by rw [List.replicate_zero, List.append_nil]; exact HR.out.drewN _, below_drewT HB.out _⟩
            case round =>
              obtain ⟨c, hct, rfl, hr, hbl⟩ := hrel
              have HR5 := Lib.hid hr
              have HB5 := Lib.hid hbl
              clear hr hbl
              have hd0 : wr.cell? ⟨b, off + i2, none⟩ = some (.int .i64 (t : Int)) := by have h5 := (HB5.out.cell (p := ⟨b, off + i2, none⟩) hbk).trans (HC.out i2 HX0.out); rw [HT.out] at h5; exact h5
              by_cases hc2 : c < t
              · have hcT : (c : Int) < (t : Int) := by omega
                have hd1 : wr.cell? ⟨b, off + q1, none⟩ = some (.int .i64 x) := by have h5 := (HB5.out.cell (p := ⟨b, off + (i2 + 1), none⟩) hbk).trans (HC.out (i2 + 1) HX1.out); rw [HXv.out, HQ1.out] at h5; exact h5
                have HRep := Lib.hid (show (unsF (S.take k) ++ List.replicate c x) ++ [x] = unsF (S.take k) ++ List.replicate (c + 1) x by rw [List.replicate_succ', List.append_assoc])
                go_wp2_with (at_builtin; refine wpList_appR rfl _ _ rfl w.heap.size w.heap.size _ _ (unsF (S.take k) ++ List.replicate c x) [x] rfl rfl (HR5.out.alloc _) (Rd.litB _ _ _ HB5.out.size) (by have := HLn.out; simp; omega) (by have := HB5.out.size; simp; omega) ?_; intro v1 w4 hr4 hg4 hb4; rw [HRep.out] at hr4; have HR6 := Lib.hid hr4; have HB6 := Lib.hid ((HB5.out.alloc HB5.out.size _).trans hb4); clear hr4 hg4 hb4)
                go_roundw
                case rel => exact ⟨c + 1, by omega, by go_num, HR6.out, HB6.out⟩
                case measure => simp [intOf]; omega
              · obtain rfl : c = t := by omega
                have hcT : ¬ (c : Int) < (c : Int) := by omega
                go_wp2
                go_roundw
                case rel => exact ⟨k + 1, i2 + 2, by omega, Lib.hid (by have := HI2.out; omega), by have := HI2.out; omega, by go_num, HAl2, by rw [HNx.out]; exact HR5.out, HB5.out⟩
                case measure => simp [intOf]; omega
          · have hi20 : 2 ≤ i2 := by have := HI2.out; omega
            have hxm : i2 - 1 < xs.length := by have := HX0.out; omega
            obtain ⟨y, hy⟩ : ∃ y, xs.getD (i2 - 1) 0 = y := ⟨_, rfl⟩
            have hpm := HPa.out (k - 1) (by omega)
            rw [show 2 * (k - 1) = i2 - 2 by have := HI2.out; omega, show i2 - 2 + 1 = i2 - 1 by omega, hy] at hpm
            obtain ⟨qm, hqm⟩ : ∃ q, i2 - 1 = q := ⟨_, rfl⟩
            have hw2 : IntKind.i64.wrap ((i2 : Int) - 1) = (qm : Int) := by rw [IntWalk.i64_in _ (by omega)]; omega
            have hcm : wr.cell? ⟨b, off + qm, none⟩ = some (.int .i64 y) := by
              have h5 := (HB.out.cell (p := ⟨b, off + (i2 - 1), none⟩) hbk).trans (HC.out (i2 - 1) hxm)
              rw [hy, hqm] at h5; exact h5
            have hqmN : qm < N := by omega
            have hz : decide ((0 : Int) < (i2 : Int)) = true := decide_eq_true (by omega)
            have hz2 : decide (0 < i2) = true := decide_eq_true (by omega)
            have HPM := Lib.hid hpm
            clear hxm hy hpm hqm hi20
            by_cases hyx : x = y
            · have hbad := alt_bad (by omega) HPK.out HPM.out (by simp only; exact hyx.symm)
              obtain ⟨e1, e2⟩ := Uns_no (ws := xs) (fun c => hbad (by rw [HS.out]; exact c.2.2.1))
              have E1 := Lib.hid e1
              have E2 := Lib.hid e2
              have heq : (x == y) = true := beq_yes hyx
              clear e1 e2 hbad hyx hk0 hc1
              go_wp2
              go_quiet (fail)
              rename_i nq
              go_wp2
              go_ret2
              exact ⟨_, by rw [E1.out]; rfl, by rw [E2.out]; exact Rd.nil _ _, below_drewT HB.out _⟩
            · have HAl2 := Lib.hid (alt_next HPK.out HAl.out (fun q _ hq => by rw [HPM.out] at hq; cases hq; exact fun e => hyx e.symm))
              have heq : (x == y) = false := beq_no hyx
              rename World => wo
              clear hk0 hyx hc1
              go_wp2
              go_quiet (fail)
              rename_i nq
              go_wp2
              go_loopw [4, 6] (fun o i wr => ∃ c : Nat, c ≤ t ∧ i = .int .i64 (c : Int) ∧ Rd wr w.heap.size o (unsF (S.take k) ++ List.replicate c x) ∧ Below w.heap.size w wr) (fun _ i _ => t - (intOf i).toNat)
              case atStart => exact ⟨0, Nat.zero_le _, rfl, by rw [List.replicate_zero, List.append_nil]; exact HR.out.drewN _, below_drewT HB.out _⟩
              case round =>
                obtain ⟨c, hct, rfl, hr, hbl⟩ := hrel
                have HR5 := Lib.hid hr
                have HB5 := Lib.hid hbl
                clear hr hbl
                have hd0 : wr.cell? ⟨b, off + i2, none⟩ = some (.int .i64 (t : Int)) := by have h5 := (HB5.out.cell (p := ⟨b, off + i2, none⟩) hbk).trans (HC.out i2 HX0.out); rw [HT.out] at h5; exact h5
                by_cases hc2 : c < t
                · have hcT : (c : Int) < (t : Int) := by omega
                  have hd1 : wr.cell? ⟨b, off + q1, none⟩ = some (.int .i64 x) := by have h5 := (HB5.out.cell (p := ⟨b, off + (i2 + 1), none⟩) hbk).trans (HC.out (i2 + 1) HX1.out); rw [HXv.out, HQ1.out] at h5; exact h5
                  have HRep := Lib.hid (show (unsF (S.take k) ++ List.replicate c x) ++ [x] = unsF (S.take k) ++ List.replicate (c + 1) x by rw [List.replicate_succ', List.append_assoc])
                  go_wp2_with (at_builtin; refine wpList_appR rfl _ _ rfl w.heap.size w.heap.size _ _ (unsF (S.take k) ++ List.replicate c x) [x] rfl rfl (HR5.out.alloc _) (Rd.litB _ _ _ HB5.out.size) (by have := HLn.out; simp; omega) (by have := HB5.out.size; simp; omega) ?_; intro v1 w4 hr4 hg4 hb4; rw [HRep.out] at hr4; have HR6 := Lib.hid hr4; have HB6 := Lib.hid ((HB5.out.alloc HB5.out.size _).trans hb4); clear hr4 hg4 hb4)
                  go_roundw
                  case rel => exact ⟨c + 1, by omega, by go_num, HR6.out, HB6.out⟩
                  case measure => simp [intOf]; omega
                · obtain rfl : c = t := by omega
                  have hcT : ¬ (c : Int) < (c : Int) := by omega
                  go_wp2
                  go_roundw
                  case rel => exact ⟨k + 1, i2 + 2, by omega, Lib.hid (by have := HI2.out; omega), by have := HI2.out; omega, by go_num, HAl2, by rw [HNx.out]; exact HR5.out, HB5.out⟩
                  case measure => simp [intOf]; omega
        · obtain rfl : k = M := by omega
          have hltN : ¬ (i2 : Int) < (N : Int) := by have := HI2.out; have := HM.out; omega
          have HSA := Lib.hid (show S.take k = S from List.take_of_length_le (by rw [HPl.out]; exact Nat.le_refl _))
          have HR2 := Lib.hid (show Rd wr w.heap.size _ (unsF S) from by have h5 := HR.out; rw [HSA.out] at h5; exact h5)
          have HA2 := Lib.hid (show Alt S by have h5 := HAl.out; rw [HSA.out] at h5; exact h5)
          have HUL := Lib.hid (unsF_len S)
          obtain ⟨L, hL⟩ : ∃ L, (unsF S).length = L := ⟨_, rfl⟩
          have hLb : L ≤ 1800 := by
            rw [← hL, HUL.out]
            have h5 := HT9.out k
            rw [HSA.out, HPl.out] at h5
            omega
          obtain ⟨a5, c5, hu5⟩ : ∃ a c, _ = Value.slice a L c := by have h5 := HR2.out.sl.len; rw [hL] at h5; exact h5
          subst hu5
          by_cases h400 : L ≤ 400
          · have hle : ¬ (400 : Int) < (L : Int) := by omega
            obtain ⟨e1, e2⟩ := Uns_yes (HU.out HA2.out (by rw [← HUL.out, hL]; exact h400))
            have E1 := Lib.hid e1
            have E2 := Lib.hid (show LF_UnsayWord xs = unsF S by rw [e2, HS.out])
            clear e1 e2 hL
            go_wp2
            go_ret2
            exact ⟨_, by rw [E1.out]; rfl, by rw [E2.out]; exact HR2.out, HB.out⟩
          · have hle : (400 : Int) < (L : Int) := by omega
            obtain ⟨e1, e2⟩ := Uns_no (ws := xs) (fun c => by
              have h5 := c.2.2.2
              rw [← HS.out, ← HUL.out, hL] at h5
              exact h400 h5)
            have E1 := Lib.hid e1
            have E2 := Lib.hid e2
            clear e1 e2 hL
            go_wp2
            go_ret2
            exact ⟨_, by rw [E1.out]; rfl, by rw [E2.out]; exact Rd.nil _ _, HB.out⟩
    · obtain ⟨e1, e2⟩ := Uns_no (ws := xs) (fun c => he c.2.1)
      rw [e1, e2]
      obtain ⟨N, hN⟩ : ∃ N, N = xs.length := ⟨_, rfl⟩
      rw [← hN] at H HG h4 ⊢
      have hmod : ((N : Int) % 2 == 1) = true := beq_yes (by omega)
      clear hg h hN he e1 e2 hl
      go_enter Try.func14, Try.ntmps14
      go_wp2_with (go_at_call 57; refine (HG.out _ H.out).mono ?_; rintro e w1 ⟨rfl, rfl⟩)
      go_ret2
      exact ⟨_, rfl, Rd.nil _ _, Below.refl _ _⟩

end Go.Proofs.Ytmdjmbmkgboeaaa
