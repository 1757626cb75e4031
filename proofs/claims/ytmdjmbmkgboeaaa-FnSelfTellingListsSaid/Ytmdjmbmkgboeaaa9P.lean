/-
  Runs of said lists: long stretches, the program's and the model's runs.
-/
import Derived.Test.Ytmdjmbmkgboeaaa9O
import Derived.Test.Ytmdjmbmkgboeaaa8L
namespace Go.Proofs.Ytmdjmbmkgboeaaa
open Go.RowKit
set_option linter.unusedVariables false
set_option linter.unusedSimpArgs false
set_option maxRecDepth 100000

theorem LLi.farN {w w' : World} {B D : Nat} {v u : Value} {vs : List Value} {ls : List (List Int)} {xs : List Int} (h : LLi w B v vs ls) (hw : w.heap.size ≤ D) (hu : Rd w' D u xs) : ∀ (i : Nat) (z : Value), vs[i]? = some z → z.ownBlock = none ∨ z.ownBlock ≠ u.ownBlock := fun i z hz => by
  obtain ⟨l, hl, hr⟩ := h.rd hz
  cases ho : z.ownBlock with
  | none => exact .inl rfl
  | some q =>
    refine .inr (fun e => ?_)
    have h1 := (hr.lt q ho).2
    have h2 := (hu.lt q e.symm).1
    omega

theorem LLi.one (w : World) (B : Nat) (u : Value) (l : List Int) (hu : Rd w B u l) (hB : B ≤ w.heap.size) : LLi (w.alloc (.cells #[u] 24)) B (.slice (some ⟨w.heap.size, 0, none⟩) 1 1) [u] [l] := by
  refine ⟨Rg.lit _ _ _ _ hB, rfl, fun i z m hz hm => ?_, fun i j z y hij hz hy => ?_⟩
  · match i, hz, hm with
    | 0, hz, hm => simp at hz hm; subst hz; subst hm; exact hu.alloc _
    | i + 1, hz, hm => simp at hz
  · have := (List.getElem?_eq_some_iff.1 hy).1
    simp at this
    omega

theorem LLi.get {w : World} {B : Nat} {v : Value} {vs : List Value} {ls : List (List Int)} (h : LLi w B v vs ls) (i : Nat) (hi : i < ls.length) : ∃ u g cap, vs[i]? = some u ∧ v = .slice (some ⟨g, 0, none⟩) ls.length cap ∧ w.cell? ⟨g, i, none⟩ = some u ∧ Rd w B u ls[i] := by
  have hl := h.len
  have hz : vs[i]? = some (vs[i]'(by omega)) := by simp [show i < vs.length by omega]
  rcases h.row.cases with ⟨_, h0⟩ | ⟨g, cap, hv⟩
  · rw [h0] at hl; simp at hl; omega
  · have hrow := h.row
    rw [hv] at hrow
    refine ⟨_, g, cap, hz, by rw [hv, hl], ?_, h.at' i _ _ hz (by simp [hi])⟩
    exact hrow.at.2.2.2.2.2.1 i (by omega)


theorem n9_stS (x : Int) : ∀ S : List (Nat × Int), n9 (stS S x) = true → n9 S = true
  | [], _ => rfl
  | [(t, y)], h => by
    unfold stS at h
    rw [n9_iff] at h ⊢
    split at h
    · have := h (t + 1, y) (by simp)
      intro p hp
      simp at hp
      subst hp
      show t ≤ 9
      simp only at this
      omega
    · intro p hp
      exact h p (by simp at hp; simp [hp])
  | p :: q :: r, h => by
    rw [stS_cons p (by simp)] at h
    have h1 : n9 (stS (q :: r) x) = true := by rw [n9_iff] at h ⊢; exact fun z hz => h z (by simp [hz])
    have ih := n9_stS x (q :: r) h1
    rw [n9_iff] at h ih ⊢
    intro z hz
    rcases List.mem_cons.1 hz with rfl | hz
    · exact h z (by simp)
    · exact ih z hz
theorem n9_fold : ∀ (zs : List Int) (S : List (Nat × Int)), n9 (zs.foldl stS S) = true → n9 S = true
  | [], S, h => h
  | z :: zs, S, h => n9_stS z S (n9_fold zs (stS S z) h)
theorem n9_take {xs : List Int} (h : n9 (strs xs) = true) (k : Nat) : n9 (strs (xs.take k)) = true := by
  have e : strs xs = (xs.drop k).foldl stS (strs (xs.take k)) := by
    unfold strs
    rw [← List.foldl_append, List.take_append_drop]
  rw [e] at h
  exact n9_fold _ _ h

theorem teLong_any (v : Value) (xs : List Int) (w : World) (hv : Sl w v xs) (hl : xs.length ≤ 5000) :
    Calls Try.prog 99 #[v] w fun e w' => e = .returned (.bool (!n9 (strs xs))) ∧ w = w' := by
  obtain ⟨a, cap, rfl, hx⟩ := hv
  have HX := Lib.hid hx
  have H0 := Lib.hid (show strs xs = strs (xs.take xs.length) by rw [List.take_of_length_le (Nat.le_refl _)])
  have HTk := Lib.hid (fun (h : n9 (strs xs) = true) k => n9_take h k)
  obtain ⟨N, hN⟩ : ∃ N, N = xs.length := ⟨_, rfl⟩
  have HN := Lib.hid hN
  rw [← hN] at H0 hl ⊢
  clear hx hN
  go_enter Try.func99, Try.ntmps99
  go_wp2
  go_loop [3, 8] (fun s i => ∃ k c : Nat, k ≤ N ∧ c ≤ 9 ∧ i = .int .i64 (k : Int) ∧ s = .int .i64 (c : Int) ∧ Hid (n9 (strs (xs.take k)) = true) ∧ Hid (k = 0 ∨ ∃ R y, strs (xs.take k) = R ++ [(c, y)])) (fun _ i => N - (intOf i).toNat)
  case atStart => exact ⟨0, 0, Nat.zero_le _, by omega, rfl, rfl, Lib.hid rfl, Lib.hid (.inl rfl)⟩
  case round =>
    obtain ⟨k, c, hk, hc9, rfl, rfl, HN9, HLast⟩ := hrel
    by_cases hlt : k < N
    · have hkx : k < xs.length := by rw [← HN.out]; exact hlt
      rcases HX.out with hx | ⟨b, off, rfl, hbk, hc⟩
      · rw [hx] at hkx; simp at hkx
      have hcell := hc k hkx
      have HC := Lib.hid hc
      clear hc
      have hlt2 : (k : Int) < (N : Int) := by omega
      by_cases h0 : k = 0 ∨ xs[k] ≠ xs[k - 1]'(by omega)
      · have HE := Lib.hid (strs_other hkx h0)
        have HN2 := Lib.hid (show n9 (strs (xs.take (k + 1))) = true by rw [HE.out, n9_app, HN9.out]; rfl)
        by_cases h1 : k = 0
        · have hk0 : ¬ (0 : Int) < (k : Int) := by omega
          clear h0 h1
          go_wp2
          go_round
          case rel => exact ⟨k + 1, 1, by omega, by omega, by go_num, rfl, HN2, Lib.hid (.inr ⟨_, _, HE.out⟩)⟩
          case measure => simp [intOf]; omega
        · have hk0 : (0 : Int) < (k : Int) := by omega
          obtain ⟨k1, hk1⟩ : ∃ k1, k = k1 + 1 := ⟨k - 1, by omega⟩
          have hkm : k - 1 = k1 := by omega
          obtain ⟨y, hy⟩ : ∃ y, y = xs[k - 1]'(by omega) := ⟨_, rfl⟩
          have hcell3 : w.cell? ⟨b, off + k1, none⟩ = some (.int .i64 y) := by
            rw [HC.out k1 (by omega), hy, get_same (by omega) (by omega) hkm]
          have hne := h0.resolve_left h1
          rw [← hy] at hne
          have hne2 : (y == xs[k]) = false := beq_no (fun e => hne e.symm)
          have hki : (k : Int) - 1 = (k1 : Int) := by omega
          have hk2 : k1 < N := by omega
          clear h0 h1 hk1 hkm hy hne
          go_wp2
          go_round
          case rel => exact ⟨k + 1, 1, by omega, by omega, by go_num, rfl, HN2, Lib.hid (.inr ⟨_, _, HE.out⟩)⟩
          case measure => simp [intOf]; omega
      · have he : xs[k] = xs[k - 1]'(by omega) := Decidable.byContradiction (fun c => h0 (.inr c))
        have hkp : k ≠ 0 := fun c => h0 (.inl c)
        obtain ⟨R, d, hR1, hR2⟩ := strs_same (by omega) hkx he
        have hcd : c = d := by
          rcases HLast.out with c0 | ⟨R2, y2, hR⟩
          · exact absurd c0 hkp
          · rw [hR1] at hR
            have h5 := List.append_inj_right' hR rfl
            simp only [List.cons.injEq, Prod.mk.injEq, and_true] at h5
            exact h5.1.symm
        subst hcd
        have HE := Lib.hid hR2
        have hk0 : (0 : Int) < (k : Int) := by omega
        obtain ⟨k1, hk1⟩ : ∃ k1, k = k1 + 1 := ⟨k - 1, by omega⟩
        have hkm : k - 1 = k1 := by omega
        obtain ⟨y, hy⟩ : ∃ y, y = xs[k - 1]'(by omega) := ⟨_, rfl⟩
        have hcell3 : w.cell? ⟨b, off + k1, none⟩ = some (.int .i64 y) := by
          rw [HC.out k1 (by omega), hy, get_same (by omega) (by omega) hkm]
        rw [← hy] at he
        have hne2 : (y == xs[k]) = true := beq_yes he.symm
        have hki : (k : Int) - 1 = (k1 : Int) := by omega
        have hk2 : k1 < N := by omega
        have HR1 := Lib.hid hR1
        clear h0 he hkp hR1 hR2 hk1 hkm hy
        by_cases h9 : c + 1 ≤ 9
        · have h9i : ¬ (9 : Int) < (c : Int) + 1 := by omega
          have HN2 := Lib.hid (show n9 (strs (xs.take (k + 1))) = true by
            have h5 := HN9.out
            rw [HR1.out, n9_app] at h5
            simp only [Bool.and_eq_true] at h5
            rw [HE.out, n9_app, h5.1]
            simp [n9, h9])
          go_wp2
          go_round
          case rel => exact ⟨k + 1, c + 1, by omega, by omega, by go_num, by go_num, HN2, Lib.hid (.inr ⟨_, _, HE.out⟩)⟩
          case measure => simp [intOf]; omega
        · have h9i : (9 : Int) < (c : Int) + 1 := by omega
          have HF := Lib.hid (show (!n9 (strs xs)) = true by
            cases hq : n9 (strs xs) with
            | false => rfl
            | true =>
              have h5 := HTk.out hq (k + 1)
              rw [HE.out, n9_iff] at h5
              exact absurd (h5 (c + 1, xs[k]) (by simp)) h9)
          go_wp2
          go_ret
          exact ⟨ret_bool HF.out.symm, rfl⟩
    · obtain rfl : k = N := by omega
      have hlt2 : ¬ (k : Int) < (k : Int) := by omega
      have HF := Lib.hid (show (!n9 (strs xs)) = false by rw [H0.out, HN9.out]; rfl)
      go_wp2
      go_ret
      exact ⟨ret_bool HF.out.symm, rfl⟩

end Go.Proofs.Ytmdjmbmkgboeaaa
