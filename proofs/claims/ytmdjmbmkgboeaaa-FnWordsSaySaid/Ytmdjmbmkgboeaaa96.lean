/-
  Lists that are unsaid: the program's answer, for all lists.
-/
import Derived.Test.Ytmdjmbmkgboeaaa95
namespace Go.Proofs.Ytmdjmbmkgboeaaa
open Go.RowKit Go.Shelf
set_option linter.unusedVariables false
set_option linter.unusedSimpArgs false
set_option maxRecDepth 100000

theorem impl_UnsayWord (v : Value) (xs : List Int) (B : Nat) (w : World) (h : Rd w B v xs) (hl : xs.length ≤ 1048576) :
    Calls Try.prog 12 #[v] w fun e w' => ∃ u, e = .returned (.tuple #[u, .bool (OK_UnsayWord xs)]) ∧ Rd w' w.heap.size u (LF_UnsayWord xs) ∧ Below w.heap.size w w' := by
  have HI := Lib.hid (fun w' (h : Sl w' v xs) => isToSay_any v xs w' h (by omega))
  have HV := Lib.hid h.sl
  cases hq : toSay xs with
  | false =>
    obtain ⟨e1, e2⟩ := Uns_no (ws := xs) (fun c => by have := uns_toSay c; rw [hq] at this; cases this)
    rw [e1, e2]
    rw [hq] at HI
    obtain ⟨a, cap, rfl⟩ := h.sl.len
    clear hq h e1 e2
    go_enter Try.func12, Try.ntmps12
    go_wp2_with (go_at_call 55; refine (HI.out _ HV.out).mono ?_; rintro e w1 ⟨rfl, hb⟩; have HB := Lib.hid hb; clear hb)
    go_ret2
    exact ⟨_, rfl, Rd.nil _ _, HB.out⟩
  | true =>
    by_cases he : xs.length % 2 = 0
    · have h4 : xs.length ≤ 400 := by
        rw [toSay_iff] at hq
        simp only [Bool.and_eq_true, decide_eq_true_eq] at hq
        exact hq.1
      have hin : ∀ x ∈ xs, 1 ≤ x ∧ x ≤ 9 := by
        have h5 := hq
        unfold toSay gdW at h5
        simp only [Bool.and_eq_true] at h5
        exact (allIn_iff 1 9 xs).1 h5.1.2
      obtain ⟨M, hM⟩ : ∃ M, xs.length = M + M := ⟨xs.length / 2, by omega⟩
      have hPl : (prs xs).length = M := by rw [prs_len]; omega
      obtain ⟨a, cap, hv⟩ := h.sl.len
      rw [hM] at hv
      have hPp : (List.finRange M).map (fun k : Fin M => (prs xs)[k.1]'(by rw [hPl]; exact k.2)) = prs xs := by
        apply List.ext_getElem
        · simp [hPl]
        · intro i h1 h2
          simp
      have hP : ∀ k : Fin M, (prs xs)[k.1]'(by rw [hPl]; exact k.2) = ((xs.getD (k.1 + k.1) 0).toNat, xs.getD (k.1 + k.1 + 1) 0) ∧ k.1 + k.1 + 1 < xs.length := fun k => by
        have hk := k.2
        have h5 := prs_at xs k.1 (by omega)
        rw [show 2 * k.1 = k.1 + k.1 by omega] at h5
        rw [List.getElem?_eq_getElem (by rw [hPl]; exact hk)] at h5
        exact ⟨Option.some.inj h5, by omega⟩
      have hX : ∀ j, j < xs.length → 1 ≤ xs.getD j 0 ∧ xs.getD j 0 ≤ 9 := fun j hj => hin _ (by rw [getD_at hj]; exact List.getElem_mem hj)
      rcases h.cases with ⟨h1, h2⟩ | ⟨g, cap', h1, _, hg, hlc, hcm, hcc, _⟩
      · have hM0 : M = 0 := by rw [h2] at hM; simp at hM; omega
        subst hv
        subst hM0
        exact unsay_loop B 0 0 a cap xs w h (by omega) (by omega) hq (fun L W hL hC => chunk_none 4 (L + 1) L cap a W (by omega) hC _) _ (fun k => k.elim0) hPp
      · rw [hM, hv] at h1
        simp only [Value.slice.injEq] at h1
        obtain ⟨rfl, _, rfl⟩ := h1
        subst hv
        rw [hM] at hlc
        refine unsay_loop B M g _ cap xs w h (by omega) hM hq (fun L W hL hC => ?_) _ (fun k => ?_) hPp
        · have h5 := chunk_stops 4 (L + 1) L g 0 cap M (by omega) (by omega) hlc (by unfold maxLen at hcm; exact hcm) W (by omega) hC
          simp only [Nat.zero_add] at h5
          exact h5
        · obtain ⟨h5, h6⟩ := hP k
          have b0 := hX (k.1 + k.1) (by omega)
          have c0 := hcc (k.1 + k.1) (by omega)
          have c1 := hcc (k.1 + k.1 + 1) h6
          rw [← getD_at] at c0 c1
          simp only [h5]
          refine ⟨hg, ?_, c1, by omega, by omega⟩
          rw [c0]
          congr 2
          omega
    · obtain ⟨e1, e2⟩ := Uns_no (ws := xs) (fun c => he c.2.1)
      rw [e1, e2]
      rw [hq] at HI
      obtain ⟨a, cap, rfl⟩ := h.sl.len
      obtain ⟨N, hN⟩ : ∃ N, N = xs.length := ⟨_, rfl⟩
      rw [← hN] at HI HV ⊢
      have hmod : ((N : Int) % 2 == 0) = false := beq_no (by omega)
      have hmod2 : ((N : Int) % 2 != 0) = true := by rw [bne, hmod]; rfl
      have hmod3 : (N : Int) % 2 = 1 := by omega
      clear hq h e1 e2 he hN hl
      go_enter Try.func12, Try.ntmps12
      go_wp2_with (go_at_call 55; refine (HI.out _ HV.out).mono ?_; rintro e w1 ⟨rfl, hb⟩; have HB := Lib.hid hb; clear hb)
      go_ret2
      exact ⟨_, rfl, Rd.nil _ _, HB.out⟩

end Go.Proofs.Ytmdjmbmkgboeaaa
