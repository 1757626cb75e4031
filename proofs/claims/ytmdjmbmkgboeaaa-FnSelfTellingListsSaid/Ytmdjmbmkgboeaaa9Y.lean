/-
  Lists that tell themselves: the answers.
-/
import Derived.Test.Ytmdjmbmkgboeaaa9X
namespace Go.Proofs.Ytmdjmbmkgboeaaa
open Go.RowKit
set_option linter.unusedVariables false
set_option linter.unusedSimpArgs false
set_option maxRecDepth 100000

def SelR (n : Int) : Prop := 1 ≤ n ∧ n ≤ 10
instance (n : Int) : Decidable (SelR n) := by unfold SelR; infer_instance
def OK_SelfTelling (n : Int) : Bool := decide (SelR n)
def LF_SelfTelling (n : Int) : List (List Int) := if SelR n then selL n.toNat else []
theorem LF_SelfTelling_bd (n : Int) : (LF_SelfTelling n).length ≤ 40000 ∧ ∀ i, (lsZ (LF_SelfTelling n) i).length ≤ 40000 := by
  unfold LF_SelfTelling
  split
  · rename_i h
    obtain ⟨h1, h2⟩ := h
    have := selL_few n.toNat (by omega) (by omega)
    refine ⟨by omega, lsZ_len (fun l hl => ?_)⟩
    have := fS_len n.toNat n.toNat [] l hl
    simp at this
    omega
  · exact ⟨by simp, fun i => by simp [lsZ]⟩
theorem SelR_no {n : Int} (h : ¬ SelR n) : OK_SelfTelling n = false ∧ LF_SelfTelling n = [] := ⟨decide_eq_false h, if_neg h⟩

theorem impl_SelfTelling (n : Int) (w : World) :
    Calls Try.prog 22 #[.int .i64 n] w fun e w' => ∃ u vs, e = .returned (.tuple #[u, .bool (OK_SelfTelling n)]) ∧ LLi w' w.heap.size u vs (LF_SelfTelling n) ∧ Below w.heap.size w w' := by
  by_cases h : SelR n
  · have HO := Lib.hid (show OK_SelfTelling n = true from decide_eq_true h)
    have HL := Lib.hid (show LF_SelfTelling n = selL n.toNat from if_pos h)
    rw [HO.out, HL.out]
    obtain ⟨h1, h2⟩ := h
    obtain ⟨N, rfl⟩ : ∃ N : Nat, n = (N : Int) := ⟨n.toNat, by omega⟩
    have HS := Lib.hid (stb_any N (by omega) (by omega) N [] N (.slice none 0 0) w.heap.size w (Rd.nil _ _) (Nat.le_refl _) (by simp) (Nat.le_refl _) (by rw [p_selL]; exact selL_few N (by omega) (by omega)))
    rw [p_selL] at HS
    simp only [Int.toNat_natCast]
    obtain ⟨L, hL⟩ : ∃ L, L = selL N := ⟨_, rfl⟩
    rw [← hL] at HS ⊢
    have n1 : ¬ (N : Int) < 1 := by omega
    have n2 : ¬ (10 : Int) < (N : Int) := by omega
    clear hL HO HL
    go_enter Try.func22, Try.ntmps22
    go_wp2_with (go_at_call 68; refine HS.out.mono ?_; rintro e w1 ⟨u, vs, rfl, hl, hg, _⟩; have HR := Lib.hid hl; have HB := Lib.hid ((Below.refl w.heap.size w).grown hg (Nat.le_refl _) (fun k hk => by cases hk)); clear hl hg)
    go_ret2
    exact ⟨_, _, rfl, HR.out, HB.out⟩
  · obtain ⟨e1, e2⟩ := SelR_no h
    rw [e1, e2]
    by_cases n1 : n < 1
    · clear h e1 e2
      go_enter Try.func22, Try.ntmps22
      go_wp2
      go_ret2
      exact ⟨_, _, rfl, LLi.nil _ _, Below.refl _ _⟩
    · have n2 : 10 < n := by unfold SelR at h; omega
      clear h e1 e2
      go_enter Try.func22, Try.ntmps22
      go_wp2
      go_ret2
      first | exact ⟨_, _, rfl, LLi.nil _ _, Below.refl _ _⟩ | exact ⟨_, rfl, ⟨_, LLi.nil _ _⟩, Below.refl _ _⟩

theorem spec_SelfTelling (n : Int) (w : World) :
    Calls Try.prog 23 #[.int .i64 n] w fun e w' => ∃ u vs, e = .returned (.tuple #[u, .bool (OK_SelfTelling n)]) ∧ LLi w' w.heap.size u vs (LF_SelfTelling n) ∧ Below w.heap.size w w' := by
  by_cases h : SelR n
  · have HO := Lib.hid (show OK_SelfTelling n = true from decide_eq_true h)
    have HL := Lib.hid (show LF_SelfTelling n = selL n.toNat from if_pos h)
    rw [HO.out, HL.out]
    obtain ⟨h1, h2⟩ := h
    obtain ⟨N, rfl⟩ : ∃ N : Nat, n = (N : Int) := ⟨n.toNat, by omega⟩
    have HS := Lib.hid (teSelf_any N (by omega) (by omega) N [] (.slice none 0 0) w.heap.size w (Rd.nil _ _) (by simp) (fun x hx => by cases hx) (by rw [m_selL]; exact selL_few N (by omega) (by omega)))
    rw [m_selL] at HS
    simp only [Int.toNat_natCast]
    obtain ⟨L, hL⟩ : ∃ L, L = selL N := ⟨_, rfl⟩
    rw [← hL] at HS ⊢
    clear hL HO HL
    go_enter Try.func23, Try.ntmps23
    go_wp2_with (first | (go_at_call 66; refine (l1In_yes _ _ _ _ h1 h2).mono ?_; rintro e wq ⟨rfl, rfl⟩) | (go_at_call 69; refine HS.out.mono ?_; rintro e w1 ⟨u, vs, rfl, hl, hb⟩; have HR := Lib.hid hl; have HB := Lib.hid hb; clear hl hb))
    go_ret2
    exact ⟨_, _, rfl, HR.out, HB.out⟩
  · obtain ⟨e1, e2⟩ := SelR_no h
    rw [e1, e2]
    have HN := Lib.hid (show n < 1 ∨ 10 < n by unfold SelR at h; omega)
    clear h e1 e2
    go_enter Try.func23, Try.ntmps23
    go_wp2_with (go_at_call 66; refine (l1In_no _ _ _ _ HN.out).mono ?_; rintro e wq ⟨rfl, rfl⟩)
    go_ret2
    exact ⟨_, _, rfl, LLi.nil _ _, Below.refl _ _⟩

end Go.Proofs.Ytmdjmbmkgboeaaa
