/-
  The program's answer of CyclesOfPowers.
-/
import Derived.Test.YtejehmplebjnmaaFH
namespace Go.Proofs.Ytejehmplebjnmaa
open Go.RowKit
set_option linter.unusedVariables false
set_option linter.unusedSimpArgs false
set_option maxRecDepth 100000

def OKC (b p : Int) : Bool := decide (Bas10 b ∧ Pow p 4)
def LF_CyclesOfPowers (b p : Int) : List (List Nat) := if OKC b p = true then cycs (ps b.toNat p.toNat) (gs b.toNat p.toNat + 1) else []
theorem okc_cases (b p : Int) : (OKC b p = true ∧ ∃ B P : Nat, b = (B : Int) ∧ p = (P : Int) ∧ 2 ≤ B ∧ B ≤ 10 ∧ 1 ≤ P ∧ P ≤ 4) ∨ OKC b p = false := by
  cases h : OKC b p
  · exact .inr rfl
  · obtain ⟨h2, h3⟩ := of_decide_eq_true h
    obtain ⟨h2a, h2b⟩ := h2
    obtain ⟨h3a, h3b⟩ := h3
    exact .inl ⟨rfl, b.toNat, p.toNat, by omega, by omega, by omega, by omega, by omega, by omega⟩

theorem impl_CyclesOfPowers (b p : Int) (w : World) :
    Calls Try.prog 31 #[.int .i64 b, .int .i64 p] w fun e w' => ∃ u vs, e = .returned (.tuple #[u, .bool (OKC b p)]) ∧ LLv w' w.heap.size u vs (LF_CyclesOfPowers b p) ∧ Below w.heap.size w w' := by
  rcases okc_cases b p with ⟨hok, B, P, rfl, rfl, h1, h2, h3, h4⟩ | hn
  · have HO := Lib.hid hok
    have HL := Lib.hid (show LF_CyclesOfPowers (B : Int) (P : Int) = cycs (ps B P) (gs B P + 1) by unfold LF_CyclesOfPowers; rw [if_pos hok]; rfl)
    have a2 : decide (Bas10 (B : Int)) = true := decide_eq_true ⟨by omega, by omega⟩
    have a3 : decide (Pow (P : Int) 4) = true := decide_eq_true ⟨by omega, by omega⟩
    obtain ⟨n, hnn⟩ : ∃ n, n = gs B P + 1 := ⟨_, rfl⟩
    have HG := Lib.hid (show ∀ (g c : Nat) (w' : World), Tp w' g B P → Calls Try.prog 70 #[.slice (some ⟨g, 0, none⟩) B c] w' fun e w'' => ∃ gm cm, e = .returned (.slice (some ⟨gm, 0, none⟩) n cm) ∧ Mg w'' gm n (ps B P) ∧ Below w'.heap.size w' w'' from fun g c w' h => by rw [hnn]; exact graph_any g c B P w' h h1 h2 h3 h4)
    rw [← hnn] at HL
    clear hok hnn
    go_enter Try.func31, Try.ntmps31
    go_wp2_with (first | (go_at_call 69; refine (isSearchedBase_any _ _).mono ?_; rintro e w1 ⟨rfl, rfl⟩) | (go_at_call 56; refine (isPower_any _ _ _).mono ?_; rintro e w1 ⟨rfl, rfl⟩))
    refine (powersOf_any B P _ (by omega) (by omega) (by omega) (by omega)).mono ?_
    rintro e w1 ⟨g, c, rfl, hg, hT, hB⟩
    have HT := Lib.hid hT
    have HB := Lib.hid hB
    clear hg hT hB
    go_wp2_with fail
    refine (HG.out g c _ HT.out).mono ?_
    rintro e w2 ⟨gm, cm, rfl, hm, hb2⟩
    have HM := Lib.hid hm
    have HB2 := Lib.hid (Below.step HB.out HB.out.size hb2)
    clear hm hb2
    go_wp2_with fail
    refine (cycles_any gm n cm _ _ HM.out).mono ?_
    rintro e w3 ⟨v, vs, rfl, hv, hb3⟩
    have HV := Lib.hid (hv.mono HB2.out.size)
    have HB3 := Lib.hid (Below.step HB2.out HB2.out.size hb3)
    clear hv hb3
    go_wp2
    go_ret2
    exact ⟨_, vs, by rw [HO.out]; rfl, by rw [HL.out]; exact HV.out, HB3.out⟩
  · have HO := Lib.hid hn
    have HL := Lib.hid (show LF_CyclesOfPowers b p = [] by unfold LF_CyclesOfPowers; rw [hn]; rfl)
    have hnot := of_decide_eq_false hn
    by_cases hb : Bas10 b
    · have a2 : decide (Bas10 b) = true := decide_eq_true hb
      have a3 : decide (Pow p 4) = false := decide_eq_false (fun h => hnot ⟨hb, h⟩)
      clear hn hnot hb
      go_enter Try.func31, Try.ntmps31
      go_wp2_with (first | (go_at_call 69; refine (isSearchedBase_any _ _).mono ?_; rintro e w1 ⟨rfl, rfl⟩) | (go_at_call 56; refine (isPower_any _ _ _).mono ?_; rintro e w1 ⟨rfl, rfl⟩))
      go_ret2
      exact ⟨_, [], by rw [HO.out]; rfl, by rw [HL.out]; exact LLv.nil _ _, Below.refl _ _⟩
    · have a2 : decide (Bas10 b) = false := decide_eq_false hb
      clear hn hnot hb
      go_enter Try.func31, Try.ntmps31
      go_wp2_with (go_at_call 69; refine (isSearchedBase_any _ _).mono ?_; rintro e w1 ⟨rfl, rfl⟩)
      go_ret2
      exact ⟨_, [], by rw [HO.out]; rfl, by rw [HL.out]; exact LLv.nil _ _, Below.refl _ _⟩

/-- The lists are not too many and not too long. -/
theorem LF_CyclesOfPowers_bd (b p : Int) : (LF_CyclesOfPowers b p).length ≤ 40000 ∧ ∀ i, (lsZ (LF_CyclesOfPowers b p) i).length ≤ 40000 := by
  unfold LF_CyclesOfPowers
  rcases okc_cases b p with ⟨hok, B, P, rfl, rfl, h1, h2, h3, h4⟩ | hn
  · rw [if_pos hok]
    simp only [Int.toNat_natCast]
    have hg := gs_bd h1 h2 h3 h4
    have hi := gs_into (p := P) h1 (show B ≤ 16 by omega) h3 (show P ≤ 8 by omega)
    have hle := cycsTo_len (ps B P) (gs B P + 1) (gs B P + 1)
    refine ⟨by unfold cycs; omega, fun i => ?_⟩
    unfold lsZ
    rw [nts_len, List.getD_eq_getElem?_getD]
    cases hc : (cycs (ps B P) (gs B P + 1))[i]? with
    | none => simp
    | some l =>
      have hm := List.mem_of_getElem? hc
      unfold cycs cycsTo at hm
      rw [List.mem_map] at hm
      obtain ⟨x, hx, rfl⟩ := hm
      rw [List.mem_filter] at hx
      rw [Option.getD_some, rnd_len]
      have := (per_spec hi ((lead_iff hi).1 hx.2).1).2.1
      omega
  · rw [hn]; exact ⟨by simp, fun i => by simp [lsZ, nts]⟩

theorem offZ_bd {Z : Nat → List Int} (h : ∀ i, (Z i).length ≤ 40000) : ∀ i, 0 ≤ offZ 1 Z i ∧ offZ 1 Z i ≤ 1 + 40000 * i
  | 0 => by simp [offZ]
  | i + 1 => by
    have := offZ_bd h i
    have := h i
    simp only [offZ]
    push_cast
    omega

end Go.Proofs.Ytejehmplebjnmaa
