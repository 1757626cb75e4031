/-
  CountWithProduct: the answers and the law (written by wip/tools/gen_zx.py).
-/
import Derived.Test.YtedpplonclonkaaZW
import Derived.Test.YtedpplonclonkaaK
namespace Go.Proofs.Ytedpplonclonkaa
open Go.RowKit
set_option linter.unusedVariables false
set_option linter.unusedSimpArgs false
set_option maxRecDepth 100000

def RCountWithProduct (b n : Int) : Int := ((ct b.toNat n.toNat : Nat) : Int)
def ansC (n b : Int) : Option Int := if 2 ≤ n then askI RCountWithProduct n b else none

theorem countWithProduct_int (n b : Int) (w : World) (h1 : 1 ≤ n) (h2 : n ≤ 1000000000000) (hb : 2 ≤ b) (hb' : b ≤ 16) :
    Calls Try.prog 66 #[.int .i64 b, .int .i64 n] w fun e w' => e = .returned (.int .i64 (RCountWithProduct b n)) ∧ Below w.heap.size w w' := by
  obtain ⟨c, rfl⟩ : ∃ c : Nat, b = (c : Int) := ⟨b.toNat, by omega⟩
  obtain ⟨p, rfl⟩ : ∃ p : Nat, n = (p : Int) := ⟨n.toNat, by omega⟩
  exact countWithProduct_any p c w (by omega) (by omega) (by omega) (by omega)
theorem prCount_int (n b : Int) (w : World) (h1 : 1 ≤ n) (h2 : n ≤ 1000000000000) (hb : 2 ≤ b) (hb' : b ≤ 16) :
    Calls Try.prog 64 #[.int .i64 n, .int .i64 b] w fun e w' => e = .returned (.int .i64 (RCountWithProduct b n)) ∧ w = w' := by
  obtain ⟨c, rfl⟩ : ∃ c : Nat, b = (c : Int) := ⟨b.toNat, by omega⟩
  obtain ⟨p, rfl⟩ : ∃ p : Nat, n = (p : Int) := ⟨n.toNat, by omega⟩
  exact prCount_any c (by omega) (by omega) p w (by omega) (by omega)
theorem prLists_int (n b : Int) (w : World) (h1 : 1 ≤ n) (h2 : n ≤ 1000000000000) (hb : 2 ≤ b) (hb' : b ≤ 16) :
    Calls Try.prog 65 #[.int .i64 n, .int .i64 b] w fun e w' => e = .returned (.int .i64 (RCountWithProduct b n)) ∧ Below w.heap.size w w' := by
  obtain ⟨c, rfl⟩ : ∃ c : Nat, b = (c : Int) := ⟨b.toNat, by omega⟩
  obtain ⟨p, rfl⟩ : ∃ p : Nat, n = (p : Int) := ⟨n.toNat, by omega⟩
  exact prLists_any c p w (by omega) (by omega) (by omega) (by omega)

theorem tell_countWithProduct (n b : Int) (w : World) (h2 : 2 ≤ n) :
    Calls Try.prog 55 #[.int .i64 n, .int .i64 b, .func (Fn.func 66) #[] #[]] w fun e w' => e = .returned (optRes (askI RCountWithProduct n b)) ∧ Below w.heap.size w w' := by
  by_cases hn : Num n
  · have a1 : decide (Num n) = true := decide_eq_true hn
    by_cases hB : Bas b
    · have a2 : decide (Bas b) = true := decide_eq_true hB
      have hR := Lib.hid (show askI RCountWithProduct n b = some (RCountWithProduct b n) from if_pos ⟨hn, hB⟩)
      obtain ⟨n0, n1⟩ := hn
      obtain ⟨b0, b1⟩ := hB
      go_enter Try.func55, Try.ntmps55
      go_wp2_with (first | (go_at_call 89; refine (isNumber_any _ _).mono ?_; rintro e w1 ⟨rfl, rfl⟩) | (go_at_call 72; refine (isBase_any _ _).mono ?_; rintro e w1 ⟨rfl, rfl⟩) | (go_at_call 66; refine (countWithProduct_int _ _ _ (by omega) n1 b0 b1).mono ?_; rintro e w1 ⟨rfl, hbl⟩; have HB := Lib.hid hbl; clear hbl))
      go_ret2
      exact ⟨by rw [hR.out]; rfl, HB.out⟩
    · have a2 : decide (Bas b) = false := decide_eq_false hB
      have hR := Lib.hid (show askI RCountWithProduct n b = none from if_neg (fun h => hB h.2))
      clear hn hB
      go_enter Try.func55, Try.ntmps55
      go_wp2_with (first | (go_at_call 89; refine (isNumber_any _ _).mono ?_; rintro e w1 ⟨rfl, rfl⟩) | (go_at_call 72; refine (isBase_any _ _).mono ?_; rintro e w1 ⟨rfl, rfl⟩))
      go_ret2
      exact ⟨by rw [hR.out]; rfl, Below.refl _ _⟩
  · have a1 : decide (Num n) = false := decide_eq_false hn
    have hR := Lib.hid (show askI RCountWithProduct n b = none from if_neg (fun h => hn h.1))
    clear hn
    go_enter Try.func55, Try.ntmps55
    go_wp2_with (first | (go_at_call 89; refine (isNumber_any _ _).mono ?_; rintro e w1 ⟨rfl, rfl⟩) | (go_at_call 72; refine (isBase_any _ _).mono ?_; rintro e w1 ⟨rfl, rfl⟩))
    go_ret2
    exact ⟨by rw [hR.out]; rfl, Below.refl _ _⟩

theorem impl_CountWithProduct (n b : Int) (w : World) :
    Calls Try.prog 30 #[.int .i64 n, .int .i64 b] w fun e w' => e = .returned (optRes (ansC n b)) ∧ Below w.heap.size w w' := by
  by_cases h2 : 2 ≤ n
  · have hR := Lib.hid (show ansC n b = askI RCountWithProduct n b from if_pos h2)
    go_enter Try.func30, Try.ntmps30
    go_wp2_with (go_at_call 55; refine (tell_countWithProduct _ _ _ h2).mono ?_; rintro e w1 ⟨rfl, hbl⟩; have HB := Lib.hid hbl; clear hbl)
    go_ret2
    exact ⟨by rw [hR.out]; rfl, HB.out⟩
  · have hR := Lib.hid (show ansC n b = none from if_neg h2)
    have h3 : n < 2 := by omega
    clear h2
    go_enter Try.func30, Try.ntmps30
    go_wp2
    go_ret2
    exact ⟨by rw [hR.out]; rfl, Below.refl _ _⟩

theorem spec_CountWithProduct (n b : Int) (w : World) :
    Calls Try.prog 29 #[.int .i64 n, .int .i64 b] w fun e w' => e = .returned (optRes (ansC n b)) ∧ Below w.heap.size w w' := by
  by_cases hq : Num n ∧ Bas b
  · have a1 : decide (Num n ∧ Bas b) = true := decide_eq_true hq
    by_cases h2 : 2 ≤ n
    · have hR := Lib.hid (show ansC n b = some (RCountWithProduct b n) by unfold ansC; rw [if_pos h2]; exact if_pos hq)
      obtain ⟨⟨n0, n1⟩, b0, b1⟩ := hq
      by_cases h3 : n < 1000
      · go_enter Try.func29, Try.ntmps29
        go_wp2_with (first | (go_at_call 51; refine (dgAsked_any _ _ _).mono ?_; rintro e w1 ⟨rfl, rfl⟩) | (go_at_call 64; refine (prCount_int _ _ _ (by omega) n1 b0 b1).mono ?_; rintro e w2 ⟨rfl, rfl⟩))
        go_ret2
        exact ⟨by rw [hR.out]; rfl, Below.refl _ _⟩
      · go_enter Try.func29, Try.ntmps29
        go_wp2_with (first | (go_at_call 51; refine (dgAsked_any _ _ _).mono ?_; rintro e w1 ⟨rfl, rfl⟩) | (go_at_call 65; refine (prLists_int _ _ _ (by omega) n1 b0 b1).mono ?_; rintro e w2 ⟨rfl, hbl⟩; have HB := Lib.hid hbl; clear hbl))
        go_ret2
        exact ⟨by rw [hR.out]; rfl, HB.out⟩
    · have hR := Lib.hid (show ansC n b = none from if_neg h2)
      have h3 : n < 2 := by omega
      clear hq
      go_enter Try.func29, Try.ntmps29
      go_wp2_with (go_at_call 51; refine (dgAsked_any _ _ _).mono ?_; rintro e w1 ⟨rfl, rfl⟩)
      go_ret2
      exact ⟨by rw [hR.out]; rfl, Below.refl _ _⟩
  · have a1 : decide (Num n ∧ Bas b) = false := decide_eq_false hq
    have hR := Lib.hid (show ansC n b = none by unfold ansC; split; (exact if_neg hq); rfl)
    clear hq
    go_enter Try.func29, Try.ntmps29
    go_wp2_with (go_at_call 51; refine (dgAsked_any _ _ _).mono ?_; rintro e w1 ⟨rfl, rfl⟩)
    go_ret2
    exact ⟨by rw [hR.out]; rfl, Below.refl _ _⟩

theorem law_CountWithProduct (n b : Int) (w : World) :
    Calls Try.prog 7 #[.int .i64 n, .int .i64 b] w fun e w' => e = .returned (.bool true) ∧ Below w.heap.size w w' := by
  go_enter Try.func7, Try.ntmps7
  go_wp2_with (first | (go_at_call 29; refine (spec_CountWithProduct _ _ _).mono ?_; rintro e w1 ⟨rfl, hbl⟩; have HB1 := Lib.hid hbl; clear hbl) | (go_at_call 30; refine (impl_CountWithProduct _ _ _).mono ?_; rintro e w2 ⟨rfl, hbl⟩; have HB2 := Lib.hid hbl; clear hbl))
  go_ret
  exact ⟨by simp, Below.step HB1.out HB1.out.size HB2.out⟩

end Go.Proofs.Ytedpplonclonkaa
