/-
  Numbers behind short steps and words of parities: the program's and the model's answers.
-/
import Derived.Test.YtbgnieajeipllaaYE
import Derived.Test.YtbgnieajeipllaaPW
import Derived.Test.YtbgnieajeipllaaS3
import Derived.Laws.BytesArg
namespace Go.Proofs.Ytbgnieajeipllaa
open Go.RowKit
set_option linter.unusedVariables false
set_option linter.unusedSimpArgs false
set_option maxRecDepth 100000

def lenOfS : Value → Nat
  | .slice _ n _ => n
  | _ => 0
theorem lenOfS_rd {w : World} {B : Nat} {v : Value} {xs : List Int} (h : Rd w B v xs) : lenOfS v = xs.length := by
  obtain ⟨a, c, rfl⟩ := h.sl.len
  rfl

/-! The first numbers behind short steps. -/
theorem sh_done {pre : List Int} {n : Int} {X : Option (List Int)} (h : jn pre (shs 0 n) = X) : X = some pre := by
  rw [← h]; simp [shs, jn]
theorem sh_out {pre : List Int} {k : Nat} {n : Int} {X : Option (List Int)} (hn : ¬ Nst n) (h : jn pre (shs (k + 1) n) = X) : X = none := by
  rw [← h, shs_out hn]; rfl
theorem sh_next {pre : List Int} {k : Nat} {n : Int} {X : Option (List Int)} (hn : Nst n) (h : jn pre (shs (k + 1) n) = X) : jn (pre ++ [n]) (shs k (sho n)) = X := by
  rw [← h, shs_in hn, jn_cons]

/-- Where the loop of the short numbers stands: the next number, or that there is none. -/
structure At (m : Int) (ok : Bool) (r : Nat) (pre : List Int) (X : Option (List Int)) : Prop where
  yes : ok = true → Nst m ∧ jn pre (shs r m) = X
  no : ok = false → r ≠ 0 → X = none
  fin : r = 0 → X = some pre

theorem At.step {m : Int} {r : Nat} {pre : List Int} {X : Option (List Int)} (h : At m true (r + 1) pre X) (h2 : Nst (sho m)) : At (sho m) true r (pre ++ [m]) X := by
  obtain ⟨h1, h3⟩ := h.yes rfl
  have h4 := sh_next h1 h3
  exact ⟨fun _ => ⟨h2, h4⟩, fun e => (by cases e), fun e => (by subst e; exact sh_done h4)⟩
theorem At.stop {m : Int} {r : Nat} {pre : List Int} {X : Option (List Int)} (h : At m true (r + 1) pre X) (h2 : ¬ Nst (sho m)) : At 0 false r (pre ++ [m]) X := by
  obtain ⟨h1, h3⟩ := h.yes rfl
  have h4 := sh_next h1 h3
  refine ⟨fun e => (by cases e), fun _ hr => ?_, fun e => (by subst e; exact sh_done h4)⟩
  obtain ⟨q, rfl⟩ : ∃ q, r = q + 1 := ⟨r - 1, by omega⟩
  exact sh_out h2 h4

theorem shortNumbers_any (n0 : Int) (c : Nat) (w : World) (h0 : Nst n0) (hc : c ≤ 21) :
    Calls Try.prog 67 #[.int .i64 n0, .int .i64 (c : Int)] w fun e w' => ∃ v, e = .returned (.tuple #[v, .bool (shs c n0).isSome]) ∧ Rd w' w.heap.size v ((shs c n0).getD []) ∧ Below w.heap.size w w' := by
  obtain ⟨X, hX⟩ : ∃ X, X = shs c n0 := ⟨_, rfl⟩
  have HX := Lib.hid (show At n0 true c [] X from ⟨fun _ => ⟨h0, by rw [jn_nil, hX]⟩, fun e => (by cases e), fun e => (by subst e; rw [hX]; rfl)⟩)
  rw [← hX]
  clear hX h0
  go_enter Try.func67, Try.ntmps67
  go_wp2
  go_loopw [0, 6, 7] (fun i o q wr => ∃ (m : Int) (ok : Bool) (pre : List Int), i = .int .i64 m ∧ q = .bool ok ∧ pre.length ≤ c ∧ lenOfS o = pre.length ∧ Rd wr w.heap.size o pre ∧ Hid (At m ok (c - pre.length) pre X) ∧ Below w.heap.size w wr) (fun _ o _ _ => c - lenOfS o)
  case atStart => exact ⟨n0, true, [], rfl, rfl, by simp, rfl, Rd.nil _ _, Lib.hid HX.out, Below.refl _ _⟩
  case round =>
    obtain ⟨m, ok, pre, rfl, rfl, hpl, hlo, hr, HE, hbl⟩ := hrel
    have HR := Lib.hid hr
    have HB := Lib.hid hbl
    clear hr hbl
    obtain ⟨a6, c6, rfl⟩ := HR.out.sl.len
    obtain ⟨K, hK⟩ : ∃ K, K = pre.length := ⟨_, rfl⟩
    have HK := Lib.hid hK
    rw [← hK] at HR HE hpl hlo ⊢
    clear hK hlo
    by_cases hlt : K < c
    · cases ok with
      | true =>
        have hr1 := HB.out.size
        have HR1 := Lib.hid (show c - K = (c - (K + 1)) + 1 by omega)
        rw [HR1.out] at HE
        obtain ⟨hn, _⟩ := HE.out.yes rfl
        by_cases hs : Nst (sho m)
        · have HL := Lib.hid (ledS_in hn hs)
          have HA := Lib.hid (HE.out.step hs)
          obtain ⟨z, hz⟩ : ∃ z, z = sho m := ⟨_, rfl⟩
          rw [← hz] at HL HA
          clear hs hn hz
          go_wp2_with (first | (go_at_call 54; refine (lead_short _ _).mono ?_; rw [HL.out]; rintro e w1 ⟨rfl, rfl⟩) | (at_builtin; refine wpList_appR rfl _ _ rfl w.heap.size w.heap.size _ _ pre [m] rfl rfl (HR.out.alloc _) (Rd.litB _ _ _ hr1) (by have := HK.out; simp; omega) (by simp; omega) ?_; intro v1 w2 hr1' hg1 hb2; have HR2 := Lib.hid hr1'; have HB2 := Lib.hid ((HB.out.alloc hr1 _).trans hb2); clear hr1' hg1 hb2))
          go_roundw
          case rel => exact ⟨z, true, pre ++ [m], rfl, rfl, by have := HK.out; simp; omega, by rw [lenOfS_rd HR2.out], HR2.out, Lib.hid (by rw [show (pre ++ [m]).length = K + 1 by rw [HK.out]; simp]; exact HA.out), HB2.out⟩
          case measure => (rw [lenOfS_rd HR2.out]; have := HK.out; simp [lenOfS]; omega)
        · have HL := Lib.hid (ledS_out hn hs)
          have HA := Lib.hid (HE.out.stop hs)
          clear hs hn
          go_wp2_with (first | (go_at_call 54; refine (lead_short _ _).mono ?_; rw [HL.out]; rintro e w1 ⟨rfl, rfl⟩) | (at_builtin; refine wpList_appR rfl _ _ rfl w.heap.size w.heap.size _ _ pre [m] rfl rfl (HR.out.alloc _) (Rd.litB _ _ _ hr1) (by have := HK.out; simp; omega) (by simp; omega) ?_; intro v1 w2 hr1' hg1 hb2; have HR2 := Lib.hid hr1'; have HB2 := Lib.hid ((HB.out.alloc hr1 _).trans hb2); clear hr1' hg1 hb2))
          go_roundw
          case rel => exact ⟨0, false, pre ++ [m], rfl, rfl, by have := HK.out; simp; omega, by rw [lenOfS_rd HR2.out], HR2.out, Lib.hid (by rw [show (pre ++ [m]).length = K + 1 by rw [HK.out]; simp]; exact HA.out), HB2.out⟩
          case measure => (rw [lenOfS_rd HR2.out]; have := HK.out; simp [lenOfS]; omega)
      | false =>
        have HE2 := Lib.hid (HE.out.no rfl (by omega))
        go_wp2
        go_ret2
        exact ⟨_, by rw [HE2.out]; rfl, by rw [HE2.out]; exact Rd.nil _ _, HB.out⟩
    · have HE2 := Lib.hid (HE.out.fin (by omega))
      go_wp2
      go_ret2
      exact ⟨_, by rw [HE2.out]; rfl, by rw [HE2.out]; exact HR.out, HB.out⟩

theorem isWordLength_any (k : Int) (w : World) : Calls Try.prog 66 #[.int .i64 k] w fun e w' => e = .returned (.bool (decide (0 ≤ k) && decide (k ≤ 20))) ∧ w = w' := by
  by_cases h : 0 ≤ k
  · have hd := Lib.hid (show (decide (0 ≤ k) && decide (k ≤ 20)) = decide (k ≤ 20) by simp [h])
    rw [hd.out]
    go_enter Try.func66, Try.ntmps66
    go_wp2
    go_ret
    exact ⟨rfl, rfl⟩
  · have hd := Lib.hid (show (decide (0 ≤ k) && decide (k ≤ 20)) = false by simp [h])
    rw [hd.out]
    go_enter Try.func66, Try.ntmps66
    go_wp2
    go_ret
    exact ⟨rfl, rfl⟩

theorem asked_yes {n k : Int} (h : Nst n) (h0 : 0 ≤ k) (h1 : k ≤ 20) : asked n k = true := by simp [asked, h, h0, h1]
theorem asked_no1 {n k : Int} (h : ¬ Nst n) : asked n k = false := by simp [asked, h]
theorem asked_no2 {n k : Int} (h : ¬ (0 ≤ k ∧ k ≤ 20)) : asked n k = false := by
  have : (decide (0 ≤ k) && decide (k ≤ 20)) = false := by
    rw [← Bool.decide_and]; exact decide_eq_false h
  simp [asked, this]
theorem wl_no {k : Int} (h : ¬ (0 ≤ k ∧ k ≤ 20)) : (decide (0 ≤ k) && decide (k ≤ 20)) = false := by
  rw [← Bool.decide_and]; exact decide_eq_false h
theorem wl_yes {k : Int} (h0 : 0 ≤ k) (h1 : k ≤ 20) : (decide (0 ≤ k) && decide (k ≤ 20)) = true := by simp [h0, h1]

theorem stAsked_any (n k : Int) (w : World) : Calls Try.prog 64 #[.int .i64 n, .int .i64 k] w fun e w' => e = .returned (.bool (asked n k)) ∧ w = w' := by
  by_cases hn : Nst n
  · have a1 : decide (Nst n) = true := decide_eq_true hn
    by_cases hk : 0 ≤ k ∧ k ≤ 20
    · have HA := Lib.hid (asked_yes hn hk.1 hk.2)
      obtain ⟨k0, k1⟩ := hk
      clear hn
      go_enter Try.func64, Try.ntmps64
      go_wp2_with (first | (go_at_call 51; refine (stNumber_any _ _).mono ?_; rintro e w1 ⟨rfl, rfl⟩) | (go_at_call 71; refine (l1In_yes _ _ _ _ k0 k1).mono ?_; rintro e w1 ⟨rfl, rfl⟩))
      go_ret
      exact ⟨ret_bool (by rw [HA.out]), rfl⟩
    · have HA := Lib.hid (asked_no2 (n := n) hk)
      have h2 : k < 0 ∨ 20 < k := by omega
      clear hn hk
      go_enter Try.func64, Try.ntmps64
      go_wp2_with (first | (go_at_call 51; refine (stNumber_any _ _).mono ?_; rintro e w1 ⟨rfl, rfl⟩) | (go_at_call 71; refine (l1In_no _ _ _ _ h2).mono ?_; rintro e w1 ⟨rfl, rfl⟩))
      go_ret
      exact ⟨ret_bool (by rw [HA.out]), rfl⟩
  · have a1 : decide (Nst n) = false := decide_eq_false hn
    have HA := Lib.hid (asked_no1 (k := k) hn)
    clear hn
    go_enter Try.func64, Try.ntmps64
    go_wp2_with (go_at_call 51; refine (stNumber_any _ _).mono ?_; rintro e w1 ⟨rfl, rfl⟩)
    go_ret
    exact ⟨ret_bool (by rw [HA.out]), rfl⟩

/-- The program's short numbers, as a letter. -/
theorem short_impl {n : Int} {c : Nat} {X : Option (List Int)} (hn : Nst n) (hc : c ≤ 21) (h : shs c n = X) {k : Int} (hk : k = (c : Int)) (w : World) :
    Calls Try.prog 67 #[.int .i64 n, .int .i64 k] w fun e w' => ∃ v, e = .returned (.tuple #[v, .bool X.isSome]) ∧ Rd w' w.heap.size v (X.getD []) ∧ Below w.heap.size w w' := by
  subst hk
  rw [← h]; exact shortNumbers_any n c w hn hc

theorem impl_AfterShort (n k : Int) (w : World) :
    Calls Try.prog 35 #[.int .i64 n, .int .i64 k] w fun e w' => e = .returned (optRes (RAfterShort n k)) ∧ Below w.heap.size w w' := by
  by_cases hn : Nst n
  · have a1 : decide (Nst n) = true := decide_eq_true hn
    by_cases hk : 0 ≤ k ∧ k ≤ 20
    · have A2 := Lib.hid (wl_yes hk.1 hk.2)
      obtain ⟨c, rfl⟩ : ∃ c : Nat, k = (c : Int) := ⟨k.toNat, by omega⟩
      have hc : c ≤ 20 := by omega
      have hc1 : ((c : Int) + 1) = ((c + 1 : Nat) : Int) := by omega
      have HR0 := Lib.hid (show RAfterShort n (c : Int) = (shs (c + 1) n).map (fun _ => shN c n) by rw [RAfterShort, if_pos (asked_yes hn hk.1 hk.2)]; rfl)
      obtain ⟨X, hX⟩ : ∃ X, shs (c + 1) n = X := ⟨_, rfl⟩
      have HW := Lib.hid (fun w' => short_impl hn (by omega) hX (k := (c : Int) + 1) hc1 w')
      cases X with
      | none =>
        have HS := Lib.hid (show RAfterShort n (c : Int) = none by rw [HR0.out, hX]; rfl)
        clear hX hk hn hc1 HR0
        go_enter Try.func35, Try.ntmps35
        go_wp2_with (first | (go_at_call 57; refine (isStart_any _ _).mono ?_; rintro e w1 ⟨rfl, rfl⟩) | (go_at_call 66; refine (isWordLength_any _ _).mono ?_; rw [A2.out]; rintro e w1 ⟨rfl, rfl⟩) | (go_at_call 67; refine (HW.out _).mono ?_; rintro e w1 ⟨v, rfl, hr, hb⟩; have HB := Lib.hid hb; clear hr hb))
        go_ret2
        exact ⟨by rw [HS.out]; rfl, HB.out⟩
      | some l =>
        have HS := Lib.hid (show RAfterShort n (c : Int) = some (shN c n) by rw [HR0.out, hX]; rfl)
        have hll := (shs_len _ _ _ hX).1
        have hat := shs_at _ _ _ hX
        have hlt : c < l.length := by omega
        have HLL := Lib.hid hll
        have HAT := Lib.hid (show l[c]'hlt = shN c n by rw [List.getElem?_eq_getElem hlt] at hat; simpa using hat)
        clear hX hk hn hc1 HR0 hll hat
        go_enter Try.func35, Try.ntmps35
        go_wp2_with (first | (go_at_call 57; refine (isStart_any _ _).mono ?_; rintro e w1 ⟨rfl, rfl⟩) | (go_at_call 66; refine (isWordLength_any _ _).mono ?_; rw [A2.out]; rintro e w1 ⟨rfl, rfl⟩))
        refine (HW.out _).mono ?_
        rintro e w1 ⟨v, rfl, hr, hb⟩
        have HB := Lib.hid hb
        obtain ⟨g5, c5, rfl⟩ : ∃ g cap, v = .slice (some ⟨g, 0, none⟩) l.length cap := by
          rcases hr.cases with ⟨_, hx⟩ | ⟨g, cap, hu, _⟩
          · simp only [Option.getD_some] at hx
            rw [hx] at hlt
            simp at hlt
          · exact ⟨g, cap, hu⟩
        have hcell : w1.cell? ⟨g5, c, none⟩ = some (.int .i64 (l[c]'hlt)) := hr.at.2.2.2.2.1 c hlt
        rw [HAT.out] at hcell
        clear hr hb
        go_wp2
        go_ret2
        exact ⟨by rw [HS.out]; rfl, HB.out⟩
    · have A2 := Lib.hid (wl_no hk)
      have HS := Lib.hid (show RAfterShort n k = none by rw [RAfterShort, asked_no2 hk]; rfl)
      clear hn hk
      go_enter Try.func35, Try.ntmps35
      go_wp2_with (first | (go_at_call 57; refine (isStart_any _ _).mono ?_; rintro e w1 ⟨rfl, rfl⟩) | (go_at_call 66; refine (isWordLength_any _ _).mono ?_; rw [A2.out]; rintro e w1 ⟨rfl, rfl⟩))
      go_ret2
      exact ⟨by rw [HS.out]; rfl, Below.refl _ _⟩
  · have a1 : decide (Nst n) = false := decide_eq_false hn
    have HS := Lib.hid (show RAfterShort n k = none by rw [RAfterShort, asked_no1 hn]; rfl)
    clear hn
    go_enter Try.func35, Try.ntmps35
    go_wp2_with (go_at_call 57; refine (isStart_any _ _).mono ?_; rintro e w1 ⟨rfl, rfl⟩)
    go_ret2
    exact ⟨by rw [HS.out]; rfl, Below.refl _ _⟩

end Go.Proofs.Ytbgnieajeipllaa
