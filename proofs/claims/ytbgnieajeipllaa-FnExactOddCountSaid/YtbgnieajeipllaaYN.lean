/-
  Words of parities: the program's and the model's answers.
-/
import Derived.Test.YtbgnieajeipllaaYM
import Derived.Test.YtbgnieajeipllaaYB
import Derived.OwnWalk
namespace Go.Proofs.Ytbgnieajeipllaa
open Go.RowKit
set_option linter.unusedVariables false
set_option linter.unusedSimpArgs false
set_option maxRecDepth 100000

theorem infoByte : (Try.prog.info? 5).map (fun i => (i.zero, i.size, i.bytes)) = some (some (.int .u8 0), 1, 1) := by kernel_rfl

/-- The text of letters. -/
abbrev str (l : List UInt8) : Value := .string ⟨l.toArray⟩

theorem strOne (c : UInt8) (x : Int) (h : UInt8.ofNat x.toNat = c) : strOfNums [x] = ⟨#[c]⟩ := by simp [strOfNums, h]

theorem l1Num_bit (m : Int) (q : List UInt8) (hq : q = [let1 m]) (w : World) :
    Calls Try.prog 83 #[.int .i64 (m % 2)] w fun e w' => e = .returned (str q) ∧ Below w.heap.size w w' := by
  by_cases hm : m % 2 = 0
  · rw [hm]
    have hl : q = [48] := by rw [hq]; unfold let1; rw [if_pos hm]
    have HL := Lib.hid hl
    have hcv := run_convert_bytes_arg (P := Try.prog) (w.alloc (.cells #[.int .u8 48] 5)) 49 5 Try.underlying49 Try.underlying5 w.heap.size 0 1 1 [48] rfl (fun i hi => by
      obtain rfl : i = 0 := by omega
      simp [go_sem]) 9 Try.underlying9
    rw [strOne 48 48 rfl] at hcv
    clear hl hm hq
    go_enter Try.func83, Try.ntmps83
    go_wp2
    go_ret
    exact ⟨by rw [HL.out]; rfl, al_below _ _⟩
  · rw [show m % 2 = 1 by omega]
    have hl : q = [49] := by rw [hq]; unfold let1; rw [if_neg hm]
    have HL := Lib.hid hl
    have hcv := run_convert_bytes_arg (P := Try.prog) (w.alloc (.cells #[.int .u8 49] 5)) 49 5 Try.underlying49 Try.underlying5 w.heap.size 0 1 1 [49] rfl (fun i hi => by
      obtain rfl : i = 0 := by omega
      simp [go_sem]) 9 Try.underlying9
    rw [strOne 49 49 rfl] at hcv
    clear hl hm hq
    go_enter Try.func83, Try.ntmps83
    go_wp2
    go_ret
    exact ⟨by rw [HL.out]; rfl, al_below _ _⟩

/-- Where the model's word stands. -/
structure Wat (n0 : Int) (k : Nat) (m : Int) (r : Nat) (pre : List Int) (X : Option (List Int)) : Prop where
  yes : r ≠ 0 → Nst m ∧ jn pre (shs r m) = X
  fin : r = 0 → X = some pre
  end' : shN r m = shN k n0
theorem Wat.step {n0 m : Int} {k r : Nat} {pre : List Int} {X : Option (List Int)} (h : Wat n0 k m (r + 1) pre X) (h2 : r = 0 ∨ Nst (sho m)) : Wat n0 k (sho m) r (pre ++ [m]) X := by
  obtain ⟨h1, h3⟩ := h.yes (by omega)
  have h4 := sh_next h1 h3
  refine ⟨fun hr => ⟨h2.resolve_left hr, h4⟩, fun e => ?_, h.end'⟩
  subst e
  exact sh_done h4
theorem Wat.stop {n0 m : Int} {k r : Nat} {pre : List Int} {X : Option (List Int)} (h : Wat n0 k m (r + 1) pre X) (hr : r ≠ 0) (h2 : ¬ Nst (sho m)) : X = none := by
  obtain ⟨h1, h3⟩ := h.yes (by omega)
  have h4 := sh_next h1 h3
  obtain ⟨q, rfl⟩ : ∃ q, r = q + 1 := ⟨r - 1, by omega⟩
  exact sh_out h2 h4

/-- What the model's word tells: its letters, the number behind. -/
def wrdL (X : Option (List Int)) : List UInt8 := lts (X.getD [])
def wrdN (X : Option (List Int)) (z : Int) : Int := if X.isSome then z else 0

theorem stWord_any (n0 : Int) (c : Nat) (X : Option (List Int)) (w : World) (h0 : Nst n0) (hc : c ≤ 21) (hX : X = shs c n0) :
    Calls Try.prog 65 #[.int .i64 n0, .int .i64 (c : Int)] w fun e w' => e = .returned (.tuple #[str (wrdL X), .int .i64 (wrdN X (shN c n0)), .bool X.isSome]) ∧ Below w.heap.size w w' := by
  obtain ⟨Z, hZ⟩ : ∃ Z, Z = shN c n0 := ⟨_, rfl⟩
  have HZ := Lib.hid hZ
  have HX := Lib.hid (show Wat n0 c n0 c [] X from ⟨fun _ => ⟨h0, by rw [jn_nil, hX]⟩, fun e => (by subst e; rw [hX]; rfl), rfl⟩)
  rw [← hZ]
  clear hX h0 hZ
  go_enter Try.func65, Try.ntmps65
  go_wp2
  go_loopw [0, 7, 8] (fun i o q wr => ∃ (m : Int) (pre : List Int) (K : Nat) (l : List UInt8), i = .int .i64 m ∧ q = .int .i64 (K : Int) ∧ o = .string ⟨l.toArray⟩ ∧ K ≤ c ∧ Hid (l = lts pre) ∧ l.length = K ∧ Hid (Wat n0 c m (c - K) pre X) ∧ Below w.heap.size w wr) (fun _ _ q _ => c - (intOf q).toNat)
  case atStart => exact ⟨n0, [], 0, [], rfl, rfl, rfl, Nat.zero_le _, Lib.hid rfl, rfl, Lib.hid HX.out, Below.refl _ _⟩
  case round =>
    obtain ⟨m, pre, K, l, rfl, rfl, rfl, hK, HL, hll, HE, hbl⟩ := hrel
    have HB := Lib.hid hbl
    clear hbl
    have HLL := Lib.hid hll
    have hl40 : l.length ≤ 40 := by omega
    clear hll
    by_cases hlt : K < c
    · have HR1 := Lib.hid (show c - K = (c - (K + 1)) + 1 by omega)
      rw [HR1.out] at HE
      obtain ⟨hn, _⟩ := HE.out.yes (by omega)
      obtain ⟨q, hq⟩ : ∃ q : List UInt8, q = [let1 m] := ⟨_, rfl⟩
      have HQ := Lib.hid hq
      have hq1 : q.length ≤ 1 := by rw [hq]; simp
      have HN := Lib.hid (fun w' => l1Num_bit m q hq w')
      have HBD := Lib.hid (sho_bd hn)
      have HS := Lib.hid (fun w' => stShort_any m w' (by have := hn.1; omega) (by have := hn.2; omega))
      have m0 := hn.1
      have m1 := hn.2
      have HLT := Lib.hid (show l ++ q = lts (pre ++ [m]) by rw [HL.out, hq, lts_snoc])
      have HLQ := Lib.hid (show (l ++ q).length = K + 1 by rw [List.length_append, HLL.out, hq]; rfl)
      clear hq
      have hlast : decide ((K : Int) < (c : Int) - 1) = decide (K + 1 < c) := by
        by_cases h : K + 1 < c
        · rw [decide_eq_true h, decide_eq_true (by omega)]
        · rw [decide_eq_false h, decide_eq_false (by omega)]
      have HLA := Lib.hid hlast
      clear hlast
      by_cases hs : Nst (sho m)
      · have a1 : decide (Nst (sho m)) = true := decide_eq_true hs
        have HA := Lib.hid (HE.out.step (.inr hs))
        obtain ⟨z, hz⟩ : ∃ z, z = sho m := ⟨_, rfl⟩
        rw [← hz] at a1 HA HS
        clear hs hn hz
        go_wp2_with (first | (go_at_call 83; refine (HN.out _).mono ?_; rintro e w1 ⟨rfl, hb⟩; have HB1 := Lib.hid (Below.step HB.out HB.out.size hb); clear hb) | (go_at_call 62; refine (HS.out _).mono ?_; rintro e w2 ⟨rfl, rfl⟩) | (go_at_call 51; refine (stNumber_any _ _).mono ?_; rintro e w2 ⟨rfl, rfl⟩))
        go_roundw
        case rel => exact ⟨z, pre ++ [m], K + 1, l ++ q, rfl, by go_num, congrArg Value.string (ByteArray.ext (by simp)), by omega, Lib.hid HLT.out, HLQ.out, Lib.hid HA.out, HB1.out⟩
        case measure => simp [intOf]; omega
      · have a1 : decide (Nst (sho m)) = false := decide_eq_false hs
        by_cases hend : K + 1 < c
        · have HA := Lib.hid (HE.out.stop (by omega) hs)
          have hb1 : decide ((K : Int) < (c : Int) - 1) = true := decide_eq_true (by omega)
          obtain ⟨z, hz⟩ : ∃ z, z = sho m := ⟨_, rfl⟩
          rw [← hz] at a1 HS
          clear hs hn hz
          go_wp2_with (first | (go_at_call 83; refine (HN.out _).mono ?_; rintro e w1 ⟨rfl, hb⟩; have HB1 := Lib.hid (Below.step HB.out HB.out.size hb); clear hb) | (go_at_call 62; refine (HS.out _).mono ?_; rintro e w2 ⟨rfl, rfl⟩) | (go_at_call 51; refine (stNumber_any _ _).mono ?_; rintro e w2 ⟨rfl, rfl⟩))
          go_ret3
          exact ⟨by rw [HA.out]; rfl, HB1.out⟩
        · have HA := Lib.hid (HE.out.step (.inl (by omega)))
          have hb1 : decide ((K : Int) < (c : Int) - 1) = false := decide_eq_false (by omega)
          obtain ⟨z, hz⟩ : ∃ z, z = sho m := ⟨_, rfl⟩
          rw [← hz] at a1 HS HA
          clear hs hn hz
          go_wp2_with (first | (go_at_call 83; refine (HN.out _).mono ?_; rintro e w1 ⟨rfl, hb⟩; have HB1 := Lib.hid (Below.step HB.out HB.out.size hb); clear hb) | (go_at_call 62; refine (HS.out _).mono ?_; rintro e w2 ⟨rfl, rfl⟩) | (go_at_call 51; refine (stNumber_any _ _).mono ?_; rintro e w2 ⟨rfl, rfl⟩))
          go_roundw
          case rel => exact ⟨z, pre ++ [m], K + 1, l ++ q, rfl, by go_num, congrArg Value.string (ByteArray.ext (by simp)), by omega, Lib.hid HLT.out, HLQ.out, Lib.hid HA.out, HB1.out⟩
          case measure => simp [intOf]; omega
    · obtain rfl : K = c := by omega
      have HA := Lib.hid (HE.out.fin (by omega))
      have HM := Lib.hid (show m = Z by rw [HZ.out, ← HE.out.end', Nat.sub_self]; rfl)
      have HW := Lib.hid (show wrdL X = l by rw [HA.out, HL.out]; rfl)
      have HWN := Lib.hid (show wrdN X Z = Z by rw [HA.out]; rfl)
      have HXS := Lib.hid (show X.isSome = true by rw [HA.out]; rfl)
      go_wp2
      go_ret3
      exact ⟨by rw [HW.out, HWN.out, HXS.out, HM.out]; rfl, HB.out⟩

/-- The word's answer. -/
def RWd (n k : Int) : Option (List UInt8) := (RWord n k).map lts
def resW (o : Option (List UInt8)) : Value := .tuple #[str (o.getD []), .bool o.isSome]
theorem RWd_yes {n k : Int} {c : Nat} (h : asked n k = true) (hk : k = (c : Int)) : RWd n k = (shs c n).map lts := by
  subst hk
  rw [RWd, RWord, if_pos h, Int.toNat_natCast]
  cases shs c n with
  | none => rfl
  | some l => show some (lts (par l)) = some (lts l); rw [lts_par]
theorem RWd_no {n k : Int} (h : asked n k = false) : RWd n k = none := by
  rw [RWd, RWord, if_neg (by simp [h])]; rfl

theorem spec_ParityWord (n k : Int) (w : World) :
    Calls Try.prog 30 #[.int .i64 n, .int .i64 k] w fun e w' => e = .returned (resW (RWd n k)) ∧ Below w.heap.size w w' := by
  by_cases hn : Nst n ∧ (0 ≤ k ∧ k ≤ 20)
  · have A1 := Lib.hid (asked_yes hn.1 hn.2.1 hn.2.2)
    obtain ⟨c, rfl⟩ : ∃ c : Nat, k = (c : Int) := ⟨k.toNat, by omega⟩
    obtain ⟨X, hX⟩ : ∃ X, X = shs c n := ⟨_, rfl⟩
    have HR := Lib.hid (show RWd n (c : Int) = X.map lts by rw [RWd_yes A1.out rfl, hX])
    have HW := Lib.hid (fun w' => stWord_any n c X w' hn.1 (by omega) hX)
    obtain ⟨b, hb⟩ : ∃ b, b = asked n (c : Int) := ⟨_, rfl⟩
    clear hX hn hb
    go_enter Try.func30, Try.ntmps30
    go_wp2_with (first | (go_at_call 64; refine (stAsked_any _ _ _).mono ?_; rw [A1.out]; rintro e w1 ⟨rfl, rfl⟩) | (go_at_call 65; refine (HW.out _).mono ?_; rintro e w1 ⟨rfl, hb⟩; have HB := Lib.hid hb; clear hb))
    go_ret2
    exact ⟨by rw [HR.out]; cases X <;> rfl, HB.out⟩
  · have A1 := Lib.hid (show asked n k = false by
      by_cases h : Nst n
      · exact asked_no2 (fun h2 => hn ⟨h, h2⟩)
      · exact asked_no1 h)
    have HR := Lib.hid (RWd_no A1.out)
    clear hn
    go_enter Try.func30, Try.ntmps30
    go_wp2_with (go_at_call 64; refine (stAsked_any _ _ _).mono ?_; rw [A1.out]; rintro e w1 ⟨rfl, rfl⟩)
    go_ret2
    exact ⟨by rw [HR.out]; rfl, Below.refl _ _⟩

theorem spec_AfterShort (n k : Int) (w : World) :
    Calls Try.prog 34 #[.int .i64 n, .int .i64 k] w fun e w' => e = .returned (optRes (RAfterShort n k)) ∧ Below w.heap.size w w' := by
  by_cases hn : Nst n ∧ (0 ≤ k ∧ k ≤ 20)
  · have A1 := Lib.hid (asked_yes hn.1 hn.2.1 hn.2.2)
    obtain ⟨c, rfl⟩ : ∃ c : Nat, k = (c : Int) := ⟨k.toNat, by omega⟩
    obtain ⟨X, hX⟩ : ∃ X, X = shs c n := ⟨_, rfl⟩
    have HR0 := Lib.hid (show RAfterShort n (c : Int) = (shs (c + 1) n).map (fun _ => shN c n) by rw [RAfterShort, if_pos A1.out]; rfl)
    have HR1 := Lib.hid (shs_more c n)
    have HW := Lib.hid (fun w' => stWord_any n c X w' hn.1 (by omega) hX)
    rw [← hX] at HR1
    clear hX hn
    cases X with
    | none =>
      have HS := Lib.hid (show RAfterShort n (c : Int) = none by rw [HR0.out, HR1.out]; split <;> rfl)
      go_enter Try.func34, Try.ntmps34
      go_wp2_with (first | (go_at_call 64; refine (stAsked_any _ _ _).mono ?_; rw [A1.out]; rintro e w1 ⟨rfl, rfl⟩) | (go_at_call 65; refine (HW.out _).mono ?_; rintro e w1 ⟨rfl, hb⟩; have HB := Lib.hid hb; clear hb))
      go_ret2
      exact ⟨by rw [HS.out]; rfl, HB.out⟩
    | some l =>
      have HS := Lib.hid (show RAfterShort n (c : Int) = inN (shN c n) by
        rw [HR0.out, HR1.out]
        by_cases h : Nst (shN c n)
        · rw [if_pos h, inN_yes h]; rfl
        · rw [if_neg h, inN_no h]; rfl)
      obtain ⟨Z, hZ⟩ : ∃ Z, Z = shN c n := ⟨_, rfl⟩
      rw [← hZ] at HS HW
      clear HR0 HR1 hZ
      go_enter Try.func34, Try.ntmps34
      go_wp2_with (first | (go_at_call 64; refine (stAsked_any _ _ _).mono ?_; rw [A1.out]; rintro e w1 ⟨rfl, rfl⟩) | (go_at_call 65; refine (HW.out _).mono ?_; rw [show wrdN (some l) Z = Z from rfl]; rintro e w1 ⟨rfl, hb⟩; have HB := Lib.hid hb; clear hb) | (go_at_call 52; refine (stIf_any _ _).mono ?_; rintro e w2 ⟨rfl, rfl⟩))
      go_ret2
      exact ⟨by rw [HS.out]; rfl, HB.out⟩
  · have A1 := Lib.hid (show asked n k = false by
      by_cases h : Nst n
      · exact asked_no2 (fun h2 => hn ⟨h, h2⟩)
      · exact asked_no1 h)
    have HS := Lib.hid (show RAfterShort n k = none by rw [RAfterShort, A1.out]; rfl)
    clear hn
    go_enter Try.func34, Try.ntmps34
    go_wp2_with (go_at_call 64; refine (stAsked_any _ _ _).mono ?_; rw [A1.out]; rintro e w1 ⟨rfl, rfl⟩)
    go_ret2
    exact ⟨by rw [HS.out]; rfl, Below.refl _ _⟩

theorem law_AfterShort (n d : Int) (w : World) :
    Calls Try.prog 10 #[.int .i64 n, .int .i64 d] w fun e w' => e = .returned (.bool true) ∧ Below w.heap.size w w' := by
  go_enter Try.func10, Try.ntmps10
  go_wp2_with (first | (go_at_call 34; refine (spec_AfterShort _ _ _).mono ?_; rintro e w1 ⟨rfl, hbl⟩; have HB1 := Lib.hid hbl; clear hbl) | (go_at_call 35; refine (impl_AfterShort _ _ _).mono ?_; rintro e w2 ⟨rfl, hbl⟩; have HB2 := Lib.hid hbl; clear hbl))
  go_ret
  exact ⟨by simp, Below.step HB1.out HB1.out.size HB2.out⟩

end Go.Proofs.Ytbgnieajeipllaa
