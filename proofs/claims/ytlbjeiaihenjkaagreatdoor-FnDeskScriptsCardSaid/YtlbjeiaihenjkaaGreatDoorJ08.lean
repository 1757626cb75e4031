/-
  Joint text of YM, YN: what each proves stands ahead of it.
-/
import Derived.Test.YtlbjeiaihenjkaaGreatDoorJ06
import Derived.Test.YtlbjeiaihenjkaaGreatDoorJ07
import Derived.Laws.BytesArg
import Derived.Test.YtlbjeiaihenjkaaGreatDoorJ05
import Derived.OwnWalk
/- from YM: Numbers behind short steps and words of parities: the program's and the model's answers.  -/
namespace Go.Proofs.YtlbjeiaihenjkaaGreatDoor
open Go.RowKit
set_option linter.unusedVariables false
set_option linter.unusedSimpArgs false
set_option maxRecDepth 100000

def lenOfS : Value → Nat
  | .slice _ n _ => n
  | _ => 0
theorem lenOfS_rd {w : World} {B : Nat} {v : Value} {xs : List Int} (h : Rd w B v xs) : lenOfS v = xs.length := by
  obtain ⟨a, c, rfl⟩ := h.sl.len
  rfl

/-! The first numbers behind short steps. -/
theorem sh_done {pre : List Int} {n : Int} {X : Option (List Int)} (h : jn pre (shs 0 n) = X) : X = some pre := by
  rw [← h]; simp [shs, jn]
theorem sh_out {pre : List Int} {k : Nat} {n : Int} {X : Option (List Int)} (hn : ¬ Nst n) (h : jn pre (shs (k + 1) n) = X) : X = none := by
  rw [← h, shs_out hn]; rfl
theorem sh_next {pre : List Int} {k : Nat} {n : Int} {X : Option (List Int)} (hn : Nst n) (h : jn pre (shs (k + 1) n) = X) : jn (pre ++ [n]) (shs k (sho n)) = X := by
  rw [← h, shs_in hn, jn_cons]

/-- Where the loop of the short numbers stands: the next number, or that there is none. -/
structure At (m : Int) (ok : Bool) (r : Nat) (pre : List Int) (X : Option (List Int)) : Prop where
  yes : ok = true → Nst m ∧ jn pre (shs r m) = X
  no : ok = false → r ≠ 0 → X = none
  fin : r = 0 → X = some pre

theorem At.step {m : Int} {r : Nat} {pre : List Int} {X : Option (List Int)} (h : At m true (r + 1) pre X) (h2 : Nst (sho m)) : At (sho m) true r (pre ++ [m]) X := by
  obtain ⟨h1, h3⟩ := h.yes rfl
  have h4 := sh_next h1 h3
  exact ⟨fun _ => ⟨h2, h4⟩, fun e => (by cases e), fun e => (by subst e; exact sh_done h4)⟩
theorem At.stop {m : Int} {r : Nat} {pre : List Int} {X : Option (List Int)} (h : At m true (r + 1) pre X) (h2 : ¬ Nst (sho m)) : At 0 false r (pre ++ [m]) X := by
  obtain ⟨h1, h3⟩ := h.yes rfl
  have h4 := sh_next h1 h3
  refine ⟨fun e => (by cases e), fun _ hr => ?_, fun e => (by subst e; exact sh_done h4)⟩
  obtain ⟨q, rfl⟩ : ∃ q, r = q + 1 := ⟨r - 1, by omega⟩
  exact sh_out h2 h4

theorem shortNumbers_any (n0 : Int) (c : Nat) (w : World) (h0 : Nst n0) (hc : c ≤ 21) :
    Calls Tryz.prog 248 #[.int .i64 n0, .int .i64 (c : Int)] w fun e w' => ∃ v, e = .returned (.tuple #[v, .bool (shs c n0).isSome]) ∧ Rd w' w.heap.size v ((shs c n0).getD []) ∧ Below w.heap.size w w' := by
  obtain ⟨X, hX⟩ : ∃ X, X = shs c n0 := ⟨_, rfl⟩
  have HX := Lib.hid (show At n0 true c [] X from ⟨fun _ => ⟨h0, by rw [jn_nil, hX]⟩, fun e => (by cases e), fun e => (by subst e; rw [hX]; rfl)⟩)
  rw [← hX]
  clear hX h0
  go_enter Tryz.func248, Tryz.ntmps248
  go_wp2
  go_loopw [0, 6, 7] (fun i o q wr => ∃ (m : Int) (ok : Bool) (pre : List Int), i = .int .i64 m ∧ q = .bool ok ∧ pre.length ≤ c ∧ lenOfS o = pre.length ∧ Rd wr w.heap.size o pre ∧ Hid (At m ok (c - pre.length) pre X) ∧ Below w.heap.size w wr) (fun _ o _ _ => c - lenOfS o)
  case atStart => exact ⟨n0, true, [], rfl, rfl, by simp, rfl, Rd.nil _ _, Lib.hid HX.out, Below.refl _ _⟩
  case round =>
    obtain ⟨m, ok, pre, rfl, rfl, hpl, hlo, hr, HE, hbl⟩ := hrel
    have HR := Lib.hid hr
    have HB := Lib.hid hbl
    clear hr hbl
    obtain ⟨a6, c6, rfl⟩ := HR.out.sl.len
    obtain ⟨K, hK⟩ : ∃ K, K = pre.length := ⟨_, rfl⟩
    have HK := Lib.hid hK
    rw [← hK] at HR HE hpl hlo ⊢
    clear hK hlo
    by_cases hlt : K < c
    · cases ok with
      | true =>
        have hr1 := HB.out.size
        have HR1 := Lib.hid (show c - K = (c - (K + 1)) + 1 by omega)
        rw [HR1.out] at HE
        obtain ⟨hn, _⟩ := HE.out.yes rfl
        by_cases hs : Nst (sho m)
        · have HL := Lib.hid (ledS_in hn hs)
          have HA := Lib.hid (HE.out.step hs)
          obtain ⟨z, hz⟩ : ∃ z, z = sho m := ⟨_, rfl⟩
          rw [← hz] at HL HA
          clear hs hn hz
          go_wp2_with (first | (go_at_call 171; refine (lead_short _ _).mono ?_; rw [HL.out]; rintro e w1 ⟨rfl, rfl⟩) | (at_builtin; refine wpList_appR rfl _ _ rfl w.heap.size w.heap.size _ _ pre [m] rfl rfl (HR.out.alloc _) (Rd.litB _ _ _ hr1) (by have := HK.out; simp; omega) (by simp; omega) ?_; intro v1 w2 hr1' hg1 hb2; have HR2 := Lib.hid hr1'; have HB2 := Lib.hid ((HB.out.alloc hr1 _).trans hb2); clear hr1' hg1 hb2))
          go_roundw
          case rel => exact ⟨z, true, pre ++ [m], rfl, rfl, by have := HK.out; simp; omega, by rw [lenOfS_rd HR2.out], HR2.out, Lib.hid (by rw [show (pre ++ [m]).length = K + 1 by rw [HK.out]; simp]; exact HA.out), HB2.out⟩
          case measure => (rw [lenOfS_rd HR2.out]; have := HK.out; simp [lenOfS]; omega)
        · have HL := Lib.hid (ledS_out hn hs)
          have HA := Lib.hid (HE.out.stop hs)
          clear hs hn
          go_wp2_with (first | (go_at_call 171; refine (lead_short _ _).mono ?_; rw [HL.out]; rintro e w1 ⟨rfl, rfl⟩) | (at_builtin; refine wpList_appR rfl _ _ rfl w.heap.size w.heap.size _ _ pre [m] rfl rfl (HR.out.alloc _) (Rd.litB _ _ _ hr1) (by have := HK.out; simp; omega) (by simp; omega) ?_; intro v1 w2 hr1' hg1 hb2; have HR2 := Lib.hid hr1'; have HB2 := Lib.hid ((HB.out.alloc hr1 _).trans hb2); clear hr1' hg1 hb2))
          go_roundw
          case rel => exact ⟨0, false, pre ++ [m], rfl, rfl, by have := HK.out; simp; omega, by rw [lenOfS_rd HR2.out], HR2.out, Lib.hid (by rw [show (pre ++ [m]).length = K + 1 by rw [HK.out]; simp]; exact HA.out), HB2.out⟩
          case measure => (rw [lenOfS_rd HR2.out]; have := HK.out; simp [lenOfS]; omega)
      | false =>
        have HE2 := Lib.hid (HE.out.no rfl (by omega))
        go_wp2
        go_ret2
        exact ⟨_, by rw [HE2.out]; rfl, by rw [HE2.out]; exact Rd.nil _ _, HB.out⟩
    · have HE2 := Lib.hid (HE.out.fin (by omega))
      go_wp2
      go_ret2
      exact ⟨_, by rw [HE2.out]; rfl, by rw [HE2.out]; exact HR.out, HB.out⟩

theorem isWordLength_any (k : Int) (w : World) : Calls Tryz.prog 247 #[.int .i64 k] w fun e w' => e = .returned (.bool (decide (0 ≤ k) && decide (k ≤ 20))) ∧ w = w' := by
  by_cases h : 0 ≤ k
  · have hd := Lib.hid (show (decide (0 ≤ k) && decide (k ≤ 20)) = decide (k ≤ 20) by simp [h])
    rw [hd.out]
    go_enter Tryz.func247, Tryz.ntmps247
    go_wp2
    go_ret
    exact ⟨rfl, rfl⟩
  · have hd := Lib.hid (show (decide (0 ≤ k) && decide (k ≤ 20)) = false by simp [h])
    rw [hd.out]
    go_enter Tryz.func247, Tryz.ntmps247
    go_wp2
    go_ret
    exact ⟨rfl, rfl⟩

theorem asked_yesY {n k : Int} (h : Nst n) (h0 : 0 ≤ k) (h1 : k ≤ 20) : asked n k = true := by simp [asked, h, h0, h1]
theorem asked_no1 {n k : Int} (h : ¬ Nst n) : asked n k = false := by simp [asked, h]
theorem asked_no2 {n k : Int} (h : ¬ (0 ≤ k ∧ k ≤ 20)) : asked n k = false := by
  have : (decide (0 ≤ k) && decide (k ≤ 20)) = false := by
    rw [← Bool.decide_and]; exact decide_eq_false h
  simp [asked, this]
theorem wl_no {k : Int} (h : ¬ (0 ≤ k ∧ k ≤ 20)) : (decide (0 ≤ k) && decide (k ≤ 20)) = false := by
  rw [← Bool.decide_and]; exact decide_eq_false h
theorem wl_yes {k : Int} (h0 : 0 ≤ k) (h1 : k ≤ 20) : (decide (0 ≤ k) && decide (k ≤ 20)) = true := by simp [h0, h1]

theorem stAsked_any (n k : Int) (w : World) : Calls Tryz.prog 159 #[.int .i64 n, .int .i64 k] w fun e w' => e = .returned (.bool (asked n k)) ∧ w = w' := by
  by_cases hn : Nst n
  · have a1 : decide (Nst n) = true := decide_eq_true hn
    by_cases hk : 0 ≤ k ∧ k ≤ 20
    · have HA := Lib.hid (asked_yesY hn hk.1 hk.2)
      obtain ⟨k0, k1⟩ := hk
      clear hn
      go_enter Tryz.func159, Tryz.ntmps159
      go_wp2_with (first | (go_at_call 147; refine (stNumber_any _ _).mono ?_; rintro e w1 ⟨rfl, rfl⟩) | (go_at_call 140; refine (l1In_yes _ _ _ _ k0 k1).mono ?_; rintro e w1 ⟨rfl, rfl⟩))
      go_ret
      exact ⟨ret_bool (by rw [HA.out]), rfl⟩
    · have HA := Lib.hid (asked_no2 (n := n) hk)
      have h2 : k < 0 ∨ 20 < k := by omega
      clear hn hk
      go_enter Tryz.func159, Tryz.ntmps159
      go_wp2_with (first | (go_at_call 147; refine (stNumber_any _ _).mono ?_; rintro e w1 ⟨rfl, rfl⟩) | (go_at_call 140; refine (l1In_no _ _ _ _ h2).mono ?_; rintro e w1 ⟨rfl, rfl⟩))
      go_ret
      exact ⟨ret_bool (by rw [HA.out]), rfl⟩
  · have a1 : decide (Nst n) = false := decide_eq_false hn
    have HA := Lib.hid (asked_no1 (k := k) hn)
    clear hn
    go_enter Tryz.func159, Tryz.ntmps159
    go_wp2_with (go_at_call 147; refine (stNumber_any _ _).mono ?_; rintro e w1 ⟨rfl, rfl⟩)
    go_ret
    exact ⟨ret_bool (by rw [HA.out]), rfl⟩

/-- The program's short numbers, as a letter. -/
theorem short_impl {n : Int} {c : Nat} {X : Option (List Int)} (hn : Nst n) (hc : c ≤ 21) (h : shs c n = X) {k : Int} (hk : k = (c : Int)) (w : World) :
    Calls Tryz.prog 248 #[.int .i64 n, .int .i64 k] w fun e w' => ∃ v, e = .returned (.tuple #[v, .bool X.isSome]) ∧ Rd w' w.heap.size v (X.getD []) ∧ Below w.heap.size w w' := by
  subst hk
  rw [← h]; exact shortNumbers_any n c w hn hc

end Go.Proofs.YtlbjeiaihenjkaaGreatDoor

/- from YN: Words of parities: the program's and the model's answers.  -/
namespace Go.Proofs.YtlbjeiaihenjkaaGreatDoor
open Go.RowKit
set_option linter.unusedVariables false
set_option linter.unusedSimpArgs false
set_option maxRecDepth 100000

theorem infoByteY : (Tryz.prog.info? 5).map (fun i => (i.zero, i.size, i.bytes)) = some (some (.int .u8 0), 1, 1) := by kernel_rfl

/-- The text of letters. -/
abbrev str (l : List UInt8) : Value := .string ⟨l.toArray⟩

theorem strOne (c : UInt8) (x : Int) (h : UInt8.ofNat x.toNat = c) : strOfNums [x] = ⟨#[c]⟩ := by simp [strOfNums, h]

theorem l1Num_bit (m : Int) (q : List UInt8) (hq : q = [let1 m]) (w : World) :
    Calls Tryz.prog 72 #[.int .i64 (m % 2)] w fun e w' => e = .returned (str q) ∧ Below w.heap.size w w' := by
  by_cases hm : m % 2 = 0
  · rw [hm]
    have hl : q = [48] := by rw [hq]; unfold let1; rw [if_pos hm]
    have HL := Lib.hid hl
    have hcv := run_convert_bytes_arg (P := Tryz.prog) (w.alloc (.cells #[.int .u8 48] 5)) 43 5 Tryz.underlying43 Tryz.underlying5 w.heap.size 0 1 1 [48] rfl (fun i hi => by
      obtain rfl : i = 0 := by omega
      simp [go_sem]) 9 Tryz.underlying9
    rw [strOne 48 48 rfl] at hcv
    clear hl hm hq
    go_enter Tryz.func72, Tryz.ntmps72
    go_wp2
    go_ret
    exact ⟨by rw [HL.out]; rfl, al_below _ _⟩
  · rw [show m % 2 = 1 by omega]
    have hl : q = [49] := by rw [hq]; unfold let1; rw [if_neg hm]
    have HL := Lib.hid hl
    have hcv := run_convert_bytes_arg (P := Tryz.prog) (w.alloc (.cells #[.int .u8 49] 5)) 43 5 Tryz.underlying43 Tryz.underlying5 w.heap.size 0 1 1 [49] rfl (fun i hi => by
      obtain rfl : i = 0 := by omega
      simp [go_sem]) 9 Tryz.underlying9
    rw [strOne 49 49 rfl] at hcv
    clear hl hm hq
    go_enter Tryz.func72, Tryz.ntmps72
    go_wp2
    go_ret
    exact ⟨by rw [HL.out]; rfl, al_below _ _⟩

/-- Where the model's word stands. -/
structure Wat (n0 : Int) (k : Nat) (m : Int) (r : Nat) (pre : List Int) (X : Option (List Int)) : Prop where
  yes : r ≠ 0 → Nst m ∧ jn pre (shs r m) = X
  fin : r = 0 → X = some pre
  end' : shN r m = shN k n0
theorem Wat.step {n0 m : Int} {k r : Nat} {pre : List Int} {X : Option (List Int)} (h : Wat n0 k m (r + 1) pre X) (h2 : r = 0 ∨ Nst (sho m)) : Wat n0 k (sho m) r (pre ++ [m]) X := by
  obtain ⟨h1, h3⟩ := h.yes (by omega)
  have h4 := sh_next h1 h3
  refine ⟨fun hr => ⟨h2.resolve_left hr, h4⟩, fun e => ?_, h.end'⟩
  subst e
  exact sh_done h4
theorem Wat.stop {n0 m : Int} {k r : Nat} {pre : List Int} {X : Option (List Int)} (h : Wat n0 k m (r + 1) pre X) (hr : r ≠ 0) (h2 : ¬ Nst (sho m)) : X = none := by
  obtain ⟨h1, h3⟩ := h.yes (by omega)
  have h4 := sh_next h1 h3
  obtain ⟨q, rfl⟩ : ∃ q, r = q + 1 := ⟨r - 1, by omega⟩
  exact sh_out h2 h4

/-- What the model's word tells: its letters, the number behind. -/
def wrdL (X : Option (List Int)) : List UInt8 := lts (X.getD [])
def wrdN (X : Option (List Int)) (z : Int) : Int := if X.isSome then z else 0

theorem stWord_any (n0 : Int) (c : Nat) (X : Option (List Int)) (w : World) (h0 : Nst n0) (hc : c ≤ 21) (hX : X = shs c n0) :
    Calls Tryz.prog 160 #[.int .i64 n0, .int .i64 (c : Int)] w fun e w' => e = .returned (.tuple #[str (wrdL X), .int .i64 (wrdN X (shN c n0)), .bool X.isSome]) ∧ Below w.heap.size w w' := by
  obtain ⟨Z, hZ⟩ : ∃ Z, Z = shN c n0 := ⟨_, rfl⟩
  have HZ := Lib.hid hZ
  have HX := Lib.hid (show Wat n0 c n0 c [] X from ⟨fun _ => ⟨h0, by rw [jn_nil, hX]⟩, fun e => (by subst e; rw [hX]; rfl), rfl⟩)
  rw [← hZ]
  clear hX h0 hZ
  go_enter Tryz.func160, Tryz.ntmps160
  go_wp2
  go_loopw [0, 7, 8] (fun i o q wr => ∃ (m : Int) (pre : List Int) (K : Nat) (l : List UInt8), i = .int .i64 m ∧ q = .int .i64 (K : Int) ∧ o = .string ⟨l.toArray⟩ ∧ K ≤ c ∧ Hid (l = lts pre) ∧ l.length = K ∧ Hid (Wat n0 c m (c - K) pre X) ∧ Below w.heap.size w wr) (fun _ _ q _ => c - (intOf q).toNat)
  case atStart => exact ⟨n0, [], 0, [], rfl, rfl, rfl, Nat.zero_le _, Lib.hid rfl, rfl, Lib.hid HX.out, Below.refl _ _⟩
  case round =>
    obtain ⟨m, pre, K, l, rfl, rfl, rfl, hK, HL, hll, HE, hbl⟩ := hrel
    have HB := Lib.hid hbl
    clear hbl
    have HLL := Lib.hid hll
    have hl40 : l.length ≤ 40 := by omega
    clear hll
    by_cases hlt : K < c
    · have HR1 := Lib.hid (show c - K = (c - (K + 1)) + 1 by omega)
      rw [HR1.out] at HE
      obtain ⟨hn, _⟩ := HE.out.yes (by omega)
      obtain ⟨q, hq⟩ : ∃ q : List UInt8, q = [let1 m] := ⟨_, rfl⟩
      have HQ := Lib.hid hq
      have hq1 : q.length ≤ 1 := by rw [hq]; simp
      have HN := Lib.hid (fun w' => l1Num_bit m q hq w')
      have HBD := Lib.hid (sho_bd hn)
      have HS := Lib.hid (fun w' => stShort_any m w' (by have := hn.1; omega) (by have := hn.2; omega))
      have m0 := hn.1
      have m1 := hn.2
      have HLT := Lib.hid (show l ++ q = lts (pre ++ [m]) by rw [HL.out, hq, lts_snoc])
      have HLQ := Lib.hid (show (l ++ q).length = K + 1 by rw [List.length_append, HLL.out, hq]; rfl)
      clear hq
      have hlast : decide ((K : Int) < (c : Int) - 1) = decide (K + 1 < c) := by
        by_cases h : K + 1 < c
        · rw [decide_eq_true h, decide_eq_true (by omega)]
        · rw [decide_eq_false h, decide_eq_false (by omega)]
      have HLA := Lib.hid hlast
      clear hlast
      by_cases hs : Nst (sho m)
      · have a1 : decide (Nst (sho m)) = true := decide_eq_true hs
        have HA := Lib.hid (HE.out.step (.inr hs))
        obtain ⟨z, hz⟩ : ∃ z, z = sho m := ⟨_, rfl⟩
        rw [← hz] at a1 HA HS
        clear hs hn hz
        go_wp2_with (first | (go_at_call 72; refine (HN.out _).mono ?_; rintro e w1 ⟨rfl, hb⟩; have HB1 := Lib.hid (Below.step HB.out HB.out.size hb); clear hb) | (go_at_call 150; refine (HS.out _).mono ?_; rintro e w2 ⟨rfl, rfl⟩) | (go_at_call 147; refine (stNumber_any _ _).mono ?_; rintro e w2 ⟨rfl, rfl⟩))
        go_roundw
        case rel => exact ⟨z, pre ++ [m], K + 1, l ++ q, rfl, by go_num, congrArg Value.string (ByteArray.ext (by simp)), by omega, Lib.hid HLT.out, HLQ.out, Lib.hid HA.out, HB1.out⟩
        case measure => simp [intOf]; omega
      · have a1 : decide (Nst (sho m)) = false := decide_eq_false hs
        by_cases hend : K + 1 < c
        · have HA := Lib.hid (HE.out.stop (by omega) hs)
          have hb1 : decide ((K : Int) < (c : Int) - 1) = true := decide_eq_true (by omega)
          obtain ⟨z, hz⟩ : ∃ z, z = sho m := ⟨_, rfl⟩
          rw [← hz] at a1 HS
          clear hs hn hz
          go_wp2_with (first | (go_at_call 72; refine (HN.out _).mono ?_; rintro e w1 ⟨rfl, hb⟩; have HB1 := Lib.hid (Below.step HB.out HB.out.size hb); clear hb) | (go_at_call 150; refine (HS.out _).mono ?_; rintro e w2 ⟨rfl, rfl⟩) | (go_at_call 147; refine (stNumber_any _ _).mono ?_; rintro e w2 ⟨rfl, rfl⟩))
          go_ret3
          exact ⟨by rw [HA.out]; rfl, HB1.out⟩
        · have HA := Lib.hid (HE.out.step (.inl (by omega)))
          have hb1 : decide ((K : Int) < (c : Int) - 1) = false := decide_eq_false (by omega)
          obtain ⟨z, hz⟩ : ∃ z, z = sho m := ⟨_, rfl⟩
          rw [← hz] at a1 HS HA
          clear hs hn hz
          go_wp2_with (first | (go_at_call 72; refine (HN.out _).mono ?_; rintro e w1 ⟨rfl, hb⟩; have HB1 := Lib.hid (Below.step HB.out HB.out.size hb); clear hb) | (go_at_call 150; refine (HS.out _).mono ?_; rintro e w2 ⟨rfl, rfl⟩) | (go_at_call 147; refine (stNumber_any _ _).mono ?_; rintro e w2 ⟨rfl, rfl⟩))
          go_roundw
          case rel => exact ⟨z, pre ++ [m], K + 1, l ++ q, rfl, by go_num, congrArg Value.string (ByteArray.ext (by simp)), by omega, Lib.hid HLT.out, HLQ.out, Lib.hid HA.out, HB1.out⟩
          case measure => simp [intOf]; omega
    · obtain rfl : K = c := by omega
      have HA := Lib.hid (HE.out.fin (by omega))
      have HM := Lib.hid (show m = Z by rw [HZ.out, ← HE.out.end', Nat.sub_self]; rfl)
      have HW := Lib.hid (show wrdL X = l by rw [HA.out, HL.out]; rfl)
      have HWN := Lib.hid (show wrdN X Z = Z by rw [HA.out]; rfl)
      have HXS := Lib.hid (show X.isSome = true by rw [HA.out]; rfl)
      go_wp2
      go_ret3
      exact ⟨by rw [HW.out, HWN.out, HXS.out, HM.out]; rfl, HB.out⟩

/-- The word's answer. -/
def RWd (n k : Int) : Option (List UInt8) := (RWord n k).map lts
def resW (o : Option (List UInt8)) : Value := .tuple #[str (o.getD []), .bool o.isSome]
theorem RWd_yes {n k : Int} {c : Nat} (h : asked n k = true) (hk : k = (c : Int)) : RWd n k = (shs c n).map lts := by
  subst hk
  rw [RWd, RWord, if_pos h, Int.toNat_natCast]
  cases shs c n with
  | none => rfl
  | some l => show some (lts (par l)) = some (lts l); rw [lts_par]
theorem RWd_no {n k : Int} (h : asked n k = false) : RWd n k = none := by
  rw [RWd, RWord, if_neg (by simp [h])]; rfl

theorem spec_ParityWord (n k : Int) (w : World) :
    Calls Tryz.prog 108 #[.int .i64 n, .int .i64 k] w fun e w' => e = .returned (resW (RWd n k)) ∧ Below w.heap.size w w' := by
  by_cases hn : Nst n ∧ (0 ≤ k ∧ k ≤ 20)
  · have A1 := Lib.hid (asked_yesY hn.1 hn.2.1 hn.2.2)
    obtain ⟨c, rfl⟩ : ∃ c : Nat, k = (c : Int) := ⟨k.toNat, by omega⟩
    obtain ⟨X, hX⟩ : ∃ X, X = shs c n := ⟨_, rfl⟩
    have HR := Lib.hid (show RWd n (c : Int) = X.map lts by rw [RWd_yes A1.out rfl, hX])
    have HW := Lib.hid (fun w' => stWord_any n c X w' hn.1 (by omega) hX)
    obtain ⟨b, hb⟩ : ∃ b, b = asked n (c : Int) := ⟨_, rfl⟩
    clear hX hn hb
    go_enter Tryz.func108, Tryz.ntmps108
    go_wp2_with (first | (go_at_call 159; refine (stAsked_any _ _ _).mono ?_; rw [A1.out]; rintro e w1 ⟨rfl, rfl⟩) | (go_at_call 160; refine (HW.out _).mono ?_; rintro e w1 ⟨rfl, hb⟩; have HB := Lib.hid hb; clear hb))
    go_ret2
    exact ⟨by rw [HR.out]; cases X <;> rfl, HB.out⟩
  · have A1 := Lib.hid (show asked n k = false by
      by_cases h : Nst n
      · exact asked_no2 (fun h2 => hn ⟨h, h2⟩)
      · exact asked_no1 h)
    have HR := Lib.hid (RWd_no A1.out)
    clear hn
    go_enter Tryz.func108, Tryz.ntmps108
    go_wp2_with (go_at_call 159; refine (stAsked_any _ _ _).mono ?_; rw [A1.out]; rintro e w1 ⟨rfl, rfl⟩)
    go_ret2
    exact ⟨by rw [HR.out]; rfl, Below.refl _ _⟩

end Go.Proofs.YtlbjeiaihenjkaaGreatDoor
