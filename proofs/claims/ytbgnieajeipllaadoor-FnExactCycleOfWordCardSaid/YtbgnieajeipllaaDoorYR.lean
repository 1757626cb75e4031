/-
  Joint text of YD YM YN (written by wip/tools/merge.py).
-/
import Derived.Test.YtbgnieajeipllaaDoorK
import Derived.Test.YtbgnieajeipllaaDoorA
import Derived.Deep.RegionHeld3
import Derived.Test.YtbgnieajeipllaaDoorPW
import Derived.Laws.BytesArg
import Derived.Test.YtbgnieajeipllaaDoorYB
import Derived.OwnWalk
/- from XYD -/
namespace Go.Proofs.YtbgnieajeipllaaDoor
open Go.RowKit
set_option linter.unusedVariables false
set_option linter.unusedSimpArgs false
set_option maxRecDepth 100000

theorem al_below (w : World) (o : Obj) : Below w.heap.size w (w.alloc o) := (Below.refl _ _).alloc (Nat.le_refl _) o
/-- A cell that can be read stays where nothing below is written. -/
theorem Below.keeps_cell {w w' : World} (h : Below w.heap.size w w') {a : Addr} {u : Value} (hc : w.cell? a = some u) : w'.cell? a = some u := by
  have hlt : a.block < w.heap.size := by
    by_cases hl : a.block < w.heap.size
    · exact hl
    · unfold World.cell? at hc
      simp [Array.getElem?_eq_none (Nat.le_of_not_lt hl)] at hc
  rw [h.cell (p := a) hlt]
  exact hc

theorem apart_sym2 {u v : Value} (h : u.ownBlock = none ∨ u.ownBlock ≠ v.ownBlock) : v.ownBlock = none ∨ v.ownBlock ≠ u.ownBlock := by
  cases hv : v.ownBlock with
  | none => exact .inl rfl
  | some b =>
    right
    rcases h with h | h
    · rw [h]; simp
    · rw [hv] at h; exact fun e => h e.symm

theorem nst_yes {n : Int} (h1 : 1 ≤ n) (h2 : n ≤ 1000000000000) : decide (Nst n) = true := decide_eq_true (p := Nst n) ⟨h1, h2⟩
theorem nst_no {n : Int} (h : ¬ (1 ≤ n ∧ n ≤ 1000000000000)) : decide (Nst n) = false := decide_eq_false (p := Nst n) h
theorem add_yes {d : Int} (h : Add d) : decide (Add d) = true := decide_eq_true h
theorem add_no {d : Int} (h : ¬ Add d) : decide (Add d) = false := decide_eq_false h

theorem stNumber_any (n : Int) (w : World) : Calls Tryd.prog 26 #[.int .i64 n] w fun e w' => e = .returned (.bool (decide (Nst n))) ∧ w = w' := by
  by_cases h : 1 ≤ n ∧ n ≤ 1000000000000
  · have hd := Lib.hid (nst_yes h.1 h.2)
    obtain ⟨h1, h2⟩ := h
    go_enter Tryd.func26, Tryd.ntmps26
    go_wp2_with (go_at_call 34; refine (l1In_yes _ _ _ _ h1 h2).mono ?_; rintro e w1 ⟨rfl, rfl⟩)
    go_ret
    exact ⟨ret_bool (by rw [hd.out]), rfl⟩
  · have hd := Lib.hid (nst_no h)
    have h2 : n < 1 ∨ 1000000000000 < n := by omega
    clear h
    go_enter Tryd.func26, Tryd.ntmps26
    go_wp2_with (go_at_call 34; refine (l1In_no _ _ _ _ h2).mono ?_; rintro e w1 ⟨rfl, rfl⟩)
    go_ret
    exact ⟨ret_bool (by rw [hd.out]), rfl⟩

abbrev shortV : Value := .func (.func 21) #[] #[]

theorem shortStep_any (n : Int) (w : World) (h0 : 0 ≤ n) (h1 : n ≤ 3000000000000) :
    Calls Tryd.prog 21 #[.int .i64 n] w fun e w' => e = .returned (.int .i64 (sho n)) ∧ w = w' := by
  by_cases hm : n % 2 = 0
  · have HS := Lib.hid (sho_even hm)
    rw [HS.out]
    go_enter Tryd.func21, Tryd.ntmps21
    go_wp2
    go_ret
    exact ⟨by first | rfl | go_num, rfl⟩
  · have HS := Lib.hid (sho_odd hm)
    rw [HS.out]
    go_enter Tryd.func21, Tryd.ntmps21
    go_wp2
    go_ret
    exact ⟨by first | rfl | go_num, rfl⟩

theorem stShort_any (n : Int) (w : World) (h0 : 0 ≤ n) (h1 : n ≤ 3000000000000) :
    Calls Tryd.prog 25 #[.int .i64 n] w fun e w' => e = .returned (.int .i64 (sho n)) ∧ w = w' := by
  by_cases hm : n % 2 = 0
  · have HS := Lib.hid (sho_even hm)
    rw [HS.out]
    go_enter Tryd.func25, Tryd.ntmps25
    go_wp2
    go_ret
    exact ⟨by first | rfl | go_num, rfl⟩
  · have HS := Lib.hid (sho_odd hm)
    rw [HS.out]
    go_enter Tryd.func25, Tryd.ntmps25
    go_wp2
    go_ret
    exact ⟨by first | rfl | go_num, rfl⟩

end Go.Proofs.YtbgnieajeipllaaDoor

/- from XYM -/
namespace Go.Proofs.YtbgnieajeipllaaDoor
open Go.RowKit
set_option linter.unusedVariables false
set_option linter.unusedSimpArgs false
set_option maxRecDepth 100000

def lenOfS : Value → Nat
  | .slice _ n _ => n
  | _ => 0
theorem lenOfS_rd {w : World} {B : Nat} {v : Value} {xs : List Int} (h : Rd w B v xs) : lenOfS v = xs.length := by
  obtain ⟨a, c, rfl⟩ := h.sl.len
  rfl

/-! The first numbers behind short steps. -/
theorem sh_done {pre : List Int} {n : Int} {X : Option (List Int)} (h : jn pre (shs 0 n) = X) : X = some pre := by
  rw [← h]; simp [shs, jn]
theorem sh_out {pre : List Int} {k : Nat} {n : Int} {X : Option (List Int)} (hn : ¬ Nst n) (h : jn pre (shs (k + 1) n) = X) : X = none := by
  rw [← h, shs_out hn]; rfl
theorem sh_next {pre : List Int} {k : Nat} {n : Int} {X : Option (List Int)} (hn : Nst n) (h : jn pre (shs (k + 1) n) = X) : jn (pre ++ [n]) (shs k (sho n)) = X := by
  rw [← h, shs_in hn, jn_cons]

/-- Where the loop of the short numbers stands: the next number, or that there is none. -/
structure At (m : Int) (ok : Bool) (r : Nat) (pre : List Int) (X : Option (List Int)) : Prop where
  yes : ok = true → Nst m ∧ jn pre (shs r m) = X
  no : ok = false → r ≠ 0 → X = none
  fin : r = 0 → X = some pre

theorem At.step {m : Int} {r : Nat} {pre : List Int} {X : Option (List Int)} (h : At m true (r + 1) pre X) (h2 : Nst (sho m)) : At (sho m) true r (pre ++ [m]) X := by
  obtain ⟨h1, h3⟩ := h.yes rfl
  have h4 := sh_next h1 h3
  exact ⟨fun _ => ⟨h2, h4⟩, fun e => (by cases e), fun e => (by subst e; exact sh_done h4)⟩
theorem At.stop {m : Int} {r : Nat} {pre : List Int} {X : Option (List Int)} (h : At m true (r + 1) pre X) (h2 : ¬ Nst (sho m)) : At 0 false r (pre ++ [m]) X := by
  obtain ⟨h1, h3⟩ := h.yes rfl
  have h4 := sh_next h1 h3
  refine ⟨fun e => (by cases e), fun _ hr => ?_, fun e => (by subst e; exact sh_done h4)⟩
  obtain ⟨q, rfl⟩ : ∃ q, r = q + 1 := ⟨r - 1, by omega⟩
  exact sh_out h2 h4

theorem isWordLength_any (k : Int) (w : World) : Calls Tryd.prog 19 #[.int .i64 k] w fun e w' => e = .returned (.bool (decide (0 ≤ k) && decide (k ≤ 20))) ∧ w = w' := by
  by_cases h : 0 ≤ k
  · have hd := Lib.hid (show (decide (0 ≤ k) && decide (k ≤ 20)) = decide (k ≤ 20) by simp [h])
    rw [hd.out]
    go_enter Tryd.func19, Tryd.ntmps19
    go_wp2
    go_ret
    exact ⟨rfl, rfl⟩
  · have hd := Lib.hid (show (decide (0 ≤ k) && decide (k ≤ 20)) = false by simp [h])
    rw [hd.out]
    go_enter Tryd.func19, Tryd.ntmps19
    go_wp2
    go_ret
    exact ⟨rfl, rfl⟩

theorem asked_yes {n k : Int} (h : Nst n) (h0 : 0 ≤ k) (h1 : k ≤ 20) : asked n k = true := by simp [asked, h, h0, h1]
theorem asked_no1 {n k : Int} (h : ¬ Nst n) : asked n k = false := by simp [asked, h]
theorem asked_no2 {n k : Int} (h : ¬ (0 ≤ k ∧ k ≤ 20)) : asked n k = false := by
  have : (decide (0 ≤ k) && decide (k ≤ 20)) = false := by
    rw [← Bool.decide_and]; exact decide_eq_false h
  simp [asked, this]
theorem wl_no {k : Int} (h : ¬ (0 ≤ k ∧ k ≤ 20)) : (decide (0 ≤ k) && decide (k ≤ 20)) = false := by
  rw [← Bool.decide_and]; exact decide_eq_false h
theorem wl_yes {k : Int} (h0 : 0 ≤ k) (h1 : k ≤ 20) : (decide (0 ≤ k) && decide (k ≤ 20)) = true := by simp [h0, h1]

end Go.Proofs.YtbgnieajeipllaaDoor

/- from XYN -/
namespace Go.Proofs.YtbgnieajeipllaaDoor
open Go.RowKit
set_option linter.unusedVariables false
set_option linter.unusedSimpArgs false
set_option maxRecDepth 100000

theorem infoByte : (Tryd.prog.info? 5).map (fun i => (i.zero, i.size, i.bytes)) = some (some (.int .u8 0), 1, 1) := by kernel_rfl

/-- The text of letters. -/
abbrev str (l : List UInt8) : Value := .string ⟨l.toArray⟩

theorem strOne (c : UInt8) (x : Int) (h : UInt8.ofNat x.toNat = c) : strOfNums [x] = ⟨#[c]⟩ := by simp [strOfNums, h]

theorem l1Num_bit (m : Int) (q : List UInt8) (hq : q = [let1 m]) (w : World) :
    Calls Tryd.prog 24 #[.int .i64 (m % 2)] w fun e w' => e = .returned (str q) ∧ Below w.heap.size w w' := by
  by_cases hm : m % 2 = 0
  · rw [hm]
    have hl : q = [48] := by rw [hq]; unfold let1; rw [if_pos hm]
    have HL := Lib.hid hl
    have hcv := run_convert_bytes_arg (P := Tryd.prog) (w.alloc (.cells #[.int .u8 48] 5)) 45 5 Tryd.underlying45 Tryd.underlying5 w.heap.size 0 1 1 [48] rfl (fun i hi => by
      obtain rfl : i = 0 := by omega
      simp [go_sem]) 9 Tryd.underlying9
    rw [strOne 48 48 rfl] at hcv
    clear hl hm hq
    go_enter Tryd.func24, Tryd.ntmps24
    go_wp2
    go_ret
    exact ⟨by rw [HL.out]; rfl, al_below _ _⟩
  · rw [show m % 2 = 1 by omega]
    have hl : q = [49] := by rw [hq]; unfold let1; rw [if_neg hm]
    have HL := Lib.hid hl
    have hcv := run_convert_bytes_arg (P := Tryd.prog) (w.alloc (.cells #[.int .u8 49] 5)) 45 5 Tryd.underlying45 Tryd.underlying5 w.heap.size 0 1 1 [49] rfl (fun i hi => by
      obtain rfl : i = 0 := by omega
      simp [go_sem]) 9 Tryd.underlying9
    rw [strOne 49 49 rfl] at hcv
    clear hl hm hq
    go_enter Tryd.func24, Tryd.ntmps24
    go_wp2
    go_ret
    exact ⟨by rw [HL.out]; rfl, al_below _ _⟩

/-- Where the model's word stands. -/
structure Wat (n0 : Int) (k : Nat) (m : Int) (r : Nat) (pre : List Int) (X : Option (List Int)) : Prop where
  yes : r ≠ 0 → Nst m ∧ jn pre (shs r m) = X
  fin : r = 0 → X = some pre
  end' : shN r m = shN k n0
theorem Wat.step {n0 m : Int} {k r : Nat} {pre : List Int} {X : Option (List Int)} (h : Wat n0 k m (r + 1) pre X) (h2 : r = 0 ∨ Nst (sho m)) : Wat n0 k (sho m) r (pre ++ [m]) X := by
  obtain ⟨h1, h3⟩ := h.yes (by omega)
  have h4 := sh_next h1 h3
  refine ⟨fun hr => ⟨h2.resolve_left hr, h4⟩, fun e => ?_, h.end'⟩
  subst e
  exact sh_done h4
theorem Wat.stop {n0 m : Int} {k r : Nat} {pre : List Int} {X : Option (List Int)} (h : Wat n0 k m (r + 1) pre X) (hr : r ≠ 0) (h2 : ¬ Nst (sho m)) : X = none := by
  obtain ⟨h1, h3⟩ := h.yes (by omega)
  have h4 := sh_next h1 h3
  obtain ⟨q, rfl⟩ : ∃ q, r = q + 1 := ⟨r - 1, by omega⟩
  exact sh_out h2 h4

/-- What the model's word tells: its letters, the number behind. -/
def wrdL (X : Option (List Int)) : List UInt8 := lts (X.getD [])
def wrdN (X : Option (List Int)) (z : Int) : Int := if X.isSome then z else 0

theorem stWord_any (n0 : Int) (c : Nat) (X : Option (List Int)) (w : World) (h0 : Nst n0) (hc : c ≤ 21) (hX : X = shs c n0) :
    Calls Tryd.prog 18 #[.int .i64 n0, .int .i64 (c : Int)] w fun e w' => e = .returned (.tuple #[str (wrdL X), .int .i64 (wrdN X (shN c n0)), .bool X.isSome]) ∧ Below w.heap.size w w' := by
  obtain ⟨Z, hZ⟩ : ∃ Z, Z = shN c n0 := ⟨_, rfl⟩
  have HZ := Lib.hid hZ
  have HX := Lib.hid (show Wat n0 c n0 c [] X from ⟨fun _ => ⟨h0, by rw [jn_nil, hX]⟩, fun e => (by subst e; rw [hX]; rfl), rfl⟩)
  rw [← hZ]
  clear hX h0 hZ
  go_enter Tryd.func18, Tryd.ntmps18
  go_wp2
  go_loopw [0, 7, 8] (fun i o q wr => ∃ (m : Int) (pre : List Int) (K : Nat) (l : List UInt8), i = .int .i64 m ∧ q = .int .i64 (K : Int) ∧ o = .string ⟨l.toArray⟩ ∧ K ≤ c ∧ Hid (l = lts pre) ∧ l.length = K ∧ Hid (Wat n0 c m (c - K) pre X) ∧ Below w.heap.size w wr) (fun _ _ q _ => c - (intOf q).toNat)
  case atStart => exact ⟨n0, [], 0, [], rfl, rfl, rfl, Nat.zero_le _, Lib.hid rfl, rfl, Lib.hid HX.out, Below.refl _ _⟩
  case round =>
    obtain ⟨m, pre, K, l, rfl, rfl, rfl, hK, HL, hll, HE, hbl⟩ := hrel
    have HB := Lib.hid hbl
    clear hbl
    have HLL := Lib.hid hll
    have hl40 : l.length ≤ 40 := by omega
    clear hll
    by_cases hlt : K < c
    · have HR1 := Lib.hid (show c - K = (c - (K + 1)) + 1 by omega)
      rw [HR1.out] at HE
      obtain ⟨hn, _⟩ := HE.out.yes (by omega)
      obtain ⟨q, hq⟩ : ∃ q : List UInt8, q = [let1 m] := ⟨_, rfl⟩
      have HQ := Lib.hid hq
      have hq1 : q.length ≤ 1 := by rw [hq]; simp
      have HN := Lib.hid (fun w' => l1Num_bit m q hq w')
      have HBD := Lib.hid (sho_bd hn)
      have HS := Lib.hid (fun w' => stShort_any m w' (by have := hn.1; omega) (by have := hn.2; omega))
      have m0 := hn.1
      have m1 := hn.2
      have HLT := Lib.hid (show l ++ q = lts (pre ++ [m]) by rw [HL.out, hq, lts_snoc])
      have HLQ := Lib.hid (show (l ++ q).length = K + 1 by rw [List.length_append, HLL.out, hq]; rfl)
      clear hq
      have hlast : decide ((K : Int) < (c : Int) - 1) = decide (K + 1 < c) := by
        by_cases h : K + 1 < c
        · rw [decide_eq_true h, decide_eq_true (by omega)]
        · rw [decide_eq_false h, decide_eq_false (by omega)]
      have HLA := Lib.hid hlast
      clear hlast
      by_cases hs : Nst (sho m)
      · have a1 : decide (Nst (sho m)) = true := decide_eq_true hs
        have HA := Lib.hid (HE.out.step (.inr hs))
        obtain ⟨z, hz⟩ : ∃ z, z = sho m := ⟨_, rfl⟩
        rw [← hz] at a1 HA HS
        clear hs hn hz
        go_wp2_with (first | (go_at_call 24; refine (HN.out _).mono ?_; rintro e w1 ⟨rfl, hb⟩; have HB1 := Lib.hid (Below.step HB.out HB.out.size hb); clear hb) | (go_at_call 25; refine (HS.out _).mono ?_; rintro e w2 ⟨rfl, rfl⟩) | (go_at_call 26; refine (stNumber_any _ _).mono ?_; rintro e w2 ⟨rfl, rfl⟩))
        go_roundw
        case rel => exact ⟨z, pre ++ [m], K + 1, l ++ q, rfl, by go_num, congrArg Value.string (ByteArray.ext (by simp)), by omega, Lib.hid HLT.out, HLQ.out, Lib.hid HA.out, HB1.out⟩
        case measure => simp [intOf]; omega
      · have a1 : decide (Nst (sho m)) = false := decide_eq_false hs
        by_cases hend : K + 1 < c
        · have HA := Lib.hid (HE.out.stop (by omega) hs)
          have hb1 : decide ((K : Int) < (c : Int) - 1) = true := decide_eq_true (by omega)
          obtain ⟨z, hz⟩ : ∃ z, z = sho m := ⟨_, rfl⟩
          rw [← hz] at a1 HS
          clear hs hn hz
          go_wp2_with (first | (go_at_call 24; refine (HN.out _).mono ?_; rintro e w1 ⟨rfl, hb⟩; have HB1 := Lib.hid (Below.step HB.out HB.out.size hb); clear hb) | (go_at_call 25; refine (HS.out _).mono ?_; rintro e w2 ⟨rfl, rfl⟩) | (go_at_call 26; refine (stNumber_any _ _).mono ?_; rintro e w2 ⟨rfl, rfl⟩))
          go_ret3
          exact ⟨by rw [HA.out]; rfl, HB1.out⟩
        · have HA := Lib.hid (HE.out.step (.inl (by omega)))
          have hb1 : decide ((K : Int) < (c : Int) - 1) = false := decide_eq_false (by omega)
          obtain ⟨z, hz⟩ : ∃ z, z = sho m := ⟨_, rfl⟩
          rw [← hz] at a1 HS HA
          clear hs hn hz
          go_wp2_with (first | (go_at_call 24; refine (HN.out _).mono ?_; rintro e w1 ⟨rfl, hb⟩; have HB1 := Lib.hid (Below.step HB.out HB.out.size hb); clear hb) | (go_at_call 25; refine (HS.out _).mono ?_; rintro e w2 ⟨rfl, rfl⟩) | (go_at_call 26; refine (stNumber_any _ _).mono ?_; rintro e w2 ⟨rfl, rfl⟩))
          go_roundw
          case rel => exact ⟨z, pre ++ [m], K + 1, l ++ q, rfl, by go_num, congrArg Value.string (ByteArray.ext (by simp)), by omega, Lib.hid HLT.out, HLQ.out, Lib.hid HA.out, HB1.out⟩
          case measure => simp [intOf]; omega
    · obtain rfl : K = c := by omega
      have HA := Lib.hid (HE.out.fin (by omega))
      have HM := Lib.hid (show m = Z by rw [HZ.out, ← HE.out.end', Nat.sub_self]; rfl)
      have HW := Lib.hid (show wrdL X = l by rw [HA.out, HL.out]; rfl)
      have HWN := Lib.hid (show wrdN X Z = Z by rw [HA.out]; rfl)
      have HXS := Lib.hid (show X.isSome = true by rw [HA.out]; rfl)
      go_wp2
      go_ret3
      exact ⟨by rw [HW.out, HWN.out, HXS.out, HM.out]; rfl, HB.out⟩

/-- The word's answer. -/
def RWd (n k : Int) : Option (List UInt8) := (RWord n k).map lts
def resW (o : Option (List UInt8)) : Value := .tuple #[str (o.getD []), .bool o.isSome]
theorem RWd_yes {n k : Int} {c : Nat} (h : asked n k = true) (hk : k = (c : Int)) : RWd n k = (shs c n).map lts := by
  subst hk
  rw [RWd, RWord, if_pos h, Int.toNat_natCast]
  cases shs c n with
  | none => rfl
  | some l => show some (lts (par l)) = some (lts l); rw [lts_par]
theorem RWd_no {n k : Int} (h : asked n k = false) : RWd n k = none := by
  rw [RWd, RWord, if_neg (by simp [h])]; rfl

end Go.Proofs.YtbgnieajeipllaaDoor
