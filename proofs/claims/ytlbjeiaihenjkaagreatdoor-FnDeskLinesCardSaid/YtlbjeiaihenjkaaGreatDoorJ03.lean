/-
  Joint text of NT, E, N: what each proves stands ahead of it.
-/
import Derived.Test.YtlbjeiaihenjkaaGreatDoorJ01
import Derived.Test.YtlbjeiaihenjkaaGreatDoorJ02
import Derived.Test.YtlbjeiaihenjkaaGreatDoorJ00
/- from NT: NumberText: the model, the program.  -/
namespace Go.Proofs.YtlbjeiaihenjkaaGreatDoor
open Go.RowKit
set_option linter.unusedVariables false
set_option linter.unusedSimpArgs false

/-- The letter of a digit. -/
def ltr (d : Nat) : UInt8 := if d < 10 then (48 + d).toUInt8 else (87 + d).toUInt8
theorem ltr_at (d : Nat) (h : d < (⟨#[48, 49, 50, 51, 52, 53, 54, 55, 56, 57, 97, 98, 99, 100, 101, 102]⟩ : ByteArray).size) : (⟨#[48, 49, 50, 51, 52, 53, 54, 55, 56, 57, 97, 98, 99, 100, 101, 102]⟩ : ByteArray)[d]'h = ltr d := by
  have h' : d < 16 := h
  have hc : d = 0 ∨ d = 1 ∨ d = 2 ∨ d = 3 ∨ d = 4 ∨ d = 5 ∨ d = 6 ∨ d = 7 ∨ d = 8 ∨ d = 9 ∨ d = 10 ∨ d = 11 ∨ d = 12 ∨ d = 13 ∨ d = 14 ∨ d = 15 := by omega
  rcases hc with rfl | rfl | rfl | rfl | rfl | rfl | rfl | rfl | rfl | rfl | rfl | rfl | rfl | rfl | rfl | rfl <;> rfl
theorem ltr_cut (d : Nat) (h : d < 16) (w : World) :
    (Instr.slice 9 (.string ⟨#[48, 49, 50, 51, 52, 53, 54, 55, 56, 57, 97, 98, 99, 100, 101, 102]⟩) (some (.int .i64 (d : Int))) (some (.int .i64 ((d : Int) + 1))) none).run Tryz.prog w = .ok (.string ⟨#[ltr d]⟩) w := by
  rw [run_slice_string (P := Tryz.prog) w 9 _ .i64 .i64 (d : Int) ((d : Int) + 1) Tryz.underlying9 (by omega) (by omega) (by show (d : Int) + 1 ≤ 16; omega)]
  have hc : d = 0 ∨ d = 1 ∨ d = 2 ∨ d = 3 ∨ d = 4 ∨ d = 5 ∨ d = 6 ∨ d = 7 ∨ d = 8 ∨ d = 9 ∨ d = 10 ∨ d = 11 ∨ d = 12 ∨ d = 13 ∨ d = 14 ∨ d = 15 := by omega
  rcases hc with rfl | rfl | rfl | rfl | rfl | rfl | rfl | rfl | rfl | rfl | rfl | rfl | rfl | rfl | rfl | rfl <;> rfl
/-- The text of digits. -/
def txt (xs : List Int) : List UInt8 := xs.map fun d => ltr d.toNat

theorem txt_snoc (xs : List Int) (k d : Nat) (h : k < xs.length) (hd : xs[k] = (d : Int)) : txt (xs.take (k + 1)) = txt (xs.take k) ++ [ltr d] := by
  rw [take_snoc' xs k h]
  simp [txt, hd]
/-- What NumberText answers. -/
def RText (n b : Int) : List UInt8 := if Num n ∧ Bas b then txt (dgs b n) else []

theorem txt_len (xs : List Int) : (txt xs).length = xs.length := by simp [txt]

theorem text_any (n b : Int) (w : World) (h0 : 0 ≤ n) (h1 : n ≤ 1000000000000) (hb : 2 ≤ b) (hb' : b ≤ 16) :
    Calls Tryz.prog 49 #[.int .i64 b, .int .i64 n] w fun e w' => e = .returned (.string ⟨(txt (dgs b n)).toArray⟩) ∧ Below w.heap.size w w' := by
  obtain ⟨xs, hxs⟩ : ∃ xs, xs = dgs b n := ⟨_, rfl⟩
  have hlen : xs.length ≤ 40 := by rw [hxs]; exact dgs_len40 b n hb h0 h1
  have hall := Lib.hid (show ∀ x ∈ xs, 0 ≤ x ∧ x ≤ b - 1 by rw [hxs]; exact dgs_all b n hb h0)
  have HX0 := Lib.hid hxs
  clear hxs
  rw [← HX0.out]
  go_enter Tryz.func49, Tryz.ntmps49
  go_wp2_with fail
  refine (digits_any _ _ _ h0 (by omega) hb hb').mono ?_
  rintro e w2 ⟨p, cap, rfl, hr, hbl⟩
  rw [← HX0.out] at hr
  rw [← HX0.out]
  have RX := Lib.hid hr
  have hpw := hr.at.2.1
  have HB0 := Lib.hid (Below.step ((Below.refl w.heap.size w).alloc (Nat.le_refl _) (.cells #[.pointer none, .slice none 0 0] 115)) (by simp) hbl)
  have hfr := Lib.fresh_isBuilder 115 5 w
  have hbb : Bld w2 w.heap.size w.heap.size [] := by
    rcases hfr with ⟨hB, v, hb, ho, hn⟩ | ⟨hB, v, hb, ho, hn⟩
    · refine .inl ⟨hB, v, ?_, ?_, hn⟩
      · rw [hbl.block _ (by simp)]; exact hb
      · rcases ho.2 with ⟨hv, _⟩ | ⟨g, cp, cur, hv, hg, hh, _, _, _, _⟩
        · rw [hv]; exact World.ownsRow_nil _ _ _ _
        · refine ⟨rfl, .inr ⟨g, cp, cur, hv, hg, ?_, by assumption, by assumption, by assumption, by assumption⟩⟩
          rw [hbl.block g (Array.getElem?_eq_some_iff.1 hh).1]; exact hh
    · refine .inr ⟨hB, v, ?_, ?_, hn⟩
      · rw [hbl.block _ (by simp)]; exact hb
      · rcases ho.2 with ⟨hv, _⟩ | ⟨g, cp, cur, hv, hg, hh, _, _, _, _⟩
        · rw [hv]; exact World.ownsRow_nil _ _ _ _
        · refine ⟨rfl, .inr ⟨g, cp, cur, hv, hg, ?_, by assumption, by assumption, by assumption, by assumption⟩⟩
          rw [hbl.block g (Array.getElem?_eq_some_iff.1 hh).1]; exact hh
  have HBB := Lib.hid hbb
  clear hr hbl hfr hbb
  go_wp2
  go_loopw [12] (fun i wr => ∃ k : Nat, k ≤ xs.length ∧ i = .int .i64 k ∧ Bld wr w.heap.size w.heap.size (Lib.byteCells (txt (xs.take k))) ∧ Rd wr 0 (.slice (some ⟨p, 0, none⟩) xs.length cap) xs ∧ Below w.heap.size w wr) (fun i _ => xs.length - (intOf i).toNat)
  case atStart => exact ⟨0, Nat.zero_le _, rfl, HBB.out, RX.out.mono (Nat.zero_le _), HB0.out⟩
  case round =>
    obtain ⟨k, hk, rfl, hbd, hrx, hbw⟩ := hrel
    have HD := Lib.hid hbd
    have HX := Lib.hid hrx
    have HW := Lib.hid hbw
    clear hbd hrx hbw
    by_cases hlt : k < xs.length
    · have hd := hall.out _ (List.getElem_mem hlt)
      obtain ⟨d, hd2⟩ : ∃ d : Nat, xs[k] = (d : Int) := ⟨xs[k].toNat, by omega⟩
      have hd16 : d < 16 := by omega
      have hcell : wr.cell? ⟨p, k, none⟩ = some (.int .i64 (d : Int)) := by rw [← hd2]; exact HX.out.at.2.2.2.2.1 k hlt
      have HE := Lib.hid hd2
      clear hd hd2
      have HT := Lib.hid (txt_snoc xs k d hlt HE.out)
      have HL := Lib.hid (show (Lib.byteCells (txt (xs.take k))).length ≤ 1000000 by rw [Lib.byteCells_length, txt_len]; simp; omega)
      go_wp2_with fail
      refine (writeByte_any _ _ _ _ _ HD.out HL.out HW.out.size).mono ?_
      rintro e w3 ⟨rfl, hbd, hbl, hki⟩
      have HD2 := Lib.hid hbd
      have HW2 := Lib.hid (HW.out.trans hbl)
      have HX2 := Lib.hid (hki _ _ _ HX.out)
      clear hbd hbl hki
      go_wp2
      go_roundw
      case rel => exact ⟨k + 1, by omega, by go_num, by rw [HT.out]; have h2 := HD2.out; rw [ltr_at] at h2; simpa [Lib.byteCells] using h2, HX2.out, HW2.out⟩
      case measure => simp [intOf]; omega
    · obtain rfl : k = xs.length := by omega
      have HD2 := Lib.hid (show Bld wr w.heap.size w.heap.size (Lib.byteCells (txt xs)) by have := HD.out; rw [List.take_of_length_le (Nat.le_refl _)] at this; exact this)
      go_wp2_with fail
      refine (Tryz.Builder_String_any _ _ (txt xs) _ HD2.out HW.out.size).mono ?_
      rintro e w3 ⟨rfl, hbl⟩
      have HW2 := Lib.hid (HW.out.trans hbl)
      clear hbl
      go_wp2
      go_ret
      exact ⟨rfl, HW2.out⟩

theorem dgText_any (n b : Int) (w : World) (h0 : 0 ≤ n) (h1 : n ≤ 1000000000000) (hb : 2 ≤ b) (hb' : b ≤ 16) :
    Calls Tryz.prog 74 #[.int .i64 n, .int .i64 b] w fun e w' => e = .returned (.string ⟨(txt (dgs b n)).toArray⟩) ∧ Below w.heap.size w w' := by
  obtain ⟨xs, hxs⟩ : ∃ xs, xs = dgs b n := ⟨_, rfl⟩
  have hlen : xs.length ≤ 40 := by rw [hxs]; exact dgs_len40 b n hb h0 h1
  have hall := Lib.hid (show ∀ x ∈ xs, 0 ≤ x ∧ x ≤ b - 1 by rw [hxs]; exact dgs_all b n hb h0)
  have HX0 := Lib.hid hxs
  clear hxs
  rw [← HX0.out]
  go_enter Tryz.func74, Tryz.ntmps74
  go_wp2_with fail
  refine (dgOf_s _ _ _ h0 h1 hb hb').mono ?_
  rintro e w1 ⟨p, cap, rfl, hr, hbl⟩
  rw [← HX0.out] at hr
  rw [← HX0.out]
  have HX := Lib.hid hr
  have HB := Lib.hid hbl
  clear hr hbl
  go_wp2
  go_loop [5, 12] (fun o i => ∃ k : Nat, k ≤ xs.length ∧ i = .int .i64 k ∧ o = .string ⟨(txt (xs.take k)).toArray⟩) (fun _ i => xs.length - (intOf i).toNat)
  case atStart => exact ⟨0, Nat.zero_le _, rfl, rfl⟩
  case round =>
    obtain ⟨k, hk, rfl, rfl⟩ := hrel
    by_cases hlt : k < xs.length
    · have hd := hall.out _ (List.getElem_mem hlt)
      obtain ⟨d, hd2⟩ : ∃ d : Nat, xs[k] = (d : Int) := ⟨xs[k].toNat, by omega⟩
      have hd16 : d < 16 := by omega
      have hcell : w1.cell? ⟨p, k, none⟩ = some (.int .i64 (d : Int)) := by rw [← hd2]; exact HX.out.at.2.2.2.2.1 k hlt
      have HE := Lib.hid hd2
      clear hd hd2
      obtain ⟨l, hl⟩ : ∃ l, l = txt (xs.take k) := ⟨_, rfl⟩
      have hll : l.length ≤ 40 := by rw [hl, txt_len]; simp; omega
      have HT := Lib.hid (txt_snoc xs k d hlt HE.out)
      have HL := Lib.hid hl
      rw [← hl]
      clear hl
      have hcut := fun w => ltr_cut d hd16 w
      go_wp2
      go_round
      case rel => exact ⟨k + 1, by omega, by go_num, congrArg Value.string (ByteArray.ext (by rw [HT.out, ← HL.out]; simp))⟩
      case measure => simp [intOf]; omega
    · obtain rfl : k = xs.length := by omega
      go_wp2
      go_ret
      have hfin : txt (xs.take xs.length) = txt xs := by rw [List.take_of_length_le (Nat.le_refl _)]
      exact ⟨rfl, HB.out⟩

theorem tell_text (n b : Int) (w : World) :
    Calls Tryz.prog 48 #[.int .i64 n, .int .i64 b, .func (Fn.func 49) #[] #[]] w fun e w' => e = .returned (.tuple #[.string ⟨(RText n b).toArray⟩, .bool (okq n b)]) ∧ Below w.heap.size w w' := by
  by_cases hn : Num n
  · have a1 : decide (Num n) = true := decide_eq_true hn
    by_cases hB : Bas b
    · have a2 : decide (Bas b) = true := decide_eq_true hB
      have hR := Lib.hid (show RText n b = txt (dgs b n) from if_pos ⟨hn, hB⟩)
      have hD := Lib.hid (okq_yes ⟨hn, hB⟩)
      obtain ⟨n0, n1⟩ := hn
      obtain ⟨b0, b1⟩ := hB
      go_enter Tryz.func48, Tryz.ntmps48
      go_wp2_with (first | (go_at_call 46; refine (isNumber_any _ _).mono ?_; rintro e w1 ⟨rfl, rfl⟩) | (go_at_call 47; refine (isBase_any _ _).mono ?_; rintro e w1 ⟨rfl, rfl⟩) | (go_at_call 49; refine (text_any _ _ _ n0 n1 b0 b1).mono ?_; rintro e w1 ⟨rfl, hbl⟩; have HB := Lib.hid hbl; clear hbl))
      go_ret2
      exact ⟨by rw [hR.out, hD.out]; rfl, HB.out⟩
    · have a2 : decide (Bas b) = false := decide_eq_false hB
      have hR := Lib.hid (show RText n b = [] from if_neg (fun h => hB h.2))
      have hD := Lib.hid (okq_no (n := n) (b := b) (fun h => hB h.2))
      clear hn hB
      go_enter Tryz.func48, Tryz.ntmps48
      go_wp2_with (first | (go_at_call 46; refine (isNumber_any _ _).mono ?_; rintro e w1 ⟨rfl, rfl⟩) | (go_at_call 47; refine (isBase_any _ _).mono ?_; rintro e w1 ⟨rfl, rfl⟩))
      go_ret2
      exact ⟨by rw [hR.out, hD.out]; rfl, Below.refl _ _⟩
  · have a1 : decide (Num n) = false := decide_eq_false hn
    have hR := Lib.hid (show RText n b = [] from if_neg (fun h => hn h.1))
    have hD := Lib.hid (okq_no (n := n) (b := b) (fun h => hn h.1))
    clear hn
    go_enter Tryz.func48, Tryz.ntmps48
    go_wp2_with (first | (go_at_call 46; refine (isNumber_any _ _).mono ?_; rintro e w1 ⟨rfl, rfl⟩) | (go_at_call 47; refine (isBase_any _ _).mono ?_; rintro e w1 ⟨rfl, rfl⟩))
    go_ret2
    exact ⟨by rw [hR.out, hD.out]; rfl, Below.refl _ _⟩

theorem impl_NumberText (n b : Int) (w : World) :
    Calls Tryz.prog 28 #[.int .i64 n, .int .i64 b] w fun e w' => e = .returned (.tuple #[.string ⟨(RText n b).toArray⟩, .bool (okq n b)]) ∧ Below w.heap.size w w' := by
  go_enter Tryz.func28, Tryz.ntmps28
  go_wp2_with (go_at_call 48; refine (tell_text _ _ _).mono ?_; rintro e w1 ⟨rfl, hbl⟩; have HB := Lib.hid hbl; clear hbl)
  go_ret2
  exact ⟨rfl, HB.out⟩

end Go.Proofs.YtlbjeiaihenjkaaGreatDoor

/- from E: Two slices held against each other; marks.  -/
namespace Go.Proofs.YtlbjeiaihenjkaaGreatDoor
open Go.RowKit
set_option linter.unusedVariables false
set_option linter.unusedSimpArgs false

theorem Rd.sl {w : World} {B : Nat} {v : Value} {xs : List Int} (h : Rd w B v xs) : Sl w v xs := by
  rcases h.cases with ⟨rfl, rfl⟩ | ⟨g, cap, rfl, _, hg, _, _, hc, _⟩
  · exact ⟨none, 0, rfl, .inl rfl⟩
  · exact ⟨some ⟨g, 0, none⟩, cap, rfl, .inr ⟨g, 0, rfl, hg, fun j hj => by rw [Nat.zero_add]; exact hc j hj⟩⟩

theorem take_eq_snoc {xs ys : List Int} {k : Nat} (hx : k < xs.length) (hy : k < ys.length) (h : xs.take k = ys.take k) (he : xs[k] = ys[k]) : xs.take (k + 1) = ys.take (k + 1) := by
  rw [take_snoc' xs k hx, take_snoc' ys k hy, h, he]

theorem eq_len_no {xs ys : List Int} (h : xs.length ≠ ys.length) : decide (xs = ys) = false := decide_eq_false (fun e => h (by rw [e]))
theorem eq_at_no {xs ys : List Int} {k : Nat} (hx : k < xs.length) (hy : k < ys.length) (h : xs[k] ≠ ys[k]) : decide (xs = ys) = false := decide_eq_false (fun e => h (by subst e; rfl))
theorem eq_all {xs ys : List Int} (hl : xs.length = ys.length) (h : xs.take xs.length = ys.take xs.length) : decide (xs = ys) = true := by
  rw [List.take_of_length_le (Nat.le_refl _), hl, List.take_of_length_le (Nat.le_refl _)] at h
  exact decide_eq_true h


theorem eqIntS_any (v u : Value) (xs ys : List Int) (w : World) (hv : Sl w v xs) (hu : Sl w u ys) (hl : xs.length ≤ 2000000) (hl2 : ys.length ≤ 2000000) :
    Calls Tryz.prog 22 #[v, u] w fun e w' => e = .returned (.bool (decide (xs = ys))) ∧ Below w.heap.size w w' := by
  obtain ⟨a, cap, rfl, hx⟩ := hv
  obtain ⟨c, cap2, rfl, hy⟩ := hu
  have HX := Lib.hid hx
  have HY := Lib.hid hy
  clear hx hy
  by_cases hle : xs.length = ys.length
  · have HL := Lib.hid hle
    have hn : ((xs.length : Int) != (ys.length : Int)) = false := bne_no (by omega)
    have hn1 : xs.length ≤ ys.length := by omega
    have hn2 : ys.length ≤ xs.length := by omega
    clear hle
    go_enter Tryz.func22, Tryz.ntmps22
    go_wp2
    go_loopw [5] (fun i wr => ∃ k : Nat, k ≤ xs.length ∧ i = .int .i64 k ∧ xs.take k = ys.take k ∧ Below w.heap.size w wr) (fun i _ => xs.length - (intOf i).toNat)
    case atStart => exact ⟨0, Nat.zero_le _, rfl, rfl, Below.refl _ _⟩
    case round =>
      obtain ⟨k, hk, rfl, ht, hb⟩ := hrel
      have HT := Lib.hid ht
      have HB := Lib.hid hb
      clear ht hb
      by_cases hlt : k < xs.length
      · rcases HX.out with hx | ⟨b, off, rfl, hbl, hc⟩
        · rw [hx] at hlt; simp at hlt
        rcases HY.out with hy | ⟨b2, off2, rfl, hbl2, hc2⟩
        · have hy0 := congrArg List.length hy
          rw [List.length_nil] at hy0
          omega
        have hlt2 : k < ys.length := by omega
        have hcell : wr.cell? ⟨b, off + k, none⟩ = some (.int .i64 xs[k]) := (HB.out.cell (p := ⟨b, off + k, none⟩) hbl).trans (hc k hlt)
        have hcell2 : wr.cell? ⟨b2, off2 + k, none⟩ = some (.int .i64 ys[k]) := (HB.out.cell (p := ⟨b2, off2 + k, none⟩) hbl2).trans (hc2 k hlt2)
        clear hc hc2
        by_cases he : xs[k] = ys[k]
        · have HE := Lib.hid he
          have hbn : (xs[k] != ys[k]) = false := bne_no he
          clear he
          go_wp2
          go_region
          all_goals
            go_wp2
            go_roundw
            case rel => exact ⟨k + 1, by omega, by go_num, take_eq_snoc hlt hlt2 HT.out HE.out, HB.out.drew⟩
            case measure => simp [intOf]; omega
        · have HE := Lib.hid (eq_at_no hlt hlt2 he)
          have hbn : (xs[k] != ys[k]) = true := bne_yes he
          clear he
          go_wp2
          go_region
          all_goals
            go_wp2
            go_ret
            exact ⟨ret_bool HE.out.symm, HB.out.drew⟩
      · obtain rfl : k = xs.length := by omega
        go_wp2
        go_ret
        exact ⟨ret_bool (eq_all HL.out HT.out).symm, HB.out⟩
  · have HE := Lib.hid (eq_len_no hle)
    have hn : ((xs.length : Int) != (ys.length : Int)) = true := bne_yes (by omega)
    go_enter Tryz.func22, Tryz.ntmps22
    go_wp2
    go_ret
    exact ⟨ret_bool HE.out.symm, Below.refl _ _⟩

end Go.Proofs.YtlbjeiaihenjkaaGreatDoor

/- from N: NumberOf and AreDigits: the model, the program, the laws.  -/
namespace Go.Proofs.YtlbjeiaihenjkaaGreatDoor
open Go.RowKit
set_option linter.unusedVariables false
set_option linter.unusedSimpArgs false

theorem Rd.shape {w : World} {B : Nat} {v : Value} {xs : List Int} (h : Rd w B v xs) : ∃ a cap, v = .slice a xs.length cap := by
  rcases h.cases with ⟨rfl, rfl⟩ | ⟨g, cap, rfl, _⟩
  · exact ⟨none, 0, rfl⟩
  · exact ⟨_, cap, rfl⟩

/-- As the model asks it: also not too long. -/
def dA (b : Int) (xs : List Int) : Bool := decide (xs.length ≤ 40) && areD b xs

theorem dA_no1 (b : Int) (xs : List Int) (h : xs.length < 1 ∨ 40 < xs.length) : dA b xs = false := by
  rcases h with h | h
  · have : xs = [] := List.eq_nil_of_length_eq_zero (by omega)
    subst this
    rfl
  · have : decide (xs.length ≤ 40) = false := decide_eq_false (by omega)
    simp [dA, this]
theorem dA_no2 (b : Int) (xs : List Int) (h : allIn 0 (b - 1) xs = false) : dA b xs = false := by simp [dA, areD, h]
theorem dA_eq (b : Int) (xs : List Int) (h0 : 0 < xs.length) (h1 : xs.length ≤ 40) (h : allIn 0 (b - 1) xs = true) : dA b xs = (decide ((0 : Int) < xs[0]) || decide (xs.length = 1)) := by
  have hx := (allIn_iff _ _ _).1 h xs[0] (List.getElem_mem h0)
  have h2 : decide (xs.length ≤ 40) = true := decide_eq_true h1
  cases xs with
  | nil => simp at h0
  | cons a t =>
    simp at hx
    simp only [dA, areD, h, h2, List.headD_cons, List.getElem_cons_zero]
    by_cases ha : a = 0
    · subst ha; simp
    · have : 0 < a := by omega
      simp [ha, this]

theorem dgAre_any (v : Value) (xs : List Int) (b : Int) (B : Nat) (w : World) (h : Rd w B v xs) (hb : 2 ≤ b) (hb' : b ≤ 16) (hl : xs.length ≤ 1048576) :
    Calls Tryz.prog 141 #[v, .int .i64 b] w fun e w' => e = .returned (.bool (dA b xs)) ∧ w = w' := by
  rcases h.cases with ⟨rfl, rfl⟩ | ⟨g, cap, rfl, _, _, _, _, hc, _⟩
  · go_enter Tryz.func141, Tryz.ntmps141
    go_wp2_with (go_at_call 140; refine (l1In_no _ _ _ _ (by simp)).mono ?_; rintro e w' ⟨rfl, rfl⟩)
    go_ret
    exact ⟨rfl, rfl⟩
  · have H := Lib.hid h
    have hc' := Lib.hid hc
    clear hc h
    by_cases hlen : 1 ≤ xs.length ∧ xs.length ≤ 40
    · obtain ⟨l1, l2⟩ := hlen
      have h0' : 0 < xs.length := by omega
      have hc0 := hc'.out 0 h0'
      by_cases ha : allIn 0 (b - 1) xs = true
      · have hE := Lib.hid (dA_eq b xs h0' l2 ha)
        by_cases hz : (0 : Int) < xs[0]
        · have hE2 := Lib.hid (show dA b xs = true by rw [hE.out]; simp [hz])
          go_enter Tryz.func141, Tryz.ntmps141
          go_wp2_with (first | (go_at_call 140; refine (l1In_yes _ _ _ _ (by omega) (by omega)).mono ?_; rintro e w' ⟨rfl, rfl⟩) | (go_at_call 204; refine (l1All_any _ _ _ _ _ _ H.out (by omega)).mono ?_; rintro e w' ⟨rfl, rfl⟩))
          go_ret
          exact ⟨ret_bool hE2.out.symm, rfl⟩
        · have hz' : xs[0] ≤ 0 := by omega
          by_cases hone : xs.length = 1
          · have hE2 := Lib.hid (show dA b xs = true by rw [hE.out]; simp [hone])
            have h1b : ((xs.length : Int) == 1) = true := beq_yes (by omega)
            clear hone
            go_enter Tryz.func141, Tryz.ntmps141
            go_wp2_with (first | (go_at_call 140; refine (l1In_yes _ _ _ _ (by omega) (by omega)).mono ?_; rintro e w' ⟨rfl, rfl⟩) | (go_at_call 204; refine (l1All_any _ _ _ _ _ _ H.out (by omega)).mono ?_; rintro e w' ⟨rfl, rfl⟩))
            go_ret
            exact ⟨ret_bool (by rw [hE2.out]; try simp [h1b, hz']), rfl⟩
          · have hE2 := Lib.hid (show dA b xs = false by rw [hE.out]; simp [hone]; omega)
            have h1b : ((xs.length : Int) == 1) = false := beq_no (by omega)
            clear hone
            go_enter Tryz.func141, Tryz.ntmps141
            go_wp2_with (first | (go_at_call 140; refine (l1In_yes _ _ _ _ (by omega) (by omega)).mono ?_; rintro e w' ⟨rfl, rfl⟩) | (go_at_call 204; refine (l1All_any _ _ _ _ _ _ H.out (by omega)).mono ?_; rintro e w' ⟨rfl, rfl⟩))
            go_ret
            exact ⟨ret_bool (by rw [hE2.out]; try simp [h1b, hz']), rfl⟩
      · have ha' : allIn 0 (b - 1) xs = false := by simpa using ha
        have hE2 := Lib.hid (dA_no2 b xs ha')
        clear ha
        go_enter Tryz.func141, Tryz.ntmps141
        go_wp2_with (first | (go_at_call 140; refine (l1In_yes _ _ _ _ (by omega) (by omega)).mono ?_; rintro e w' ⟨rfl, rfl⟩) | (go_at_call 204; refine (l1All_any _ _ _ _ _ _ H.out (by omega)).mono ?_; rintro e w' ⟨rfl, rfl⟩))
        go_ret
        exact ⟨ret_bool hE2.out.symm, rfl⟩
    · have hn := Lib.hid (show (xs.length : Int) < 1 ∨ 40 < (xs.length : Int) by omega)
      have hE2 := Lib.hid (dA_no1 b xs (by omega))
      clear hlen
      go_enter Tryz.func141, Tryz.ntmps141
      go_wp2_with (go_at_call 140; refine (l1In_no _ _ _ _ hn.out).mono ?_; rintro e w' ⟨rfl, rfl⟩)
      go_ret
      exact ⟨ret_bool hE2.out.symm, rfl⟩

/-- What AreDigits answers: two bools. -/
def okArg (b : Int) (xs : List Int) : Bool := decide (Bas b) && decide (xs.length ≤ 40)
def RAreDigits (b : Int) (xs : List Int) : Bool := okArg b xs && areD b xs

/-- What NumberOf answers. -/
def RNumberOf (b : Int) (xs : List Int) : Option Int := if Bas b ∧ xs.length ≤ 40 ∧ areD b xs = true then numF b xs 0 else none

theorem dA_of {b : Int} {xs : List Int} (h : dA b xs = true) : xs.length ≤ 40 ∧ areD b xs = true := by simpa [dA] using h

end Go.Proofs.YtlbjeiaihenjkaaGreatDoor
