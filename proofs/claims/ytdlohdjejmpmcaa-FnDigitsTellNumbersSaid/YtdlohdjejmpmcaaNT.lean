/-
  NumberText: the model, the program.
-/
import Derived.Test.YtdlohdjejmpmcaaSB
import Derived.Test.YtdlohdjejmpmcaaC
namespace Go.Proofs.Ytdlohdjejmpmcaa
open Go.RowKit
set_option linter.unusedVariables false
set_option linter.unusedSimpArgs false

/-- The letter of a digit. -/
def ltr (d : Nat) : UInt8 := if d < 10 then (48 + d).toUInt8 else (87 + d).toUInt8
theorem ltr_at (d : Nat) (h : d < (⟨#[48, 49, 50, 51, 52, 53, 54, 55, 56, 57, 97, 98, 99, 100, 101, 102]⟩ : ByteArray).size) : (⟨#[48, 49, 50, 51, 52, 53, 54, 55, 56, 57, 97, 98, 99, 100, 101, 102]⟩ : ByteArray)[d]'h = ltr d := by
  have h' : d < 16 := h
  have hc : d = 0 ∨ d = 1 ∨ d = 2 ∨ d = 3 ∨ d = 4 ∨ d = 5 ∨ d = 6 ∨ d = 7 ∨ d = 8 ∨ d = 9 ∨ d = 10 ∨ d = 11 ∨ d = 12 ∨ d = 13 ∨ d = 14 ∨ d = 15 := by omega
  rcases hc with rfl | rfl | rfl | rfl | rfl | rfl | rfl | rfl | rfl | rfl | rfl | rfl | rfl | rfl | rfl | rfl <;> rfl
theorem ltr_cut (d : Nat) (h : d < 16) (w : World) :
    (Instr.slice 9 (.string ⟨#[48, 49, 50, 51, 52, 53, 54, 55, 56, 57, 97, 98, 99, 100, 101, 102]⟩) (some (.int .i64 (d : Int))) (some (.int .i64 ((d : Int) + 1))) none).run Try.prog w = .ok (.string ⟨#[ltr d]⟩) w := by
  rw [run_slice_string (P := Try.prog) w 9 _ .i64 .i64 (d : Int) ((d : Int) + 1) Try.underlying9 (by omega) (by omega) (by show (d : Int) + 1 ≤ 16; omega)]
  have hc : d = 0 ∨ d = 1 ∨ d = 2 ∨ d = 3 ∨ d = 4 ∨ d = 5 ∨ d = 6 ∨ d = 7 ∨ d = 8 ∨ d = 9 ∨ d = 10 ∨ d = 11 ∨ d = 12 ∨ d = 13 ∨ d = 14 ∨ d = 15 := by omega
  rcases hc with rfl | rfl | rfl | rfl | rfl | rfl | rfl | rfl | rfl | rfl | rfl | rfl | rfl | rfl | rfl | rfl <;> rfl
/-- The text of digits. -/
def txt (xs : List Int) : List UInt8 := xs.map fun d => ltr d.toNat

theorem txt_snoc (xs : List Int) (k d : Nat) (h : k < xs.length) (hd : xs[k] = (d : Int)) : txt (xs.take (k + 1)) = txt (xs.take k) ++ [ltr d] := by
  rw [take_snoc' xs k h]
  simp [txt, hd]
/-- What NumberText answers. -/
def RText (n b : Int) : List UInt8 := if Num n ∧ Bas b then txt (dgs b n) else []

theorem txt_len (xs : List Int) : (txt xs).length = xs.length := by simp [txt]

theorem text_any (n b : Int) (w : World) (h0 : 0 ≤ n) (h1 : n ≤ 1000000000000) (hb : 2 ≤ b) (hb' : b ≤ 16) :
    Calls Try.prog 67 #[.int .i64 b, .int .i64 n] w fun e w' => e = .returned (.string ⟨(txt (dgs b n)).toArray⟩) ∧ Below w.heap.size w w' := by
  obtain ⟨xs, hxs⟩ : ∃ xs, xs = dgs b n := ⟨_, rfl⟩
  have hlen : xs.length ≤ 40 := by rw [hxs]; exact dgs_len40 b n hb h0 h1
  have hall := Lib.hid (show ∀ x ∈ xs, 0 ≤ x ∧ x ≤ b - 1 by rw [hxs]; exact dgs_all b n hb h0)
  have HX0 := Lib.hid hxs
  clear hxs
  rw [← HX0.out]
  go_enter Try.func67, Try.ntmps67
  go_wp2_with fail
  refine (digits_any _ _ _ h0 (by omega) hb hb').mono ?_
  rintro e w2 ⟨p, cap, rfl, hr, hbl⟩
  rw [← HX0.out] at hr
  rw [← HX0.out]
  have RX := Lib.hid hr
  have hpw := hr.at.2.1
  have HB0 := Lib.hid (Below.step ((Below.refl w.heap.size w).alloc (Nat.le_refl _) (.cells #[.pointer none, .slice none 0 0] 80)) (by simp) hbl)
  have hfr := Lib.fresh_isBuilder 80 5 w
  have hbb : Bld w2 w.heap.size w.heap.size [] := by
    rcases hfr with ⟨hB, v, hb, ho, hn⟩ | ⟨hB, v, hb, ho, hn⟩
    · refine .inl ⟨hB, v, ?_, ?_, hn⟩
      · rw [hbl.block _ (by simp)]; exact hb
      · rcases ho.2 with ⟨hv, _⟩ | ⟨g, cp, cur, hv, hg, hh, _, _, _, _⟩
        · rw [hv]; exact World.ownsRow_nil _ _ _ _
        · refine ⟨rfl, .inr ⟨g, cp, cur, hv, hg, ?_, by assumption, by assumption, by assumption, by assumption⟩⟩
          rw [hbl.block g (Array.getElem?_eq_some_iff.1 hh).1]; exact hh
    · refine .inr ⟨hB, v, ?_, ?_, hn⟩
      · rw [hbl.block _ (by simp)]; exact hb
      · rcases ho.2 with ⟨hv, _⟩ | ⟨g, cp, cur, hv, hg, hh, _, _, _, _⟩
        · rw [hv]; exact World.ownsRow_nil _ _ _ _
        · refine ⟨rfl, .inr ⟨g, cp, cur, hv, hg, ?_, by assumption, by assumption, by assumption, by assumption⟩⟩
          rw [hbl.block g (Array.getElem?_eq_some_iff.1 hh).1]; exact hh
  have HBB := Lib.hid hbb
  clear hr hbl hfr hbb
  go_wp2
  go_loopw [12] (fun i wr => ∃ k : Nat, k ≤ xs.length ∧ i = .int .i64 k ∧ Bld wr w.heap.size w.heap.size (Lib.byteCells (txt (xs.take k))) ∧ Rd wr 0 (.slice (some ⟨p, 0, none⟩) xs.length cap) xs ∧ Below w.heap.size w wr) (fun i _ => xs.length - (intOf i).toNat)
  case atStart => exact ⟨0, Nat.zero_le _, rfl, HBB.out, RX.out.mono (Nat.zero_le _), HB0.out⟩
  case round =>
    obtain ⟨k, hk, rfl, hbd, hrx, hbw⟩ := hrel
    have HD := Lib.hid hbd
    have HX := Lib.hid hrx
    have HW := Lib.hid hbw
    clear hbd hrx hbw
    by_cases hlt : k < xs.length
    · have hd := hall.out _ (List.getElem_mem hlt)
      obtain ⟨d, hd2⟩ : ∃ d : Nat, xs[k] = (d : Int) := ⟨xs[k].toNat, by omega⟩
      have hd16 : d < 16 := by omega
      have hcell : wr.cell? ⟨p, k, none⟩ = some (.int .i64 (d : Int)) := by rw [← hd2]; exact HX.out.at.2.2.2.2.1 k hlt
      have HE := Lib.hid hd2
      clear hd hd2
      have HT := Lib.hid (txt_snoc xs k d hlt HE.out)
      have HL := Lib.hid (show (Lib.byteCells (txt (xs.take k))).length ≤ 1000000 by rw [Lib.byteCells_length, txt_len]; simp; omega)
      go_wp2_with fail
      refine (writeByte_any _ _ _ _ _ HD.out HL.out HW.out.size).mono ?_
      rintro e w3 ⟨rfl, hbd, hbl, hki⟩
      have HD2 := Lib.hid hbd
      have HW2 := Lib.hid (HW.out.trans hbl)
      have HX2 := Lib.hid (hki _ _ _ HX.out)
      clear hbd hbl hki
      go_wp2
      go_roundw
      case rel => exact ⟨k + 1, by omega, by go_num, by rw [HT.out]; have h2 := HD2.out; rw [ltr_at] at h2; simpa [Lib.byteCells] using h2, HX2.out, HW2.out⟩
      case measure => simp [intOf]; omega
    · obtain rfl : k = xs.length := by omega
      have HD2 := Lib.hid (show Bld wr w.heap.size w.heap.size (Lib.byteCells (txt xs)) by have := HD.out; rw [List.take_of_length_le (Nat.le_refl _)] at this; exact this)
      go_wp2_with fail
      refine (Try.Builder_String_any _ _ (txt xs) _ HD2.out HW.out.size).mono ?_
      rintro e w3 ⟨rfl, hbl⟩
      have HW2 := Lib.hid (HW.out.trans hbl)
      clear hbl
      go_wp2
      go_ret
      exact ⟨rfl, HW2.out⟩

theorem dgText_any (n b : Int) (w : World) (h0 : 0 ≤ n) (h1 : n ≤ 1000000000000) (hb : 2 ≤ b) (hb' : b ≤ 16) :
    Calls Try.prog 68 #[.int .i64 n, .int .i64 b] w fun e w' => e = .returned (.string ⟨(txt (dgs b n)).toArray⟩) ∧ Below w.heap.size w w' := by
  obtain ⟨xs, hxs⟩ : ∃ xs, xs = dgs b n := ⟨_, rfl⟩
  have hlen : xs.length ≤ 40 := by rw [hxs]; exact dgs_len40 b n hb h0 h1
  have hall := Lib.hid (show ∀ x ∈ xs, 0 ≤ x ∧ x ≤ b - 1 by rw [hxs]; exact dgs_all b n hb h0)
  have HX0 := Lib.hid hxs
  clear hxs
  rw [← HX0.out]
  go_enter Try.func68, Try.ntmps68
  go_wp2_with fail
  refine (dgOf_s _ _ _ h0 h1 hb hb').mono ?_
  rintro e w1 ⟨p, cap, rfl, hr, hbl⟩
  rw [← HX0.out] at hr
  rw [← HX0.out]
  have HX := Lib.hid hr
  have HB := Lib.hid hbl
  clear hr hbl
  go_wp2
  go_loop [5, 12] (fun o i => ∃ k : Nat, k ≤ xs.length ∧ i = .int .i64 k ∧ o = .string ⟨(txt (xs.take k)).toArray⟩) (fun _ i => xs.length - (intOf i).toNat)
  case atStart => exact ⟨0, Nat.zero_le _, rfl, rfl⟩
  case round =>
    obtain ⟨k, hk, rfl, rfl⟩ := hrel
    by_cases hlt : k < xs.length
    · have hd := hall.out _ (List.getElem_mem hlt)
      obtain ⟨d, hd2⟩ : ∃ d : Nat, xs[k] = (d : Int) := ⟨xs[k].toNat, by omega⟩
      have hd16 : d < 16 := by omega
      have hcell : w1.cell? ⟨p, k, none⟩ = some (.int .i64 (d : Int)) := by rw [← hd2]; exact HX.out.at.2.2.2.2.1 k hlt
      have HE := Lib.hid hd2
      clear hd hd2
      obtain ⟨l, hl⟩ : ∃ l, l = txt (xs.take k) := ⟨_, rfl⟩
      have hll : l.length ≤ 40 := by rw [hl, txt_len]; simp; omega
      have HT := Lib.hid (txt_snoc xs k d hlt HE.out)
      have HL := Lib.hid hl
      rw [← hl]
      clear hl
      have hcut := fun w => ltr_cut d hd16 w
      go_wp2
      go_round
      case rel => exact ⟨k + 1, by omega, by go_num, congrArg Value.string (ByteArray.ext (by rw [HT.out, ← HL.out]; simp))⟩
      case measure => simp [intOf]; omega
    · obtain rfl : k = xs.length := by omega
      go_wp2
      go_ret
      have hfin : txt (xs.take xs.length) = txt xs := by rw [List.take_of_length_le (Nat.le_refl _)]
      exact ⟨rfl, HB.out⟩

theorem spec_NumberText (n b : Int) (w : World) :
    Calls Try.prog 19 #[.int .i64 n, .int .i64 b] w fun e w' => e = .returned (.tuple #[.string ⟨(RText n b).toArray⟩, .bool (okq n b)]) ∧ Below w.heap.size w w' := by
  by_cases hq : Num n ∧ Bas b
  · have a1 : decide (Num n ∧ Bas b) = true := decide_eq_true hq
    have hR := Lib.hid (show RText n b = txt (dgs b n) from if_pos hq)
    have hD := Lib.hid (okq_yes hq)
    obtain ⟨⟨n0, n1⟩, b0, b1⟩ := hq
    go_enter Try.func19, Try.ntmps19
    go_wp2_with (first | (go_at_call 56; refine (dgAsked_any _ _ _).mono ?_; rintro e w1 ⟨rfl, rfl⟩) | (go_at_call 68; refine (dgText_any _ _ _ n0 n1 b0 b1).mono ?_; rintro e w1 ⟨rfl, hbl⟩; have HB := Lib.hid hbl; clear hbl))
    go_ret2
    exact ⟨by rw [hR.out, hD.out]; rfl, HB.out⟩
  · have a1 : decide (Num n ∧ Bas b) = false := decide_eq_false hq
    have hR := Lib.hid (show RText n b = [] from if_neg hq)
    have hD := Lib.hid (okq_no hq)
    clear hq
    go_enter Try.func19, Try.ntmps19
    go_wp2_with (go_at_call 56; refine (dgAsked_any _ _ _).mono ?_; rintro e w1 ⟨rfl, rfl⟩)
    go_ret2
    exact ⟨by rw [hR.out, hD.out]; rfl, Below.refl _ _⟩

theorem tell_text (n b : Int) (w : World) :
    Calls Try.prog 66 #[.int .i64 n, .int .i64 b, .func (Fn.func 67) #[] #[]] w fun e w' => e = .returned (.tuple #[.string ⟨(RText n b).toArray⟩, .bool (okq n b)]) ∧ Below w.heap.size w w' := by
  by_cases hn : Num n
  · have a1 : decide (Num n) = true := decide_eq_true hn
    by_cases hB : Bas b
    · have a2 : decide (Bas b) = true := decide_eq_true hB
      have hR := Lib.hid (show RText n b = txt (dgs b n) from if_pos ⟨hn, hB⟩)
      have hD := Lib.hid (okq_yes ⟨hn, hB⟩)
      obtain ⟨n0, n1⟩ := hn
      obtain ⟨b0, b1⟩ := hB
      go_enter Try.func66, Try.ntmps66
      go_wp2_with (first | (go_at_call 97; refine (isNumber_any _ _).mono ?_; rintro e w1 ⟨rfl, rfl⟩) | (go_at_call 69; refine (isBase_any _ _).mono ?_; rintro e w1 ⟨rfl, rfl⟩) | (go_at_call 67; refine (text_any _ _ _ n0 n1 b0 b1).mono ?_; rintro e w1 ⟨rfl, hbl⟩; have HB := Lib.hid hbl; clear hbl))
      go_ret2
      exact ⟨by rw [hR.out, hD.out]; rfl, HB.out⟩
    · have a2 : decide (Bas b) = false := decide_eq_false hB
      have hR := Lib.hid (show RText n b = [] from if_neg (fun h => hB h.2))
      have hD := Lib.hid (okq_no (n := n) (b := b) (fun h => hB h.2))
      clear hn hB
      go_enter Try.func66, Try.ntmps66
      go_wp2_with (first | (go_at_call 97; refine (isNumber_any _ _).mono ?_; rintro e w1 ⟨rfl, rfl⟩) | (go_at_call 69; refine (isBase_any _ _).mono ?_; rintro e w1 ⟨rfl, rfl⟩))
      go_ret2
      exact ⟨by rw [hR.out, hD.out]; rfl, Below.refl _ _⟩
  · have a1 : decide (Num n) = false := decide_eq_false hn
    have hR := Lib.hid (show RText n b = [] from if_neg (fun h => hn h.1))
    have hD := Lib.hid (okq_no (n := n) (b := b) (fun h => hn h.1))
    clear hn
    go_enter Try.func66, Try.ntmps66
    go_wp2_with (first | (go_at_call 97; refine (isNumber_any _ _).mono ?_; rintro e w1 ⟨rfl, rfl⟩) | (go_at_call 69; refine (isBase_any _ _).mono ?_; rintro e w1 ⟨rfl, rfl⟩))
    go_ret2
    exact ⟨by rw [hR.out, hD.out]; rfl, Below.refl _ _⟩

theorem impl_NumberText (n b : Int) (w : World) :
    Calls Try.prog 18 #[.int .i64 n, .int .i64 b] w fun e w' => e = .returned (.tuple #[.string ⟨(RText n b).toArray⟩, .bool (okq n b)]) ∧ Below w.heap.size w w' := by
  go_enter Try.func18, Try.ntmps18
  go_wp2_with (go_at_call 66; refine (tell_text _ _ _).mono ?_; rintro e w1 ⟨rfl, hbl⟩; have HB := Lib.hid hbl; clear hbl)
  go_ret2
  exact ⟨rfl, HB.out⟩

end Go.Proofs.Ytdlohdjejmpmcaa
