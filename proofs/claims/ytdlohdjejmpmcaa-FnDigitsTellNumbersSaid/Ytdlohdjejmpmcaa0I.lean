/-
  Texts with one or two letters changed, as the laws draw them.
-/
import Derived.Test.Ytdlohdjejmpmcaa0H
import Derived.Test.YtdlohdjejmpmcaaPN
import Derived.OwnWalk
namespace Go.Proofs.Ytdlohdjejmpmcaa
open Go.RowKit
set_option linter.unusedVariables false
set_option linter.unusedSimpArgs false
set_option maxRecDepth 100000

abbrev strA (l : List UInt8) : Value := .string ⟨l.toArray⟩
theorem ba_szA (y : List UInt8) : (⟨y.toArray⟩ : ByteArray).size = y.length := by simp [ByteArray.size]
theorem ba_extA (s : List UInt8) (f k : Nat) : (⟨s.toArray⟩ : ByteArray).extract f k = ⟨((s.drop f).take (k - f)).toArray⟩ := by
  apply ByteArray.ext
  apply Array.toList_inj.1
  simp
theorem to_runA (s : List UInt8) (f : Nat) (h1 : f ≤ s.length) (w : World) :
    (Instr.slice 9 (strA s) none (some (.int .i64 (f : Int))) none).run Try.prog w = .ok (strA (s.take f)) w := by
  rw [run_slice_string_h w 9 ⟨s.toArray⟩ Try.underlying9 .i64 (f : Int) (by omega) (by rw [ba_szA]; omega), Int.toNat_natCast, ba_extA]
  simp
theorem from_runA (s : List UInt8) (f : Nat) (h1 : f ≤ s.length) (w : World) :
    (Instr.slice 9 (strA s) (some (.int .i64 (f : Int))) none none).run Try.prog w = .ok (strA (s.drop f)) w := by
  rw [run_slice_string_l w 9 ⟨s.toArray⟩ Try.underlying9 .i64 (f : Int) (by omega) (by rw [ba_szA]; omega), ba_szA, Int.toNat_natCast, ba_extA, List.take_of_length_le (by simp)]
theorem at_runA (s : List UInt8) (k : Nat) (h : k < s.length) : ∃ x : UInt8, ∀ w : World, (Instr.index 9 (strA s) (.int .i64 (k : Int))).run Try.prog w = .ok (.int .u8 (x.toNat : Int)) w :=
  ⟨s[k], fun w => run_byte ⟨s.toArray⟩ k (by rw [ba_szA]; exact h) w⟩
theorem one_runA (c : UInt8) (x : Int) (hx : UInt8.ofNat x.toNat = c) (W : World) (g : Nat) (h : W.cell? ⟨g, 0, none⟩ = some (.int .u8 x)) :
    (convert 22 9 (.slice (some ⟨g, 0, none⟩) 1 1)).run Try.prog W = .ok (.string ⟨#[c]⟩) W := by
  have := run_convert_bytes_arg (P := Try.prog) W 22 5 Try.underlying22 Try.underlying5 g 0 1 1 [x] rfl (fun i hi => by
    obtain rfl : i = 0 := by omega
    simpa using h) 9 Try.underlying9
  have e : strOfNums [x] = ⟨#[c]⟩ := by simp [strOfNums, hx]
  rw [e] at this
  exact this

set_option maxHeartbeats 1000000 in
theorem spoilt_any (g : Nat) (v : Value) (xs : List Int) (K : Nat) (t WL : List UInt8) (w : World) (h : Cu w g v xs K) (hK : K ≤ 900000) (ht : t.length ≤ 4000) (hwl : 1 ≤ WL.length ∧ WL.length ≤ 200) :
    Calls Try.prog 81 #[.pointer (some ⟨g, 0, none⟩), strA t, strA WL] w fun e w' => ∃ T : List UInt8, e = .returned (strA T) ∧ T.length ≤ 4002 ∧ Cu w' g v xs (K + 20) ∧ w.grownBy w' (some g) := by
  have HP := Lib.hid (fun (K : Nat) (n : Int) (w' : World) (h : Cu w' g v xs K) (hK : K ≤ 1000000) (h0 : 0 ≤ n) (h1 : n ≤ 65536) => pick_any g v xs K n w' h hK h0 h1)
  have HW := Lib.hid (fun (j : Nat) (hj : j < WL.length) => at_runA WL j hj)
  have H := Lib.hid h
  have HT := Lib.hid ht
  clear h ht
  go_enter Try.func81, Try.ntmps81
  go_wp2_with fail
  refine (HP.out K 2 _ H.out (by omega) (by omega) (by omega)).mono ?_
  rintro e w1 ⟨x, rfl, x0, x1, hc, hg⟩
  have C1 := Lib.hid hc
  have G1 := Lib.hid hg
  obtain ⟨X, rfl⟩ : ∃ X : Nat, x = (X : Int) := ⟨x.toNat, by omega⟩
  have hX : X ≤ 1 := by omega
  clear hc hg x1
  go_wp2
  go_loopw [1, 7] (fun s n wr => ∃ (m : Nat) (T : List UInt8), s = .string ⟨T.toArray⟩ ∧ n = .int .i64 (m : Int) ∧ m ≤ 2 ∧ T.length ≤ 4000 + (2 - m) ∧ Cu wr g v xs (K + 2 + 6 * (2 - m)) ∧ w.grownBy wr (some g)) (fun _ n _ => (intOf n).toNat)
  case atStart => exact ⟨X + 1, t, rfl, by go_num, by omega, by have := HT.out; omega, C1.out.mono (by omega), G1.out⟩
  case round =>
    obtain ⟨m, T, rfl, rfl, hm, hT, hc, hg⟩ := hrel
    have CR := Lib.hid hc
    have GR := Lib.hid hg
    have HTL := Lib.hid hT
    clear hc hg hT
    by_cases hp : 0 < m
    · by_cases hl : 0 < T.length
      · have hp2 : (0 : Int) < (m : Int) := by omega
        have hl2 : (0 : Int) < (T.length : Int) := by omega
        have hsz := ba_szA T
        go_wp2_with fail
        refine (HP.out _ (T.length : Int) _ CR.out (by omega) (by omega) (by have := HTL.out; omega)).mono ?_
        rintro e w2 ⟨i, rfl, i0, i1, hc, hg⟩
        have C2 := Lib.hid hc
        have G2 := Lib.hid (grown_trans GR.out hg)
        obtain ⟨I, rfl⟩ : ∃ I : Nat, i = (I : Int) := ⟨i.toNat, by omega⟩
        have HI := Lib.hid (show I < T.length by omega)
        clear hc hg i1
        go_wp2_with fail
        refine (HP.out _ (WL.length : Int) _ C2.out (by omega) (by omega) (by omega)).mono ?_
        rintro e w3 ⟨j, rfl, j0, j1, hc, hg⟩
        have C3 := Lib.hid hc
        have G3 := Lib.hid (grown_trans G2.out hg)
        obtain ⟨J, rfl⟩ : ∃ J : Nat, j = (J : Int) := ⟨j.toNat, by omega⟩
        obtain ⟨c, hat⟩ := HW.out J (by omega)
        have hat' : ∀ W : World, (Instr.index 9 (.string ⟨WL.toArray⟩) (.int .i64 (J : Int))).run Try.prog W = .ok (.int .u8 (c.toNat : Int)) W := hat
        have hcv := one_runA c (c.toNat : Int) (by simp) (w3.alloc (.cells #[.int .u8 (c.toNat : Int)] 5)) w3.heap.size (by simp [go_sem])
        have C3a := Lib.hid (C3.out.alloc (.cells #[.int .u8 (c.toNat : Int)] 5))
        have G3a := Lib.hid (grown_trans G3.out (grown_alloc w3 (.cells #[.int .u8 (c.toNat : Int)] 5) (some g)))
        clear hc hg j1 hat
        go_wp2_with fail
        refine (HP.out _ 3 _ C3a.out (by omega) (by omega) (by omega)).mono ?_
        rintro e w4 ⟨y, rfl, y0, y1, hc, hg⟩
        have C4 := Lib.hid hc
        have G4 := Lib.hid (grown_trans G3a.out hg)
        have hy : y = 0 ∨ y = 1 ∨ y = 2 := by omega
        have hto : ∀ W : World, (Instr.slice 9 (.string ⟨T.toArray⟩) none (some (.int .i64 (I : Int))) none).run Try.prog W = .ok (.string ⟨(T.take I).toArray⟩) W := fun W => to_runA T I (by have := HI.out; omega) W
        have hfr : ∀ W : World, (Instr.slice 9 (.string ⟨T.toArray⟩) (some (.int .i64 (I : Int))) none none).run Try.prog W = .ok (.string ⟨(T.drop I).toArray⟩) W := fun W => from_runA T I (by have := HI.out; omega) W
        have hI2 := HI.out
        have hw1 : wrap64 ((I : Int) + 1) = (I : Int) + 1 := by unfold wrap64; have := HTL.out; omega
        have hw2 : IntKind.i64.wrap ((I : Int) + 1) = (I : Int) + 1 := IntWalk.i64_in _ (by have := HTL.out; omega)
        have hfr1 : ∀ W : World, (Instr.slice 9 (.string ⟨T.toArray⟩) (some (.int .i64 ((I : Int) + 1))) none none).run Try.prog W = .ok (.string ⟨(T.drop (I + 1)).toArray⟩) W := fun W => by
          have := from_runA T (I + 1) (by have := HI.out; omega) W
          rwa [show (((I + 1 : Nat)) : Int) = (I : Int) + 1 by omega] at this
        have HLEN := Lib.hid (show (T.take I).length + (T.drop I).length ≤ T.length ∧ (T.take I).length + (T.drop (I + 1)).length ≤ T.length by simp; omega)
        obtain ⟨A, hA⟩ : ∃ A, A = T.take I := ⟨_, rfl⟩
        obtain ⟨B, hB⟩ : ∃ B, B = T.drop I := ⟨_, rfl⟩
        obtain ⟨D, hD⟩ : ∃ D, D = T.drop (I + 1) := ⟨_, rfl⟩
        rw [← hA, ← hB, ← hD] at HLEN
        have lA : A.length ≤ 4002 := by have h1 := HLEN.out.1; have h2 := HTL.out; omega
        have lB : B.length ≤ 4002 := by have h1 := HLEN.out.1; have h2 := HTL.out; omega
        have lD : D.length ≤ 4002 := by have h1 := HLEN.out.2; have h2 := HTL.out; omega
        rw [← hA] at hto
        rw [← hB] at hfr
        rw [← hD] at hfr1
        clear hc hg hA hB hD y1 hcv hat' hI2
        rcases hy with rfl | rfl | rfl
        · go_wp2
          go_region
          all_goals
            go_wp2
            go_roundw
            case rel => exact ⟨m - 1, A ++ [c] ++ B, congrArg Value.string (ByteArray.ext (by simp)), by go_num, by omega, by have h1 := HLEN.out.1; have h2 := HTL.out; simp; omega, (C4.out.mono (by omega)).drew, grown_drew G4.out⟩
            case measure => simp [intOf]; omega
        · go_wp2
          go_region
          all_goals
            go_wp2
            go_roundw
            case rel => exact ⟨m - 1, A ++ [c] ++ D, congrArg Value.string (ByteArray.ext (by simp)), by go_num, by omega, by have h1 := HLEN.out.2; have h2 := HTL.out; simp; omega, (C4.out.mono (by omega)).drew, grown_drew G4.out⟩
            case measure => simp [intOf]; omega
        · go_wp2
          go_region
          all_goals
            go_wp2
            go_roundw
            case rel => exact ⟨m - 1, A ++ D, congrArg Value.string (ByteArray.ext (by simp)), by go_num, by omega, by have h1 := HLEN.out.2; have h2 := HTL.out; simp; omega, (C4.out.mono (by omega)).drew, grown_drew G4.out⟩
            case measure => simp [intOf]; omega
      · obtain rfl : T = [] := List.eq_nil_of_length_eq_zero (by omega)
        have hp2 : (0 : Int) < (m : Int) := by omega
        go_wp2
        go_ret
        exact ⟨[], rfl, by simp, CR.out.mono (by omega), GR.out⟩
    · obtain rfl : m = 0 := by omega
      go_wp2
      go_ret
      exact ⟨T, rfl, by have := HTL.out; omega, CR.out.mono (by omega), GR.out⟩


end Go.Proofs.Ytdlohdjejmpmcaa
