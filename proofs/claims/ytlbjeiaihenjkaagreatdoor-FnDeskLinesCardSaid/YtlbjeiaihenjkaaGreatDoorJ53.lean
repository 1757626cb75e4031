/-
  Joint text of P5: what each proves stands ahead of it.
-/
import Derived.Test.YtlbjeiaihenjkaaGreatDoorJ52
import Derived.Test.YtlbjeiaihenjkaaGreatDoorJ51
/- from P5: The law of lines: a desk and a line are drawn.  -/
namespace Go.Proofs.YtlbjeiaihenjkaaGreatDoor
open Go.RowKit
set_option linter.unusedVariables false
set_option linter.unusedSimpArgs false
set_option maxRecDepth 100000

theorem draw_DeskLine (v : Value) (xs : List Int) (w : World) (h : Sb w v xs) (hs : xs.length ≤ 1048576) :
    Calls Tryz.prog 26 #[v] w fun e w' => ∃ (n b : Int) (S : Tx), e = .returned (.tuple #[dsk n b, str S]) ∧ Below w.heap.size w w' := by
  have HB0 := Lib.hid (box_new w (.int .i64 0) (.int .i64 0) 24)
  obtain ⟨V0, hV0⟩ : ∃ V0, V0 = w.alloc (.cells #[.int .i64 0, .int .i64 0] 24) := ⟨_, rfl⟩
  have hb0 : Below w.heap.size w V0 := by rw [hV0]; exact alloc_belowD _ _
  have hz0 : V0.heap.size = w.heap.size + 1 := by rw [hV0]; simp
  have HC := Lib.hid (Cu.start (h.keep hb0) hs)
  obtain ⟨a, cap, rfl⟩ := h.len
  obtain ⟨V1, hV1⟩ : ∃ V1, V1 = V0.alloc (.cells #[.slice a xs.length cap, .int .i64 0, .int .u64 0] 76) := ⟨_, rfl⟩
  have hb1 : Below V0.heap.size V0 V1 := by rw [hV1]; exact alloc_belowD _ _
  have hz1 : V1.heap.size = w.heap.size + 2 := by rw [hV1]; simp; omega
  have HBX := Lib.hid (show Box2 V1 w.heap.size from (by rw [hV0]; exact HB0.out : Box2 V0 w.heap.size).keep hb1 (by omega))
  have HA1 := Lib.hid (hb0.trans (hb1.mono (by omega)))
  rw [← hV1] at HC
  have HZ1 := Lib.hid hz1
  have HVV := Lib.hid (show V1 = (w.alloc (.cells #[.int .i64 0, .int .i64 0] 24)).alloc (.cells #[.slice a xs.length cap, .int .i64 0, .int .u64 0] 76) by rw [hV1, hV0])
  rw [hz0] at HC
  clear h hb0 hb1 hz0 hz1 hV0 hV1 HB0
  go_enter Tryz.func26, Tryz.ntmps26
  go_wp2_with fail
  rw [← HVV.out]
  refine (desk_any (w.heap.size + 1) _ xs _ V1 HC.out (by omega)).mono ?_
  rintro e w2 ⟨n, b, rfl, hc, hg⟩
  have C2 := Lib.hid hc
  have B2 := Lib.hid (HBX.out.grown' hg (by rw [HZ1.out]; omega) (by omega))
  have A2 := Lib.hid (HA1.out.trans (grown_below hg (by rw [HZ1.out]; omega) (show w.heap.size ≤ w.heap.size + 1 by omega)))
  have hw2 : w.heap.size + 2 ≤ w2.heap.size := by have := hg.size; have := HZ1.out; omega
  clear hc hg HVV
  obtain ⟨V3, hV3⟩ : ∃ V3, V3 = w2.alloc (.cells #[.int .i64 n, .int .i64 b] 24) := ⟨_, rfl⟩
  have hb3 : Below w2.heap.size w2 V3 := by rw [hV3]; exact alloc_belowD _ _
  have hz3 : V3.heap.size = w2.heap.size + 1 := by rw [hV3]; simp
  have C3 := Lib.hid (C2.out.keep (hb3.mono (by omega)))
  have B3 := Lib.hid (B2.out.keep hb3 (by omega))
  have A3 := Lib.hid (A2.out.trans (hb3.mono (by omega)))
  have h30 : V3.cell? ⟨w2.heap.size, 0, none⟩ = some (.int .i64 n) := by rw [hV3]; simp [go_sem]
  have h31 : V3.cell? ⟨w2.heap.size, 1, none⟩ = some (.int .i64 b) := by rw [hV3]; simp [go_sem]
  go_wp2_with fail
  rw [← hV3]
  clear hV3 hb3
  refine (oneD_any (w.heap.size + 1) _ xs _ 20 V3 C3.out (by omega) (by omega) (by omega)).mono ?_
  rintro e w4 ⟨q, rfl, hc, hg⟩
  have C4 := Lib.hid hc
  have d0 : w4.cell? ⟨w2.heap.size, 0, none⟩ = some (.int .i64 n) := hg.cell h30 (by simp; omega)
  have d1 : w4.cell? ⟨w2.heap.size, 1, none⟩ = some (.int .i64 b) := hg.cell h31 (by simp; omega)
  have B4 := Lib.hid (B3.out.grown' hg (by omega) (by omega))
  have A4 := Lib.hid (A3.out.trans (grown_below hg (by omega) (show w.heap.size ≤ w.heap.size + 1 by omega)))
  have hz4 : w2.heap.size + 1 ≤ w4.heap.size := by have := hg.size; omega
  have HF := Lib.hid (fun (w' : World) (hg : w4.grownBy w' (some (w.heap.size + 1))) => And.intro (hg.cell d0 (by simp; omega)) (And.intro (hg.cell d1 (by simp; omega)) (And.intro (B4.out.grown' hg (by omega) (by omega)) (A4.out.trans (grown_below hg (by omega) (show w.heap.size ≤ w.heap.size + 1 by omega))))))
  have HL := Lib.hid (fun (w' : World) (h : Cu w' (w.heap.size + 1) (.slice a xs.length cap) xs 42) => line10_any (w.heap.size + 1) _ xs 42 w' h (by omega))
  clear hc hg h30 h31
  cases q
  all_goals
    go_wp2
    go_region_with (go_at_call 45; refine (HL.out _ (by first | exact C4.out.mono (by omega) | exact (C4.out.mono (by omega)).drew)).mono ?_; rintro e w5 ⟨T, rfl, hT, hc, hg⟩; obtain ⟨f0, f1, B5, hb5⟩ := HF.out w5 ⟨hg.os, hg.tape, hg.output, hg.size, hg.block⟩; have HB5 := Lib.hid hb5; have HX5 := Lib.hid B5; obtain ⟨y0, e0⟩ := B5.cell 0 (by omega); obtain ⟨y1, e1⟩ := B5.cell 1 (by omega); have ef := B5.free; clear hc hg hb5 B5)
    all_goals
      go_wp2
      refine bodyPost_ret (ret_dk2 rfl _ _ w.heap.size _ _ rfl HX5.out) rfl ?_
      first
        | exact ⟨n, b, T, rfl, set2_below HB5.out (Nat.le_refl _) _ _⟩
        | exact ⟨n, b, T ++ [10], congrArg (fun u => Ending.returned (.tuple #[dsk n b, Value.string u])) (ByteArray.ext (by simp)), set2_below HB5.out (Nat.le_refl _) _ _⟩

/-- Two cells of a desk in a block. -/
structure Kc (w : World) (s : Nat) (n b : Int) : Prop where
  c0 : w.cell? ⟨s, 0, none⟩ = some (.int .i64 n)
  c1 : w.cell? ⟨s, 1, none⟩ = some (.int .i64 b)
  lt : s < w.heap.size
theorem Kc.keep {w w' : World} {s : Nat} {n b : Int} (h : Kc w s n b) (hb : Below w.heap.size w w') : Kc w' s n b :=
  ⟨(hb.cell (p := ⟨s, 0, none⟩) h.lt).trans h.c0, (hb.cell (p := ⟨s, 1, none⟩) h.lt).trans h.c1, Nat.lt_of_lt_of_le h.lt hb.size⟩
theorem Kc.new (w : World) (n b : Int) (t : TypeId) : Kc (w.alloc (.cells #[.int .i64 n, .int .i64 b] t)) w.heap.size n b :=
  ⟨by simp [go_sem], by simp [go_sem], by simp⟩

theorem text_num {n b : Int} (h1 : Num n) (h2 : Bas b) : okq n b = true := okq_num h1 h2
theorem law_DeskLines {W : World} (v0 : Value) (xs0 : List Int) (hs0 : Sb W v0 xs0) (v1 : Value) (xs1 : List Int) (hs1 : Sb W v1 xs1) (pn pw : Addr) (h : Env W pn pw) :
    Calls Tryz.prog 7 #[v0, v1] W fun e w' => e = .returned (.bool true) ∧ Below W.heap.size W w' := by
  obtain ⟨a0, k0, rfl⟩ := hs0.len
  obtain ⟨a1, k1, rfl⟩ := hs1.len
  have HS0 := Lib.hid hs0
  have HE := Lib.hid (fun w' (hb : Below W.heap.size W w') => h.keep hb)
  have HB := Lib.hid (big_any a0 a1 xs0.length xs1.length k0 k1 W)
  clear hs0 hs1 h
  by_cases hbig : 1048576 < xs0.length ∨ 1048576 < xs0.length + xs1.length
  · rw [decide_eq_true hbig] at HB
    go_enter Tryz.func7, Tryz.ntmps7
    go_wp2_with (go_at_call 25; refine HB.out.mono ?_; rintro e w ⟨rfl, rfl⟩)
    go_ret
    exact ⟨rfl, Below.refl _ _⟩
  · rw [decide_eq_false hbig] at HB
    have hs : xs0.length ≤ 1048576 := by omega
    clear hbig
    go_enter Tryz.func7, Tryz.ntmps7
    go_wp2_with fail
    refine HB.out.mono ?_
    rintro e w ⟨rfl, rfl⟩
    go_wp2_with fail
    refine (draw_DeskLine _ xs0 _ HS0.out hs).mono ?_
    rintro e w1 ⟨n, b, S, rfl, hb⟩
    have A1 := Lib.hid hb
    clear hb
    have D1 := Lib.hid (Kc.new w1 n b 24)
    have E1 := Lib.hid (A1.out.trans ((alloc_belowD w1 (.cells #[.int .i64 n, .int .i64 b] 24)).mono A1.out.size))
    obtain ⟨v1, hv1⟩ : ∃ v1, v1 = w1.alloc (.cells #[.int .i64 n, .int .i64 b] 24) := ⟨_, rfl⟩
    rw [← hv1] at D1 E1
    obtain ⟨n', b', Y, q, hR⟩ : ∃ n' b' Y q, dlF n b S = (n', b', Y, q) := ⟨_, _, _, _, rfl⟩
    have HLin := Lib.hid (fun hq : q = true => lin_of hR hq)
    have HI := Lib.hid (fun w' hw => impl_DeskLine n b S pn pw w' hw)
    have HS := Lib.hid (spec_DeskLine n b S)
    rw [hR] at HI HS
    simp only [dlV] at HI HS
    clear hR
    go_wp2_with fail
    rw [← hv1]
    clear hv1
    refine (HI.out _ (HE.out _ E1.out)).mono ?_
    rintro e w2 ⟨rfl, hb⟩
    have D2 := Lib.hid (D1.out.keep hb)
    have A2 := Lib.hid (E1.out.trans (hb.mono E1.out.size))
    clear hb
    have N2 := Lib.hid (Kc.new w2 n' b' 24)
    have D2a := Lib.hid (D2.out.keep (alloc_belowD w2 (.cells #[.int .i64 n', .int .i64 b'] 24)))
    have E2 := Lib.hid (A2.out.trans ((alloc_belowD w2 (.cells #[.int .i64 n', .int .i64 b'] 24)).mono A2.out.size))
    obtain ⟨d0, d1, dz⟩ := D2.out
    obtain ⟨v2, hv2⟩ : ∃ v2, v2 = w2.alloc (.cells #[.int .i64 n', .int .i64 b'] 24) := ⟨_, rfl⟩
    rw [← hv2] at N2 D2a E2
    go_wp2_with fail
    rw [← hv2]
    clear hv2 d0 d1 dz
    refine (HS.out _).mono ?_
    rintro e w3 ⟨rfl, hb⟩
    have D3 := Lib.hid (D2a.out.keep hb)
    have N3 := Lib.hid (N2.out.keep hb)
    have A3 := Lib.hid (E2.out.trans (hb.mono E2.out.size))
    clear hb
    have hal := alloc_belowD w3 (.cells #[.int .i64 n', .int .i64 b'] 24)
    have D4 := Lib.hid (D3.out.keep hal)
    have N4 := Lib.hid (N3.out.keep hal)
    have R4 := Lib.hid (Kc.new w3 n' b' 24)
    have A4 := Lib.hid (A3.out.trans (hal.mono A3.out.size))
    obtain ⟨e0, e1, ez⟩ := N3.out
    obtain ⟨d0, d1, dz⟩ := D3.out
    clear hal
    cases q with
    | false =>
      go_wp2
      go_ret
      exact ⟨rfl, A4.out⟩
    | true =>
      have HL := Lib.hid (HLin.out rfl)
      obtain ⟨hN, hB⟩ := HL.out.dk
      have HID := Lib.hid (impl_IsDesk n' b')
      rw [decide_eq_true (show Num n' ∧ Bas b' from ⟨hN, hB⟩)] at HID
      have HNT := Lib.hid (impl_NumberText n' b')
      rw [text_num hN hB] at HNT
      obtain ⟨m, Z, hm, hup⟩ := HL.out.up'
      have HSU := Lib.hid (impl_SortedUp n' b')
      have ha : askF RSortedUp n' b' = some m := by unfold askF; rw [if_pos ⟨hN, hB⟩, hm]
      rw [ha] at HSU
      have HSH := Lib.hid (fun w' hw => impl_DeskLine n' b' [115, 104, 111, 119] pn pw w' hw)
      rw [HL.out.show'] at HSH
      have HUP := Lib.hid (fun w' hw => impl_DeskLine n' b' [117, 112] pn pw w' hw)
      rw [hup] at HUP
      have HTK := Lib.hid (fun w' hw => impl_DeskLine n' b' ([116, 97, 107, 101, 32] ++ RText n' b') pn pw w' hw)
      rw [HL.out.take'] at HTK
      have HF := Lib.hid HL.out.fail
      obtain ⟨u, hu⟩ : ∃ u, u = RText n' b' := ⟨_, rfl⟩
      rw [← hu] at HNT HSH HTK
      simp only [dlV, optRes] at HSH HUP HTK HSU
      have HV := Lib.hid (show Value.string (⟨#[116, 97, 107, 101, 32]⟩ ++ ⟨u.toArray⟩) = str ([116, 97, 107, 101, 32] ++ u) from congrArg Value.string (ByteArray.ext (by simp)))
      have hul : u.length ≤ 40 := by rw [hu]; exact (text_facts hN hB).2
      obtain ⟨v4, hv4⟩ : ∃ v4, v4 = w3.alloc (.cells #[.int .i64 n', .int .i64 b'] 24) := ⟨_, rfl⟩
      rw [← hv4] at N4 A4
      clear hN hB hm hup ha hu HL HLin HI HS R4 D4
      have HY : (Y == [110, 111]) = true ∧ n' = n ∧ b' = b ∨ (Y == [110, 111]) = false ∧ (Y == [119, 104, 97, 116]) = true ∧ n' = n ∧ b' = b ∨ (Y == [110, 111]) = false ∧ (Y == [119, 104, 97, 116]) = false := by
        cases h1 : (Y == [110, 111]) with
        | true => exact .inl ⟨rfl, HF.out (by unfold noW; rw [h1]; rfl)⟩
        | false =>
          cases h2 : (Y == [119, 104, 97, 116]) with
          | true => exact .inr (.inl ⟨rfl, rfl, HF.out (by unfold noW; rw [h2]; simp)⟩)
          | false => exact .inr (.inr ⟨rfl, rfl⟩)
      clear HF
      rcases HY with ⟨q1, rfl, rfl⟩ | ⟨q1, q2, rfl, rfl⟩ | ⟨q1, q2⟩
      all_goals
        go_wp2_with fail
        rw [← hv4]
        clear hv4 d0 d1 dz e0 e1 ez
        refine (HID.out _).mono ?_
        rintro e w5 ⟨rfl, hb⟩
        have N5 := Lib.hid (N4.out.keep hb)
        have A5 := Lib.hid (A4.out.trans (hb.mono A4.out.size))
        obtain ⟨f0, f1, fz⟩ := N5.out
        clear hb
        go_wp2_with fail
        clear f0 f1 fz
        refine (HSH.out _ (HE.out _ A5.out)).mono ?_
        rintro e w6 ⟨rfl, hb⟩
        have hal := alloc_belowD w6 (.cells #[.int .i64 n', .int .i64 b'] 24)
        have N6 := Lib.hid (N5.out.keep hb)
        have N6a := Lib.hid (N6.out.keep hal)
        have S6 := Lib.hid (Kc.new w6 n' b' 24)
        have A6 := Lib.hid (A5.out.trans (hb.mono A5.out.size))
        have A6a := Lib.hid (A6.out.trans (hal.mono A6.out.size))
        obtain ⟨f0, f1, fz⟩ := N6.out
        obtain ⟨v6, hv6⟩ : ∃ v6, v6 = w6.alloc (.cells #[.int .i64 n', .int .i64 b'] 24) := ⟨_, rfl⟩
        rw [← hv6] at N6a S6 A6a
        clear hb hal
        go_wp2_with fail
        rw [← hv6]
        clear hv6 f0 f1 fz
        refine (HNT.out _).mono ?_
        rintro e w7 ⟨rfl, hb⟩
        have N7 := Lib.hid (N6a.out.keep hb)
        have S7 := Lib.hid (S6.out.keep hb)
        have A7 := Lib.hid (A6a.out.trans (hb.mono A6a.out.size))
        obtain ⟨f0, f1, fz⟩ := N7.out
        clear hb
        go_wp2_with fail
        rw [HV.out]
        clear f0 f1 fz
        refine (HTK.out _ (HE.out _ A7.out)).mono ?_
        rintro e w8 ⟨rfl, hb⟩
        have hal := alloc_belowD w8 (.cells #[.int .i64 n', .int .i64 b'] 24)
        have N8 := Lib.hid (N7.out.keep hb)
        have S8 := Lib.hid (S7.out.keep hb)
        have N8a := Lib.hid (N8.out.keep hal)
        have S8a := Lib.hid (S8.out.keep hal)
        have T8 := Lib.hid (Kc.new w8 n' b' 24)
        have A8 := Lib.hid (A7.out.trans (hb.mono A7.out.size))
        have A8a := Lib.hid (A8.out.trans (hal.mono A8.out.size))
        obtain ⟨f0, f1, fz⟩ := N8.out
        obtain ⟨v8, hv8⟩ : ∃ v8, v8 = w8.alloc (.cells #[.int .i64 n', .int .i64 b'] 24) := ⟨_, rfl⟩
        rw [← hv8] at N8a S8a T8 A8a
        clear hb hal
        go_wp2_with fail
        rw [← hv8]
        clear hv8 f0 f1 fz
        refine (HUP.out _ (HE.out _ A8a.out)).mono ?_
        rintro e w9 ⟨rfl, hb⟩
        have hal := alloc_belowD w9 (.cells #[.int .i64 m, .int .i64 b'] 24)
        have N9 := Lib.hid (N8a.out.keep hb)
        have N9a := Lib.hid (N9.out.keep hal)
        have S9a := Lib.hid ((S8a.out.keep hb).keep hal)
        have T9a := Lib.hid ((T8.out.keep hb).keep hal)
        have U9 := Lib.hid (Kc.new w9 m b' 24)
        have A9 := Lib.hid (A8a.out.trans (hb.mono A8a.out.size))
        have A9a := Lib.hid (A9.out.trans (hal.mono A9.out.size))
        obtain ⟨f0, f1, fz⟩ := N9.out
        obtain ⟨v9, hv9⟩ : ∃ v9, v9 = w9.alloc (.cells #[.int .i64 m, .int .i64 b'] 24) := ⟨_, rfl⟩
        rw [← hv9] at N9a S9a T9a U9 A9a
        clear hb hal
        go_wp2_with fail
        rw [← hv9]
        clear hv9 f0 f1 fz
        refine (HSU.out _).mono ?_
        rintro e w10 ⟨rfl, hb⟩
        have A10 := Lib.hid (A9a.out.trans (hb.mono A9a.out.size))
        obtain ⟨f0, f1, _⟩ := N9a.out.keep hb
        obtain ⟨s0, s1, _⟩ := S9a.out.keep hb
        obtain ⟨t0, t1, _⟩ := T9a.out.keep hb
        obtain ⟨m0, m1, _⟩ := U9.out.keep hb
        clear hb
        go_wp2
        go_ret
        exact ⟨rfl, A10.out⟩

end Go.Proofs.YtlbjeiaihenjkaaGreatDoor
