/-
  Joint text of P4, P5, X9, P6, P7: what each proves stands ahead of it.
-/
import Derived.Test.YtlbjeiaihenjkaaGreatDoorJ52
import Derived.Test.YtlbjeiaihenjkaaGreatDoorJ51
import Derived.Test.YtlbjeiaihenjkaaGreatDoorJ48
import Derived.Test.YtlbjeiaihenjkaaGreatDoorJ35
import Derived.Test.YtlbjeiaihenjkaaGreatDoorJ49
/- from P4: Facts of scripts, plain: what is told while a script is read letter by letter.  -/
namespace Go.Proofs.YtlbjeiaihenjkaaGreatDoor
open Go.RowKit
set_option linter.unusedVariables false
set_option linter.unusedSimpArgs false
set_option maxRecDepth 100000

/-- Where the reading of a script stands: the lines behind it, the letters of the line that is read. -/
structure Ats (S : Tx) (k : Nat) (done : List Tx) (acc : Tx) : Prop where
  cut : spl 10 S = done ++ spA 10 acc (S.drop k)
  len : acc.length ≤ k
  no : (10 : UInt8) ∉ acc
theorem Ats.start (S : Tx) : Ats S 0 [] [] := ⟨by simp, Nat.le_refl _, by simp⟩
theorem drop_at {S : Tx} {k : Nat} {x : UInt8} (hx : S[k]? = some x) : S.drop k = x :: S.drop (k + 1) := by
  obtain ⟨h1, h2⟩ := List.getElem?_eq_some_iff.1 hx
  rw [List.drop_eq_getElem_cons h1, h2]
theorem Ats.letter {S : Tx} {k : Nat} {done : List Tx} {acc : Tx} {x : UInt8} (h : Ats S k done acc) (hx : S[k]? = some x) (hne : x ≠ 10) : Ats S (k + 1) done (acc ++ [x]) := by
  refine ⟨?_, by rw [List.length_append]; have := h.len; simp; omega, fun hm => ?_⟩
  · rw [h.cut, drop_at hx]
    congr 1
    show (if x = 10 then _ else _) = _
    rw [if_neg hne]
  · rcases List.mem_append.1 hm with hm | hm
    · exact h.no hm
    · exact hne (List.mem_singleton.1 hm).symm
theorem take_past (d : List Tx) (a : Tx) (r : List Tx) (n : Nat) (h : d.length < n) : (d ++ a :: r).take n = d ++ a :: r.take (n - (d.length + 1)) := by
  rw [List.take_append, List.take_of_length_le (by omega), show n - d.length = (n - (d.length + 1)) + 1 by omega, List.take_succ_cons]
theorem Ats.line {S : Tx} {k : Nat} {done : List Tx} {acc : Tx} (h : Ats S k done acc) (hx : S[k]? = some 10) : Ats S (k + 1) (done ++ [acc]) [] ∧ (∃ r, scL S = done ++ acc :: r) ∧ done.length < S.count 10 := by
  have e : spl 10 S = done ++ acc :: spA 10 [] (S.drop (k + 1)) := by
    rw [h.cut, drop_at hx]
    congr 1
  have hl := spl_len 10 S
  have hp := spA_pos 10 (S.drop (k + 1)) []
  rw [e, List.length_append, List.length_cons] at hl
  refine ⟨⟨by rw [e]; simp, Nat.zero_le _, by simp⟩, ⟨(spA 10 [] (S.drop (k + 1))).take (S.count 10 - (done.length + 1)), ?_⟩, by omega⟩
  unfold scL
  rw [e, take_past done acc (spA 10 [] (S.drop (k + 1))) (S.count 10) (by omega)]
theorem Ats.last {S : Tx} {done : List Tx} {acc : Tx} (h : Ats S S.length done acc) : done = scL S := by
  have e : spl 10 S = done ++ [acc] := by rw [h.cut, List.drop_length]; rfl
  have hl := spl_len 10 S
  rw [e, List.length_append, List.length_singleton] at hl
  unfold scL
  rw [e, show S.count 10 = done.length by omega, List.take_left]

theorem runS_app : ∀ (xs ys : List Tx) (n b : Int), runS n b (xs ++ ys) = runS n b xs ++ runS (endS n b xs).1 (endS n b xs).2 ys
  | [], _, _, _ => rfl
  | x :: xs, ys, n, b => by simp [runS, endS, runS_app xs]
theorem flT_app : ∀ (ts us : List Tx) (k : Nat), flT k (ts ++ us) = flT k ts ++ flT (k + ts.length) us
  | [], us, k => by simp [flT]
  | x :: ts, us, k => by
    have e := flT_app ts us (k + 1)
    have h : k + 1 + ts.length = k + (ts.length + 1) := by omega
    rw [h] at e
    simp only [List.cons_append, flT, List.length_cons]
    by_cases hx : noW x = true
    · rw [if_pos hx, if_pos hx, e, List.cons_append]
    · rw [if_neg hx, if_neg hx, e]
/-- The replies to lines. -/
def txS (ls : List Tx) : List Tx := (runS 7 10 ls).map fun r => r.2.2.txt
theorem txS_len (ls : List Tx) : (txS ls).length = ls.length := by unfold txS; rw [List.length_map, runS_len]
/-- What a line of a script tells. -/
structure Told (S : Tx) (done : List Tx) (acc : Tx) (n b n' b' : Int) (Y : Tx) : Prop where
  line : dlF n b acc = (n', b', Y, true)
  reply : (txS (scL S))[done.length]? = some Y
  end' : endS 7 10 (done ++ [acc]) = (n', b')
  bad : noW Y = true → (flT 0 (txS (scL S)))[(flT 0 (txS done)).length]? = some ((done.length : Int) + 1)
  grow : (flT 0 (txS (done ++ [acc]))).length = (flT 0 (txS done)).length + (if noW Y then 1 else 0)
theorem Ats.told {S : Tx} {k : Nat} {done : List Tx} {acc : Tx} (h : Ats S k done acc) (hx : S[k]? = some 10) (hok : scOk S) (n b : Int) (hn : endS 7 10 done = (n, b)) : ∃ n' b' Y, Told S done acc n b n' b' Y := by
  obtain ⟨_, ⟨r, hr⟩, _⟩ := h.line hx
  have hk : k < S.length := (List.getElem?_eq_some_iff.1 hx).1
  have hd := endS_dk done 7 10 (by unfold Num; omega) (by unfold Bas; omega)
  rw [hn] at hd
  have hlk : dlOk n b acc := ⟨hd.1, hd.2, by have h1 := h.len; have h2 := hok.1; omega, List.count_eq_zero.2 h.no⟩
  refine ⟨(ln1 n b acc).1, (ln1 n b acc).2.1, (ln1 n b acc).2.2.txt, ?_, ?_, ?_, fun hw => ?_, ?_⟩
  · rw [dlF, if_pos hlk]; rfl
  · unfold txS
    rw [hr, runS_app, hn, List.map_append, List.getElem?_append_right (by rw [List.length_map, runS_len]; exact Nat.le_refl _), List.length_map, runS_len, Nat.sub_self]
    rfl
  · rw [endS_snoc, hn]
  · have e : txS (scL S) = txS done ++ (ln1 n b acc).2.2.txt :: (runS (ln1 n b acc).1 (ln1 n b acc).2.1 r).map fun r => r.2.2.txt := by
      unfold txS
      rw [hr, runS_app, hn, List.map_append]
      rfl
    rw [e, flT_app, List.getElem?_append_right (Nat.le_refl _), Nat.sub_self, Nat.zero_add, txS_len]
    show (if noW _ = true then _ else _)[0]? = _
    rw [if_pos hw]
    rfl
  · have e : txS (done ++ [acc]) = txS done ++ [(ln1 n b acc).2.2.txt] := by
      unfold txS
      rw [runS_snoc, hn, List.map_append]
      rfl
    rw [e, flT_snoc, List.length_append]
    by_cases hw : noW (ln1 n b acc).2.2.txt = true
    · rw [if_pos hw, if_pos hw]; rfl
    · rw [if_neg hw, if_neg hw]; rfl

end Go.Proofs.YtlbjeiaihenjkaaGreatDoor

/- from P5: The law of lines: a desk and a line are drawn.  -/
namespace Go.Proofs.YtlbjeiaihenjkaaGreatDoor
open Go.RowKit
set_option linter.unusedVariables false
set_option linter.unusedSimpArgs false
set_option maxRecDepth 100000

theorem draw_DeskLine (v : Value) (xs : List Int) (w : World) (h : Sb w v xs) (hs : xs.length ≤ 1048576) :
    Calls Tryz.prog 26 #[v] w fun e w' => ∃ (n b : Int) (S : Tx), e = .returned (.tuple #[dsk n b, str S]) ∧ Below w.heap.size w w' := by
  have HB0 := Lib.hid (box_new w (.int .i64 0) (.int .i64 0) 24)
  obtain ⟨V0, hV0⟩ : ∃ V0, V0 = w.alloc (.cells #[.int .i64 0, .int .i64 0] 24) := ⟨_, rfl⟩
  have hb0 : Below w.heap.size w V0 := by rw [hV0]; exact alloc_belowD _ _
  have hz0 : V0.heap.size = w.heap.size + 1 := by rw [hV0]; simp
  have HC := Lib.hid (Cu.start (h.keep hb0) hs)
  obtain ⟨a, cap, rfl⟩ := h.len
  obtain ⟨V1, hV1⟩ : ∃ V1, V1 = V0.alloc (.cells #[.slice a xs.length cap, .int .i64 0, .int .u64 0] 76) := ⟨_, rfl⟩
  have hb1 : Below V0.heap.size V0 V1 := by rw [hV1]; exact alloc_belowD _ _
  have hz1 : V1.heap.size = w.heap.size + 2 := by rw [hV1]; simp; omega
  have HBX := Lib.hid (show Box2 V1 w.heap.size from (by rw [hV0]; exact HB0.out : Box2 V0 w.heap.size).keep hb1 (by omega))
  have HA1 := Lib.hid (hb0.trans (hb1.mono (by omega)))
  rw [← hV1] at HC
  have HZ1 := Lib.hid hz1
  have HVV := Lib.hid (show V1 = (w.alloc (.cells #[.int .i64 0, .int .i64 0] 24)).alloc (.cells #[.slice a xs.length cap, .int .i64 0, .int .u64 0] 76) by rw [hV1, hV0])
  rw [hz0] at HC
  clear h hb0 hb1 hz0 hz1 hV0 hV1 HB0
  go_enter Tryz.func26, Tryz.ntmps26
  go_wp2_with fail
  rw [← HVV.out]
  refine (desk_any (w.heap.size + 1) _ xs _ V1 HC.out (by omega)).mono ?_
  rintro e w2 ⟨n, b, rfl, hc, hg⟩
  have C2 := Lib.hid hc
  have B2 := Lib.hid (HBX.out.grown' hg (by rw [HZ1.out]; omega) (by omega))
  have A2 := Lib.hid (HA1.out.trans (grown_below hg (by rw [HZ1.out]; omega) (show w.heap.size ≤ w.heap.size + 1 by omega)))
  have hw2 : w.heap.size + 2 ≤ w2.heap.size := by have := hg.size; have := HZ1.out; omega
  clear hc hg HVV
  obtain ⟨V3, hV3⟩ : ∃ V3, V3 = w2.alloc (.cells #[.int .i64 n, .int .i64 b] 24) := ⟨_, rfl⟩
  have hb3 : Below w2.heap.size w2 V3 := by rw [hV3]; exact alloc_belowD _ _
  have hz3 : V3.heap.size = w2.heap.size + 1 := by rw [hV3]; simp
  have C3 := Lib.hid (C2.out.keep (hb3.mono (by omega)))
  have B3 := Lib.hid (B2.out.keep hb3 (by omega))
  have A3 := Lib.hid (A2.out.trans (hb3.mono (by omega)))
  have h30 : V3.cell? ⟨w2.heap.size, 0, none⟩ = some (.int .i64 n) := by rw [hV3]; simp [go_sem]
  have h31 : V3.cell? ⟨w2.heap.size, 1, none⟩ = some (.int .i64 b) := by rw [hV3]; simp [go_sem]
  go_wp2_with fail
  rw [← hV3]
  clear hV3 hb3
  refine (oneD_any (w.heap.size + 1) _ xs _ 20 V3 C3.out (by omega) (by omega) (by omega)).mono ?_
  rintro e w4 ⟨q, rfl, hc, hg⟩
  have C4 := Lib.hid hc
  have d0 : w4.cell? ⟨w2.heap.size, 0, none⟩ = some (.int .i64 n) := hg.cell h30 (by simp; omega)
  have d1 : w4.cell? ⟨w2.heap.size, 1, none⟩ = some (.int .i64 b) := hg.cell h31 (by simp; omega)
  have B4 := Lib.hid (B3.out.grown' hg (by omega) (by omega))
  have A4 := Lib.hid (A3.out.trans (grown_below hg (by omega) (show w.heap.size ≤ w.heap.size + 1 by omega)))
  have hz4 : w2.heap.size + 1 ≤ w4.heap.size := by have := hg.size; omega
  have HF := Lib.hid (fun (w' : World) (hg : w4.grownBy w' (some (w.heap.size + 1))) => And.intro (hg.cell d0 (by simp; omega)) (And.intro (hg.cell d1 (by simp; omega)) (And.intro (B4.out.grown' hg (by omega) (by omega)) (A4.out.trans (grown_below hg (by omega) (show w.heap.size ≤ w.heap.size + 1 by omega))))))
  have HL := Lib.hid (fun (w' : World) (h : Cu w' (w.heap.size + 1) (.slice a xs.length cap) xs 42) => line10_any (w.heap.size + 1) _ xs 42 w' h (by omega))
  clear hc hg h30 h31
  cases q
  all_goals
    go_wp2
    go_region_with (go_at_call 45; refine (HL.out _ (by first | exact C4.out.mono (by omega) | exact (C4.out.mono (by omega)).drew)).mono ?_; rintro e w5 ⟨T, rfl, hT, hc, hg⟩; obtain ⟨f0, f1, B5, hb5⟩ := HF.out w5 ⟨hg.os, hg.tape, hg.output, hg.size, hg.block⟩; have HB5 := Lib.hid hb5; have HX5 := Lib.hid B5; obtain ⟨y0, e0⟩ := B5.cell 0 (by omega); obtain ⟨y1, e1⟩ := B5.cell 1 (by omega); have ef := B5.free; clear hc hg hb5 B5)
    all_goals
      go_wp2
      refine bodyPost_ret (ret_dk2 rfl _ _ w.heap.size _ _ rfl HX5.out) rfl ?_
      first
        | exact ⟨n, b, T, rfl, set2_below HB5.out (Nat.le_refl _) _ _⟩
        | exact ⟨n, b, T ++ [10], congrArg (fun u => Ending.returned (.tuple #[dsk n b, Value.string u])) (ByteArray.ext (by simp)), set2_below HB5.out (Nat.le_refl _) _ _⟩

/-- Two cells of a desk in a block. -/
structure Kc (w : World) (s : Nat) (n b : Int) : Prop where
  c0 : w.cell? ⟨s, 0, none⟩ = some (.int .i64 n)
  c1 : w.cell? ⟨s, 1, none⟩ = some (.int .i64 b)
  lt : s < w.heap.size
theorem Kc.keep {w w' : World} {s : Nat} {n b : Int} (h : Kc w s n b) (hb : Below w.heap.size w w') : Kc w' s n b :=
  ⟨(hb.cell (p := ⟨s, 0, none⟩) h.lt).trans h.c0, (hb.cell (p := ⟨s, 1, none⟩) h.lt).trans h.c1, Nat.lt_of_lt_of_le h.lt hb.size⟩
theorem Kc.new (w : World) (n b : Int) (t : TypeId) : Kc (w.alloc (.cells #[.int .i64 n, .int .i64 b] t)) w.heap.size n b :=
  ⟨by simp [go_sem], by simp [go_sem], by simp⟩

theorem text_num {n b : Int} (h1 : Num n) (h2 : Bas b) : okq n b = true := okq_num h1 h2
theorem law_DeskLines {W : World} (v0 : Value) (xs0 : List Int) (hs0 : Sb W v0 xs0) (v1 : Value) (xs1 : List Int) (hs1 : Sb W v1 xs1) (pn pw : Addr) (h : Env W pn pw) :
    Calls Tryz.prog 7 #[v0, v1] W fun e w' => e = .returned (.bool true) ∧ Below W.heap.size W w' := by
  obtain ⟨a0, k0, rfl⟩ := hs0.len
  obtain ⟨a1, k1, rfl⟩ := hs1.len
  have HS0 := Lib.hid hs0
  have HE := Lib.hid (fun w' (hb : Below W.heap.size W w') => h.keep hb)
  have HB := Lib.hid (big_any a0 a1 xs0.length xs1.length k0 k1 W)
  clear hs0 hs1 h
  by_cases hbig : 1048576 < xs0.length ∨ 1048576 < xs0.length + xs1.length
  · rw [decide_eq_true hbig] at HB
    go_enter Tryz.func7, Tryz.ntmps7
    go_wp2_with (go_at_call 25; refine HB.out.mono ?_; rintro e w ⟨rfl, rfl⟩)
    go_ret
    exact ⟨rfl, Below.refl _ _⟩
  · rw [decide_eq_false hbig] at HB
    have hs : xs0.length ≤ 1048576 := by omega
    clear hbig
    go_enter Tryz.func7, Tryz.ntmps7
    go_wp2_with fail
    refine HB.out.mono ?_
    rintro e w ⟨rfl, rfl⟩
    go_wp2_with fail
    refine (draw_DeskLine _ xs0 _ HS0.out hs).mono ?_
    rintro e w1 ⟨n, b, S, rfl, hb⟩
    have A1 := Lib.hid hb
    clear hb
    have D1 := Lib.hid (Kc.new w1 n b 24)
    have E1 := Lib.hid (A1.out.trans ((alloc_belowD w1 (.cells #[.int .i64 n, .int .i64 b] 24)).mono A1.out.size))
    obtain ⟨v1, hv1⟩ : ∃ v1, v1 = w1.alloc (.cells #[.int .i64 n, .int .i64 b] 24) := ⟨_, rfl⟩
    rw [← hv1] at D1 E1
    obtain ⟨n', b', Y, q, hR⟩ : ∃ n' b' Y q, dlF n b S = (n', b', Y, q) := ⟨_, _, _, _, rfl⟩
    have HLin := Lib.hid (fun hq : q = true => lin_of hR hq)
    have HI := Lib.hid (fun w' hw => impl_DeskLine n b S pn pw w' hw)
    have HS := Lib.hid (spec_DeskLine n b S)
    rw [hR] at HI HS
    simp only [dlV] at HI HS
    clear hR
    go_wp2_with fail
    rw [← hv1]
    clear hv1
    refine (HI.out _ (HE.out _ E1.out)).mono ?_
    rintro e w2 ⟨rfl, hb⟩
    have D2 := Lib.hid (D1.out.keep hb)
    have A2 := Lib.hid (E1.out.trans (hb.mono E1.out.size))
    clear hb
    have N2 := Lib.hid (Kc.new w2 n' b' 24)
    have D2a := Lib.hid (D2.out.keep (alloc_belowD w2 (.cells #[.int .i64 n', .int .i64 b'] 24)))
    have E2 := Lib.hid (A2.out.trans ((alloc_belowD w2 (.cells #[.int .i64 n', .int .i64 b'] 24)).mono A2.out.size))
    obtain ⟨d0, d1, dz⟩ := D2.out
    obtain ⟨v2, hv2⟩ : ∃ v2, v2 = w2.alloc (.cells #[.int .i64 n', .int .i64 b'] 24) := ⟨_, rfl⟩
    rw [← hv2] at N2 D2a E2
    go_wp2_with fail
    rw [← hv2]
    clear hv2 d0 d1 dz
    refine (HS.out _).mono ?_
    rintro e w3 ⟨rfl, hb⟩
    have D3 := Lib.hid (D2a.out.keep hb)
    have N3 := Lib.hid (N2.out.keep hb)
    have A3 := Lib.hid (E2.out.trans (hb.mono E2.out.size))
    clear hb
    have hal := alloc_belowD w3 (.cells #[.int .i64 n', .int .i64 b'] 24)
    have D4 := Lib.hid (D3.out.keep hal)
    have N4 := Lib.hid (N3.out.keep hal)
    have R4 := Lib.hid (Kc.new w3 n' b' 24)
    have A4 := Lib.hid (A3.out.trans (hal.mono A3.out.size))
    obtain ⟨e0, e1, ez⟩ := N3.out
    obtain ⟨d0, d1, dz⟩ := D3.out
    clear hal
    cases q with
    | false =>
      go_wp2
      go_ret
      exact ⟨rfl, A4.out⟩
    | true =>
      have HL := Lib.hid (HLin.out rfl)
      obtain ⟨hN, hB⟩ := HL.out.dk
      have HID := Lib.hid (impl_IsDesk n' b')
      rw [decide_eq_true (show Num n' ∧ Bas b' from ⟨hN, hB⟩)] at HID
      have HNT := Lib.hid (impl_NumberText n' b')
      rw [text_num hN hB] at HNT
      obtain ⟨m, Z, hm, hup⟩ := HL.out.up'
      have HSU := Lib.hid (impl_SortedUp n' b')
      have ha : askF RSortedUp n' b' = some m := by unfold askF; rw [if_pos ⟨hN, hB⟩, hm]
      rw [ha] at HSU
      have HSH := Lib.hid (fun w' hw => impl_DeskLine n' b' [115, 104, 111, 119] pn pw w' hw)
      rw [HL.out.show'] at HSH
      have HUP := Lib.hid (fun w' hw => impl_DeskLine n' b' [117, 112] pn pw w' hw)
      rw [hup] at HUP
      have HTK := Lib.hid (fun w' hw => impl_DeskLine n' b' ([116, 97, 107, 101, 32] ++ RText n' b') pn pw w' hw)
      rw [HL.out.take'] at HTK
      have HF := Lib.hid HL.out.fail
      obtain ⟨u, hu⟩ : ∃ u, u = RText n' b' := ⟨_, rfl⟩
      rw [← hu] at HNT HSH HTK
      simp only [dlV, optRes] at HSH HUP HTK HSU
      have HV := Lib.hid (show Value.string (⟨#[116, 97, 107, 101, 32]⟩ ++ ⟨u.toArray⟩) = str ([116, 97, 107, 101, 32] ++ u) from congrArg Value.string (ByteArray.ext (by simp)))
      have hul : u.length ≤ 40 := by rw [hu]; exact (text_facts hN hB).2
      obtain ⟨v4, hv4⟩ : ∃ v4, v4 = w3.alloc (.cells #[.int .i64 n', .int .i64 b'] 24) := ⟨_, rfl⟩
      rw [← hv4] at N4 A4
      clear hN hB hm hup ha hu HL HLin HI HS R4 D4
      have HY : (Y == [110, 111]) = true ∧ n' = n ∧ b' = b ∨ (Y == [110, 111]) = false ∧ (Y == [119, 104, 97, 116]) = true ∧ n' = n ∧ b' = b ∨ (Y == [110, 111]) = false ∧ (Y == [119, 104, 97, 116]) = false := by
        cases h1 : (Y == [110, 111]) with
        | true => exact .inl ⟨rfl, HF.out (by unfold noW; rw [h1]; rfl)⟩
        | false =>
          cases h2 : (Y == [119, 104, 97, 116]) with
          | true => exact .inr (.inl ⟨rfl, rfl, HF.out (by unfold noW; rw [h2]; simp)⟩)
          | false => exact .inr (.inr ⟨rfl, rfl⟩)
      clear HF
      rcases HY with ⟨q1, rfl, rfl⟩ | ⟨q1, q2, rfl, rfl⟩ | ⟨q1, q2⟩
      all_goals
        go_wp2_with fail
        rw [← hv4]
        clear hv4 d0 d1 dz e0 e1 ez
        refine (HID.out _).mono ?_
        rintro e w5 ⟨rfl, hb⟩
        have N5 := Lib.hid (N4.out.keep hb)
        have A5 := Lib.hid (A4.out.trans (hb.mono A4.out.size))
        obtain ⟨f0, f1, fz⟩ := N5.out
        clear hb
        go_wp2_with fail
        clear f0 f1 fz
        refine (HSH.out _ (HE.out _ A5.out)).mono ?_
        rintro e w6 ⟨rfl, hb⟩
        have hal := alloc_belowD w6 (.cells #[.int .i64 n', .int .i64 b'] 24)
        have N6 := Lib.hid (N5.out.keep hb)
        have N6a := Lib.hid (N6.out.keep hal)
        have S6 := Lib.hid (Kc.new w6 n' b' 24)
        have A6 := Lib.hid (A5.out.trans (hb.mono A5.out.size))
        have A6a := Lib.hid (A6.out.trans (hal.mono A6.out.size))
        obtain ⟨f0, f1, fz⟩ := N6.out
        obtain ⟨v6, hv6⟩ : ∃ v6, v6 = w6.alloc (.cells #[.int .i64 n', .int .i64 b'] 24) := ⟨_, rfl⟩
        rw [← hv6] at N6a S6 A6a
        clear hb hal
        go_wp2_with fail
        rw [← hv6]
        clear hv6 f0 f1 fz
        refine (HNT.out _).mono ?_
        rintro e w7 ⟨rfl, hb⟩
        have N7 := Lib.hid (N6a.out.keep hb)
        have S7 := Lib.hid (S6.out.keep hb)
        have A7 := Lib.hid (A6a.out.trans (hb.mono A6a.out.size))
        obtain ⟨f0, f1, fz⟩ := N7.out
        clear hb
        go_wp2_with fail
        rw [HV.out]
        clear f0 f1 fz
        refine (HTK.out _ (HE.out _ A7.out)).mono ?_
        rintro e w8 ⟨rfl, hb⟩
        have hal := alloc_belowD w8 (.cells #[.int .i64 n', .int .i64 b'] 24)
        have N8 := Lib.hid (N7.out.keep hb)
        have S8 := Lib.hid (S7.out.keep hb)
        have N8a := Lib.hid (N8.out.keep hal)
        have S8a := Lib.hid (S8.out.keep hal)
        have T8 := Lib.hid (Kc.new w8 n' b' 24)
        have A8 := Lib.hid (A7.out.trans (hb.mono A7.out.size))
        have A8a := Lib.hid (A8.out.trans (hal.mono A8.out.size))
        obtain ⟨f0, f1, fz⟩ := N8.out
        obtain ⟨v8, hv8⟩ : ∃ v8, v8 = w8.alloc (.cells #[.int .i64 n', .int .i64 b'] 24) := ⟨_, rfl⟩
        rw [← hv8] at N8a S8a T8 A8a
        clear hb hal
        go_wp2_with fail
        rw [← hv8]
        clear hv8 f0 f1 fz
        refine (HUP.out _ (HE.out _ A8a.out)).mono ?_
        rintro e w9 ⟨rfl, hb⟩
        have hal := alloc_belowD w9 (.cells #[.int .i64 m, .int .i64 b'] 24)
        have N9 := Lib.hid (N8a.out.keep hb)
        have N9a := Lib.hid (N9.out.keep hal)
        have S9a := Lib.hid ((S8a.out.keep hb).keep hal)
        have T9a := Lib.hid ((T8.out.keep hb).keep hal)
        have U9 := Lib.hid (Kc.new w9 m b' 24)
        have A9 := Lib.hid (A8a.out.trans (hb.mono A8a.out.size))
        have A9a := Lib.hid (A9.out.trans (hal.mono A9.out.size))
        obtain ⟨f0, f1, fz⟩ := N9.out
        obtain ⟨v9, hv9⟩ : ∃ v9, v9 = w9.alloc (.cells #[.int .i64 m, .int .i64 b'] 24) := ⟨_, rfl⟩
        rw [← hv9] at N9a S9a T9a U9 A9a
        clear hb hal
        go_wp2_with fail
        rw [← hv9]
        clear hv9 f0 f1 fz
        refine (HSU.out _).mono ?_
        rintro e w10 ⟨rfl, hb⟩
        have A10 := Lib.hid (A9a.out.trans (hb.mono A9a.out.size))
        obtain ⟨f0, f1, _⟩ := N9a.out.keep hb
        obtain ⟨s0, s1, _⟩ := S9a.out.keep hb
        obtain ⟨t0, t1, _⟩ := T9a.out.keep hb
        obtain ⟨m0, m1, _⟩ := U9.out.keep hb
        clear hb
        go_wp2
        go_ret
        exact ⟨rfl, A10.out⟩

end Go.Proofs.YtlbjeiaihenjkaaGreatDoor

/- from X9: The program's failed lines of a script.  -/
namespace Go.Proofs.YtlbjeiaihenjkaaGreatDoor
open Go.RowKit
set_option linter.unusedVariables false
set_option linter.unusedSimpArgs false
set_option maxRecDepth 100000

/-- The variable of the errors' package that errors.As reads. -/
def ErrT (w : World) : Prop := w.cell? ⟨2, 0, none⟩ = some (.iface 142 (.agg #[.pointer (some ⟨9, 58, none⟩)]))
theorem ErrT.keep {w w' : World} {B : Nat} (h : ErrT w) (hb : Below B w w') (hB : 2 < B) : ErrT w' := (hb.cell (p := ⟨2, 0, none⟩) hB).trans h
theorem box_two (v : World) (a b : Value) (t : TypeId) : Box2 (v.alloc (.cells #[a, b] t)) v.heap.size := by
  refine ⟨fun j hj => ?_, fun j => by simp [go_sem]⟩
  match j, hj with
  | 0, _ => exact ⟨a, by simp [go_sem]⟩
  | 1, _ => exact ⟨b, by simp [go_sem]⟩
  | j + 2, h => omega

theorem impl_FailedLines_ok (S : Tx) (hok : scOk S) (pn pw : Addr) (w : World) (h : Env w pn pw) (hg : ErrT w) :
    Calls Tryz.prog 21 #[str S] w fun e w' => ∃ v, e = .returned (.tuple #[v, .bool true]) ∧ Rd w' w.heap.size v (flT 0 ((runS 7 10 (scL S)).map fun r => r.2.2.txt)) ∧ Below w.heap.size w w' := by
  obtain ⟨rs, hrs⟩ : ∃ rs, rs = runS 7 10 (scL S) := ⟨_, rfl⟩
  obtain ⟨K, hK⟩ : ∃ K, K = rs.length := ⟨_, rfl⟩
  obtain ⟨Ls, hL⟩ : ∃ Ls, Ls = rs.map fun r => r.2.2.txt := ⟨_, rfl⟩
  have HK := Lib.hid (runScript_ok S hok pn pw w h)
  have hk50 : K ≤ 50 := by rw [hK, hrs, runS_len, scL_len]; exact hok.2.2
  have HOK := Lib.hid (fun r (hr : r ∈ rs) => noW_fail (runS_ok (scL S) 7 10 (by unfold Num; omega) (by unfold Bas; omega) r (by rw [← hrs]; exact hr)))
  have HGS := Lib.hid (fun w' (hb : Below w.heap.size w w') => hg.keep hb (cell_lt hg))
  rw [← hrs, ← hK] at HK
  rw [← hrs, ← hL]
  have HLL := Lib.hid (show Ls.length = K by rw [hL, List.length_map, hK])
  have HLA := Lib.hid (fun (k : Nat) (r : Int × Int × Rp) (hr : rs[k]? = some r) => (show Ls[k]? = some r.2.2.txt by rw [hL, List.getElem?_map, hr]; rfl))
  have HKL := Lib.hid hK
  clear h hok hrs hK hL hg
  go_enter Tryz.func21, Tryz.ntmps21
  go_wp2_with fail
  refine HK.out.mono ?_
  rintro e w1 ⟨g, rfl, hO, hg, hb⟩
  have HB := Lib.hid hb
  have O1 := Lib.hid hO
  have hgz := hO.lt
  have HG1 := Lib.hid (HGS.out _ hb)
  clear hb hO hg
  go_wp2
  go_loopw [6, 19] (fun o i wr => ∃ k : Nat, k ≤ K ∧ i = .int .i64 (k : Int) ∧ Rd wr w1.heap.size o (flT 0 (Ls.take k)) ∧ Below w1.heap.size w1 wr) (fun _ i _ => K - (intOf i).toNat)
  case atStart => exact ⟨0, Nat.zero_le _, rfl, by simpa [flT] using Rd.nil _ _, Below.refl _ _⟩
  case round =>
    obtain ⟨k, hk, rfl, hr, hb⟩ := hrel
    have HR := Lib.hid hr
    have HBB := Lib.hid hb
    have OR := Lib.hid (O1.out.keep hb hgz)
    have HGR := Lib.hid (HG1.out.keep hb (cell_lt HG1.out))
    have hsz := hb.size
    clear hr hb
    by_cases hlt : k < K
    · obtain ⟨r, hr1⟩ : ∃ r, rs[k]? = some r := ⟨rs[k]'(by rw [← HKL.out]; exact hlt), List.getElem?_eq_getElem _⟩
      obtain ⟨c0, c1, c2, c3⟩ := OR.out.at' k r hr1
      have hsn : Ls.take (k + 1) = Ls.take k ++ [r.2.2.txt] := by rw [List.take_add_one, HLA.out k r hr1]; rfl
      have hlk : (Ls.take k).length = k := by rw [List.length_take, HLL.out]; omega
      have hnf : noW r.2.2.txt = failR r.2.2 := HOK.out r (List.mem_of_getElem? hr1)
      have HF := Lib.hid (show flT 0 (Ls.take (k + 1)) = flT 0 (Ls.take k) ++ (if failR r.2.2 then [(k : Int) + 1] else []) by rw [hsn, flT_snoc, hlk, Nat.zero_add, hnf])
      have HFL := Lib.hid (show (flT 0 (Ls.take k)).length ≤ 50 by have := flT_len (Ls.take k) 0; omega)
      have HLT := Lib.hid hlt
      have hk2 : k ≤ 50 := by omega
      have hgr : g < wr.heap.size := OR.out.lt
      obtain ⟨n', b', rp⟩ := r
      dsimp only at c0 c1 c2 c3 HF
      clear hr1 hsn hlk hnf
      cases rp with
      | say t =>
        have HF2 := Lib.hid (show flT 0 (Ls.take (k + 1)) = flT 0 (Ls.take k) by rw [HF.out]; simp [failR])
        have c3' : wr.cell? ⟨g, k * 4 + 3, none⟩ = some .nilIface := c3
        clear HF c3
        have HW := Lib.hid (two_below wr (.cells #[.int .i64 n', .int .i64 b', str (rpS (.say t)), .nilIface] 60) (.cells #[.int .i64 0, .nilIface] 70))
        go_wp2_with fail
        refine (as_nil _ _).mono ?_
        rintro e w4 ⟨rfl, rfl⟩
        go_wp2
        go_roundw
        case rel => exact ⟨k + 1, by have := HLT.out; omega, by go_num, by rw [HF2.out]; exact HR.out.keep HW.out, HBB.out.trans (HW.out.mono HBB.out.size)⟩
        case measure => simp [intOf]; omega
      | no =>
        have HF2 := Lib.hid (show flT 0 (Ls.take (k + 1)) = flT 0 (Ls.take k) ++ [(k : Int) + 1] by rw [HF.out]; simp [failR])
        have c3' : wr.cell? ⟨g, k * 4 + 3, none⟩ = some (.iface 70 (.agg #[.int .i64 ((k : Int) + 1), .iface 263 (.pointer (some pn))])) := c3
        clear HF c3
        obtain ⟨o1, ho1⟩ : ∃ o1, o1 = Obj.cells #[.int .i64 n', .int .i64 b', str (rpS .no), .iface 70 (.agg #[.int .i64 ((k : Int) + 1), .iface 263 (.pointer (some pn))])] 60 := ⟨_, rfl⟩
        obtain ⟨o2, ho2⟩ : ∃ o2, o2 = Obj.cells #[.int .i64 0, .nilIface] 70 := ⟨_, rfl⟩
        have HW := Lib.hid (two_below wr o1 o2)
        obtain ⟨V, hV⟩ : ∃ V, V = (wr.alloc o1).alloc o2 := ⟨_, rfl⟩
        have hVz : V.heap.size = wr.heap.size + 2 := by rw [hV]; simp
        have hbx : Box2 V (wr.heap.size + 1) := by
          have := box_two (wr.alloc o1) (.int .i64 0) .nilIface 70
          rw [hV, ho2]
          simpa using this
        rw [← hV] at HW
        have HX := Lib.hid (as_hit ((k : Int) + 1) pn (wr.heap.size + 1) V (HGR.out.keep HW.out (cell_lt HGR.out)) hbx (by omega))
        have HBX := Lib.hid hbx
        have HVZ := Lib.hid hVz
        rw [ho1, ho2] at hV
        clear hbx ho1 ho2 hVz
        go_wp2_with fail
        try simp only [World.alloc_size, World.size_alloc]
        rw [← hV]
        clear hV
        refine HX.out.mono ?_
        rintro e w4 ⟨rfl, W, hW, rfl⟩
        have hVz := HVZ.out
        have hBW := HBX.out.keep hW (by omega)
        have hsW := hW.size
        have HSB := Lib.hid (set2_below (HW.out.trans (hW.mono HW.out.size)) (show wr.heap.size ≤ wr.heap.size + 1 by omega) (.int .i64 ((k : Int) + 1)) (.iface 263 (.pointer (some pn))))
        have HRP := Lib.hid (HR.out.keep HSB.out)
        obtain ⟨p0, p1⟩ := set2_cells hBW (.int .i64 ((k : Int) + 1)) (.iface 263 (.pointer (some pn)))
        have HBP := Lib.hid (HBB.out.trans (HSB.out.mono HBB.out.size))
        obtain ⟨P, hP⟩ : ∃ P, P = set2 W (wr.heap.size + 1) (.int .i64 ((k : Int) + 1)) (.iface 263 (.pointer (some pn))) := ⟨_, rfl⟩
        rw [← hP] at p0 p1 HBP HRP ⊢
        clear HSB HW
        have hPz : w1.heap.size ≤ P.heap.size := HBP.out.size
        clear hP p1 hBW hsW hW hVz
        go_wp2_with (at_builtin; refine wpList_appR rfl _ _ rfl w1.heap.size w1.heap.size _ _ (flT 0 (Ls.take k)) [(k : Int) + 1] rfl rfl (HRP.out.alloc _) (Rd.litB _ _ _ HBP.out.size) (by have := HFL.out; simp; omega) (by simp; omega) ?_; intro v1 w2 hr1 hg1 hb2; have HR2 := Lib.hid hr1; have HB2 := Lib.hid ((HBP.out.alloc HBP.out.size _).trans hb2); clear hr1 hg1 hb2)
        go_roundw
        case rel => exact ⟨k + 1, by have := HLT.out; omega, by go_num, by rw [HF2.out]; exact HR2.out, HB2.out⟩
        case measure => simp [intOf]; omega
      | what =>
        have HF2 := Lib.hid (show flT 0 (Ls.take (k + 1)) = flT 0 (Ls.take k) ++ [(k : Int) + 1] by rw [HF.out]; simp [failR])
        have c3' : wr.cell? ⟨g, k * 4 + 3, none⟩ = some (.iface 70 (.agg #[.int .i64 ((k : Int) + 1), .iface 263 (.pointer (some pw))])) := c3
        clear HF c3
        obtain ⟨o1, ho1⟩ : ∃ o1, o1 = Obj.cells #[.int .i64 n', .int .i64 b', str (rpS .what), .iface 70 (.agg #[.int .i64 ((k : Int) + 1), .iface 263 (.pointer (some pw))])] 60 := ⟨_, rfl⟩
        obtain ⟨o2, ho2⟩ : ∃ o2, o2 = Obj.cells #[.int .i64 0, .nilIface] 70 := ⟨_, rfl⟩
        have HW := Lib.hid (two_below wr o1 o2)
        obtain ⟨V, hV⟩ : ∃ V, V = (wr.alloc o1).alloc o2 := ⟨_, rfl⟩
        have hVz : V.heap.size = wr.heap.size + 2 := by rw [hV]; simp
        have hbx : Box2 V (wr.heap.size + 1) := by
          have := box_two (wr.alloc o1) (.int .i64 0) .nilIface 70
          rw [hV, ho2]
          simpa using this
        rw [← hV] at HW
        have HX := Lib.hid (as_hit ((k : Int) + 1) pw (wr.heap.size + 1) V (HGR.out.keep HW.out (cell_lt HGR.out)) hbx (by omega))
        have HBX := Lib.hid hbx
        have HVZ := Lib.hid hVz
        rw [ho1, ho2] at hV
        clear hbx ho1 ho2 hVz
        go_wp2_with fail
        try simp only [World.alloc_size, World.size_alloc]
        rw [← hV]
        clear hV
        refine HX.out.mono ?_
        rintro e w4 ⟨rfl, W, hW, rfl⟩
        have hVz := HVZ.out
        have hBW := HBX.out.keep hW (by omega)
        have hsW := hW.size
        have HSB := Lib.hid (set2_below (HW.out.trans (hW.mono HW.out.size)) (show wr.heap.size ≤ wr.heap.size + 1 by omega) (.int .i64 ((k : Int) + 1)) (.iface 263 (.pointer (some pw))))
        have HRP := Lib.hid (HR.out.keep HSB.out)
        obtain ⟨p0, p1⟩ := set2_cells hBW (.int .i64 ((k : Int) + 1)) (.iface 263 (.pointer (some pw)))
        have HBP := Lib.hid (HBB.out.trans (HSB.out.mono HBB.out.size))
        obtain ⟨P, hP⟩ : ∃ P, P = set2 W (wr.heap.size + 1) (.int .i64 ((k : Int) + 1)) (.iface 263 (.pointer (some pw))) := ⟨_, rfl⟩
        rw [← hP] at p0 p1 HBP HRP ⊢
        clear HSB HW
        have hPz : w1.heap.size ≤ P.heap.size := HBP.out.size
        clear hP p1 hBW hsW hW hVz
        go_wp2_with (at_builtin; refine wpList_appR rfl _ _ rfl w1.heap.size w1.heap.size _ _ (flT 0 (Ls.take k)) [(k : Int) + 1] rfl rfl (HRP.out.alloc _) (Rd.litB _ _ _ HBP.out.size) (by have := HFL.out; simp; omega) (by simp; omega) ?_; intro v1 w2 hr1 hg1 hb2; have HR2 := Lib.hid hr1; have HB2 := Lib.hid ((HBP.out.alloc HBP.out.size _).trans hb2); clear hr1 hg1 hb2)
        go_roundw
        case rel => exact ⟨k + 1, by have := HLT.out; omega, by go_num, by rw [HF2.out]; exact HR2.out, HB2.out⟩
        case measure => simp [intOf]; omega
    · obtain rfl : k = K := by omega
      have hall : Ls.take k = Ls := List.take_of_length_le (by rw [HLL.out]; exact Nat.le_refl _)
      rw [hall] at HR
      go_wp2
      go_ret2
      exact ⟨_, rfl, HR.out.mono HB.out.size, HB.out.trans (HBB.out.mono HB.out.size)⟩

theorem impl_FailedLines (S : Tx) (pn pw : Addr) (w : World) (h : Env w pn pw) (hg : ErrT w) :
    Calls Tryz.prog 21 #[str S] w fun e w' => ∃ v, e = .returned (.tuple #[v, .bool (decide (scOk S))]) ∧ Rd w' w.heap.size v (flT 0 ((scR S).map fun r => r.2.2.txt)) ∧ Below w.heap.size w w' := by
  by_cases hok : scOk S
  · have e : scR S = runS 7 10 (scL S) := if_pos hok
    rw [e, decide_eq_true hok]
    exact impl_FailedLines_ok S hok pn pw w h hg
  · have e : scR S = [] := if_neg hok
    rw [e, decide_eq_false hok]
    refine (impl_FailedLines_bad S hok pn pw w h).mono ?_
    rintro e w' ⟨rfl, hb⟩
    exact ⟨_, rfl, Rd.nil _ _, hb⟩

end Go.Proofs.YtlbjeiaihenjkaaGreatDoor

/- from P6: The scripts that the console's laws draw.  -/
namespace Go.Proofs.YtlbjeiaihenjkaaGreatDoor
open Go.RowKit
set_option linter.unusedVariables false
set_option linter.unusedSimpArgs false
set_option maxRecDepth 100000

theorem to_run (s : Tx) (f : Nat) (h1 : f ≤ s.length) (w : World) :
    (Instr.slice 9 (str s) none (some (.int .i64 (f : Int))) none).run Tryz.prog w = .ok (str (s.take f)) w := by
  rw [run_slice_string_h w 9 ⟨s.toArray⟩ Tryz.underlying9 .i64 (f : Int) (by omega) (by rw [ba_sz]; omega), Int.toNat_natCast, ba_ext]
  simp

set_option maxHeartbeats 1000000 in
theorem spoilt_any (g : Nat) (v : Value) (xs : List Int) (K : Nat) (t : Tx) (w : World) (h : Cu w g v xs K) (hK : K ≤ 900000) (ht : t.length ≤ 4000) :
    Calls Tryz.prog 82 #[.pointer (some ⟨g, 0, none⟩), str t, .string ⟨#[48, 49, 50, 57, 97, 102, 32, 97, 98, 120, 10]⟩] w fun e w' => ∃ T : Tx, e = .returned (str T) ∧ T.length ≤ 4002 ∧ Cu w' g v xs (K + 20) ∧ w.grownBy w' (some g) := by
  have HP := Lib.hid (fun (K : Nat) (n : Int) (w' : World) (h : Cu w' g v xs K) (hK : K ≤ 1000000) (h0 : 0 ≤ n) (h1 : n ≤ 65536) => pick_any g v xs K n w' h hK h0 h1)
  have HW := Lib.hid (fun (j : Nat) (hj : j < 11) => at_run' [48, 49, 50, 57, 97, 102, 32, 97, 98, 120, 10] j hj)
  have H := Lib.hid h
  have HT := Lib.hid ht
  clear h ht
  go_enter Tryz.func82, Tryz.ntmps82
  go_wp2_with fail
  refine (HP.out K 2 _ H.out (by omega) (by omega) (by omega)).mono ?_
  rintro e w1 ⟨x, rfl, x0, x1, hc, hg⟩
  have C1 := Lib.hid hc
  have G1 := Lib.hid hg
  obtain ⟨X, rfl⟩ : ∃ X : Nat, x = (X : Int) := ⟨x.toNat, by omega⟩
  have hX : X ≤ 1 := by omega
  clear hc hg x1
  go_wp2
  go_loopw [1, 7] (fun s n wr => ∃ (m : Nat) (T : Tx), s = .string ⟨T.toArray⟩ ∧ n = .int .i64 (m : Int) ∧ m ≤ 2 ∧ T.length ≤ 4000 + (2 - m) ∧ Cu wr g v xs (K + 2 + 6 * (2 - m)) ∧ w.grownBy wr (some g)) (fun _ n _ => (intOf n).toNat)
  case atStart => exact ⟨X + 1, t, rfl, by go_num, by omega, by have := HT.out; omega, C1.out.mono (by omega), G1.out⟩
  case round =>
    obtain ⟨m, T, rfl, rfl, hm, hT, hc, hg⟩ := hrel
    have CR := Lib.hid hc
    have GR := Lib.hid hg
    have HTL := Lib.hid hT
    clear hc hg hT
    by_cases hp : 0 < m
    · by_cases hl : 0 < T.length
      · have hp2 : (0 : Int) < (m : Int) := by omega
        have hl2 : (0 : Int) < (T.length : Int) := by omega
        have hsz := ba_sz T
        go_wp2_with fail
        refine (HP.out _ (T.length : Int) _ CR.out (by omega) (by omega) (by have := HTL.out; omega)).mono ?_
        rintro e w2 ⟨i, rfl, i0, i1, hc, hg⟩
        have C2 := Lib.hid hc
        have G2 := Lib.hid (grown_trans GR.out hg)
        obtain ⟨I, rfl⟩ : ∃ I : Nat, i = (I : Int) := ⟨i.toNat, by omega⟩
        have HI := Lib.hid (show I < T.length by omega)
        clear hc hg i1
        go_wp2_with fail
        refine (HP.out _ 11 _ C2.out (by omega) (by omega) (by omega)).mono ?_
        rintro e w3 ⟨j, rfl, j0, j1, hc, hg⟩
        have C3 := Lib.hid hc
        have G3 := Lib.hid (grown_trans G2.out hg)
        obtain ⟨J, rfl⟩ : ∃ J : Nat, j = (J : Int) := ⟨j.toNat, by omega⟩
        obtain ⟨c, _, _, hat⟩ := HW.out J (by omega)
        have hat' : ∀ W : World, (Instr.index 9 (.string ⟨#[48, 49, 50, 57, 97, 102, 32, 97, 98, 120, 10]⟩) (.int .i64 (J : Int))).run Tryz.prog W = .ok (.int .u8 (c.toNat : Int)) W := hat
        have hcv := one_run c (c.toNat : Int) (by simp) (w3.alloc (.cells #[.int .u8 (c.toNat : Int)] 5)) w3.heap.size (by simp [go_sem])
        have C3a := Lib.hid (C3.out.alloc (.cells #[.int .u8 (c.toNat : Int)] 5))
        have G3a := Lib.hid (grown_trans G3.out (grown_alloc w3 (.cells #[.int .u8 (c.toNat : Int)] 5) (some g)))
        clear hc hg j1 hat
        go_wp2_with fail
        refine (HP.out _ 3 _ C3a.out (by omega) (by omega) (by omega)).mono ?_
        rintro e w4 ⟨y, rfl, y0, y1, hc, hg⟩
        have C4 := Lib.hid hc
        have G4 := Lib.hid (grown_trans G3a.out hg)
        have hy : y = 0 ∨ y = 1 ∨ y = 2 := by omega
        have hto : ∀ W : World, (Instr.slice 9 (.string ⟨T.toArray⟩) none (some (.int .i64 (I : Int))) none).run Tryz.prog W = .ok (.string ⟨(T.take I).toArray⟩) W := fun W => to_run T I (by have := HI.out; omega) W
        have hfr : ∀ W : World, (Instr.slice 9 (.string ⟨T.toArray⟩) (some (.int .i64 (I : Int))) none none).run Tryz.prog W = .ok (.string ⟨(T.drop I).toArray⟩) W := fun W => from_run T I (by have := HI.out; omega) W
        have hI2 := HI.out
        have hw1 : wrap64 ((I : Int) + 1) = (I : Int) + 1 := by unfold wrap64; have := HTL.out; omega
        have hw2 : IntKind.i64.wrap ((I : Int) + 1) = (I : Int) + 1 := IntWalk.i64_in _ (by have := HTL.out; omega)
        have hfr1 : ∀ W : World, (Instr.slice 9 (.string ⟨T.toArray⟩) (some (.int .i64 ((I : Int) + 1))) none none).run Tryz.prog W = .ok (.string ⟨(T.drop (I + 1)).toArray⟩) W := fun W => by
          have := from_run T (I + 1) (by have := HI.out; omega) W
          rwa [show (((I + 1 : Nat)) : Int) = (I : Int) + 1 by omega] at this
        have HLEN := Lib.hid (show (T.take I).length + (T.drop I).length ≤ T.length ∧ (T.take I).length + (T.drop (I + 1)).length ≤ T.length by simp; omega)
        obtain ⟨A, hA⟩ : ∃ A, A = T.take I := ⟨_, rfl⟩
        obtain ⟨B, hB⟩ : ∃ B, B = T.drop I := ⟨_, rfl⟩
        obtain ⟨D, hD⟩ : ∃ D, D = T.drop (I + 1) := ⟨_, rfl⟩
        rw [← hA, ← hB, ← hD] at HLEN
        have lA : A.length ≤ 4002 := by have h1 := HLEN.out.1; have h2 := HTL.out; omega
        have lB : B.length ≤ 4002 := by have h1 := HLEN.out.1; have h2 := HTL.out; omega
        have lD : D.length ≤ 4002 := by have h1 := HLEN.out.2; have h2 := HTL.out; omega
        rw [← hA] at hto
        rw [← hB] at hfr
        rw [← hD] at hfr1
        clear hc hg hA hB hD y1 hcv hat' hI2
        rcases hy with rfl | rfl | rfl
        · go_wp2
          go_region
          all_goals
            go_wp2
            go_roundw
            case rel => exact ⟨m - 1, A ++ [c] ++ B, congrArg Value.string (ByteArray.ext (by simp)), by go_num, by omega, by have h1 := HLEN.out.1; have h2 := HTL.out; simp; omega, (C4.out.mono (by omega)).drew, grown_drew G4.out⟩
            case measure => simp [intOf]; omega
        · go_wp2
          go_region
          all_goals
            go_wp2
            go_roundw
            case rel => exact ⟨m - 1, A ++ [c] ++ D, congrArg Value.string (ByteArray.ext (by simp)), by go_num, by omega, by have h1 := HLEN.out.2; have h2 := HTL.out; simp; omega, (C4.out.mono (by omega)).drew, grown_drew G4.out⟩
            case measure => simp [intOf]; omega
        · go_wp2
          go_region
          all_goals
            go_wp2
            go_roundw
            case rel => exact ⟨m - 1, A ++ D, congrArg Value.string (ByteArray.ext (by simp)), by go_num, by omega, by have h1 := HLEN.out.2; have h2 := HTL.out; simp; omega, (C4.out.mono (by omega)).drew, grown_drew G4.out⟩
            case measure => simp [intOf]; omega
      · obtain rfl : T = [] := List.eq_nil_of_length_eq_zero (by omega)
        have hp2 : (0 : Int) < (m : Int) := by omega
        go_wp2
        go_ret
        exact ⟨[], rfl, by simp, CR.out.mono (by omega), GR.out⟩
    · obtain rfl : m = 0 := by omega
      go_wp2
      go_ret
      exact ⟨T, rfl, by have := HTL.out; omega, CR.out.mono (by omega), GR.out⟩

theorem script10_any (g : Nat) (v : Value) (xs : List Int) (K : Nat) (w : World) (h : Cu w g v xs K) (hK : K ≤ 1000) :
    Calls Tryz.prog 52 #[.pointer (some ⟨g, 0, none⟩)] w fun e w' => ∃ T : Tx, e = .returned (str T) ∧ T.length ≤ 4002 ∧ Cu w' g v xs (K + 2100) ∧ w.grownBy w' (some g) := by
  have HA := Lib.hid (amongM g v xs K [0, 1, 5, 10, 20, 50, 51] w h (by omega) (by simp) (by simp))
  have HM := Lib.hid (show ∀ z : Int, z ∈ [0, 1, 5, 10, 20, 50, (51 : Int)] → 0 ≤ z ∧ z ≤ 51 by decide)
  have HL := Lib.hid (fun (K : Nat) (w' : World) (h : Cu w' g v xs K) (hK : K ≤ 900000) => line10_any g v xs K w' h hK)
  have HO := Lib.hid (fun (K : Nat) (w' : World) (h : Cu w' g v xs K) (hK : K ≤ 900000) => oneD_any g v xs K 12 w' h (by omega) (by omega) (by omega))
  have HS := Lib.hid (fun (K : Nat) (t : Tx) (w' : World) (h : Cu w' g v xs K) (hK : K ≤ 900000) (ht : t.length ≤ 4000) => spoilt_any g v xs K t w' h hK ht)
  clear h
  go_enter Tryz.func52, Tryz.ntmps52
  go_wp2_with fail
  refine HA.out.mono ?_
  rintro e w1 ⟨z, rfl, hm, hc, hg⟩
  have C1 := Lib.hid hc
  have G1 := Lib.hid hg
  obtain ⟨z0, z1⟩ := HM.out z hm
  obtain ⟨Z, rfl⟩ : ∃ Z : Nat, z = (Z : Int) := ⟨z.toNat, by omega⟩
  clear hc hg hm
  go_wp2
  go_loopw [3, 4] (fun s n wr => ∃ (m : Nat) (T : Tx), s = .string ⟨T.toArray⟩ ∧ n = .int .i64 (m : Int) ∧ m ≤ 51 ∧ T.length ≤ 61 * (51 - m) ∧ Cu wr g v xs (K + 2 + 40 * (51 - m)) ∧ w.grownBy wr (some g)) (fun _ n _ => (intOf n).toNat)
  case atStart => exact ⟨Z, [], rfl, rfl, by omega, by simp, C1.out.mono (by omega), G1.out⟩
  case round =>
    obtain ⟨m, T, rfl, rfl, hm, hT, hc, hg⟩ := hrel
    have CR := Lib.hid hc
    have GR := Lib.hid hg
    have HTL := Lib.hid hT
    clear hc hg hT
    by_cases hp : 0 < m
    · have hp2 : (0 : Int) < (m : Int) := by omega
      go_wp2_with fail
      refine (HL.out _ _ CR.out (by omega)).mono ?_
      rintro e w2 ⟨U, rfl, hU, hc, hg⟩
      have C2 := Lib.hid hc
      have G2 := Lib.hid (grown_trans GR.out hg)
      have HU := Lib.hid hU
      have lT : T.length ≤ 4002 := by have := HTL.out; omega
      clear hc hg
      go_wp2
      go_roundw
      case rel => exact ⟨m - 1, T ++ (U ++ [10]), congrArg Value.string (ByteArray.ext (by simp)), by go_num, by omega, by have h1 := HTL.out; have h2 := HU.out; simp; omega, C2.out.mono (by omega), G2.out⟩
      case measure => simp [intOf]; omega
    · obtain rfl : m = 0 := by omega
      go_wp2_with fail
      refine (HO.out _ _ CR.out (by omega)).mono ?_
      rintro e w2 ⟨q, rfl, hc, hg⟩
      have C2 := Lib.hid hc
      have G2 := Lib.hid (grown_trans GR.out hg)
      clear hc hg
      cases q
      · go_wp2
        go_ret
        exact ⟨T, rfl, by have := HTL.out; omega, C2.out.mono (by omega), G2.out⟩
      · have HQ := Lib.hid (HS.out _ (T ++ [115, 104, 111, 119]) w2 C2.out (by omega) (by have := HTL.out; simp; omega))
        have lT : T.length ≤ 4002 := by have := HTL.out; omega
        have HV := Lib.hid (show Value.string (⟨T.toArray⟩ ++ ⟨#[115, 104, 111, 119]⟩) = str (T ++ [115, 104, 111, 119]) from congrArg Value.string (ByteArray.ext (by simp)))
        go_wp2_with fail
        rw [HV.out]
        refine HQ.out.mono ?_
        rintro e w3 ⟨U, rfl, hU, hc, hg⟩
        have C3 := Lib.hid hc
        have G3 := Lib.hid (grown_trans G2.out hg)
        have HU := Lib.hid hU
        clear hc hg hU
        go_wp2
        go_ret
        exact ⟨U, rfl, HU.out, C3.out.mono (by omega), G3.out⟩

theorem draw_RunScript (v : Value) (xs : List Int) (w : World) (h : Sb w v xs) (hs : xs.length ≤ 1048576) :
    Calls Tryz.prog 30 #[v] w fun e w' => ∃ S : Tx, e = .returned (str S) ∧ S.length ≤ 4002 ∧ Below w.heap.size w w' := by
  have HC := Lib.hid (Cu.start h hs)
  obtain ⟨a, cap, rfl⟩ := h.len
  have HB := Lib.hid (alloc_below w (.cells #[.slice a xs.length cap, .int .i64 0, .int .u64 0] 76))
  clear h
  go_enter Tryz.func30, Tryz.ntmps30
  go_wp2_with fail
  refine (script10_any w.heap.size _ xs _ _ HC.out (by omega)).mono ?_
  rintro e w1 ⟨S, rfl, hS, hc, hg⟩
  have HB1 := Lib.hid (HB.out.trans (grown_below hg (by simp) (Nat.le_refl _)))
  have HSL := Lib.hid hS
  clear hc hg hS
  go_wp2
  go_ret
  exact ⟨S, rfl, HSL.out, HB1.out⟩

end Go.Proofs.YtlbjeiaihenjkaaGreatDoor

/- from P7: The law of scripts: a script is drawn and read letter by letter.  -/
namespace Go.Proofs.YtlbjeiaihenjkaaGreatDoor
open Go.RowKit
set_option linter.unusedVariables false
set_option linter.unusedSimpArgs false
set_option maxRecDepth 100000

theorem rTexts_any (g1 g2 n c1 c2 : Nat) (xs : List Tx) (B C : Nat) (w : World) (h1 : Rg 9 w B (.slice (some ⟨g1, 0, none⟩) n c1) (xs.map str)) (h2 : Rg 9 w C (.slice (some ⟨g2, 0, none⟩) n c2) (xs.map str)) (hn : n ≤ 1000) :
    Calls Tryz.prog 31 #[.slice (some ⟨g1, 0, none⟩) n c1, .slice (some ⟨g2, 0, none⟩) n c2] w fun e w' => e = .returned (.bool true) ∧ Below w.heap.size w w' := by
  have hl : xs.length = n := by have := h1.at.1; rw [List.length_map] at this; exact this.symm
  have k1 : n ≤ c1 := by have := h1.at.2.2.2.1; rw [List.length_map, hl] at this; exact this
  have k2 : n ≤ c2 := by have := h2.at.2.2.2.1; rw [List.length_map, hl] at this; exact this
  have HC := Lib.hid (show ∀ j, j < n → ∃ x, w.cell? ⟨g1, j, none⟩ = some (str x) ∧ w.cell? ⟨g2, j, none⟩ = some (str x) from fun j hj => by
    have hj' : j < (xs.map str).length := by rw [List.length_map, hl]; exact hj
    exact ⟨xs[j], by rw [h1.at.2.2.2.2.2.1 j hj', List.getElem_map], by rw [h2.at.2.2.2.2.2.1 j hj', List.getElem_map]⟩)
  clear h1 h2 hl
  go_enter Tryz.func31, Tryz.ntmps31
  go_wp2
  go_loopw [13] (fun i wr => ∃ j : Nat, j ≤ n ∧ i = .int .i64 j ∧ Below w.heap.size w wr) (fun i _ => n - (intOf i).toNat)
  case atStart => exact ⟨0, Nat.zero_le _, rfl, Below.refl _ _⟩
  case round =>
    obtain ⟨j, hj, rfl, hb⟩ := hrel
    have HB := Lib.hid hb
    by_cases hlt : j < n
    · obtain ⟨x, y1, y2⟩ := HC.out j hlt
      have x1 := (hb.cell (p := ⟨g1, j, none⟩) (cell_lt y1)).trans y1
      have x2 := (hb.cell (p := ⟨g2, j, none⟩) (cell_lt y2)).trans y2
      clear hb y1 y2
      go_wp2
      go_region
      all_goals
        go_wp2
        go_roundw
        case rel => exact ⟨j + 1, by omega, by go_num, HB.out.drew⟩
        case measure => simp [intOf]; omega
    · obtain rfl : j = n := by omega
      clear hb
      go_wp2
      go_ret
      exact ⟨rfl, HB.out⟩
theorem rTexts_zero (a b : Option Addr) (c d : Nat) (w : World) : Calls Tryz.prog 31 #[.slice a 0 c, .slice b 0 d] w fun e w' => e = .returned (.bool true) ∧ Below w.heap.size w w' := by
  go_enter Tryz.func31, Tryz.ntmps31
  go_wp2
  refine wp_loop_rounds 1 ?_
  rw [rounds_succ]
  go_wp2
  go_ret
  exact ⟨rfl, Below.refl _ _⟩
theorem rT (v u : Value) (Ls : List Tx) (B C : Nat) (w : World) (h1 : Rg 9 w B v (Ls.map str)) (h2 : Rg 9 w C u (Ls.map str)) (hn : Ls.length ≤ 1000) :
    Calls Tryz.prog 31 #[v, u] w fun e w' => e = .returned (.bool true) ∧ Below w.heap.size w w' := by
  rcases h1.cases with ⟨rfl, e1⟩ | ⟨g1, c1, rfl⟩
  · have hz : Ls.length = 0 := by have := congrArg List.length e1; simpa using this
    rcases h2.cases with ⟨rfl, _⟩ | ⟨g2, c2, rfl⟩
    · exact rTexts_zero _ _ _ _ w
    · rw [List.length_map, hz]; exact rTexts_zero _ _ _ _ w
  · rcases h2.cases with ⟨rfl, e2⟩ | ⟨g2, c2, rfl⟩
    · have hz : Ls.length = 0 := by have := congrArg List.length e2; simpa using this
      rw [List.length_map, hz]; exact rTexts_zero _ _ _ _ w
    · have e : (Ls.map str).length = Ls.length := List.length_map _
      rw [e] at h1 h2 ⊢
      exact rTexts_any g1 g2 Ls.length c1 c2 Ls B C w h1 h2 hn

/-- Where the texts of a slice lie. -/
theorem rg_lies {w : World} {B : Nat} {v : Value} {Ls : List Tx} (hr : Rg 9 w B v (Ls.map str)) : ∃ a cap, v = .slice a Ls.length cap ∧ Ls.length ≤ cap ∧ (Ls.length = 0 ∨ ∃ g, a = some ⟨g, 0, none⟩ ∧ g < w.heap.size ∧ ∀ (j : Nat) x, Ls[j]? = some x → w.cell? ⟨g, j, none⟩ = some (str x)) := by
  rcases hr.cases with ⟨rfl, e0⟩ | ⟨g, cap, rfl⟩
  · have hz : Ls.length = 0 := by have := congrArg List.length e0; simpa using this
    exact ⟨none, 0, by rw [hz], by omega, .inl hz⟩
  · refine ⟨_, _, by rw [List.length_map], by have := hr.at.2.2.2.1; simpa using this, .inr ⟨g, rfl, hr.at.2.2.1, fun j x hx => ?_⟩⟩
    have hj : j < (Ls.map str).length := by rw [List.length_map]; exact (List.getElem?_eq_some_iff.1 hx).1
    rw [hr.at.2.2.2.2.2.1 j hj, List.getElem_map, (List.getElem?_eq_some_iff.1 hx).2]
theorem rd_lies {w : World} {B : Nat} {v : Value} {xs : List Int} (hr : Rd w B v xs) : ∃ a cap, v = .slice a xs.length cap ∧ xs.length ≤ cap ∧ (xs.length = 0 ∨ ∃ g, a = some ⟨g, 0, none⟩ ∧ g < w.heap.size ∧ ∀ (j : Nat) x, xs[j]? = some x → w.cell? ⟨g, j, none⟩ = some (.int .i64 x)) := by
  rcases hr.cases with ⟨rfl, rfl⟩ | ⟨g, cap, rfl, _⟩
  · exact ⟨none, 0, rfl, Nat.le_refl _, .inl rfl⟩
  · refine ⟨_, _, rfl, hr.at.2.2.2.1, .inr ⟨g, rfl, hr.at.2.2.1, fun j x hx => ?_⟩⟩
    obtain ⟨h1, h2⟩ := List.getElem?_eq_some_iff.1 hx
    rw [hr.at.2.2.2.2.1 j h1, h2]
theorem kc_set {w : World} {s : Nat} {n b : Int} (h : Kc w s n b) (hf : ∀ j, w.frozen? ⟨s, j, none⟩ = false) (n' b' : Int) : Kc (set2 w s (.int .i64 n') (.int .i64 b')) s n' b' ∧ ∀ j, (set2 w s (.int .i64 n') (.int .i64 b')).frozen? ⟨s, j, none⟩ = false := by
  have hB : Box2 w s := ⟨fun j hj => by
    match j, hj with
    | 0, _ => exact ⟨_, h.c0⟩
    | 1, _ => exact ⟨_, h.c1⟩
    | j + 2, h => omega, hf⟩
  obtain ⟨h0, h1⟩ := set2_cells hB (.int .i64 n') (.int .i64 b')
  refine ⟨⟨h0, h1, by have := h.lt; simpa [World.setCell] using this⟩, fun j => ?_⟩
  have := hf j
  simpa [go_sem] using this

set_option maxHeartbeats 4000000 in
theorem law_DeskScripts {W : World} (v0 : Value) (xs0 : List Int) (hs0 : Sb W v0 xs0) (v1 : Value) (xs1 : List Int) (hs1 : Sb W v1 xs1) (pn pw : Addr) (h : Env W pn pw) (hg : ErrT W) :
    Calls Tryz.prog 8 #[v0, v1] W fun e w' => e = .returned (.bool true) ∧ Below W.heap.size W w' := by
  obtain ⟨a0, k0, rfl⟩ := hs0.len
  obtain ⟨a1, k1, rfl⟩ := hs1.len
  have HS0 := Lib.hid hs0
  have HE := Lib.hid (fun w' (hb : Below W.heap.size W w') => h.keep hb)
  have HG := Lib.hid (fun w' (hb : Below W.heap.size W w') => hg.keep hb (cell_lt hg))
  have HB := Lib.hid (big_any a0 a1 xs0.length xs1.length k0 k1 W)
  clear hs0 hs1 h hg
  by_cases hbig : 1048576 < xs0.length ∨ 1048576 < xs0.length + xs1.length
  · rw [decide_eq_true hbig] at HB
    go_enter Tryz.func8, Tryz.ntmps8
    go_wp2_with (go_at_call 25; refine HB.out.mono ?_; rintro e w ⟨rfl, rfl⟩)
    go_ret
    exact ⟨rfl, Below.refl _ _⟩
  · rw [decide_eq_false hbig] at HB
    have hs : xs0.length ≤ 1048576 := by omega
    clear hbig
    go_enter Tryz.func8, Tryz.ntmps8
    go_wp2_with fail
    refine HB.out.mono ?_
    rintro e w ⟨rfl, rfl⟩
    go_wp2_with fail
    refine (draw_RunScript _ xs0 _ HS0.out hs).mono ?_
    rintro e w1 ⟨S, rfl, hS, hb⟩
    have A1 := Lib.hid hb
    clear hb
    obtain ⟨q, hq⟩ : ∃ q, q = decide (scOk S) := ⟨_, rfl⟩
    obtain ⟨Ls, hL⟩ : ∃ Ls, Ls = (scR S).map fun r => r.2.2.txt := ⟨_, rfl⟩
    obtain ⟨n9, b9, hD⟩ : ∃ n9 b9, scD S = (n9, b9) := ⟨_, _, rfl⟩
    have hLl : Ls.length ≤ 50 := by rw [hL, List.length_map]; exact scR_len S
    have e1 : ((scR S).map fun r => str r.2.2.txt) = Ls.map str := by rw [hL, List.map_map]; rfl
    have HI1 := Lib.hid (fun w' hw => impl_RunScript S pn pw w' hw)
    have HS1 := Lib.hid (fun w' => spec_RunScript S w')
    have HI2 := Lib.hid (fun w' hw => impl_DeskAfter S pn pw w' hw)
    have HI3 := Lib.hid (fun w' hw hg' => impl_FailedLines S pn pw w' hw hg')
    rw [← hq, ← hL] at HI1 HI3
    rw [← hq, e1] at HS1
    rw [hD, ← hq] at HI2
    dsimp only at HI2
    have HOK := Lib.hid (fun hqt : q = true => (show scOk S ∧ Ls = txS (scL S) ∧ endS 7 10 (scL S) = (n9, b9) from by
      have hok : scOk S := of_decide_eq_true (hq.symm.trans hqt)
      refine ⟨hok, ?_, ?_⟩
      · rw [hL]; unfold scR txS; rw [if_pos hok]
      · rw [← hD]; unfold scD; rw [if_pos hok]))
    have HFL := Lib.hid (show (flT 0 Ls).length ≤ 50 by have := flT_len Ls 0; omega)
    clear hq hL hD e1
    go_wp2_with fail
    refine (HI1.out _ (HE.out _ A1.out)).mono ?_
    rintro e w2 ⟨v6, rfl, hr, hb⟩
    have R2 := Lib.hid hr
    have A2 := Lib.hid (A1.out.trans (hb.mono A1.out.size))
    clear hr hb
    go_wp2_with fail
    refine (HS1.out _).mono ?_
    rintro e w3 ⟨v8, rfl, hr, hb⟩
    have R3 := Lib.hid (R2.out.keep hb)
    have Q3 := Lib.hid hr
    have A3 := Lib.hid (A2.out.trans (hb.mono A2.out.size))
    clear hr hb
    go_wp2_with fail
    refine (HI2.out _ (HE.out _ A3.out)).mono ?_
    rintro e w4 ⟨rfl, hb⟩
    have hal := alloc_belowD w4 (.cells #[.int .i64 n9, .int .i64 b9] 24)
    have R4 := Lib.hid ((R3.out.keep hb).keep hal)
    have Q4 := Lib.hid ((Q3.out.keep hb).keep hal)
    have A4 := Lib.hid ((A3.out.trans (hb.mono A3.out.size)).trans (hal.mono (A3.out.trans (hb.mono A3.out.size)).size))
    have L4 := Lib.hid (Kc.new w4 n9 b9 24)
    obtain ⟨v4, hv4⟩ : ∃ v4, v4 = w4.alloc (.cells #[.int .i64 n9, .int .i64 b9] 24) := ⟨_, rfl⟩
    rw [← hv4] at R4 Q4 A4 L4
    clear hb hal
    go_wp2_with fail
    rw [← hv4]
    clear hv4
    refine (HI3.out _ (HE.out _ A4.out) (HG.out _ A4.out)).mono ?_
    rintro e w5 ⟨v12, rfl, hr, hb⟩
    have R5 := Lib.hid (R4.out.keep hb)
    have Q5 := Lib.hid (Q4.out.keep hb)
    have L5 := Lib.hid (L4.out.keep hb)
    have F5 := Lib.hid hr
    have A5 := Lib.hid (A4.out.trans (hb.mono A4.out.size))
    clear hr hb
    go_wp2_with fail
    refine (rT v6 v8 Ls _ _ w5 R5.out Q5.out (by omega)).mono ?_
    rintro e w6 ⟨rfl, hb⟩
    have R6 := Lib.hid (R5.out.keep hb)
    have F6 := Lib.hid (F5.out.keep hb)
    have L6 := Lib.hid (L5.out.keep hb)
    have A6 := Lib.hid (A5.out.trans (hb.mono A5.out.size))
    clear hb
    cases q with
    | false =>
      go_wp2
      go_ret
      exact ⟨rfl, A6.out⟩
    | true =>
      obtain ⟨hok, hLe, hend⟩ := HOK.out rfl
      have HOKK := Lib.hid hok
      have HLE := Lib.hid hLe
      have HEND := Lib.hid hend
      clear hok hLe hend HOK HI1 HS1 HI2 HI3
      go_wp2_with fail
      refine (impl_FirstDesk _).mono ?_
      rintro e w8 ⟨rfl, hb⟩
      have R8 := Lib.hid (R6.out.keep hb)
      have F8 := Lib.hid (F6.out.keep hb)
      have L8 := Lib.hid (L6.out.keep hb)
      have A8 := Lib.hid (A6.out.trans (hb.mono A6.out.size))
      clear hb
      obtain ⟨a6, c6, rfl, hc6, hl6⟩ := rg_lies R8.out
      obtain ⟨a12, c12, rfl, hc12, hl12⟩ := rd_lies F8.out
      have HL6 := Lib.hid hl6
      have HL12 := Lib.hid hl12
      obtain ⟨FN, hFN⟩ : ∃ FN, FN = (flT 0 Ls).length := ⟨_, rfl⟩
      have HFN := Lib.hid hFN
      obtain ⟨LN, hLN⟩ : ∃ LN, LN = Ls.length := ⟨_, rfl⟩
      have HLN := Lib.hid hLN
      have hfl : FN ≤ 50 := by rw [hFN]; exact HFL.out
      rw [← hFN] at hc12 ⊢
      rw [← hLN] at hc6 hLl ⊢
      clear hl6 hl12 hFN hLN HFL
      go_wp2
      go_loopw [15, 16, 17, 18] (fun ln ct bd i wr => ∃ (k : Nat) (done : List Tx) (acc : Tx), k ≤ S.length ∧ i = .int .i64 (k : Int) ∧ Ats S k done acc ∧ ln = .string ⟨acc.toArray⟩ ∧ ct = .int .i64 (done.length : Int) ∧ bd = .int .i64 ((flT 0 (txS done)).length : Int) ∧ Below w8.heap.size w8 wr ∧ Kc wr w8.heap.size (endS 7 10 done).1 (endS 7 10 done).2 ∧ (∀ j, wr.frozen? ⟨w8.heap.size, j, none⟩ = false)) (fun _ _ _ i _ => S.length - (intOf i).toNat)
      case atStart => exact ⟨0, [], [], Nat.zero_le _, rfl, Ats.start S, rfl, rfl, rfl, alloc_belowD _ _, Kc.new w8 7 10 _, fun j => by simp [go_sem]⟩
      case round =>
        obtain ⟨k, done, acc, hk, rfl, hat, rfl, rfl, rfl, hb, hkc, hfz⟩ := hrel
        have HA := Lib.hid hat
        have HBB := Lib.hid hb
        have hal : acc.length ≤ 4002 := by have := hat.len; omega
        obtain ⟨n, b, hnb⟩ : ∃ n b, endS 7 10 done = (n, b) := ⟨_, _, rfl⟩
        rw [hnb] at hkc
        have HKC := Lib.hid hkc
        have HFZ := Lib.hid hfz
        have HNB := Lib.hid hnb
        obtain ⟨BN, hBN⟩ : ∃ BN, BN = (flT 0 (txS done)).length := ⟨_, rfl⟩
        obtain ⟨DN, hDN⟩ : ∃ DN, DN = done.length := ⟨_, rfl⟩
        have HBN := Lib.hid hBN
        have HDN := Lib.hid hDN
        rw [← hBN, ← hDN]
        clear hb hkc hfz hat hnb hBN hDN
        by_cases hlt : k < S.length
        · obtain ⟨x, hx, _, hrd⟩ := at_run' S k hlt
          have hrd' : ∀ w : World, (Instr.index 9 (.string ⟨S.toArray⟩) (.int .i64 (k : Int))).run Tryz.prog w = .ok (.int .u8 (x.toNat : Int)) w := hrd
          have HX := Lib.hid hx
          have HLT := Lib.hid hlt
          clear hx
          by_cases h10 : x = 10
          · subst h10
            obtain ⟨n', b', Y, hT⟩ := HA.out.told HX.out HOKK.out n b HNB.out
            have HTT := Lib.hid hT
            have HI := Lib.hid (fun w' hw => impl_DeskLine n b acc pn pw w' hw)
            rw [hT.line] at HI
            simp only [dlV] at HI
            have hrep : Ls[DN]? = some Y := by rw [HLE.out, HDN.out]; exact hT.reply
            have hDl : DN < LN := by rw [HLN.out]; exact (List.getElem?_eq_some_iff.1 hrep).1
            have h10b : (((10 : UInt8).toNat : Int) != 10) = false := rfl
            obtain ⟨d0, d1, dz⟩ := HKC.out
            go_wp2_with fail
            clear d0 d1 dz
            refine (HI.out _ (HE.out _ (A8.out.trans (HBB.out.mono A8.out.size)))).mono ?_
            rintro e w9 ⟨rfl, hb9⟩
            have KC9 := Lib.hid (HKC.out.keep hb9)
            have FZ9 := Lib.hid (fun j => (hb9.frozen (p := ⟨w8.heap.size, j, none⟩) HKC.out.lt).trans (HFZ.out j))
            have B9 := Lib.hid (HBB.out.trans (hb9.mono HBB.out.size))
            have hDl2 : (DN : Int) < (LN : Int) := by omega
            have ks0 := kc_set KC9.out FZ9.out n' b'
            have al9 := alloc_belowD (set2 w9 w8.heap.size (.int .i64 n') (.int .i64 b')) (.cells #[.int .i64 n', .int .i64 b'] 24)
            have bs0 := set2_below B9.out (Nat.le_refl w8.heap.size) (.int .i64 n') (.int .i64 b')
            have KS := Lib.hid (And.intro (ks0.1.keep al9) (fun j => (al9.frozen (p := ⟨w8.heap.size, j, none⟩) ks0.1.lt).trans (ks0.2 j)))
            have BS := Lib.hid (bs0.trans (al9.mono bs0.size))
            rcases HL6.out with h0 | ⟨g6, rfl, hg6, hcell6⟩
            · exfalso; have := HLN.out; omega
            have z6 := (B9.out.cell (p := ⟨g6, DN, none⟩) hg6).trans (hcell6 DN Y hrep)
            have hg6' : g6 < w9.heap.size := Nat.lt_of_lt_of_le hg6 B9.out.size
            obtain ⟨d0, d1, dz⟩ := KC9.out
            have df := FZ9.out
            have AL := Lib.hid (HA.out.line HX.out).1
            clear hb9 al9 ks0 bs0 hrep hT hcell6
            by_cases hw : noW Y = true
            · have hbad : (flT 0 Ls)[BN]? = some ((DN : Int) + 1) := by rw [HLE.out, HBN.out, HDN.out]; exact HTT.out.bad hw
              have hBl : BN < FN := by rw [HFN.out]; exact (List.getElem?_eq_some_iff.1 hbad).1
              have hBl2 : (BN : Int) < (FN : Int) := by omega
              rcases HL12.out with h0 | ⟨g12, rfl, hg12, hcell12⟩
              · exfalso; have := HFN.out; omega
              have z12 := (B9.out.cell (p := ⟨g12, BN, none⟩) hg12).trans (hcell12 BN _ hbad)
              have hg12' : g12 < w9.heap.size := Nat.lt_of_lt_of_le hg12 B9.out.size
              have HGR := Lib.hid (show (flT 0 (txS (done ++ [acc]))).length = BN + 1 by rw [HTT.out.grow, if_pos hw, HBN.out])
              have HN : (Y == [110, 111]) = true ∨ ((Y == [110, 111]) = false ∧ (Y == [119, 104, 97, 116]) = true) := by
                cases h1 : (Y == [110, 111]) with
                | true => exact .inl rfl
                | false => exact .inr ⟨rfl, by unfold noW at hw; rw [h1] at hw; simpa using hw⟩
              clear hbad hcell12 hw
              rcases HN with q1 | ⟨q1, q2⟩
              all_goals
                go_wp2
                go_roundw
                case rel => exact ⟨k + 1, done ++ [acc], [], by have := HLT.out; omega, by go_num, AL.out, rfl, by rw [List.length_append, ← HDN.out]; go_num, by rw [HGR.out]; go_num, BS.out, by rw [HTT.out.end']; exact KS.out.1, KS.out.2⟩
                case measure => simp [intOf]; omega
            · have HGR := Lib.hid (show (flT 0 (txS (done ++ [acc]))).length = BN by rw [HTT.out.grow, if_neg hw, HBN.out]; rfl)
              have q1 : (Y == [110, 111]) = false := by
                cases h1 : (Y == [110, 111]) with
                | false => rfl
                | true => exact absurd (by unfold noW; rw [h1]; rfl) hw
              have q2 : (Y == [119, 104, 97, 116]) = false := by
                cases h1 : (Y == [119, 104, 97, 116]) with
                | false => rfl
                | true => exact absurd (by unfold noW; rw [h1, q1]; rfl) hw
              clear hw
              go_wp2
              go_roundw
              case rel => exact ⟨k + 1, done ++ [acc], [], by have := HLT.out; omega, by go_num, AL.out, rfl, by rw [List.length_append, ← HDN.out]; go_num, by rw [HGR.out], BS.out, by rw [HTT.out.end']; exact KS.out.1, KS.out.2⟩
              case measure => simp [intOf]; omega
          · have h10b : ((x.toNat : Int) != 10) = true := by rw [byte_ne 10 10 rfl]; simp [h10]
            have hct : ∀ w : World, (Instr.slice 9 (.string ⟨S.toArray⟩) (some (.int .i64 (k : Int))) (some (.int .i64 ((k : Int) + 1))) none).run Tryz.prog w = .ok (.string ⟨#[x]⟩) w := fun w => by
              have h := cut_run S k (k + 1) (by omega) (by omega) w
              have e : (S.drop k).take (k + 1 - k) = [x] := by
                rw [show k + 1 - k = 1 by omega, drop_at HX.out]
                rfl
              rw [e, show (((k + 1 : Nat)) : Int) = (k : Int) + 1 by omega] at h
              exact h
            have AL := Lib.hid (HA.out.letter HX.out h10)
            go_wp2
            go_roundw
            case rel => exact ⟨k + 1, done, acc ++ [x], by have := HLT.out; omega, by go_num, AL.out, congrArg Value.string (ByteArray.ext (by simp)), by rw [← HDN.out], by rw [← HBN.out], HBB.out, by rw [HNB.out]; exact HKC.out, HFZ.out⟩
            case measure => simp [intOf]; omega
        · obtain rfl : k = S.length := by omega
          have hdone : done = scL S := HA.out.last
          have hd1 : DN = LN := by rw [HDN.out, HLN.out, HLE.out, txS_len, hdone]
          have hb1 : BN = FN := by rw [HBN.out, HFN.out, HLE.out, hdone]
          have hnb1 : (n, b) = (n9, b9) := by rw [← HNB.out, hdone]; exact HEND.out
          simp only [Prod.mk.injEq] at hnb1
          obtain ⟨hn1, hb2⟩ := hnb1
          subst hd1 hb1 hn1 hb2
          obtain ⟨d0, d1, dz⟩ := HKC.out
          have l0 := (HBB.out.cell (p := ⟨w4.heap.size, 0, none⟩) L8.out.lt).trans L8.out.c0
          have l1 := (HBB.out.cell (p := ⟨w4.heap.size, 1, none⟩) L8.out.lt).trans L8.out.c1
          clear hdone
          go_wp2
          go_ret
          exact ⟨rfl, A8.out.trans (HBB.out.mono A8.out.size)⟩

end Go.Proofs.YtlbjeiaihenjkaaGreatDoor
