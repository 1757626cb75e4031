/-
  Joint text of CJ, CK: what each proves stands ahead of it.
-/
import Derived.Test.YtlbjeiaihenjkaaGreatDoorJ31
/- from CJ: The model's texts: split at a byte, decimal numbers written, letters asked.  -/
namespace Go.Proofs.YtlbjeiaihenjkaaGreatDoor
open Go.RowKit
set_option linter.unusedVariables false
set_option linter.unusedSimpArgs false
set_option maxRecDepth 100000

theorem ba_ext (s : Tx) (f k : Nat) : (⟨s.toArray⟩ : ByteArray).extract f k = ⟨((s.drop f).take (k - f)).toArray⟩ := by
  apply ByteArray.ext
  apply Array.toList_inj.1
  simp
theorem cut_run (s : Tx) (f k : Nat) (h1 : f ≤ k) (h2 : k ≤ s.length) (w : World) :
    (Instr.slice 9 (str s) (some (.int .i64 (f : Int))) (some (.int .i64 (k : Int))) none).run Tryz.prog w = .ok (str ((s.drop f).take (k - f))) w := by
  rw [run_slice_string (P := Tryz.prog) w 9 _ .i64 .i64 (f : Int) (k : Int) Tryz.underlying9 (by omega) (by omega) (by show (k : Int) ≤ ((⟨s.toArray⟩ : ByteArray).size : Int); rw [ba_sz]; omega)]
  rw [Int.toNat_natCast, Int.toNat_natCast, ba_ext]
theorem from_run (s : Tx) (f : Nat) (h1 : f ≤ s.length) (w : World) :
    (Instr.slice 9 (str s) (some (.int .i64 (f : Int))) none none).run Tryz.prog w = .ok (str (s.drop f)) w := by
  rw [run_slice_string_l w 9 ⟨s.toArray⟩ Tryz.underlying9 .i64 (f : Int) (by omega) (by rw [ba_sz]; omega), ba_sz, Int.toNat_natCast, ba_ext, List.take_of_length_le (by simp)]
theorem at_run (s : Tx) (k : Nat) (h : k < s.length) (w : World) :
    (Instr.index 9 (str s) (.int .i64 (k : Int))).run Tryz.prog w = .ok (.int .u8 ((s[k]).toNat : Int)) w := by
  have := run_byte ⟨s.toArray⟩ k (by rw [ba_sz]; exact h) w
  exact this

theorem at_run' (s : Tx) (k : Nat) (h : k < s.length) : ∃ x : UInt8, s[k]? = some x ∧ s.drop k = x :: s.drop (k + 1) ∧ ∀ w : World, (Instr.index 9 (str s) (.int .i64 (k : Int))).run Tryz.prog w = .ok (.int .u8 (x.toNat : Int)) w :=
  ⟨s[k], List.getElem?_eq_getElem h, List.drop_eq_getElem_cons h, fun w => at_run s k h w⟩
theorem l1Split_any (s : Tx) (d : UInt8) (nd : Int) (hd : nd = (d.toNat : Int)) (hs : s.length ≤ 1000000) (w : World) :
    Calls Tryz.prog 34 #[str s, .int .u8 nd] w fun e w' => ∃ g cap, e = .returned (.slice (some ⟨g, 0, none⟩) (spl d s).length cap) ∧ Rg 9 w' w.heap.size (.slice (some ⟨g, 0, none⟩) (spl d s).length cap) ((spl d s).map str) ∧ Below w.heap.size w w' := by
  have HD := Lib.hid hd
  have HS := Lib.hid hs
  clear hd
  go_enter Tryz.func34, Tryz.ntmps34
  go_wp2
  go_loopw [5, 6, 7] (fun v f i wr => ∃ (k q : Nat) (outs : List Tx), k ≤ s.length ∧ q ≤ k ∧ f = .int .i64 (q : Int) ∧ i = .int .i64 (k : Int) ∧ Rg 9 wr w.heap.size v (outs.map str) ∧ outs.length ≤ k ∧ spl d s = outs ++ spA d ((s.drop q).take (k - q)) (s.drop k) ∧ Below w.heap.size w wr) (fun _ _ i _ => s.length - (intOf i).toNat)
  case atStart => exact ⟨0, 0, [], Nat.zero_le _, Nat.zero_le _, rfl, rfl, Rg.nil _ _ _, Nat.zero_le _, by simp, Below.refl _ _⟩
  case round =>
    obtain ⟨k, q, outs, hk, hq, rfl, rfl, hr, hol, hsp, hb⟩ := hrel
    have HR := Lib.hid hr
    have HB := Lib.hid hb
    have HSP := Lib.hid hsp
    have HOL := Lib.hid hol
    clear hr hb hsp hol
    by_cases hlt : k < s.length
    · obtain ⟨x, hx, hdr, hat⟩ := at_run' s k hlt
      have HDR := Lib.hid hdr
      have HLT := Lib.hid hlt
      have HX := Lib.hid hx
      clear hdr hx
      by_cases hxd : x = d
      · have heq : ((x.toNat : Int) == nd) = true := by rw [byte_eq d nd HD.out]; exact decide_eq_true hxd
        have hcut := fun W => cut_run s q k hq hk W
        have HXD := Lib.hid hxd
        have HQ := Lib.hid hq
        obtain ⟨T, hT⟩ : ∃ T, T = (s.drop q).take (k - q) := ⟨_, rfl⟩
        rw [← hT] at hcut HSP
        have HLIT := Lib.hid (Rg.lit 9 wr w.heap.size (str T) HB.out.size)
        clear hT hxd
        go_wp2_with (at_builtin; refine wpList_appG rfl _ _ 30 9 (.string ⟨#[]⟩) 16 Tryz.underlying30 infoT (by omega) rfl rfl w.heap.size w.heap.size _ _ _ [str T] rfl rfl (HR.out.alloc _) HLIT.out (fun z hz => by simp at hz; subst hz; rfl) (by rw [List.length_map]; have h1 := HOL.out; have h2 := HS.out; simp; omega) (by have := HB.out.size; simp; omega) ?_; intro v' w' hr hg hb; have HR2 := Lib.hid hr; have HB2 := Lib.hid ((HB.out.alloc HB.out.size _).trans hb); clear hr hg hb)
        go_roundw
        case rel =>
          refine ⟨k + 1, k + 1, outs ++ [T], by have := HLT.out; omega, Nat.le_refl _, by go_num, by go_num, by rw [List.map_append]; exact HR2.out, by have := HOL.out; simp; omega, ?_, HB2.out⟩
          rw [HSP.out, HDR.out, HXD.out]
          simp [spA]
        case measure => simp [intOf]; omega
      · have heq : ((x.toNat : Int) == nd) = false := by rw [byte_eq d nd HD.out]; exact decide_eq_false hxd
        have HXD := Lib.hid hxd
        clear hxd
        go_wp2
        go_roundw
        case rel =>
          refine ⟨k + 1, q, outs, by have := HLT.out; omega, by omega, rfl, by go_num, HR.out, by have := HOL.out; omega, ?_, HB.out⟩
          have e : (s.drop q).take (k + 1 - q) = (s.drop q).take (k - q) ++ [x] := by
            rw [show k + 1 - q = (k - q) + 1 by omega, List.take_add_one, List.getElem?_drop, show q + (k - q) = k by omega, HX.out]
            rfl
          rw [HSP.out, HDR.out, e, spA, if_neg HXD.out]
        case measure => simp [intOf]; omega
    · obtain rfl : k = s.length := by omega
      have hfr := fun W => from_run s q hq W
      have HQ := Lib.hid hq
      have HSP2 := Lib.hid (show spl d s = outs ++ [s.drop q] by
        have := HSP.out
        rw [List.take_of_length_le (by simp), List.drop_of_length_le (Nat.le_refl _)] at this
        exact this)
      obtain ⟨T, hT⟩ : ∃ T, T = s.drop q := ⟨_, rfl⟩
      rw [← hT] at hfr HSP2
      have HLIT := Lib.hid (Rg.lit 9 wr w.heap.size (str T) HB.out.size)
      clear hT HSP
      go_wp2_with (at_builtin; refine wpList_appG rfl _ _ 30 9 (.string ⟨#[]⟩) 16 Tryz.underlying30 infoT (by omega) rfl rfl w.heap.size w.heap.size _ _ _ [str T] rfl rfl (HR.out.alloc _) HLIT.out (fun z hz => by simp at hz; subst hz; rfl) (by rw [List.length_map]; have h1 := HOL.out; have h2 := HS.out; simp; omega) (by have := HB.out.size; simp; omega) ?_; intro v' w' hr hg hb; have HR2 := Lib.hid hr; have HB2 := Lib.hid ((HB.out.alloc HB.out.size _).trans hb); clear hr hg hb)
      go_ret
      have hr := HR2.out
      rw [← List.map_singleton (f := str), ← List.map_append, ← HSP2.out] at hr
      rcases hr.cases with ⟨_, h0⟩ | ⟨g, cap, hv⟩
      · have := congrArg List.length h0
        rw [List.length_map, List.length_nil] at this
        have h2 : 1 ≤ (spl d s).length := spA_pos d s []
        omega
      · rw [List.length_map] at hv
        subst hv
        exact ⟨g, cap, rfl, hr, HB2.out⟩

end Go.Proofs.YtlbjeiaihenjkaaGreatDoor

/- from CK: The model's texts: decimal numbers and lists written, letters asked, numbers read.  -/
namespace Go.Proofs.YtlbjeiaihenjkaaGreatDoor
open Go.RowKit
set_option linter.unusedVariables false
set_option linter.unusedSimpArgs false
set_option maxRecDepth 100000

/-- A one-letter text out of a number. -/
theorem one_run (c : UInt8) (x : Int) (hx : UInt8.ofNat x.toNat = c) (W : World) (g : Nat) (h : W.cell? ⟨g, 0, none⟩ = some (.int .u8 x)) :
    (convert 43 9 (.slice (some ⟨g, 0, none⟩) 1 1)).run Tryz.prog W = .ok (.string ⟨#[c]⟩) W := by
  have := run_convert_bytes_arg (P := Tryz.prog) W 43 5 Tryz.underlying43 Tryz.underlying5 g 0 1 1 [x] rfl (fun i hi => by
    obtain rfl : i = 0 := by omega
    simpa using h) 9 Tryz.underlying9
  rw [strOne c x hx] at this
  exact this

theorem itoa_small {N : Nat} (h : N < 10) : Lib.itoa (N : Int) = [UInt8.ofNat (48 + N)] := by
  unfold Lib.itoa
  rw [if_neg (by omega), Int.toNat_natCast, Lib.decDigits, dif_pos h]
theorem itoa_big {N : Nat} (h : ¬ N < 10) : Lib.itoa (N : Int) = Lib.itoa ((N / 10 : Nat) : Int) ++ [UInt8.ofNat (48 + N % 10)] := by
  unfold Lib.itoa
  rw [if_neg (by omega), if_neg (by omega), Int.toNat_natCast, Int.toNat_natCast, Lib.decDigits, dif_neg h]

set_option maxHeartbeats 2000000 in
theorem l1Num_any : ∀ (f N : Nat), N ≤ f → N ≤ 1000000000000000000 → ∀ w : World, Calls Tryz.prog 72 #[.int .i64 (N : Int)] w fun e w' => e = .returned (str (Lib.itoa (N : Int))) ∧ Below w.heap.size w w'
  | 0, N, hf, hN, w => by
    obtain rfl : N = 0 := by omega
    have hcv := one_run 48 48 rfl (w.alloc (.cells #[.int .u8 48] 5)) w.heap.size (by simp [go_sem])
    have HL := Lib.hid (show Lib.itoa ((0 : Nat) : Int) = [48] from itoa_small (by omega))
    rw [HL.out]
    clear hf hN
    have e0 : ((0 : Nat) : Int) = 0 := rfl
    rw [e0]
    go_enter Tryz.func72, Tryz.ntmps72
    go_wp2
    go_ret
    exact ⟨rfl, alloc_belowD _ _⟩
  | f + 1, N, hf, hN, w => by
    by_cases hs : N < 10
    · have hx : UInt8.ofNat ((48 : Int) + (N : Int)).toNat = UInt8.ofNat (48 + N) := by congr 1
      obtain ⟨c, hc⟩ : ∃ c, c = UInt8.ofNat (48 + N) := ⟨_, rfl⟩
      have hcv := one_run c (48 + (N : Int)) (by rw [hc]; exact hx) (w.alloc (.cells #[.int .u8 (48 + (N : Int))] 5)) w.heap.size (by simp [go_sem])
      have HL := Lib.hid (show Lib.itoa ((N : Nat) : Int) = [c] by rw [hc]; exact itoa_small hs)
      have hw : IntKind.u8.wrap (48 + (N : Int)) = 48 + (N : Int) := IntWalk.u8_in _ (by omega)
      rw [HL.out]
      have hs' : (N : Int) < 10 := by omega
      clear hf hN hx hc hs
      go_enter Tryz.func72, Tryz.ntmps72
      go_wp2
      go_ret
      exact ⟨rfl, alloc_belowD _ _⟩
    · have HI := Lib.hid (fun W => l1Num_any f (N / 10) (by omega) (by omega) W)
      have HL := Lib.hid (itoa_big hs)
      obtain ⟨Q, hQ⟩ : ∃ Q, Q = N / 10 := ⟨_, rfl⟩
      obtain ⟨R, hR⟩ : ∃ R, R = N % 10 := ⟨_, rfl⟩
      have hq : (N : Int) / 10 = (Q : Int) := by omega
      have hr : (N : Int) % 10 = (R : Int) := by omega
      have hR9 : R ≤ 9 := by omega
      rw [← hQ] at HI HL
      rw [← hR] at HL
      obtain ⟨T, hT⟩ : ∃ T, T = Lib.itoa (Q : Int) := ⟨_, rfl⟩
      have hT21 : T.length ≤ 21 := by rw [hT]; exact Lib.itoa_length_le _ (by omega) (by omega)
      rw [← hT] at HI HL
      have hx : UInt8.ofNat ((48 : Int) + (R : Int)).toNat = UInt8.ofNat (48 + R) := by congr 1
      obtain ⟨c, hc⟩ : ∃ c, c = UInt8.ofNat (48 + R) := ⟨_, rfl⟩
      have hcv := one_run c (48 + (R : Int)) (by rw [hc]; exact hx)
      have hw : IntKind.u8.wrap (48 + (R : Int)) = 48 + (R : Int) := IntWalk.u8_in _ (by omega)
      have hw2 : IntKind.i64.wrap (Q : Int) = (Q : Int) := IntWalk.i64_in _ (by omega)
      have hw3 : IntKind.i64.wrap (48 + (R : Int)) = 48 + (R : Int) := IntWalk.i64_in _ (by omega)
      have hw4 : (N : Int).tmod 10 = (R : Int) := by rw [Int.tmod_eq_emod_of_nonneg (by omega)]; exact hr
      rw [← hc] at HL
      rw [HL.out]
      have hs' : ¬ (N : Int) < 10 := by omega
      clear hf hx hc hs hQ hR hT
      go_enter Tryz.func72, Tryz.ntmps72
      go_wp2
      go_region_with (first
        | (go_at_call 72; (with_reducible refine (HI.out ((w.alloc (.cells #[.int .u8 (48 + (R : Int))] 5)).drew)).mono ?_); rintro e w1 ⟨rfl, hb⟩; have hc1 : w1.cell? ⟨w.heap.size, 0, none⟩ = some (.int .u8 (48 + (R : Int))) := (hb.cell (p := ⟨w.heap.size, 0, none⟩) (by simp)).trans (by simp [go_sem]); have HB1 := Lib.hid ((alloc_belowD w _).drew.trans (hb.mono (by simp))); clear hb)
        | (go_at_call 72; (with_reducible refine (HI.out w.drew).mono ?_); rintro e w1 ⟨rfl, hb⟩; have HB1 := Lib.hid ((Below.refl w.heap.size w).drew.trans hb); clear hb))
      all_goals
        go_wp2
        go_ret
        first
          | exact ⟨congrArg Ending.returned (congrArg Value.string (ByteArray.ext (by simp))), HB1.out⟩
          | exact ⟨congrArg Ending.returned (congrArg Value.string (ByteArray.ext (by simp))), HB1.out.alloc HB1.out.size _⟩

theorem l1Num_i (n : Int) (h0 : 0 ≤ n) (h1 : n ≤ 1000000000000000000) (w : World) : Calls Tryz.prog 72 #[.int .i64 n] w fun e w' => e = .returned (str (Lib.itoa n)) ∧ Below w.heap.size w w' := by
  have := l1Num_any n.toNat n.toNat (Nat.le_refl _) (by omega) w
  rwa [Int.toNat_of_nonneg h0] at this

theorem okL_at {s : Tx} {k : Nat} {x : UInt8} (h : s[k]? = some x) (hx : isL x = false) : okL s = false := by
  obtain ⟨h1, h2⟩ := List.getElem?_eq_some_iff.1 h
  unfold okL
  rw [Bool.eq_false_iff]
  intro hc
  have := List.all_eq_true.1 hc x (h2 ▸ List.getElem_mem h1)
  rw [hx] at this
  cases this
theorem take_all {s : Tx} {k : Nat} {x : UInt8} {p : UInt8 → Bool} (h : s[k]? = some x) (hp : p x = true) (ht : (s.take k).all p = true) : (s.take (k + 1)).all p = true := by
  rw [List.take_add_one, h, List.all_append, ht]
  simp [hp]

theorem coLetters_any (s : Tx) (hs : s.length ≤ 1000000) (w : World) : Calls Tryz.prog 88 #[str s] w fun e w' => e = .returned (.bool (okL s)) ∧ Below w.heap.size w w' := by
  go_enter Tryz.func88, Tryz.ntmps88
  go_wp2
  go_loopw [3] (fun i wr => ∃ k : Nat, k ≤ s.length ∧ i = .int .i64 (k : Int) ∧ (s.take k).all isL = true ∧ wr = w) (fun i _ => s.length - (intOf i).toNat)
  case atStart => exact ⟨0, Nat.zero_le _, rfl, by simp, rfl⟩
  case round =>
    obtain ⟨k, hk, rfl, ht, rfl⟩ := hrel
    have HT := Lib.hid ht
    clear ht
    by_cases hlt : k < s.length
    · obtain ⟨x, hx, hdr, hat⟩ := at_run' s k hlt
      have HLT := Lib.hid hlt
      have HX := Lib.hid hx
      have b0 := byte_ne (c := x) 48 48 rfl
      have b1 := byte_ne (c := x) 49 49 rfl
      clear hdr hx
      by_cases e0 : x = 48
      · have HL := Lib.hid (show isL x = true by rw [e0]; rfl)
        rw [decide_eq_true e0] at b0
        clear e0 b1
        go_wp2
        go_roundw
        case rel => exact ⟨k + 1, by have := HLT.out; omega, by go_num, take_all HX.out HL.out HT.out, by first | rfl | trivial⟩
        case measure => simp [intOf]; omega
      · rw [decide_eq_false e0] at b0
        by_cases e1 : x = 49
        · have HL := Lib.hid (show isL x = true by rw [e1]; rfl)
          rw [decide_eq_true e1] at b1
          clear e0 e1
          go_wp2
          go_roundw
          case rel => exact ⟨k + 1, by have := HLT.out; omega, by go_num, take_all HX.out HL.out HT.out, by first | rfl | trivial⟩
          case measure => simp [intOf]; omega
        · have HL := Lib.hid (show isL x = false by unfold isL; rw [decide_eq_false e0, decide_eq_false e1]; rfl)
          rw [decide_eq_false e1] at b1
          clear e0 e1
          go_wp2
          go_ret
          exact ⟨ret_bool (okL_at HX.out HL.out).symm, Below.refl _ _⟩
    · obtain rfl : k = s.length := by omega
      have HL := Lib.hid (show okL s = true by have := HT.out; rw [List.take_length] at this; exact this)
      go_wp2
      go_ret
      exact ⟨ret_bool HL.out.symm, Below.refl _ _⟩

theorem dcV_step {s : Tx} {k : Nat} {x : UInt8} {n : Int} (h : s.drop k = x :: s.drop (k + 1)) : dcV (s.drop k) n = dcV (s.drop (k + 1)) (10 * n + ((x.toNat : Int) - 48)) := by rw [h]; rfl
theorem dcOk_no {s : Tx} (h : dcOk s = false) : (rdN s).getD (-1) = -1 := by rw [rdN_eq, h]; rfl
theorem dcOk_yes {s : Tx} (h : dcOk s = true) : (rdN s).getD (-1) = dcV s 0 := by rw [rdN_eq, if_pos h]; rfl
theorem dg_at {s : Tx} {k : Nat} {x : UInt8} (h : s[k]? = some x) (hx : isDg x = false) : dcOk s = false := by
  obtain ⟨h1, h2⟩ := List.getElem?_eq_some_iff.1 h
  unfold dcOk
  have : s.all isDg = false := by
    rw [Bool.eq_false_iff]
    intro hc
    have := List.all_eq_true.1 hc x (h2 ▸ List.getElem_mem h1)
    rw [hx] at this
    cases this
  rw [this, Bool.and_false]

theorem l1Read_any (s : Tx) (hs : s.length ≤ 1000000) (w : World) : Calls Tryz.prog 86 #[str s] w fun e w' => e = .returned (.int .i64 ((rdN s).getD (-1))) ∧ Below w.heap.size w w' := by
  by_cases hl : 1 ≤ s.length ∧ s.length ≤ 6
  · obtain ⟨x0, hx0, _, hat0⟩ := at_run' s 0 (by omega)
    have hat0' : ∀ W : World, (Instr.index 9 (str s) (.int .i64 0)).run Tryz.prog W = .ok (.int .u8 (x0.toNat : Int)) W := hat0
    have HH := Lib.hid (show s.headD 0 = x0 by cases s with | nil => simp at hx0 | cons c t => simpa using hx0)
    obtain ⟨l1, l6⟩ := hl
    have b0 := byte_eq (c := x0) 48 48 rfl
    by_cases hz : x0 = 48 ∧ 1 < s.length
    · have HN := Lib.hid (dcOk_no (show dcOk s = false by unfold dcOk; rw [HH.out, decide_eq_true hz.1, decide_eq_true hz.2]; simp))
      rw [HN.out]
      obtain ⟨z1, z2⟩ := hz
      rw [decide_eq_true z1] at b0
      clear hat0 hx0 z1
      go_enter Tryz.func86, Tryz.ntmps86
      go_wp2_with (go_at_call 140; refine (l1In_yes _ _ _ _ (by omega) (by omega)).mono ?_; rintro e w1 ⟨rfl, rfl⟩)
      go_ret
      exact ⟨rfl, Below.refl _ _⟩
    · have HOK := Lib.hid (show s.all isDg = true → dcOk s = true from fun h => by
        unfold dcOk
        rw [h, HH.out, decide_eq_true l1, decide_eq_true l6]
        by_cases h1 : x0 = 48
        · rw [decide_eq_false (show ¬ 1 < s.length from fun h2 => hz ⟨h1, h2⟩)]; simp
        · rw [decide_eq_false h1]; rfl)
      by_cases hz0 : x0 = 48
      · have z2 : ¬ (1 : Int) < (s.length : Int) := by have : ¬ 1 < s.length := fun h2 => hz ⟨hz0, h2⟩; omega
        rw [decide_eq_true hz0] at b0
        clear hat0 hx0 hz hz0
        go_enter Tryz.func86, Tryz.ntmps86
        go_wp2_with (go_at_call 140; refine (l1In_yes _ _ _ _ (by omega) (by omega)).mono ?_; rintro e w1 ⟨rfl, rfl⟩)
        go_loopw [3, 4] (fun v i wr => ∃ (k : Nat) (n : Int), k ≤ s.length ∧ i = .int .i64 (k : Int) ∧ v = .int .i64 n ∧ 0 ≤ n ∧ n < 10 ^ k ∧ (s.take k).all isDg = true ∧ dcV s 0 = dcV (s.drop k) n ∧ wr = w) (fun _ i _ => s.length - (intOf i).toNat)
        case atStart => exact ⟨0, 0, Nat.zero_le _, rfl, rfl, by omega, by simp, by simp, rfl, by first | rfl | trivial⟩
        case round =>
          obtain ⟨k, n, hk, rfl, rfl, hn0, hn1, ht, hv, rfl⟩ := hrel
          have HT := Lib.hid ht
          have HV := Lib.hid hv
          have HN1 := Lib.hid hn1
          have hn6 : n < 1000000 := by
            have : (10 : Int) ^ k ≤ 10 ^ 6 := by
              have : (10 : Nat) ^ k ≤ 10 ^ 6 := Nat.pow_le_pow_right (by omega) (by omega)
              exact_mod_cast this
            rw [pow6'] at this
            omega
          clear ht hv hn1
          by_cases hlt : k < s.length
          · obtain ⟨x, hx, hdr, hat⟩ := at_run' s k hlt
            have HLT := Lib.hid hlt
            have HX := Lib.hid hx
            have HDR := Lib.hid hdr
            clear hdr hx
            by_cases hd : 48 ≤ x.toNat ∧ x.toNat ≤ 57
            · have HD := Lib.hid (show isDg x = true by unfold isDg; rw [decide_eq_true hd.1, decide_eq_true hd.2]; rfl)
              obtain ⟨X, hXX⟩ : ∃ X, X = x.toNat := ⟨_, rfl⟩
              have HXX := Lib.hid hXX
              rw [← hXX] at hd hat
              obtain ⟨d0, d1⟩ := hd
              have hw : IntKind.u8.wrap ((X : Int) - 48) = (X : Int) - 48 := IntWalk.u8_in _ (by omega)
              have c0 : ¬ (X : Int) < 48 := by omega
              have c1 : ¬ (57 : Int) < (X : Int) := by omega
              clear hXX
              go_wp2
              go_roundw
              case rel =>
                refine ⟨k + 1, 10 * n + ((X : Int) - 48), by have := HLT.out; omega, by go_num, by go_num, by omega, ?_, take_all HX.out HD.out HT.out, by rw [HV.out, dcV_step HDR.out, HXX.out], by first | rfl | trivial⟩
                have := HN1.out
                rw [Int.pow_succ]
                omega
              case measure => simp [intOf]; omega
            · have HD := Lib.hid (show isDg x = false by
                unfold isDg
                by_cases h1 : 48 ≤ x.toNat
                · rw [decide_eq_false (show ¬ x.toNat ≤ 57 by omega)]; simp
                · rw [decide_eq_false h1]; rfl)
              have HNO := Lib.hid (dcOk_no (dg_at HX.out HD.out))
              obtain ⟨X, hXX⟩ : ∃ X, X = x.toNat := ⟨_, rfl⟩
              rw [← hXX] at hd hat
              clear hXX
              by_cases h1 : 48 ≤ X
              · have c0 : ¬ (X : Int) < 48 := by omega
                have c1 : (57 : Int) < (X : Int) := by omega
                clear hd h1
                go_wp2
                go_ret
                exact ⟨ret_int HNO.out.symm, Below.refl _ _⟩
              · have c0 : (X : Int) < 48 := by omega
                clear hd h1
                go_wp2
                go_ret
                exact ⟨ret_int HNO.out.symm, Below.refl _ _⟩
          · obtain rfl : k = s.length := by omega
            have HO := Lib.hid (show (rdN s).getD (-1) = n by
              have h1 := HT.out
              have h2 := HV.out
              rw [List.take_length] at h1
              rw [List.drop_of_length_le (Nat.le_refl _)] at h2
              rw [dcOk_yes (HOK.out h1), h2]
              rfl)
            go_wp2
            go_ret
            exact ⟨ret_int HO.out.symm, Below.refl _ _⟩
      · rw [decide_eq_false hz0] at b0
        clear hat0 hx0 hz hz0
        go_enter Tryz.func86, Tryz.ntmps86
        go_wp2_with (go_at_call 140; refine (l1In_yes _ _ _ _ (by omega) (by omega)).mono ?_; rintro e w1 ⟨rfl, rfl⟩)
        go_loopw [3, 4] (fun v i wr => ∃ (k : Nat) (n : Int), k ≤ s.length ∧ i = .int .i64 (k : Int) ∧ v = .int .i64 n ∧ 0 ≤ n ∧ n < 10 ^ k ∧ (s.take k).all isDg = true ∧ dcV s 0 = dcV (s.drop k) n ∧ wr = w) (fun _ i _ => s.length - (intOf i).toNat)
        case atStart => exact ⟨0, 0, Nat.zero_le _, rfl, rfl, by omega, by simp, by simp, rfl, by first | rfl | trivial⟩
        case round =>
          obtain ⟨k, n, hk, rfl, rfl, hn0, hn1, ht, hv, rfl⟩ := hrel
          have HT := Lib.hid ht
          have HV := Lib.hid hv
          have HN1 := Lib.hid hn1
          have hn6 : n < 1000000 := by
            have : (10 : Int) ^ k ≤ 10 ^ 6 := by
              have : (10 : Nat) ^ k ≤ 10 ^ 6 := Nat.pow_le_pow_right (by omega) (by omega)
              exact_mod_cast this
            rw [pow6'] at this
            omega
          clear ht hv hn1
          by_cases hlt : k < s.length
          · obtain ⟨x, hx, hdr, hat⟩ := at_run' s k hlt
            have HLT := Lib.hid hlt
            have HX := Lib.hid hx
            have HDR := Lib.hid hdr
            clear hdr hx
            by_cases hd : 48 ≤ x.toNat ∧ x.toNat ≤ 57
            · have HD := Lib.hid (show isDg x = true by unfold isDg; rw [decide_eq_true hd.1, decide_eq_true hd.2]; rfl)
              obtain ⟨X, hXX⟩ : ∃ X, X = x.toNat := ⟨_, rfl⟩
              have HXX := Lib.hid hXX
              rw [← hXX] at hd hat
              obtain ⟨d0, d1⟩ := hd
              have hw : IntKind.u8.wrap ((X : Int) - 48) = (X : Int) - 48 := IntWalk.u8_in _ (by omega)
              have c0 : ¬ (X : Int) < 48 := by omega
              have c1 : ¬ (57 : Int) < (X : Int) := by omega
              clear hXX
              go_wp2
              go_roundw
              case rel =>
                refine ⟨k + 1, 10 * n + ((X : Int) - 48), by have := HLT.out; omega, by go_num, by go_num, by omega, ?_, take_all HX.out HD.out HT.out, by rw [HV.out, dcV_step HDR.out, HXX.out], by first | rfl | trivial⟩
                have := HN1.out
                rw [Int.pow_succ]
                omega
              case measure => simp [intOf]; omega
            · have HD := Lib.hid (show isDg x = false by
                unfold isDg
                by_cases h1 : 48 ≤ x.toNat
                · rw [decide_eq_false (show ¬ x.toNat ≤ 57 by omega)]; simp
                · rw [decide_eq_false h1]; rfl)
              have HNO := Lib.hid (dcOk_no (dg_at HX.out HD.out))
              obtain ⟨X, hXX⟩ : ∃ X, X = x.toNat := ⟨_, rfl⟩
              rw [← hXX] at hd hat
              clear hXX
              by_cases h1 : 48 ≤ X
              · have c0 : ¬ (X : Int) < 48 := by omega
                have c1 : (57 : Int) < (X : Int) := by omega
                clear hd h1
                go_wp2
                go_ret
                exact ⟨ret_int HNO.out.symm, Below.refl _ _⟩
              · have c0 : (X : Int) < 48 := by omega
                clear hd h1
                go_wp2
                go_ret
                exact ⟨ret_int HNO.out.symm, Below.refl _ _⟩
          · obtain rfl : k = s.length := by omega
            have HO := Lib.hid (show (rdN s).getD (-1) = n by
              have h1 := HT.out
              have h2 := HV.out
              rw [List.take_length] at h1
              rw [List.drop_of_length_le (Nat.le_refl _)] at h2
              rw [dcOk_yes (HOK.out h1), h2]
              rfl)
            go_wp2
            go_ret
            exact ⟨ret_int HO.out.symm, Below.refl _ _⟩
  · have hl' : (s.length : Int) < 1 ∨ 6 < (s.length : Int) := by omega
    have HN := Lib.hid (dcOk_no (show dcOk s = false by
      unfold dcOk
      by_cases h1 : 1 ≤ s.length
      · rw [decide_eq_false (show ¬ s.length ≤ 6 by omega)]; simp
      · rw [decide_eq_false h1]; simp))
    rw [HN.out]
    clear hl
    go_enter Tryz.func86, Tryz.ntmps86
    go_wp2_with (go_at_call 140; refine (l1In_no _ _ _ _ hl').mono ?_; rintro e w1 ⟨rfl, rfl⟩)
    go_ret
    exact ⟨rfl, Below.refl _ _⟩

end Go.Proofs.YtlbjeiaihenjkaaGreatDoor
