/-
  Runs of said lists and their lengths: the model's answers (written by wip/tools/gen_9r.py).
-/
import Derived.Test.Ytmdjmbmkgboeaaa9Q
namespace Go.Proofs.Ytmdjmbmkgboeaaa
open Go.RowKit
set_option linter.unusedVariables false
set_option linter.unusedSimpArgs false
set_option maxRecDepth 100000

theorem LLi.lenY9 {w : World} {B : Nat} {v : Value} {vs : List Value} {ls : List (List Int)} (h : LLi w B v vs ls) : ∃ a cap, v = .slice a ls.length cap := by
  rw [← h.len]
  rcases h.row.cases with ⟨rfl, rfl⟩ | ⟨g, cap, rfl⟩
  · exact ⟨none, 0, rfl⟩
  · exact ⟨_, _, rfl⟩

def okRun (xs : List Int) (K : Nat) : Bool := n9 (strs xs) && shB xs K
def LR9 (xs : List Int) (K : Nat) : List (List Int) := if okRun xs K = true then rnL xs K else []
theorem okRun_no {xs : List Int} {K : Nat} (h : okRun xs K = false) : LR9 xs K = [] := by unfold LR9; rw [if_neg (by rw [h]; simp)]
theorem okRun_yes {xs : List Int} {K : Nat} (h : okRun xs K = true) : LR9 xs K = rnL xs K := if_pos h

theorem teRun_any (v : Value) (xs : List Int) (K B : Nat) (w : World) (h : Rd w B v xs) (hg : gdW xs = true) (hK : K ≤ 30) :
    Calls Try.prog 67 #[v, .int .i64 (K : Int)] w fun e w' => ∃ u vs, e = .returned (.tuple #[u, .bool (okRun xs K)]) ∧ LLi w' w.heap.size u vs (LR9 xs K) ∧ Below w.heap.size w w' := by
  have H := Lib.hid h
  have h4 := gdW_len hg
  obtain ⟨a, cap, rfl⟩ := h.sl.len
  have HSn := Lib.hid (fun k (hk : shB xs k = true) j hj => sn_short h4 hk j hj)
  have HNine := Lib.hid (fun (c : n9 (strs xs) = true) k => sn_n9 c k)
  have HOR := Lib.hid (show okRun xs K = (n9 (strs xs) && shB xs K) from rfl)
  obtain ⟨N, hN⟩ : ∃ N, N = xs.length := ⟨_, rfl⟩
  rw [← hN] at H h4 ⊢
  have HNN := Lib.hid hN
  clear h hN hg
  go_enter Try.func67, Try.ntmps67
  go_wp2_with (go_at_call 90; refine (l1Own_any _ xs _ B H.out (by have := HNN.out; omega)).mono ?_; rintro e w2 ⟨u, rfl, hr, hb⟩; have R1 := Lib.hid hr; have B1 := Lib.hid hb; obtain ⟨au, cu, rfl⟩ := hr.sl.len; clear hr hb)
  go_loopw [6, 7] (fun o i wr => ∃ (j : Nat) (vs : List Value), j ≤ K ∧ i = .int .i64 (j : Int) ∧ LLi wr w.heap.size o vs (rnL xs j) ∧ Hid (shB xs j = true) ∧ Hid (j = 0 ∨ n9 (strs xs) = true) ∧ Below w.heap.size w wr) (fun _ i _ => K - (intOf i).toNat)
  case atStart => exact ⟨0, [_], Nat.zero_le _, rfl, LLi.one _ _ _ _ R1.out B1.out.size, Lib.hid rfl, Lib.hid (.inl rfl), Below.step B1.out B1.out.size (alloc_below w2 _)⟩
  case round =>
    obtain ⟨j, vs, hj, rfl, hll, HSh, HZ, hbl⟩ := hrel
    have HLL := Lib.hid hll
    have HB3 := Lib.hid hbl
    obtain ⟨z, g, c, hz, hv, hcell, hrz⟩ := hll.get j (by rw [rnL_len]; omega)
    rw [rnL_len] at hv
    rw [rnL_at] at hrz
    have RZ := Lib.hid hrz
    have hlz := HSn.out j HSh.out j (Nat.le_refl _)
    have HLv := Lib.hid (show vs.length ≤ 31 by rw [hll.len, rnL_len]; omega)
    subst hv
    obtain ⟨az, cz, hzv⟩ := hrz.sl.len
    subst hzv
    by_cases hlt : j < K
    · have hltI : (j : Int) < (K : Int) := by omega
      have HSay := Lib.hid (fun w' (h : Sl w' (.slice az (snF j xs).length cz) (snF j xs)) => teSay_any (.slice az (snF j xs).length cz) (snF j xs) w' h (by omega))
      have HSc := Lib.hid (shB_succ xs j)
      have HRs := Lib.hid (rnL_succ xs j)
      have HOT := Lib.hid (show okT (snF j xs) = (n9 (strs (snF j xs)) && decide ((snF (j + 1) xs).length ≤ 400)) from rfl)
      cases hq : okT (snF j xs) with
      | true =>
        have hq2 := hq
        rw [HOT.out] at hq2
        simp only [Bool.and_eq_true, decide_eq_true_eq] at hq2
        have HLT := Lib.hid (show LT9 (snF j xs) = snF (j + 1) xs from if_pos hq2.1)
        rw [hq, HLT.out] at HSay
        have HSh2 := Lib.hid (show shB xs (j + 1) = true by rw [HSc.out, HSh.out, decide_eq_true hq2.2]; rfl)
        have HZ2 := Lib.hid (show j + 1 = 0 ∨ n9 (strs xs) = true by
          right
          rcases HZ.out with e | e
          · have h5 := hq2.1; rw [e] at h5; exact h5
          · exact e)
        clear hll hbl hrz hz hq hq2
        go_wp2_with (first | (go_at_call 58; refine (HSay.out _ RZ.out.sl).mono ?_; rintro e w3 ⟨u1, rfl, hr1, hb3⟩; have L3 := Lib.hid (HLL.out.keep hb3); have B3 := Lib.hid (Below.step HB3.out HB3.out.size hb3); have FAR := Lib.hid (HLL.out.farN (Nat.le_refl _) hr1); have R3 := Lib.hid (hr1.mono HB3.out.size); obtain ⟨a1, c1, rfl⟩ := hr1.sl.len; clear hr1 hb3) | (at_builtin; refine wpList_appG rfl (.tmp 28) (.tmp 30) 31 24 (.slice none 0 0) 24 Try.underlying31 infoL (by omega) rfl rfl w.heap.size w.heap.size _ _ vs _ rfl rfl (L3.out.row.alloc _) (Rg.lit _ _ _ _ B3.out.size) (by simp [Value.oneCell']) (by have := HLv.out; simp; omega) (by have h1 := B3.out.size; simp; omega) ?_; intro v4 w4 hr4 hg4 hb4; have L4 := Lib.hid (L3.out.snoc R3.out FAR.out hr4 hg4); have B4 := Lib.hid ((B3.out.alloc B3.out.size _).trans hb4); clear hr4 hg4 hb4))
        go_roundw
        case rel => exact ⟨j + 1, _, by omega, by go_num, by rw [HRs.out]; exact L4.out, HSh2, HZ2, B4.out⟩
        case measure => simp [intOf]; omega
      | false =>
        have hno : okRun xs K = false := by
          rw [HOR.out]
          cases hn : n9 (strs xs) with
          | false => rfl
          | true =>
            have h5 := hq
            rw [HOT.out, HNine.out hn j, Bool.true_and] at h5
            rw [shB_no hlt (of_decide_eq_false h5)]
            rfl
        have E1 := Lib.hid hno
        have E2 := Lib.hid (okRun_no hno)
        rw [hq] at HSay
        clear hll hbl hrz hz hq hno
        go_wp2_with (go_at_call 58; refine (HSay.out _ RZ.out.sl).mono ?_; rintro e w3 ⟨u1, rfl, hr1, hb3⟩; have B3 := Lib.hid (Below.step HB3.out HB3.out.size hb3); clear hr1 hb3)
        go_ret2
        exact ⟨_, [], by rw [E1.out]; rfl, by rw [E2.out]; exact LLi.nil _ _, B3.out⟩
    · obtain rfl : j = K := by omega
      have hltI : ¬ (j : Int) < (j : Int) := by omega
      have HLg := Lib.hid (fun w' (h : Sl w' (.slice az (snF j xs).length cz) (snF j xs)) => teLong_any (.slice az (snF j xs).length cz) (snF j xs) w' h (by omega))
      have HEq := Lib.hid (show n9 (strs (snF j xs)) = n9 (strs xs) by
        rcases HZ.out with e | e
        · rw [e]; rfl
        · rw [e, HNine.out e j])
      rw [HEq.out] at HLg
      have hor := HOR.out
      rw [HSh.out, Bool.and_true] at hor
      cases hn : n9 (strs xs) with
      | true =>
        rw [hn] at HLg hor
        have E1 := Lib.hid hor
        have E2 := Lib.hid (okRun_yes hor)
        clear hll hbl hrz hz hn hor
        go_wp2_with (go_at_call 99; refine (HLg.out _ RZ.out.sl).mono ?_; rintro e w3 ⟨rfl, rfl⟩)
        go_ret2
        exact ⟨_, vs, by rw [E1.out]; rfl, by rw [E2.out]; exact HLL.out, HB3.out⟩
      | false =>
        rw [hn] at HLg hor
        have E1 := Lib.hid hor
        have E2 := Lib.hid (okRun_no hor)
        clear hll hbl hrz hz hn hor
        go_wp2_with (go_at_call 99; refine (HLg.out _ RZ.out.sl).mono ?_; rintro e w3 ⟨rfl, rfl⟩)
        go_ret2
        exact ⟨_, [], by rw [E1.out]; rfl, by rw [E2.out]; exact LLi.nil _ _, HB3.out⟩

theorem toSay_gdn (xs : List Int) : toSay xs = (gdW xs && n9 (strs xs)) := rfl
theorem RunR_gd {xs : List Int} {K : Nat} (hg : gdW xs = true) (hK : K ≤ 30) : OK_SayRun xs (K : Int) = okRun xs K ∧ LF_SayRun xs (K : Int) = LR9 xs K := by
  have e : RunR xs (K : Int) ↔ okRun xs K = true := by
    unfold RunR okRun
    rw [toSay_gdn, hg, Bool.true_and, Bool.and_eq_true, Int.toNat_natCast]
    exact ⟨fun c => ⟨c.1, c.2.2.2⟩, fun c => ⟨c.1, by omega, by omega, c.2⟩⟩
  refine ⟨?_, ?_⟩
  · unfold OK_SayRun
    cases hq : okRun xs K with
    | true => exact decide_eq_true (e.2 hq)
    | false => exact decide_eq_false (fun c => by have := e.1 c; rw [hq] at this; cases this)
  · unfold LF_SayRun LR9
    rw [Int.toNat_natCast]
    by_cases hq : okRun xs K = true
    · rw [if_pos hq, if_pos (e.2 hq)]
    · rw [if_neg hq, if_neg (fun c => hq (e.1 c))]

theorem spec_SayRun (v : Value) (xs : List Int) (s : Int) (B : Nat) (w : World) (h : Rd w B v xs) (hl : xs.length ≤ 1048576) :
    Calls Try.prog 17 #[v, .int .i64 s] w fun e w' => ∃ u vs, e = .returned (.tuple #[u, .bool (OK_SayRun xs s)]) ∧ LLi w' w.heap.size u vs (LF_SayRun xs s) ∧ Below w.heap.size w w' := by
  have H := Lib.hid h
  have HG := Lib.hid (fun w' (h : Rd w' B v xs) => teGood_any v xs B w' h (by omega))
  obtain ⟨a, cap, rfl⟩ := h.sl.len
  cases hg : gdW xs with
  | false =>
    obtain ⟨e1, e2⟩ := RunR_no (xs := xs) (s := s) (fun c => by have := (toSay_gd c.1).1; rw [hg] at this; cases this)
    rw [e1, e2]
    rw [hg] at HG
    clear hg h e1 e2
    go_enter Try.func17, Try.ntmps17
    go_wp2_with (go_at_call 57; refine (HG.out _ H.out).mono ?_; rintro e w1 ⟨rfl, rfl⟩)
    go_ret2
    exact ⟨_, _, rfl, LLi.nil _ _, Below.refl _ _⟩
  | true =>
    rw [hg] at HG
    by_cases hs : 0 ≤ s ∧ s ≤ 30
    · obtain ⟨s0, s1⟩ := hs
      obtain ⟨K, rfl⟩ : ∃ K : Nat, s = (K : Int) := ⟨s.toNat, by omega⟩
      obtain ⟨e1, e2⟩ := RunR_gd hg (show K ≤ 30 by omega)
      rw [e1, e2]
      have HT := Lib.hid (fun w' (h : Rd w' B (.slice a xs.length cap) xs) => teRun_any (.slice a xs.length cap) xs K B w' h hg (by omega))
      obtain ⟨O, hO⟩ : ∃ O, O = okRun xs K := ⟨_, rfl⟩
      obtain ⟨L, hL⟩ : ∃ O, O = LR9 xs K := ⟨_, rfl⟩
      rw [← hO, ← hL] at HT ⊢
      clear hg h e1 e2 hO hL
      go_enter Try.func17, Try.ntmps17
      go_wp2_with (first | (go_at_call 57; refine (HG.out _ H.out).mono ?_; rintro e w1 ⟨rfl, rfl⟩) | (go_at_call 66; refine (l1In_yes _ _ _ _ s0 s1).mono ?_; rintro e w1 ⟨rfl, rfl⟩) | (go_at_call 67; refine (HT.out _ H.out).mono ?_; rintro e w1 ⟨u, vs, rfl, hr, hb⟩; have HR := Lib.hid hr; have HB := Lib.hid hb; clear hr hb))
      go_ret2
      exact ⟨_, _, rfl, HR.out, HB.out⟩
    · obtain ⟨e1, e2⟩ := RunR_no (xs := xs) (s := s) (fun c => hs ⟨c.2.1, c.2.2.1⟩)
      rw [e1, e2]
      have HS := Lib.hid (show s < 0 ∨ 30 < s by omega)
      clear hg h e1 e2 hs
      go_enter Try.func17, Try.ntmps17
      go_wp2_with (first | (go_at_call 57; refine (HG.out _ H.out).mono ?_; rintro e w1 ⟨rfl, rfl⟩) | (go_at_call 66; refine (l1In_no _ _ _ _ HS.out).mono ?_; rintro e w1 ⟨rfl, rfl⟩))
      go_ret2
      exact ⟨_, _, rfl, LLi.nil _ _, Below.refl _ _⟩

/-- The lengths of lists. -/
def lnL (ls : List (List Int)) : List Int := ls.map fun l => (l.length : Int)
theorem lnL_next (ls : List (List Int)) (j : Nat) (h : j < ls.length) : lnL (ls.take (j + 1)) = lnL (ls.take j) ++ [(ls[j].length : Int)] := by
  have e : ls.take (j + 1) = ls.take j ++ [ls[j]] := by rw [List.take_add_one, List.getElem?_eq_getElem h]; rfl
  unfold lnL
  rw [e, List.map_append]
  rfl
def OK_LengthsOfSay (xs : List Int) (s : Int) : Bool := OK_SayRun xs s
def LF_LengthsOfSay (xs : List Int) (s : Int) : List Int := lnL (LF_SayRun xs s)
theorem LF_LengthsOfSay_len (xs : List Int) (s : Int) (h : xs.length ≤ 1048576) : (LF_LengthsOfSay xs s).length ≤ 2000000 := by
  unfold LF_LengthsOfSay lnL
  rw [List.length_map]
  have := (LF_SayRun_bd xs s).1
  omega
theorem SayRun_small (xs : List Int) (s : Int) : (LF_SayRun xs s).length ≤ 31 ∧ (OK_SayRun xs s = false → LF_SayRun xs s = []) := by
  by_cases h : RunR xs s
  · refine ⟨?_, fun c => ?_⟩
    · unfold LF_SayRun
      rw [if_pos h, rnL_len]
      have := h.2.2.1
      have := h.2.1
      omega
    · rw [show OK_SayRun xs s = true from decide_eq_true h] at c
      cases c
  · exact ⟨by rw [(RunR_no h).2]; simp, fun _ => (RunR_no h).2⟩

theorem impl_LengthsOfSay (v : Value) (xs : List Int) (s : Int) (B : Nat) (w : World) (h : Rd w B v xs) (hl : xs.length ≤ 1048576) :
    Calls Try.prog 18 #[v, .int .i64 s] w fun e w' => ∃ u, e = .returned (.tuple #[u, .bool (OK_LengthsOfSay xs s)]) ∧ Rd w' w.heap.size u (LF_LengthsOfSay xs s) ∧ Below w.heap.size w w' := by
  have H := Lib.hid h
  have HI := Lib.hid (fun w' (h : Rd w' B v xs) => impl_SayRun v xs s B w' h hl)
  obtain ⟨hsm, _⟩ := SayRun_small xs s
  have HEL := Lib.hid (show LF_LengthsOfSay xs s = lnL (LF_SayRun xs s) from rfl)
  have HEO := Lib.hid (show OK_LengthsOfSay xs s = OK_SayRun xs s from rfl)
  rw [HEL.out, HEO.out]
  obtain ⟨a, cap, rfl⟩ := h.sl.len
  obtain ⟨O, hO⟩ : ∃ O, O = OK_SayRun xs s := ⟨_, rfl⟩
  obtain ⟨L, hL⟩ : ∃ O, O = LF_SayRun xs s := ⟨_, rfl⟩
  rw [← hO, ← hL] at HI ⊢
  rw [← hL] at hsm
  have HNX := Lib.hid (fun j (hj : j < L.length) => lnL_next L j hj)
  have HAll := Lib.hid (show L.take L.length = L from List.take_of_length_le (Nat.le_refl _))
  have HLb := Lib.hid (show ∀ j, (lnL (L.take j)).length ≤ 31 by
    intro j
    unfold lnL
    rw [List.length_map, List.length_take]
    omega)
  obtain ⟨M, hM⟩ : ∃ M, M = L.length := ⟨_, rfl⟩
  have HM := Lib.hid hM
  rw [← hM] at hsm
  clear hO hL h HEL HEO hM
  go_enter Try.func18, Try.ntmps18
  go_wp2_with (go_at_call 16; refine (HI.out _ H.out).mono ?_; rintro e w1 ⟨u, vs, rfl, hr, hb⟩; have HR := Lib.hid hr; have HB := Lib.hid hb; obtain ⟨a2, c2, rfl⟩ := hr.lenY9; rw [← HM.out]; clear hr hb)
  go_loopw [8, 19] (fun o i wr => ∃ j : Nat, j ≤ M ∧ i = .int .i64 (j : Int) ∧ Rd wr w1.heap.size o (lnL (L.take j)) ∧ Below w1.heap.size w1 wr) (fun _ i _ => M - (intOf i).toNat)
  case atStart => exact ⟨0, Nat.zero_le _, rfl, Rd.nil _ _, Below.refl _ _⟩
  case round =>
    obtain ⟨j, hj, rfl, hr, hbl⟩ := hrel
    have HRd := Lib.hid hr
    have HB2 := Lib.hid hbl
    clear hr hbl
    by_cases hlt : j < M
    · have hjL : j < L.length := by rw [← HM.out]; exact hlt
      have HN := Lib.hid (HNX.out j hjL)
      have hlb := HLb.out j
      obtain ⟨z, g, c, hz, hv, hcell, hrz⟩ := (HR.out.keep HB2.out).get j hjL
      rw [← HM.out] at hv
      simp only [Value.slice.injEq] at hv
      obtain ⟨rfl, hmm, rfl⟩ := hv
      obtain ⟨az, cz, hzv⟩ := hrz.sl.len
      subst hzv
      have hlz : L[j].length ≤ 9000000000000000000 ∨ True := .inr trivial
      obtain ⟨q, hq⟩ : ∃ q, q = L[j].length := ⟨_, rfl⟩
      rw [← hq] at HN hcell
      clear hz hrz hq hmm hlz
      go_wp2_with (at_builtin; refine wpList_appR rfl _ _ rfl w1.heap.size w1.heap.size _ _ (lnL (L.take j)) [(q : Int)] rfl rfl (HRd.out.alloc _) (Rd.litB _ _ _ HB2.out.size) (by simp; omega) (by have := HB2.out.size; simp; omega) ?_; intro v1 w4 hr4 hg4 hb4; rw [← HN.out] at hr4; have HR4 := Lib.hid hr4; have HB4 := Lib.hid ((HB2.out.alloc HB2.out.size _).trans hb4); clear hr4 hg4 hb4)
      go_roundw
      case rel => exact ⟨j + 1, by omega, by go_num, HR4.out, HB4.out⟩
      case measure => simp [intOf]; omega
    · obtain rfl : j = M := by omega
      go_wp2
      go_ret2
      exact ⟨_, rfl, by have h := HRd.out; rw [HM.out, HAll.out] at h; exact h.mono HB.out.size, Below.step HB.out HB.out.size HB2.out⟩

theorem spec_LengthsOfSay (v : Value) (xs : List Int) (s : Int) (B : Nat) (w : World) (h : Rd w B v xs) (hl : xs.length ≤ 1048576) :
    Calls Try.prog 19 #[v, .int .i64 s] w fun e w' => ∃ u, e = .returned (.tuple #[u, .bool (OK_LengthsOfSay xs s)]) ∧ Rd w' w.heap.size u (LF_LengthsOfSay xs s) ∧ Below w.heap.size w w' := by
  have H := Lib.hid h
  have HG := Lib.hid (fun w' (h : Rd w' B v xs) => teGood_any v xs B w' h (by omega))
  obtain ⟨a, cap, rfl⟩ := h.sl.len
  have HEL := Lib.hid (show LF_LengthsOfSay xs s = lnL (LF_SayRun xs s) from rfl)
  have HEO := Lib.hid (show OK_LengthsOfSay xs s = OK_SayRun xs s from rfl)
  rw [HEL.out, HEO.out]
  clear HEL HEO
  cases hg : gdW xs with
  | false =>
    obtain ⟨e1, e2⟩ := RunR_no (xs := xs) (s := s) (fun c => by have := (toSay_gd c.1).1; rw [hg] at this; cases this)
    rw [e1, e2]
    rw [hg] at HG
    clear hg h e1 e2
    go_enter Try.func19, Try.ntmps19
    go_wp2_with (go_at_call 57; refine (HG.out _ H.out).mono ?_; rintro e w1 ⟨rfl, rfl⟩)
    go_ret2
    exact ⟨_, rfl, Rd.nil _ _, Below.refl _ _⟩
  | true =>
    rw [hg] at HG
    by_cases hs : 0 ≤ s ∧ s ≤ 30
    · obtain ⟨s0, s1⟩ := hs
      obtain ⟨K, rfl⟩ : ∃ K : Nat, s = (K : Int) := ⟨s.toNat, by omega⟩
      obtain ⟨e1, e2⟩ := RunR_gd hg (show K ≤ 30 by omega)
      obtain ⟨hsm, hno⟩ := SayRun_small xs (K : Int)
      rw [e1, e2] at hno
      rw [e2] at hsm
      rw [e1, e2]
      have HT := Lib.hid (fun w' (h : Rd w' B (.slice a xs.length cap) xs) => teRun_any (.slice a xs.length cap) xs K B w' h hg (by omega))
      obtain ⟨O, hO⟩ : ∃ O, O = okRun xs K := ⟨_, rfl⟩
      obtain ⟨L, hL⟩ : ∃ O, O = LR9 xs K := ⟨_, rfl⟩
      rw [← hO, ← hL] at HT ⊢
      rw [← hO, ← hL] at hno
      rw [← hL] at hsm
      clear hg h e1 e2 hO hL
      cases O with
      | false =>
        have HN := Lib.hid (hno rfl)
        rw [HN.out]
        clear hno hsm
        go_enter Try.func19, Try.ntmps19
        go_wp2_with (first | (go_at_call 57; refine (HG.out _ H.out).mono ?_; rintro e w1 ⟨rfl, rfl⟩) | (go_at_call 66; refine (l1In_yes _ _ _ _ s0 s1).mono ?_; rintro e w1 ⟨rfl, rfl⟩) | (go_at_call 67; refine (HT.out _ H.out).mono ?_; rintro e w1 ⟨u, vs, rfl, hr, hb⟩; have HB := Lib.hid hb; clear hr hb))
        go_ret2
        exact ⟨_, rfl, Rd.nil _ _, HB.out⟩
      | true =>
        have HNX := Lib.hid (fun j (hj : j < L.length) => lnL_next L j hj)
        have HAll := Lib.hid (show L.take L.length = L from List.take_of_length_le (Nat.le_refl _))
        have HLb := Lib.hid (show ∀ j, (lnL (L.take j)).length ≤ 31 by
          intro j
          unfold lnL
          rw [List.length_map, List.length_take]
          omega)
        obtain ⟨M, hM⟩ : ∃ M, M = L.length := ⟨_, rfl⟩
        have HM := Lib.hid hM
        rw [← hM] at hsm
        clear hno hM
        go_enter Try.func19, Try.ntmps19
        go_wp2_with (first | (go_at_call 57; refine (HG.out _ H.out).mono ?_; rintro e w1 ⟨rfl, rfl⟩) | (go_at_call 66; refine (l1In_yes _ _ _ _ s0 s1).mono ?_; rintro e w1 ⟨rfl, rfl⟩) | (go_at_call 67; refine (HT.out _ H.out).mono ?_; rintro e w1 ⟨u, vs, rfl, hr, hb⟩; have HR := Lib.hid hr; have HB := Lib.hid hb; obtain ⟨a2, c2, rfl⟩ := hr.lenY9; rw [← HM.out]; clear hr hb))
        go_loopw [8, 29] (fun o i wr => ∃ j : Nat, j ≤ M ∧ i = .int .i64 (j : Int) ∧ Rd wr w1.heap.size o (lnL (L.take j)) ∧ Below w1.heap.size w1 wr) (fun _ i _ => M - (intOf i).toNat)
        case atStart => exact ⟨0, Nat.zero_le _, rfl, Rd.nil _ _, Below.refl _ _⟩
        case round =>
          obtain ⟨j, hj, rfl, hr, hbl⟩ := hrel
          have HRd := Lib.hid hr
          have HB2 := Lib.hid hbl
          clear hr hbl
          by_cases hlt : j < M
          · have hjL : j < L.length := by rw [← HM.out]; exact hlt
            have HN := Lib.hid (HNX.out j hjL)
            have hlb := HLb.out j
            obtain ⟨z, g, c, hz, hv, hcell, hrz⟩ := (HR.out.keep HB2.out).get j hjL
            rw [← HM.out] at hv
            simp only [Value.slice.injEq] at hv
            obtain ⟨rfl, hmm, rfl⟩ := hv
            obtain ⟨az, cz, hzv⟩ := hrz.sl.len
            subst hzv
            have hlz : L[j].length ≤ 9000000000000000000 ∨ True := .inr trivial
            obtain ⟨q, hq⟩ : ∃ q, q = L[j].length := ⟨_, rfl⟩
            rw [← hq] at HN hcell
            clear hz hrz hq hmm hlz
            go_wp2_with (at_builtin; refine wpList_appR rfl _ _ rfl w1.heap.size w1.heap.size _ _ (lnL (L.take j)) [(q : Int)] rfl rfl (HRd.out.alloc _) (Rd.litB _ _ _ HB2.out.size) (by simp; omega) (by have := HB2.out.size; simp; omega) ?_; intro v1 w4 hr4 hg4 hb4; rw [← HN.out] at hr4; have HR4 := Lib.hid hr4; have HB4 := Lib.hid ((HB2.out.alloc HB2.out.size _).trans hb4); clear hr4 hg4 hb4)
            go_roundw
            case rel => exact ⟨j + 1, by omega, by go_num, HR4.out, HB4.out⟩
            case measure => simp [intOf]; omega
          · obtain rfl : j = M := by omega
            go_wp2
            go_ret2
            exact ⟨_, rfl, by have h := HRd.out; rw [HM.out, HAll.out] at h; exact h.mono HB.out.size, Below.step HB.out HB.out.size HB2.out⟩
    · obtain ⟨e1, e2⟩ := RunR_no (xs := xs) (s := s) (fun c => hs ⟨c.2.1, c.2.2.1⟩)
      rw [e1, e2]
      have HS := Lib.hid (show s < 0 ∨ 30 < s by omega)
      clear hg h e1 e2 hs
      go_enter Try.func19, Try.ntmps19
      go_wp2_with (first | (go_at_call 57; refine (HG.out _ H.out).mono ?_; rintro e w1 ⟨rfl, rfl⟩) | (go_at_call 66; refine (l1In_no _ _ _ _ HS.out).mono ?_; rintro e w1 ⟨rfl, rfl⟩))
      go_ret2
      exact ⟨_, rfl, Rd.nil _ _, Below.refl _ _⟩

end Go.Proofs.Ytmdjmbmkgboeaaa
