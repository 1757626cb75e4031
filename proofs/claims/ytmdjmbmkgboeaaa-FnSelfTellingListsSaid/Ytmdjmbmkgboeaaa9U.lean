/-
  Counts of the indexes in a list: the program's and the model's; lists that tell themselves (written by wip/tools/gen_9u.py).
-/
import Derived.Test.Ytmdjmbmkgboeaaa9T
import Derived.Test.Ytmdjmbmkgboeaaa9L
import Derived.Test.YtmdjmbmkgboeaaaK
import Derived.Test.YtmdjmbmkgboeaaaE2
namespace Go.Proofs.Ytmdjmbmkgboeaaa
open Go.RowKit
set_option linter.unusedVariables false
set_option linter.unusedSimpArgs false
set_option maxRecDepth 100000

theorem cnt_bd (xs : List Int) (k n d : Nat) (hl : xs.length ≤ 12) : cntI (d : Int) (xs.take k) ≤ 12 := by
  have := cntI_le (d : Int) (xs.take k)
  rw [List.length_take] at this
  omega

theorem cnL_next_in {xs : List Int} {k D : Nat} (n : Nat) (hk : k < xs.length) (hd : xs[k] = (D : Int)) (hD : D < n) : cnL n (xs.take (k + 1)) = (cnL n (xs.take k)).set D (((cntI (D : Int) (xs.take k) : Nat) : Int) + 1) := by
  rw [take_snoc' xs k hk, hd, cnL_in hD]
theorem cnL_next_out {xs : List Int} {k : Nat} (n : Nat) (hk : k < xs.length) (hd : ¬ (0 ≤ xs[k] ∧ xs[k] < (n : Int))) : cnL n (xs.take (k + 1)) = cnL n (xs.take k) := by
  rw [take_snoc' xs k hk, cnL_out hd]

def TelR (xs : List Int) : Prop := 1 ≤ xs.length ∧ xs.length ≤ 12
instance (xs : List Int) : Decidable (TelR xs) := by unfold TelR; infer_instance
def OK_TellCounts (xs : List Int) : Bool := decide (TelR xs)
def LF_TellCounts (xs : List Int) : List Int := if TelR xs then cnL xs.length xs else []
theorem LF_TellCounts_len (xs : List Int) (h : xs.length ≤ 1048576) : (LF_TellCounts xs).length ≤ 2000000 := by
  unfold LF_TellCounts
  split
  · rw [cnL_len]; omega
  · simp

theorem teCounts_any (v : Value) (xs : List Int) (w : World) (hv : Sl w v xs) (h1 : 1 ≤ xs.length) (h12 : xs.length ≤ 12) :
    Calls Try.prog 71 #[v] w fun e w' => ∃ u, e = .returned u ∧ Rd w' w.heap.size u (cnL xs.length xs) ∧ Below w.heap.size w w' := by
  obtain ⟨b, off, cap, rfl, hbk, hc⟩ := hv.at9 (show 0 < xs.length by omega)
  have HC := Lib.hid hc
  obtain ⟨N, hN⟩ : ∃ N, N = xs.length := ⟨_, rfl⟩
  have HN := Lib.hid hN
  rw [← hN] at h1 h12 ⊢
  clear hv hc hN
  go_enter Try.func71, Try.ntmps71
  go_wp2_with (at_make; refine wpList_mkR rfl _ _ rfl .i64 .i64 _ _ N rfl rfl rfl rfl (by omega) ?_; intro w1 hr1 hg1 hb1; have HR1 := Lib.hid hr1; have HB1 := Lib.hid hb1; clear hr1 hg1 hb1)
  go_loopw [11] (fun i wr => ∃ k : Nat, k ≤ N ∧ i = .int .i64 (k : Int) ∧ Rd wr w.heap.size (.slice (some ⟨w.heap.size, 0, none⟩) N N) (cnL N (xs.take k)) ∧ Below w.heap.size w wr) (fun i _ => N - (intOf i).toNat)
  case atStart => exact ⟨0, Nat.zero_le _, rfl, by rw [List.take_zero, cnL_nil]; exact HR1.out, HB1.out⟩
  case round =>
    obtain ⟨k, hk, rfl, hr, hbl⟩ := hrel
    have HR := Lib.hid hr
    have HB := Lib.hid hbl
    clear hr hbl
    by_cases hlt : k < N
    · have hkx : k < xs.length := by rw [← HN.out]; exact hlt
      have hcell : wr.cell? ⟨b, off + k, none⟩ = some (.int .i64 xs[k]) := (HB.out.cell (p := ⟨b, off + k, none⟩) hbk).trans (HC.out k hkx)
      obtain ⟨d, hd⟩ : ∃ d, xs[k] = d := ⟨_, rfl⟩
      rw [hd] at hcell
      by_cases hin : 0 ≤ d ∧ d < (N : Int)
      · obtain ⟨D, rfl⟩ : ∃ D : Nat, d = (D : Int) := ⟨d.toNat, by omega⟩
        have hDN : D < N := by omega
        have HNx := Lib.hid (cnL_next_in N hkx hd hDN)
        have hcb := cnt_bd xs k N D (by have := HN.out; omega)
        obtain ⟨c, hc⟩ : ∃ c, c = cntI (D : Int) (xs.take k) := ⟨_, rfl⟩
        have hcl2 : wr.cell? ⟨w.heap.size, D, none⟩ = some (.int .i64 (c : Int)) := by
          have h5 : D < (cnL N (xs.take k)).length := by rw [cnL_len]; exact hDN
          have h6 := HR.out.at.2.2.2.2.1 D h5
          have h7 := cnL_at N (xs.take k) D hDN
          rw [List.getElem?_eq_getElem h5] at h7
          rw [h6, Option.some.inj h7, hc]
        rw [← hc] at hcb HNx
        have hf := HR.out.at.2.2.2.2.2 D
        have HSet := Lib.hid (HR.out.set D ((c : Int) + 1))
        have HBs := Lib.hid (HB.out.setCell (p := ⟨w.heap.size, D, none⟩) (Nat.le_refl _) (.int .i64 ((c : Int) + 1)))
        have d0 : (0 : Int) ≤ (D : Int) := by omega
        have d1 : (D : Int) ≤ (N : Int) - 1 := by omega
        clear hc hd hin hkx
        go_wp2_with (go_at_call 66; refine (l1In_yes _ _ _ _ d0 d1).mono ?_; rintro e wq ⟨rfl, rfl⟩)
        go_roundw
        case rel => exact ⟨k + 1, by omega, by go_num, by rw [HNx.out]; exact HSet.out.1, HBs.out⟩
        case measure => simp [intOf]; omega
      · have HNo := Lib.hid (cnL_next_out N hkx (by rw [hd]; exact hin))
        clear hd hkx
        have hO : d < 0 ∨ (N : Int) - 1 < d := by omega
        clear hin
        go_wp2_with (go_at_call 66; refine (l1In_no _ _ _ _ hO).mono ?_; rintro e wq ⟨rfl, rfl⟩)
        go_roundw
        case rel => exact ⟨k + 1, by omega, by go_num, by rw [HNo.out]; exact HR.out, HB.out⟩
        case measure => simp [intOf]; omega
    · obtain rfl : k = N := by omega
      have HAll := Lib.hid (show xs.take k = xs from List.take_of_length_le (by have := HN.out; omega))
      go_wp2
      go_ret
      exact ⟨_, rfl, by have h := HR.out; rw [HAll.out] at h; exact h, HB.out⟩

theorem tell_sl (v : Value) (xs : List Int) (w : World) (hv : Sl w v xs) (hl : xs.length ≤ 2000000) :
    Calls Try.prog 25 #[v] w fun e w' => ∃ u, e = .returned (.tuple #[u, .bool (OK_TellCounts xs)]) ∧ Rd w' w.heap.size u (LF_TellCounts xs) ∧ Below w.heap.size w w' := by
  by_cases hT : TelR xs
  · have HO := Lib.hid (show OK_TellCounts xs = true from decide_eq_true hT)
    have HL := Lib.hid (show LF_TellCounts xs = cnL xs.length xs from if_pos hT)
    rw [HO.out, HL.out]
    obtain ⟨h1, h12⟩ := hT
    obtain ⟨b, off, cap, rfl, hbk, hc⟩ := hv.at9 (show 0 < xs.length by omega)
    have HC := Lib.hid hc
    obtain ⟨N, hN⟩ : ∃ N, N = xs.length := ⟨_, rfl⟩
    have HN := Lib.hid hN
    rw [← hN] at h1 h12 ⊢
    have n1 : ¬ (N : Int) < 1 := by omega
    have n2 : ¬ (12 : Int) < (N : Int) := by omega
    clear hv hc hN HO HL hl
    go_enter Try.func25, Try.ntmps25
    go_wp2_with (at_make; refine wpList_mkR rfl _ _ rfl .i64 .i64 _ _ N rfl rfl rfl rfl (by omega) ?_; intro w1 hr1 hg1 hb1; have HR1 := Lib.hid hr1; have HB1 := Lib.hid hb1; clear hr1 hg1 hb1)
    go_loopw [20] (fun i wr => ∃ k : Nat, k ≤ N ∧ i = .int .i64 (k : Int) ∧ Rd wr w.heap.size (.slice (some ⟨w.heap.size, 0, none⟩) N N) (cnL N (xs.take k)) ∧ Below w.heap.size w wr) (fun i _ => N - (intOf i).toNat)
    case atStart => exact ⟨0, Nat.zero_le _, rfl, by rw [List.take_zero, cnL_nil]; exact HR1.out, HB1.out⟩
    case round =>
      obtain ⟨k, hk, rfl, hr, hbl⟩ := hrel
      have HR := Lib.hid hr
      have HB := Lib.hid hbl
      clear hr hbl
      by_cases hlt : k < N
      · have hkx : k < xs.length := by rw [← HN.out]; exact hlt
        have hcell : wr.cell? ⟨b, off + k, none⟩ = some (.int .i64 xs[k]) := (HB.out.cell (p := ⟨b, off + k, none⟩) hbk).trans (HC.out k hkx)
        obtain ⟨d, hd⟩ : ∃ d, xs[k] = d := ⟨_, rfl⟩
        rw [hd] at hcell
        by_cases hin : 0 ≤ d ∧ d < (N : Int)
        · obtain ⟨D, rfl⟩ : ∃ D : Nat, d = (D : Int) := ⟨d.toNat, by omega⟩
          have hDN : D < N := by omega
          have HNx := Lib.hid (cnL_next_in N hkx hd hDN)
          have hcb := cnt_bd xs k N D (by have := HN.out; omega)
          obtain ⟨c, hc⟩ : ∃ c, c = cntI (D : Int) (xs.take k) := ⟨_, rfl⟩
          have hcl2 : wr.cell? ⟨w.heap.size, D, none⟩ = some (.int .i64 (c : Int)) := by
            have h5 : D < (cnL N (xs.take k)).length := by rw [cnL_len]; exact hDN
            have h6 := HR.out.at.2.2.2.2.1 D h5
            have h7 := cnL_at N (xs.take k) D hDN
            rw [List.getElem?_eq_getElem h5] at h7
            rw [h6, Option.some.inj h7, hc]
          rw [← hc] at hcb HNx
          have hf := HR.out.at.2.2.2.2.2 D
          have HSet := Lib.hid (HR.out.set D ((c : Int) + 1))
          have HBs := Lib.hid (HB.out.setCell (p := ⟨w.heap.size, D, none⟩) (Nat.le_refl _) (.int .i64 ((c : Int) + 1)))
          have d0 : (0 : Int) ≤ (D : Int) := by omega
          have d1 : (D : Int) < (N : Int) := by omega
          clear hc hd hin hkx
          go_wp2
          go_roundw
          case rel => exact ⟨k + 1, by omega, by go_num, by rw [HNx.out]; exact HSet.out.1, HBs.out⟩
          case measure => simp [intOf]; omega
        · have HNo := Lib.hid (cnL_next_out N hkx (by rw [hd]; exact hin))
          clear hd hkx
          by_cases hz : 0 ≤ d
          · have hO : ¬ d < (N : Int) := by omega
            clear hin
            go_wp2
            go_roundw
            case rel => exact ⟨k + 1, by omega, by go_num, by rw [HNo.out]; exact HR.out, HB.out⟩
            case measure => simp [intOf]; omega
          · clear hin
            go_wp2
            go_roundw
            case rel => exact ⟨k + 1, by omega, by go_num, by rw [HNo.out]; exact HR.out, HB.out⟩
            case measure => simp [intOf]; omega
      · obtain rfl : k = N := by omega
        have HAll := Lib.hid (show xs.take k = xs from List.take_of_length_le (by have := HN.out; omega))
        go_wp2
        go_ret2
        exact ⟨_, rfl, by have h := HR.out; rw [HAll.out] at h; exact h, HB.out⟩
  · have HO := Lib.hid (show OK_TellCounts xs = false from decide_eq_false hT)
    have HL := Lib.hid (show LF_TellCounts xs = [] from if_neg hT)
    rw [HO.out, HL.out]
    obtain ⟨a, cap, rfl⟩ := hv.len
    have hT2 : xs.length < 1 ∨ 12 < xs.length := by unfold TelR at hT; omega
    obtain ⟨N, hN⟩ : ∃ N, N = xs.length := ⟨_, rfl⟩
    rw [← hN] at hl hT2 ⊢
    clear hv hN HO HL hT
    by_cases n1 : N < 1
    · have n1i : (N : Int) < 1 := by omega
      clear hT2
      go_enter Try.func25, Try.ntmps25
      go_wp2
      go_ret2
      exact ⟨_, rfl, Rd.nil _ _, Below.refl _ _⟩
    · have n1i : ¬ (N : Int) < 1 := by omega
      have n2i : (12 : Int) < (N : Int) := by omega
      clear hT2
      go_enter Try.func25, Try.ntmps25
      go_wp2
      go_ret2
      exact ⟨_, rfl, Rd.nil _ _, Below.refl _ _⟩

theorem impl_TellCounts (v : Value) (xs : List Int) (B : Nat) (w : World) (h : Rd w B v xs) (hl : xs.length ≤ 1048576) :
    Calls Try.prog 25 #[v] w fun e w' => ∃ u, e = .returned (.tuple #[u, .bool (OK_TellCounts xs)]) ∧ Rd w' w.heap.size u (LF_TellCounts xs) ∧ Below w.heap.size w w' :=
  tell_sl v xs w h.sl (by omega)

theorem spec_TellCounts (v : Value) (xs : List Int) (B : Nat) (w : World) (h : Rd w B v xs) (hl : xs.length ≤ 1048576) :
    Calls Try.prog 30 #[v] w fun e w' => ∃ u, e = .returned (.tuple #[u, .bool (OK_TellCounts xs)]) ∧ Rd w' w.heap.size u (LF_TellCounts xs) ∧ Below w.heap.size w w' := by
  have H := Lib.hid h
  obtain ⟨a, cap, rfl⟩ := h.sl.len
  by_cases hT : TelR xs
  · have HO := Lib.hid (show OK_TellCounts xs = true from decide_eq_true hT)
    have HL := Lib.hid (show LF_TellCounts xs = cnL xs.length xs from if_pos hT)
    rw [HO.out, HL.out]
    obtain ⟨h1, h12⟩ := hT
    have HT := Lib.hid (fun w' (h : Sl w' (.slice a xs.length cap) xs) => teCounts_any (.slice a xs.length cap) xs w' h h1 h12)
    obtain ⟨X, hX⟩ : ∃ X, X = cnL xs.length xs := ⟨_, rfl⟩
    rw [← hX] at HT ⊢
    obtain ⟨N, hN⟩ : ∃ N, N = xs.length := ⟨_, rfl⟩
    rw [← hN] at h1 h12 H HT ⊢
    have n1 : (1 : Int) ≤ (N : Int) := by omega
    have n2 : (N : Int) ≤ 12 := by omega
    clear hN HO HL hl h hX
    go_enter Try.func30, Try.ntmps30
    go_wp2_with (first | (go_at_call 66; refine (l1In_yes _ _ _ _ n1 n2).mono ?_; rintro e wq ⟨rfl, rfl⟩) | (go_at_call 71; refine (HT.out _ H.out.sl).mono ?_; rintro e w1 ⟨u, rfl, hr, hb⟩; have HR := Lib.hid hr; have HB := Lib.hid hb; clear hr hb))
    go_ret2
    exact ⟨_, rfl, HR.out, HB.out⟩
  · have HO := Lib.hid (show OK_TellCounts xs = false from decide_eq_false hT)
    have HL := Lib.hid (show LF_TellCounts xs = [] from if_neg hT)
    rw [HO.out, HL.out]
    have hT2 : (xs.length : Int) < 1 ∨ 12 < (xs.length : Int) := by unfold TelR at hT; omega
    obtain ⟨N, hN⟩ : ∃ N, N = xs.length := ⟨_, rfl⟩
    rw [← hN] at hl hT2 ⊢
    have HT2 := Lib.hid hT2
    clear hN HO HL hT h hT2
    go_enter Try.func30, Try.ntmps30
    go_wp2_with (go_at_call 66; refine (l1In_no _ _ _ _ HT2.out).mono ?_; rintro e wq ⟨rfl, rfl⟩)
    go_ret2
    exact ⟨_, rfl, Rd.nil _ _, Below.refl _ _⟩

/-- Does a list tell itself? -/
abbrev VAL_IsSelfTelling (xs : List Int) : Value := .tuple #[.bool (decide (TelR xs) && selB xs), .bool (decide (TelR xs))]

theorem is_sl (v : Value) (xs : List Int) (w : World) (hv : Sl w v xs) (hl : xs.length ≤ 2000000) :
    Calls Try.prog 24 #[v] w fun e w' => e = .returned (VAL_IsSelfTelling xs) ∧ Below w.heap.size w w' := by
  have HT := Lib.hid (tell_sl v xs w hv hl)
  have HV := Lib.hid hv
  obtain ⟨a, cap, rfl⟩ := hv.len
  unfold VAL_IsSelfTelling
  by_cases hT : TelR xs
  · have h12 := hT.2
    rw [show OK_TellCounts xs = true from decide_eq_true hT, show LF_TellCounts xs = cnL xs.length xs from if_pos hT] at HT
    rw [decide_eq_true hT, Bool.true_and]
    have HE := Lib.hid (fun w' u (h : Sl w' u (cnL xs.length xs)) (h2 : Sl w' (.slice a xs.length cap) xs) => equal_any u (.slice a xs.length cap) (cnL xs.length xs) xs w' h h2 (by rw [cnL_len]; omega) hl)
    have HQ := Lib.hid (show decide (cnL xs.length xs = xs) = selB xs from rfl)
    rw [HQ.out] at HE
    obtain ⟨q, hq⟩ : ∃ q, q = selB xs := ⟨_, rfl⟩
    rw [← hq] at HE ⊢
    obtain ⟨X, hX⟩ : ∃ X, X = cnL xs.length xs := ⟨_, rfl⟩
    rw [← hX] at HT HE
    clear hv hT hq hX HQ
    go_enter Try.func24, Try.ntmps24
    go_wp2_with (first | (go_at_call 25; refine HT.out.mono ?_; rintro e w1 ⟨u, rfl, hr, hb⟩; have HR := Lib.hid hr; have HB := Lib.hid hb; have HV1 := Lib.hid (HV.out.keep hb); clear hr hb) | (go_at_call 61; refine (HE.out _ _ HR.out.sl HV1.out).mono ?_; rintro e w2 ⟨rfl, hb⟩; have HB2 := Lib.hid (Below.step HB.out HB.out.size hb); clear hb))
    go_ret2
    exact ⟨by simp, HB2.out⟩
  · rw [show OK_TellCounts xs = false from decide_eq_false hT] at HT
    rw [decide_eq_false hT, Bool.false_and]
    clear hv hT
    go_enter Try.func24, Try.ntmps24
    go_wp2_with (go_at_call 25; refine HT.out.mono ?_; rintro e w1 ⟨u, rfl, hr, hb⟩; have HB := Lib.hid hb; clear hr hb)
    go_ret2
    exact ⟨by simp, HB.out⟩

theorem impl_IsSelfTelling (v : Value) (xs : List Int) (B : Nat) (w : World) (h : Rd w B v xs) (hl : xs.length ≤ 1048576) :
    Calls Try.prog 24 #[v] w fun e w' => e = .returned (VAL_IsSelfTelling xs) ∧ Below w.heap.size w w' :=
  is_sl v xs w h.sl (by omega)

theorem spec_IsSelfTelling (v : Value) (xs : List Int) (B : Nat) (w : World) (h : Rd w B v xs) (hl : xs.length ≤ 1048576) :
    Calls Try.prog 29 #[v] w fun e w' => e = .returned (VAL_IsSelfTelling xs) ∧ Below w.heap.size w w' := by
  have H := Lib.hid h
  obtain ⟨a, cap, rfl⟩ := h.sl.len
  unfold VAL_IsSelfTelling
  by_cases hT : TelR xs
  · rw [decide_eq_true hT, Bool.true_and]
    obtain ⟨h1, h12⟩ := hT
    have HT := Lib.hid (fun w' (h : Sl w' (.slice a xs.length cap) xs) => teCounts_any (.slice a xs.length cap) xs w' h h1 h12)
    have HE := Lib.hid (fun w' u (h : Sl w' u (cnL xs.length xs)) (h2 : Sl w' (.slice a xs.length cap) xs) => l1Same_any u (.slice a xs.length cap) (cnL xs.length xs) xs w' h h2 (by rw [cnL_len]; omega) (by omega))
    have HQ := Lib.hid (show decide (cnL xs.length xs = xs) = selB xs from rfl)
    rw [HQ.out] at HE
    obtain ⟨q, hq⟩ : ∃ q, q = selB xs := ⟨_, rfl⟩
    rw [← hq] at HE ⊢
    obtain ⟨X, hX⟩ : ∃ X, X = cnL xs.length xs := ⟨_, rfl⟩
    rw [← hX] at HT HE
    obtain ⟨N, hN⟩ : ∃ N, N = xs.length := ⟨_, rfl⟩
    rw [← hN] at h1 h12 H HT HE ⊢
    have n1 : (1 : Int) ≤ (N : Int) := by omega
    have n2 : (N : Int) ≤ 12 := by omega
    clear h hN hX hq HQ
    go_enter Try.func29, Try.ntmps29
    go_wp2_with (first | (go_at_call 66; refine (l1In_yes _ _ _ _ n1 n2).mono ?_; rintro e wq ⟨rfl, rfl⟩) | (go_at_call 71; refine (HT.out _ H.out.sl).mono ?_; rintro e w1 ⟨u, rfl, hr, hb⟩; have HR := Lib.hid hr; have HB := Lib.hid hb; have HV1 := Lib.hid (H.out.keep hb); clear hr hb) | (go_at_call 70; refine (HE.out _ _ HR.out.sl HV1.out.sl).mono ?_; rintro e w2 ⟨rfl, hb⟩; have HB2 := Lib.hid (Below.step HB.out HB.out.size hb); clear hb))
    go_ret2
    exact ⟨rfl, HB2.out⟩
  · rw [decide_eq_false hT, Bool.false_and]
    have hT2 : (xs.length : Int) < 1 ∨ 12 < (xs.length : Int) := by unfold TelR at hT; omega
    obtain ⟨N, hN⟩ : ∃ N, N = xs.length := ⟨_, rfl⟩
    rw [← hN] at hl hT2 ⊢
    have HT2 := Lib.hid hT2
    clear hN hT h hT2
    go_enter Try.func29, Try.ntmps29
    go_wp2_with (go_at_call 66; refine (l1In_no _ _ _ _ HT2.out).mono ?_; rintro e wq ⟨rfl, rfl⟩)
    go_ret2
    exact ⟨rfl, Below.refl _ _⟩

end Go.Proofs.Ytmdjmbmkgboeaaa
