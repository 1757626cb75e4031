/-
  Who may ask for words and gaps; the model's step of gaps.
-/
import Derived.Test.YtadjjmlneghklaaJH
import Derived.Test.YtadjjmlneghklaaR2
namespace Go.Proofs.Ytadjjmlneghklaa
open Go.RowKit
set_option linter.unusedVariables false
set_option linter.unusedSimpArgs false
set_option maxRecDepth 100000

/-- Is this a word? -/
def okW (xs : List Int) (b : Int) : Bool := okS (xs.length : Int) b && allIn 0 (b - 1) xs
theorem okS_iff {W b : Int} : okS W b = true ↔ (1 ≤ W ∧ W ≤ 8) ∧ 2 ≤ b ∧ b ≤ 16 := by unfold okS; rw [decide_eq_true_eq]; exact Iff.rfl
theorem okW_cases (xs : List Int) (b : Int) : (okW xs b = true ∧ 1 ≤ xs.length ∧ xs.length ≤ 8 ∧ 2 ≤ b ∧ b ≤ 16 ∧ ∀ x ∈ xs, 0 ≤ x ∧ x ≤ b - 1) ∨ okW xs b = false := by
  cases h : okW xs b
  · exact .inr rfl
  · unfold okW at h
    rw [Bool.and_eq_true, okS_iff, allIn_iff] at h
    obtain ⟨⟨⟨h1, h2⟩, h3, h4⟩, h5⟩ := h
    exact .inl ⟨rfl, by omega, by omega, h3, h4, h5⟩

theorem gpAsked_any (W b : Int) (w : World) : Calls Try.prog 24 #[.int .i64 W, .int .i64 b] w fun e w' => e = .returned (.bool (okS W b)) ∧ w = w' := by
  by_cases hb : Bas b
  · have hd : decide (Bas b) = true := decide_eq_true hb
    obtain ⟨b2, b16⟩ := hb
    by_cases h1 : 1 ≤ W ∧ W ≤ 8
    · obtain ⟨l1, l8⟩ := h1
      have HO := Lib.hid (show okS W b = true from okS_iff.2 ⟨⟨l1, l8⟩, b2, b16⟩)
      go_enter Try.func24, Try.ntmps24
      go_wp2_with (first | (go_at_call 46; refine (dgBase_any _ _).mono ?_; rw [hd]; rintro e w' ⟨rfl, rfl⟩) | (go_at_call 47; refine (l1In_yes _ _ _ _ (by omega) (by omega)).mono ?_; rintro e w' ⟨rfl, rfl⟩))
      go_ret
      exact ⟨ret_bool HO.out.symm, rfl⟩
    · have HO := Lib.hid (show okS W b = false from decide_eq_false (fun h => h1 h.1))
      have HL := Lib.hid (show W < 1 ∨ 8 < W by omega)
      clear h1
      go_enter Try.func24, Try.ntmps24
      go_wp2_with (first | (go_at_call 46; refine (dgBase_any _ _).mono ?_; rw [hd]; rintro e w' ⟨rfl, rfl⟩) | (go_at_call 47; refine (l1In_no _ _ _ _ HL.out).mono ?_; rintro e w' ⟨rfl, rfl⟩))
      go_ret
      exact ⟨ret_bool HO.out.symm, rfl⟩
  · have hd : decide (Bas b) = false := decide_eq_false hb
    have HO := Lib.hid (show okS W b = false from decide_eq_false (fun h => hb h.2))
    clear hb
    go_enter Try.func24, Try.ntmps24
    go_wp2_with (go_at_call 46; refine (dgBase_any _ _).mono ?_; rw [hd]; rintro e w' ⟨rfl, rfl⟩)
    go_ret
    exact ⟨ret_bool HO.out.symm, rfl⟩

/-- Numbers that do not rise. -/
def nr (g : List Int) : Bool := decide (∀ i, i < g.length → 1 ≤ i → g.getD i 0 ≤ g.getD (i - 1) 0)
/-- Are these gaps of words of a width? -/
def okG (g : List Int) (W b : Int) : Bool := okS W b && decide ((g.length : Int) = W / 2) && allIn 0 (b - 1) g && nr g
theorem okG_cases (g : List Int) (W b : Int) : (okG g W b = true ∧ ∃ w : Nat, W = (w : Int) ∧ 1 ≤ w ∧ w ≤ 8 ∧ 2 ≤ b ∧ b ≤ 16 ∧ g.length = w / 2 ∧ (∀ x ∈ g, 0 ≤ x ∧ x ≤ b - 1) ∧ nr g = true) ∨ okG g W b = false := by
  cases h : okG g W b
  · exact .inr rfl
  · unfold okG at h
    rw [Bool.and_eq_true, Bool.and_eq_true, Bool.and_eq_true, okS_iff, allIn_iff, decide_eq_true_eq] at h
    obtain ⟨⟨⟨⟨⟨h1, h2⟩, h3, h4⟩, h5⟩, h6⟩, h7⟩ := h
    exact .inl ⟨rfl, W.toNat, by omega, by omega, by omega, h3, h4, by omega, h6, h7⟩
theorem nr_get {g : List Int} (h : nr g = true) {i : Nat} (hi : i + 1 < g.length) : g[i + 1] ≤ g[i] := by
  have := of_decide_eq_true h (i + 1) hi (by omega)
  simpa [List.getD_eq_getElem?_getD, hi, show i < g.length by omega] using this
theorem nr_down {g : List Int} (h : nr g = true) : g.Pairwise (fun a b => b ≤ a) := by
  rw [List.pairwise_iff_getElem]
  intro i j hi hj hij
  obtain ⟨d, rfl⟩ : ∃ d, j = i + 1 + d := ⟨j - (i + 1), by omega⟩
  induction d with
  | zero => exact nr_get h (by omega)
  | succ d ih => have h1 := ih (by omega) (by omega); have h2 := nr_get h (i := i + 1 + d) (by omega); simp only [Nat.add_assoc] at h1 h2 ⊢; omega

/-- Gaps with zeros behind them are a word that has them. -/
theorem gp_gaps {g : List Int} {W : Nat} {m : Int} (hl : g.length = W / 2) (hg : ∀ x ∈ g, 0 ≤ x ∧ x ≤ m) (hn : nr g = true) : gp (g ++ List.replicate (W - W / 2) 0) = g := by
  have hs : srt (g ++ List.replicate (W - W / 2) 0) = List.replicate (W - W / 2) 0 ++ g.reverse := by
    refine (srt_unique ?_ ?_).symm
    · exact (List.perm_append_comm).trans ((List.reverse_perm g).append_right _)
    · rw [List.pairwise_append]
      refine ⟨?_, ?_, ?_⟩
      · rw [List.pairwise_replicate]; right; exact Int.le_refl _
      · rw [List.pairwise_reverse]; exact nr_down hn
      · intro a ha c hc
        rw [(List.mem_replicate.1 ha).2]
        exact (hg c (List.mem_reverse.1 hc)).1
  unfold gp
  rw [hs]
  apply List.ext_getElem
  · rw [gpU_len]; simp; omega
  · intro i h1 h2
    rw [gpU_at, List.getD_eq_getElem?_getD, List.getD_eq_getElem?_getD, List.getElem?_append_right (by simp; omega), List.getElem?_append_left (by simp; omega)]
    simp only [List.length_append, List.length_replicate, List.length_reverse]
    rw [List.getElem?_reverse (by omega), List.getElem?_replicate, if_pos (by omega)]
    rw [show g.length - 1 - (W - W / 2 + g.length - 1 - i - (W - W / 2)) = i by omega, List.getElem?_eq_getElem h2]
    simp

theorem gpBy_any (v : Value) (g : List Int) (W : Nat) (b : Int) (B : Nat) (w : World) (h : Rd w B v g) (hb : 2 ≤ b) (hb' : b ≤ 16) (hW : W ≤ 8) (hl : g.length = W / 2) (hg : ∀ x ∈ g, 0 ≤ x ∧ x ≤ b - 1) (hn : nr g = true) :
    Calls Try.prog 49 #[v, .int .i64 (W : Int), .int .i64 b] w fun e w' => ∃ u, e = .returned u ∧ Rd w' w.heap.size u (wd b W (gv b W g)) ∧ Below w.heap.size w w' := by
  have H := Lib.hid h
  have HL := Lib.hid hl
  have HST := Lib.hid (show stv b (g ++ List.replicate (W - W / 2) 0) = gv b W g by unfold stv; have e : (g ++ List.replicate (W - W / 2) (0 : Int)).length = W := (by simp; omega); rw [gp_gaps hl hg hn, e])
  have HXL := Lib.hid (show (g ++ List.replicate (W - W / 2) (0 : Int)).length = W by simp; omega)
  have HXA := Lib.hid (show ∀ x ∈ g ++ List.replicate (W - W / 2) (0 : Int), 0 ≤ x ∧ x ≤ b - 1 from fun x hx => by
    rcases List.mem_append.1 hx with hx | hx
    · exact hg x hx
    · rw [(List.mem_replicate.1 hx).2]; omega)
  have HSR := Lib.hid (show ∀ k, k < g.length → (g.take k ++ List.replicate (W - k) (0 : Int)).set k (g.getD k 0) = g.take (k + 1) ++ List.replicate (W - (k + 1)) 0 from fun k hk => by
    rw [List.set_append_right _ _ (by simp; omega), take_snoc g k hk, List.append_assoc]
    congr 1
    rw [List.length_take, Nat.min_eq_left (by omega), Nat.sub_self, show W - k = (W - (k + 1)) + 1 by omega, List.replicate_succ]
    rfl)
  obtain ⟨a, cap, rfl⟩ := h.sl.len
  clear h hl hg hn
  go_enter Try.func49, Try.ntmps49
  go_wp2_with (refine wpList_mkR rfl _ _ rfl .i64 .i64 (W : Int) (W : Int) W rfl rfl rfl rfl (by omega) ?_; intro w3 hr3 hg3 hb3; have R3 := Lib.hid hr3; have B3 := Lib.hid hb3; clear hr3 hg3 hb3)
  have H3 := Lib.hid (H.out.keep B3.out)
  go_loopw [14] (fun i wr => ∃ k : Nat, k ≤ g.length ∧ i = .int .i64 (k : Int) ∧ Rd wr w.heap.size (.slice (some ⟨w.heap.size, 0, none⟩) W W) (g.take k ++ List.replicate (W - k) 0) ∧ Below w.heap.size w wr) (fun i _ => g.length - (intOf i).toNat)
  case atStart => exact ⟨0, Nat.zero_le _, rfl, R3.out, B3.out⟩
  case round =>
    obtain ⟨k, hk, rfl, hr, hbl⟩ := hrel
    have HR := Lib.hid hr
    have HB := Lib.hid hbl
    have HK := Lib.hid (H.out.keep hbl)
    clear hr hbl
    by_cases hlt : k < g.length
    · have hgl : g.length = W / 2 := HL.out
      rcases HK.out.cases with ⟨_, hx⟩ | ⟨ga, ca, hu, _, _, _, _, hc, _⟩
      · rw [hx] at hlt; simp at hlt
      simp only [Value.slice.injEq] at hu
      obtain ⟨rfl, hz0, rfl⟩ := hu
      clear hz0
      have hcell := hc k hlt
      have hlen : (g.take k ++ List.replicate (W - k) (0 : Int)).length = W := by simp; omega
      have hcz := HR.out.at.2.2.2.2.1 k (by rw [hlen]; omega)
      have hfz := HR.out.at.2.2.2.2.2 k
      obtain ⟨z, hz⟩ : ∃ z, z = (g.take k ++ List.replicate (W - k) (0 : Int))[k]'(by rw [hlen]; omega) := ⟨_, rfl⟩
      rw [← hz] at hcz
      have HS := Lib.hid (HSR.out k hlt)
      rw [show g.getD k 0 = g[k] by simp [hlt]] at HS
      obtain ⟨x, hx⟩ : ∃ x, x = g[k] := ⟨_, rfl⟩
      rw [← hx] at hcell HS
      have HSET := Lib.hid (HR.out.set k x)
      have hkW : k < W := by omega
      clear hc hlen hz hx hgl
      go_wp2
      go_roundw
      case rel => exact ⟨k + 1, by omega, by go_num, by rw [← HS.out]; exact HSET.out.1, HB.out.trans (grown_below HSET.out.2 HB.out.size (Nat.le_refl _))⟩
      case measure => simp [intOf]; omega
    · obtain rfl : k = g.length := by omega
      have HE := Lib.hid (show g.take g.length ++ List.replicate (W - g.length) 0 = g ++ List.replicate (W - W / 2) 0 by rw [List.take_of_length_le (Nat.le_refl _), HL.out])
      go_wp2_with fail
      refine (gpStep_any _ (g ++ List.replicate (W - W / 2) 0) b _ (by rw [← HE.out]; exact HR.out.sl) hb hb' (by rw [HXL.out]; exact hW) HXA.out).mono ?_
      rw [HXL.out, HST.out]
      rintro e w1 ⟨u, rfl, hr1, hb1⟩
      have R1 := Lib.hid (hr1.mono HB.out.size)
      have B1 := Lib.hid (Below.step HB.out HB.out.size hb1)
      clear hr1 hb1
      go_wp2
      go_ret
      exact ⟨u, rfl, R1.out, B1.out⟩

end Go.Proofs.Ytadjjmlneghklaa
