/-
  Maps: tests of arguments, and single ways.
-/
import Derived.Test.YticagncemlnafaaPO
import Derived.Test.YticagncemlnafaaR2
namespace Go.Proofs.Yticagncemlnafaa
open Go.RowKit
set_option linter.unusedVariables false
set_option linter.unusedSimpArgs false

def inM (n : Nat) (x : Int) : Bool := decide (0 ≤ x) && decide (x < (n : Int))
theorem inM_yes {n : Nat} {x : Int} (h : 0 ≤ x) (h2 : x < n) : inM n x = true := by simp [inM, h, h2]
theorem inM_no {n : Nat} {x : Int} (h : x < 0 ∨ (n : Int) ≤ x) : inM n x = false := by
  unfold inM
  rcases h with h | h
  · rw [decide_eq_false (by omega)]; rfl
  · rw [decide_eq_false (p := x < n) (by omega), Bool.and_false]
theorem inM_iff {n : Nat} {x : Int} : inM n x = true ↔ 0 ≤ x ∧ x < n := by simp [inM]

def stepsK (k : Int) : Bool := decide (0 ≤ k) && decide (k ≤ 1000000)
theorem stepsK_yes {k : Int} (h : 0 ≤ k) (h2 : k ≤ 1000000) : stepsK k = true := by simp [stepsK, h, h2]
theorem stepsK_no {k : Int} (h : k < 0 ∨ 1000000 < k) : stepsK k = false := by
  unfold stepsK
  rcases h with h | h
  · rw [decide_eq_false (by omega)]; rfl
  · rw [decide_eq_false (p := k ≤ 1000000) (by omega), Bool.and_false]
theorem stepsK_iff {k : Int} : stepsK k = true ↔ 0 ≤ k ∧ k ≤ 1000000 := by simp [stepsK]

/-- A list that is a map. -/
def goodM (xs : List Int) : Bool := inM 60 (xs.length - 1) && allIn 0 (xs.length - 1) xs
theorem goodM_iff {xs : List Int} : goodM xs = true ↔ (1 ≤ xs.length ∧ xs.length ≤ 60) ∧ allIn 0 (xs.length - 1) xs = true := by
  unfold goodM
  rw [Bool.and_eq_true, inM_iff]
  constructor
  · rintro ⟨h, h2⟩; exact ⟨by omega, h2⟩
  · rintro ⟨h, h2⟩; exact ⟨by omega, h2⟩
theorem goodM_len {xs : List Int} (h : xs.length = 0 ∨ 60 < xs.length) : goodM xs = false := by
  rw [Bool.eq_false_iff]
  intro hc
  have := (goodM_iff.1 hc).1
  omega
theorem goodM_at {xs : List Int} (h : 1 ≤ xs.length) (h2 : xs.length ≤ 60) : goodM xs = allIn 0 (xs.length - 1) xs := by
  unfold goodM
  rw [inM_yes (by omega) (by omega)]; rfl

theorem goodM_ex {xs : List Int} (h : goodM xs = true) : ∃ (n : Nat) (f : Nat → Nat), xs = lst n f ∧ xs.length = n ∧ 1 ≤ n ∧ n ≤ 60 ∧ Into f n := by
  obtain ⟨⟨h1, h2⟩, h3⟩ := goodM_iff.1 h
  rw [allIn_iff] at h3
  have hat : ∀ j (hj : j < xs.length), xs[j] = ((xs[j].toNat : Nat) : Int) := fun j hj => by
    have := h3 _ (List.getElem_mem hj); omega
  refine ⟨xs.length, fun j => (xs.getD j 0).toNat, ?_, rfl, h1, h2, fun j hj => ?_⟩
  · apply List.ext_getElem
    · rw [lst_len]
    · intro j hj hj2
      rw [lst_at, hat j hj]
      simp [List.getD_eq_getElem?_getD, hj]
  · have := h3 _ (List.getElem_mem hj)
    simp only [List.getD_eq_getElem?_getD, List.getElem?_eq_getElem hj, Option.getD_some]
    omega

theorem goodM_lst {n : Nat} {f : Nat → Nat} (h0 : 1 ≤ n) (h1 : n ≤ 60) (hf : Into f n) : goodM (lst n f) = true := by
  rw [goodM_iff, lst_len]
  refine ⟨⟨h0, h1⟩, (allIn_iff _ _ _).2 fun x hx => ?_⟩
  simp only [lst, List.mem_map, List.mem_range] at hx
  obtain ⟨j, hj, rfl⟩ := hx
  have := hf j hj
  omega

theorem isMapped_any (x : Int) (a : Option Addr) (n cap : Nat) (w : World) (hn : n ≤ 2000000) :
    Calls Try.prog 59 #[.int .i64 x, .slice a n cap] w fun e w' => e = .returned (.bool (inM n x)) ∧ w = w' := by
  by_cases h : 0 ≤ x
  · by_cases h2 : x < n
    · have hd := Lib.hid (inM_yes h h2)
      go_enter Try.func59, Try.ntmps59
      go_wp2
      go_ret
      exact ⟨ret_bool (by rw [hd.out]; try simp [h2]), rfl⟩
    · have hd := Lib.hid (inM_no (n := n) (x := x) (.inr (by omega)))
      go_enter Try.func59, Try.ntmps59
      go_wp2
      go_ret
      exact ⟨ret_bool (by rw [hd.out]; try simp [h2]), rfl⟩
  · have hd := Lib.hid (inM_no (n := n) (x := x) (.inl (by omega)))
    go_enter Try.func59, Try.ntmps59
    go_wp2
    go_ret
    exact ⟨ret_bool (by rw [hd.out]; try simp [h]), rfl⟩

theorem areMapSteps_any (k : Int) (w : World) : Calls Try.prog 63 #[.int .i64 k] w fun e w' => e = .returned (.bool (stepsK k)) ∧ w = w' := by
  by_cases h : 0 ≤ k
  · by_cases h2 : k ≤ 1000000
    · have hd := Lib.hid (stepsK_yes h h2)
      go_enter Try.func63, Try.ntmps63
      go_wp2
      go_ret
      exact ⟨ret_bool (by rw [hd.out]; try simp [h2]), rfl⟩
    · have hd := Lib.hid (stepsK_no (k := k) (.inr (by omega)))
      go_enter Try.func63, Try.ntmps63
      go_wp2
      go_ret
      exact ⟨ret_bool (by rw [hd.out]; try simp [h2]), rfl⟩
  · have hd := Lib.hid (stepsK_no (k := k) (.inl (by omega)))
    go_enter Try.func63, Try.ntmps63
    go_wp2
    go_ret
    exact ⟨ret_bool (by rw [hd.out]; try simp [h]), rfl⟩

theorem mpSteps_any (k : Int) (w : World) : Calls Try.prog 61 #[.int .i64 k] w fun e w' => e = .returned (.bool (stepsK k)) ∧ w = w' := by
  by_cases h : 0 ≤ k ∧ k ≤ 1000000
  · obtain ⟨h1, h2⟩ := h
    have hd := Lib.hid (stepsK_yes h1 h2)
    go_enter Try.func61, Try.ntmps61
    go_wp2_with (go_at_call 92; refine (l1In_yes _ _ _ _ h1 h2).mono ?_; rintro e w' ⟨rfl, rfl⟩)
    go_ret
    exact ⟨ret_bool hd.out.symm, rfl⟩
  · have H := Lib.hid (show k < 0 ∨ 1000000 < k by omega)
    have hd := Lib.hid (stepsK_no H.out)
    clear h
    go_enter Try.func61, Try.ntmps61
    go_wp2_with (go_at_call 92; refine (l1In_no _ _ _ _ H.out).mono ?_; rintro e w' ⟨rfl, rfl⟩)
    go_ret
    exact ⟨ret_bool hd.out.symm, rfl⟩

theorem IsMap_any (v : Value) (xs : List Int) (B : Nat) (w : World) (h : Rd w B v xs) (hl : xs.length ≤ 2000000) :
    Calls Try.prog 21 #[v] w fun e w' => e = .returned (.bool (goodM xs)) ∧ w = w' := by
  rcases h.cases with ⟨rfl, rfl⟩ | ⟨g, cap, rfl, _, _, _, _, hc, _⟩
  · go_enter Try.func21, Try.ntmps21
    go_wp2
    go_ret
    exact ⟨ret_bool (goodM_len (.inl rfl)).symm, rfl⟩
  · by_cases h0 : xs.length = 0
    · have hd := Lib.hid (goodM_len (.inl h0))
      have hz : ((xs.length : Int) == 0) = true := beq_yes (by omega)
      clear hc h h0
      go_enter Try.func21, Try.ntmps21
      go_wp2
      go_ret
      exact ⟨ret_bool hd.out.symm, rfl⟩
    · have hz : ((xs.length : Int) == 0) = false := beq_no (by omega)
      by_cases h60 : 60 < xs.length
      · have hd := Lib.hid (goodM_len (.inr h60))
        clear hc h h0
        go_enter Try.func21, Try.ntmps21
        go_wp2
        go_ret
        exact ⟨ret_bool hd.out.symm, rfl⟩
      · have hle : xs.length ≤ 60 := by omega
        have hd := Lib.hid (goodM_at (by omega) hle)
        have hc' := Lib.hid hc
        have h0' := Lib.hid h0
        clear hc h h60 h0
        go_enter Try.func21, Try.ntmps21
        go_wp2
        go_loop [15] (fun i => ∃ k : Nat, k ≤ xs.length ∧ i = .int .i64 k ∧ allIn 0 (xs.length - 1) (xs.take k) = true) (fun i => xs.length - (intOf i).toNat)
        case atStart => exact ⟨0, Nat.zero_le _, rfl, rfl⟩
        case round =>
          obtain ⟨k, hk, rfl, hp⟩ := hrel
          have hp' := Lib.hid hp
          clear hp
          by_cases hlt : k < xs.length
          · have hcell := hc'.out k hlt
            by_cases hin : 0 ≤ xs[k] ∧ xs[k] < xs.length
            · have hi := inM_yes hin.1 hin.2
              have H := Lib.hid (allIn_take 0 (xs.length - 1) xs k hlt hp'.out hin.1 (by omega))
              clear hin
              go_wp2_with (go_at_call 59; refine (isMapped_any _ _ _ _ _ (by omega)).mono ?_; rintro e w' ⟨rfl, rfl⟩)
              go_round
              case rel => exact ⟨k + 1, by omega, by go_num, H.out⟩
              case measure => simp [intOf]; omega
            · have hi := inM_no (n := xs.length) (x := xs[k]) (by omega)
              have H := Lib.hid (allIn_bad 0 (xs.length - 1) xs k hlt (by omega))
              clear hin
              go_wp2_with (go_at_call 59; refine (isMapped_any _ _ _ _ _ (by omega)).mono ?_; rintro e w' ⟨rfl, rfl⟩)
              go_ret
              exact ⟨ret_bool (by rw [hd.out, H.out]), rfl⟩
          · obtain rfl : k = xs.length := by omega
            go_wp2
            go_ret
            exact ⟨ret_bool (by have := hp'.out; rw [List.take_of_length_le (Nat.le_refl _)] at this; rw [hd.out, this]), rfl⟩

theorem mpGood_any (v : Value) (xs : List Int) (B : Nat) (w : World) (h : Rd w B v xs) (hl : xs.length ≤ 2000000) :
    Calls Try.prog 58 #[v] w fun e w' => e = .returned (.bool (goodM xs)) ∧ w = w' := by
  have hv : ∃ a cap, v = .slice a xs.length cap := by
    rcases h.cases with ⟨rfl, rfl⟩ | ⟨g, cap, rfl, _⟩
    · exact ⟨_, _, rfl⟩
    · exact ⟨_, _, rfl⟩
  obtain ⟨a, cap, rfl⟩ := hv
  have H := Lib.hid h
  clear h
  by_cases hlen : 1 ≤ xs.length ∧ xs.length ≤ 60
  · obtain ⟨h1, h2⟩ := hlen
    have hd := Lib.hid (goodM_at h1 h2)
    go_enter Try.func58, Try.ntmps58
    go_wp2_with (first | (go_at_call 92; refine (l1In_yes _ _ _ _ (by omega) (by omega)).mono ?_; rintro e w' ⟨rfl, rfl⟩) | (go_at_call 93; refine (l1All_any _ xs _ _ _ _ H.out hl).mono ?_; rintro e w' ⟨rfl, rfl⟩))
    go_ret
    exact ⟨ret_bool hd.out.symm, rfl⟩
  · have HO := Lib.hid (show (xs.length : Int) < 1 ∨ (60 : Int) < xs.length by omega)
    have hd := Lib.hid (goodM_len (xs := xs) (by omega))
    clear hlen
    go_enter Try.func58, Try.ntmps58
    go_wp2_with (go_at_call 92; refine (l1In_no _ _ _ _ HO.out).mono ?_; rintro e w' ⟨rfl, rfl⟩)
    go_ret
    exact ⟨ret_bool hd.out.symm, rfl⟩

theorem mpX_any (v : Value) (xs : List Int) (x : Int) (B : Nat) (w : World) (h : Rd w B v xs) (hl : xs.length ≤ 2000000) :
    Calls Try.prog 60 #[v, .int .i64 x] w fun e w' => e = .returned (.bool (goodM xs && inM xs.length x)) ∧ w = w' := by
  have hv : ∃ a cap, v = .slice a xs.length cap := by
    rcases h.cases with ⟨rfl, rfl⟩ | ⟨g, cap, rfl, _⟩
    · exact ⟨_, _, rfl⟩
    · exact ⟨_, _, rfl⟩
  obtain ⟨a, cap, rfl⟩ := hv
  have H := Lib.hid h
  clear h
  obtain ⟨q, hq⟩ : ∃ q, q = goodM xs := ⟨_, rfl⟩
  have HQ := Lib.hid hq
  rw [← hq]
  clear hq
  cases q
  · go_enter Try.func60, Try.ntmps60
    go_wp2_with (go_at_call 58; refine (mpGood_any _ xs _ _ H.out hl).mono ?_; rw [← HQ.out]; rintro e w' ⟨rfl, rfl⟩)
    go_ret
    exact ⟨rfl, rfl⟩
  · by_cases hx : 0 ≤ x ∧ x < xs.length
    · have hd := Lib.hid (inM_yes hx.1 hx.2)
      obtain ⟨h1, h2⟩ := hx
      go_enter Try.func60, Try.ntmps60
      go_wp2_with (first | (go_at_call 58; refine (mpGood_any _ xs _ _ H.out hl).mono ?_; rw [← HQ.out]; rintro e w' ⟨rfl, rfl⟩) | (go_at_call 92; refine (l1In_yes _ _ _ _ (by omega) (by omega)).mono ?_; rintro e w' ⟨rfl, rfl⟩))
      go_ret
      exact ⟨ret_bool (by rw [hd.out]; rfl), rfl⟩
    · have HO := Lib.hid (show x < 0 ∨ (xs.length : Int) - 1 < x by omega)
      have hd := Lib.hid (inM_no (n := xs.length) (x := x) (by omega))
      clear hx
      go_enter Try.func60, Try.ntmps60
      go_wp2_with (first | (go_at_call 58; refine (mpGood_any _ xs _ _ H.out hl).mono ?_; rw [← HQ.out]; rintro e w' ⟨rfl, rfl⟩) | (go_at_call 92; refine (l1In_no _ _ _ _ HO.out).mono ?_; rintro e w' ⟨rfl, rfl⟩))
      go_ret
      exact ⟨ret_bool (by rw [hd.out]; rfl), rfl⟩

theorem specIsMap_any (v : Value) (xs : List Int) (B : Nat) (w : World) (h : Rd w B v xs) (hl : xs.length ≤ 2000000) :
    Calls Try.prog 19 #[v] w fun e w' => e = .returned (.bool (goodM xs)) ∧ w = w' := by
  have H := Lib.hid h
  clear h
  go_enter Try.func19, Try.ntmps19
  go_wp2_with (go_at_call 58; refine (mpGood_any _ xs _ _ H.out hl).mono ?_; rintro e w' ⟨rfl, rfl⟩)
  go_ret
  exact ⟨rfl, rfl⟩

/-- The number k steps behind x. -/
theorem mpAt_any (g n cap : Nat) (f : Nat → Nat) (x k : Nat) (w : World) (h : Mp w g n f) (hx : x < n) (hk : k ≤ 1000000) :
    Calls Try.prog 62 #[.slice (some ⟨g, 0, none⟩) n cap, .int .i64 (x : Int), .int .i64 (k : Int)] w fun e w' => e = .returned (.int .i64 ((it f k x : Nat) : Int)) ∧ w = w' := by
  have H := Lib.hid h
  have h0 := h.n0
  have h1 := h.n1
  clear h
  go_enter Try.func62, Try.ntmps62
  go_wp2
  go_loop [1, 2] (fun y i => ∃ j : Nat, j ≤ k ∧ i = .int .i64 ((k - j : Nat) : Int) ∧ y = .int .i64 ((it f j x : Nat) : Int)) (fun _ i => (intOf i).toNat)
  case atStart => exact ⟨0, Nat.zero_le _, rfl, rfl⟩
  case round =>
    obtain ⟨j, hj, rfl, rfl⟩ := hrel
    have hy := it_lt H.out.into j hx
    obtain ⟨y, hyy⟩ : ∃ y, y = it f j x := ⟨_, rfl⟩
    have HY := Lib.hid hyy
    rw [← hyy] at hy ⊢
    clear hyy
    obtain ⟨r, hr⟩ : ∃ r, r = k - j := ⟨_, rfl⟩
    have HR := Lib.hid hr
    rw [← hr]
    clear hr
    by_cases hlt : j < k
    · have hcell := H.out.cell y hy
      have hpos : 0 < (r : Int) := by have := HR.out; omega
      have hle : r ≤ 1000000 := by have := HR.out; omega
      go_wp2
      go_round
      case rel => exact ⟨j + 1, by omega, by have := HR.out; go_num, by rw [HY.out]; rfl⟩
      case measure => simp [intOf]; omega
    · have hpos : ¬ 0 < (r : Int) := by have := HR.out; omega
      have hr0 : r = 0 := by have := HR.out; omega
      subst hr0
      go_wp2
      go_ret
      exact ⟨ret_int (by rw [HY.out, show j = k by omega]), rfl⟩

end Go.Proofs.Yticagncemlnafaa
