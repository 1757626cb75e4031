/-
  Pairs of partners: answers.
-/
import Derived.Test.Ytlpmfapjgmhbhaa8J
import Derived.Test.Ytlpmfapjgmhbhaa8L
import Derived.Test.Ytlpmfapjgmhbhaa8X
namespace Go.Proofs.Ytlpmfapjgmhbhaa
open Go.RowKit
set_option linter.unusedVariables false
set_option linter.unusedSimpArgs false
set_option maxRecDepth 100000

/-- The pairs whose lesser partner is one of the first k numbers. -/
def prs : Nat → List (List Int)
  | 0 => []
  | k + 1 => if ((k + 1 : Nat) : Int) < ptn ((k + 1 : Nat) : Int) then prs k ++ [[((k + 1 : Nat) : Int), ptn ((k + 1 : Nat) : Int)]] else prs k
theorem prs_hit {k : Nat} (h : ((k + 1 : Nat) : Int) < ptn ((k + 1 : Nat) : Int)) : prs (k + 1) = prs k ++ [[((k + 1 : Nat) : Int), ptn ((k + 1 : Nat) : Int)]] := if_pos h
theorem prs_miss {k : Nat} (h : ¬ ((k + 1 : Nat) : Int) < ptn ((k + 1 : Nat) : Int)) : prs (k + 1) = prs k := if_neg h
theorem prs_len : ∀ k, (prs k).length ≤ k ∧ ∀ l ∈ prs k, l.length = 2
  | 0 => by simp [prs]
  | k + 1 => by
    obtain ⟨h1, h2⟩ := prs_len k
    by_cases h : ((k + 1 : Nat) : Int) < ptn ((k + 1 : Nat) : Int)
    · rw [prs_hit h]
      refine ⟨by simp; omega, fun l hl => ?_⟩
      rcases List.mem_append.1 hl with hl | hl
      · exact h2 l hl
      · rw [List.mem_singleton.1 hl]; rfl
    · rw [prs_miss h]
      exact ⟨by omega, h2⟩
/-- How far pairs may be asked for. -/
def Pd (n : Int) : Prop := 0 ≤ n ∧ n ≤ 10000
instance (n : Int) : Decidable (Pd n) := by unfold Pd; infer_instance
def OK_PairsUpTo (n : Int) : Bool := decide (Pd n)
def LF_PairsUpTo (n : Int) : List (List Int) := if Pd n then prs n.toNat else []
theorem LF_PairsUpTo_bd (n : Int) : (LF_PairsUpTo n).length ≤ 40000 ∧ ∀ i, (lsZ (LF_PairsUpTo n) i).length ≤ 40000 := by
  have hz : ∀ (ls : List (List Int)), (∀ l ∈ ls, l.length = 2) → ∀ i, (lsZ ls i).length ≤ 40000 := by
    intro ls h i
    unfold lsZ
    by_cases hi : i < ls.length
    · have := h _ (List.getElem_mem hi)
      simp [List.getD_eq_getElem?_getD, hi, this]
    · simp [List.getD_eq_getElem?_getD, hi]
  unfold LF_PairsUpTo
  split
  · rename_i h
    obtain ⟨h1, h2⟩ := prs_len n.toNat
    exact ⟨by have := h.2; omega, hz _ h2⟩
  · exact ⟨by simp, hz [] (by simp)⟩
theorem offZ_bd {Z : Nat → List Int} (h : ∀ i, (Z i).length ≤ 40000) : ∀ i, 0 ≤ offZ 1 Z i ∧ offZ 1 Z i ≤ 1 + 40000 * i
  | 0 => by simp [offZ]
  | i + 1 => by
    have h1 := offZ_bd h i
    have h2 := h i
    simp only [offZ]
    omega

/-- A pair of numbers in a row of its own, put behind others. -/
theorem pair_lit (w : World) (B : Nat) (a b : Int) (hB : B ≤ w.heap.size) : Rd (w.alloc (.cells #[.int .i64 a, .int .i64 b] 3)) B (.slice (some ⟨w.heap.size, 0, none⟩) 2 2) [a, b] :=
  World.ownsRow_lit (e := 3) (size := 1) (base := B) w #[.int .i64 a, .int .i64 b] 2 hB (by unfold maxLen; omega) rfl
theorem pair_row (w : World) (B : Nat) (a b : Int) (hB : B ≤ w.heap.size) : Rg 28 ((w.alloc (.cells #[.int .i64 a, .int .i64 b] 3)).alloc (.cells #[.slice (some ⟨w.heap.size, 0, none⟩) 2 2] 28)) B (.slice (some ⟨w.heap.size + 1, 0, none⟩) 1 1) [.slice (some ⟨w.heap.size, 0, none⟩) 2 2] := by
  have h := Rg.lit 28 (w.alloc (.cells #[.int .i64 a, .int .i64 b] 3)) B (.slice (some ⟨w.heap.size, 0, none⟩) 2 2) (by simp; omega)
  rw [World.size_alloc] at h
  exact h
theorem LLi.farA {w : World} {B : Nat} {v : Value} {vs : List Value} {ls : List (List Int)} (h : LLi w B v vs ls) (n c : Nat) : ∀ (i : Nat) (z : Value), vs[i]? = some z → z.ownBlock = none ∨ z.ownBlock ≠ (Value.slice (some ⟨w.heap.size, 0, none⟩) n c).ownBlock := fun i z hz => by
  obtain ⟨l, _, hr⟩ := h.rd hz
  cases hq : z.ownBlock with
  | none => exact .inl rfl
  | some q =>
    right
    intro e
    simp only [Value.ownBlock, Option.some.injEq] at e
    have := (hr.lt q hq).2
    omega

theorem spec_PairsUpTo (n : Int) (w : World) :
    Calls Try.prog 21 #[.int .i64 n] w fun e w' => ∃ u vs, e = .returned (.tuple #[u, .bool (OK_PairsUpTo n)]) ∧ LLi w' w.heap.size u vs (LF_PairsUpTo n) ∧ Below w.heap.size w w' := by
  by_cases h : Pd n
  · have HO := Lib.hid (show OK_PairsUpTo n = true from decide_eq_true h)
    have HL := Lib.hid (show LF_PairsUpTo n = prs n.toNat from if_pos h)
    rw [HO.out, HL.out]
    obtain ⟨m, rfl⟩ : ∃ m : Nat, n = (m : Int) := ⟨n.toNat, by have := h.1; omega⟩
    obtain ⟨m0, m1⟩ := h
    rw [show ((m : Int)).toNat = m from Int.toNat_natCast m]
    have hm1 : m ≤ 10000 := by omega
    clear HO HL
    go_enter Try.func21, Try.ntmps21
    go_wp2_with (go_at_call 63; refine (l1In_yes _ _ _ _ m0 m1).mono ?_; rintro e w1 ⟨rfl, rfl⟩)
    go_loopw [4, 5] (fun o i wr => ∃ (k : Nat) (vs : List Value), i = .int .i64 ((k + 1 : Nat) : Int) ∧ k ≤ m ∧ LLi wr w.heap.size o vs (prs k) ∧ Below w.heap.size w wr) (fun _ i _ => m + 1 - (intOf i).toNat)
    case atStart => exact ⟨0, [], rfl, Nat.zero_le _, LLi.nil _ _, Below.refl _ _⟩
    case round =>
      obtain ⟨k, vs, rfl, hk, hl, hb⟩ := hrel
      have HL := Lib.hid hl
      have HB := Lib.hid hb
      have hln := (prs_len k).1
      have hvn : vs.length = (prs k).length := hl.len
      clear hl hb
      by_cases hlt : k < m
      · have hle : ((k + 1 : Nat) : Int) ≤ (m : Int) := by omega
        have hDv : Dv ((k + 1 : Nat) : Int) := ⟨by omega, by omega⟩
        have HP := Lib.hid (fun w' => dvPartner_any ((k + 1 : Nat) : Int) w' hDv)
        have pb := ptn_nonneg (n := ((k + 1 : Nat) : Int))
        have HT1 := Lib.hid (fun h => prs_hit (k := k) h)
        have HT2 := Lib.hid (fun h => prs_miss (k := k) h)
        obtain ⟨s, hs⟩ : ∃ s, s = ptn ((k + 1 : Nat) : Int) := ⟨_, rfl⟩
        rw [← hs] at HP pb HT1 HT2
        obtain ⟨s0, s1⟩ := pb
        obtain ⟨K, hK⟩ : ∃ K, K = k + 1 := ⟨_, rfl⟩
        have HK := Lib.hid hK
        rw [← hK] at HP HT1 HT2 hle ⊢
        have hKb : K ≤ 10000 := by omega
        have HVN := Lib.hid (show vs.length ≤ 10000 by omega)
        clear hDv hK hs hvn hln
        by_cases h2 : (K : Int) < s
        · have HT := Lib.hid (HT1.out h2)
          clear HT1 HT2
          go_wp2_with (first | (go_at_call 59; refine (HP.out _).mono ?_; rintro e w2 ⟨rfl, hb2⟩; have HL2 := Lib.hid (HL.out.keep hb2); have HB2 := Lib.hid (Below.step HB.out HB.out.size hb2); clear hb2) | (at_builtin; refine wpList_appG rfl _ _ 34 28 (.slice none 0 0) 24 Try.underlying34 infoLL (by omega) rfl rfl w.heap.size w.heap.size _ _ vs [.slice (some ⟨w2.heap.size, 0, none⟩) 2 2] rfl rfl ((HL2.out.alloc _).alloc _).row (pair_row w2 w.heap.size (K : Int) s HB2.out.size) (by intro q hq; simp at hq; subst hq; rfl) (by have := HVN.out; simp; omega) (by have := HB2.out.size; simp; omega) ?_; intro v4 w4 hr4 hg4 hb4; have HR4 := Lib.hid hr4; have HG4 := Lib.hid hg4; have HB4 := Lib.hid (((HB2.out.alloc HB2.out.size _).alloc (by have := HB2.out.size; simp; omega) _).trans hb4); clear hr4 hg4 hb4))
          have HN := Lib.hid ((HL2.out.alloc (.cells #[.int .i64 (K : Int), .int .i64 s] 3)).snoc (pair_lit w2 w.heap.size (K : Int) s HB2.out.size) (HL2.out.farA 2 2) HR4.out HG4.out)
          go_roundw
          case rel => exact ⟨K, _, by go_num, by have := HK.out; omega, by rw [HT.out]; exact HN.out, HB4.out⟩
          case measure => have := HK.out; simp [intOf]; omega
        · have HT := Lib.hid (HT2.out h2)
          clear HT1 HT2
          go_wp2_with (go_at_call 59; refine (HP.out _).mono ?_; rintro e w2 ⟨rfl, hb2⟩; have HL2 := Lib.hid (HL.out.keep hb2); have HB2 := Lib.hid (Below.step HB.out HB.out.size hb2); clear hb2)
          go_roundw
          case rel => exact ⟨K, _, by go_num, by have := HK.out; omega, by rw [HT.out]; exact HL2.out, HB2.out⟩
          case measure => have := HK.out; simp [intOf]; omega
      · obtain rfl : k = m := by omega
        have hle : ¬ ((k + 1 : Nat) : Int) ≤ (k : Int) := by omega
        go_wp2
        go_ret2
        exact ⟨_, rfl, ⟨_, HL.out⟩, HB.out⟩
  · have HO := Lib.hid (show OK_PairsUpTo n = false from decide_eq_false h)
    have HL := Lib.hid (show LF_PairsUpTo n = [] from if_neg h)
    rw [HO.out, HL.out]
    have hs : n < 0 ∨ 10000 < n := by unfold Pd at h; omega
    clear h
    go_enter Try.func21, Try.ntmps21
    go_wp2_with (go_at_call 63; refine (l1In_no _ _ _ _ hs).mono ?_; rintro e w1 ⟨rfl, rfl⟩)
    go_ret2
    first | exact ⟨_, [], rfl, LLi.nil _ _, Below.refl _ _⟩ | exact ⟨_, rfl, ⟨_, LLi.nil _ _⟩, Below.refl _ _⟩

theorem RPtn_pos {n : Int} (h : Dv n) (h2 : n < ptn n) : RPtn n = some (ptn n) := if_pos ⟨h, by have := h.1; omega⟩
theorem RPtn_neg {n : Int} (h : Dv n) (h2 : ¬ n < ptn n) : ∃ s o, optRes (RPtn n) = .tuple #[.int .i64 s, .bool o] ∧ (o = true → ¬ n < s) := by
  by_cases hz : ptn n = 0
  · have : RPtn n = none := if_neg (fun c => c.2 hz)
    exact ⟨0, false, by rw [this]; rfl, fun c => by cases c⟩
  · have : RPtn n = some (ptn n) := if_pos ⟨h, hz⟩
    exact ⟨ptn n, true, by rw [this]; rfl, fun _ => h2⟩

theorem impl_PairsUpTo (n : Int) (w : World) :
    Calls Try.prog 20 #[.int .i64 n] w fun e w' => ∃ u vs, e = .returned (.tuple #[u, .bool (OK_PairsUpTo n)]) ∧ LLi w' w.heap.size u vs (LF_PairsUpTo n) ∧ Below w.heap.size w w' := by
  by_cases h : Pd n
  · have HO := Lib.hid (show OK_PairsUpTo n = true from decide_eq_true h)
    have HL := Lib.hid (show LF_PairsUpTo n = prs n.toNat from if_pos h)
    rw [HO.out, HL.out]
    obtain ⟨m, rfl⟩ : ∃ m : Nat, n = (m : Int) := ⟨n.toNat, by have := h.1; omega⟩
    obtain ⟨m0, m1⟩ := h
    rw [show ((m : Int)).toNat = m from Int.toNat_natCast m]
    have hm1 : m ≤ 10000 := by omega
    clear HO HL
    go_enter Try.func20, Try.ntmps20
    go_wp2
    go_loopw [4, 5] (fun o i wr => ∃ (k : Nat) (vs : List Value), i = .int .i64 ((k + 1 : Nat) : Int) ∧ k ≤ m ∧ LLi wr w.heap.size o vs (prs k) ∧ Below w.heap.size w wr) (fun _ i _ => m + 1 - (intOf i).toNat)
    case atStart => exact ⟨0, [], rfl, Nat.zero_le _, LLi.nil _ _, Below.refl _ _⟩
    case round =>
      obtain ⟨k, vs, rfl, hk, hl, hb⟩ := hrel
      have HL := Lib.hid hl
      have HB := Lib.hid hb
      have hln := (prs_len k).1
      have hvn : vs.length = (prs k).length := hl.len
      clear hl hb
      by_cases hlt : k < m
      · have hle : ((k + 1 : Nat) : Int) ≤ (m : Int) := by omega
        have hDv : Dv ((k + 1 : Nat) : Int) := ⟨by omega, by omega⟩
        have HP := Lib.hid (fun w' => impl_PartnerOf ((k + 1 : Nat) : Int) w')
        have HT1 := Lib.hid (fun h => prs_hit (k := k) h)
        have HT2 := Lib.hid (fun h => prs_miss (k := k) h)
        have pb := ptn_nonneg (n := ((k + 1 : Nat) : Int))
        have HVN := Lib.hid (show vs.length ≤ 10000 by omega)
        by_cases h2 : ((k + 1 : Nat) : Int) < ptn ((k + 1 : Nat) : Int)
        · have HT := Lib.hid (HT1.out h2)
          rw [RPtn_pos hDv h2] at HP
          obtain ⟨s, hs⟩ : ∃ s, s = ptn ((k + 1 : Nat) : Int) := ⟨_, rfl⟩
          rw [← hs] at HP pb HT h2
          obtain ⟨s0, s1⟩ := pb
          obtain ⟨K, hK⟩ : ∃ K, K = k + 1 := ⟨_, rfl⟩
          have HK := Lib.hid hK
          rw [← hK] at HP HT hle h2 ⊢
          have hKb : K ≤ 10000 := by omega
          clear hDv hK hs hvn hln HT1 HT2
          go_wp2_with (first | (go_at_call 16; refine (HP.out _).mono ?_; rintro e w2 ⟨rfl, hb2⟩; have HL2 := Lib.hid (HL.out.keep hb2); have HB2 := Lib.hid (Below.step HB.out HB.out.size hb2); clear hb2) | (at_builtin; refine wpList_appG rfl _ _ 34 28 (.slice none 0 0) 24 Try.underlying34 infoLL (by omega) rfl rfl w.heap.size w.heap.size _ _ vs [.slice (some ⟨w2.heap.size, 0, none⟩) 2 2] rfl rfl ((HL2.out.alloc _).alloc _).row (pair_row w2 w.heap.size (K : Int) s HB2.out.size) (by intro q hq; simp at hq; subst hq; rfl) (by have := HVN.out; simp; omega) (by have := HB2.out.size; simp; omega) ?_; intro v4 w4 hr4 hg4 hb4; have HR4 := Lib.hid hr4; have HG4 := Lib.hid hg4; have HB4 := Lib.hid (((HB2.out.alloc HB2.out.size _).alloc (by have := HB2.out.size; simp; omega) _).trans hb4); clear hr4 hg4 hb4))
          have HN := Lib.hid ((HL2.out.alloc (.cells #[.int .i64 (K : Int), .int .i64 s] 3)).snoc (pair_lit w2 w.heap.size (K : Int) s HB2.out.size) (HL2.out.farA 2 2) HR4.out HG4.out)
          go_roundw
          case rel => exact ⟨K, _, by go_num, by have := HK.out; omega, by rw [HT.out]; exact HN.out, HB4.out⟩
          case measure => have := HK.out; simp [intOf]; omega
        · have HT := Lib.hid (HT2.out h2)
          obtain ⟨s, o, e1, e2⟩ := RPtn_neg hDv h2
          rw [e1] at HP
          obtain ⟨K, hK⟩ : ∃ K, K = k + 1 := ⟨_, rfl⟩
          have HK := Lib.hid hK
          rw [← hK] at HP HT hle e2 ⊢
          have hKb : K ≤ 10000 := by omega
          clear hDv hK hvn hln HT1 HT2 h2 e1
          cases o
          · clear e2
            go_wp2_with (go_at_call 16; refine (HP.out _).mono ?_; rintro e w2 ⟨rfl, hb2⟩; have HL2 := Lib.hid (HL.out.keep hb2); have HB2 := Lib.hid (Below.step HB.out HB.out.size hb2); clear hb2)
            go_roundw
            case rel => exact ⟨K, _, by go_num, by have := HK.out; omega, by rw [HT.out]; exact HL2.out, HB2.out⟩
            case measure => have := HK.out; simp [intOf]; omega
          · have e3 := e2 rfl
            clear e2
            go_wp2_with (go_at_call 16; refine (HP.out _).mono ?_; rintro e w2 ⟨rfl, hb2⟩; have HL2 := Lib.hid (HL.out.keep hb2); have HB2 := Lib.hid (Below.step HB.out HB.out.size hb2); clear hb2)
            go_roundw
            case rel => exact ⟨K, _, by go_num, by have := HK.out; omega, by rw [HT.out]; exact HL2.out, HB2.out⟩
            case measure => have := HK.out; simp [intOf]; omega
      · obtain rfl : k = m := by omega
        have hle : ¬ ((k + 1 : Nat) : Int) ≤ (k : Int) := by omega
        go_wp2
        go_ret2
        exact ⟨_, rfl, ⟨_, HL.out⟩, HB.out⟩
  · have HO := Lib.hid (show OK_PairsUpTo n = false from decide_eq_false h)
    have HL := Lib.hid (show LF_PairsUpTo n = [] from if_neg h)
    rw [HO.out, HL.out]
    have hs : n < 0 ∨ 10000 < n := by unfold Pd at h; omega
    by_cases h1 : n < 0
    all_goals
      have h2 : ¬ n < 0 → 10000 < n := fun c => by omega
      first | replace h2 := h2 h1 | clear h2
      clear h hs
      go_enter Try.func20, Try.ntmps20
      go_wp2
      go_ret2
      first | exact ⟨_, [], rfl, LLi.nil _ _, Below.refl _ _⟩ | exact ⟨_, rfl, ⟨_, LLi.nil _ _⟩, Below.refl _ _⟩

end Go.Proofs.Ytlpmfapjgmhbhaa
