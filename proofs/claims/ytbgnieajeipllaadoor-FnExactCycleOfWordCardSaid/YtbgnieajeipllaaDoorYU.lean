/-
  Texts of letters 0 and 1: the program's test (strings.Trim) and the model's.
-/
import Derived.Test.YtbgnieajeipllaaDoorYT
namespace Go.Proofs.YtbgnieajeipllaaDoor
open Go.RowKit
set_option linter.unusedVariables false
set_option linter.unusedSimpArgs false
set_option maxRecDepth 100000

theorem trim_none {l : List UInt8} {m m2 : Nat} (hm : m ≤ l.length) (hA : ∀ j (h : j < l.length), m ≤ j → isL l[j] = true) (hE : ∀ (h : m - 1 < l.length), 1 ≤ m → isL l[m - 1] = false)
    (h2 : ∀ j (h : j < (l.take m).length), j < m2 → isL (l.take m)[j] = true) : ((l.take m).drop m2 = [] ↔ l.all isL = true) := by
  constructor
  · intro h
    have h3 : (l.take m).length ≤ m2 := List.drop_eq_nil_iff.1 h
    have h4 : m = 0 := by
      by_cases h0 : m = 0
      · exact h0
      · exfalso
        have hl : m - 1 < l.length := by omega
        have h5 := hE hl (by omega)
        have hlt : m - 1 < (l.take m).length := by simp; omega
        have h6 := h2 (m - 1) hlt (by omega)
        rw [List.getElem_take] at h6
        rw [h5] at h6
        cases h6
    rw [List.all_eq_true]
    intro x hx
    obtain ⟨j, hj, rfl⟩ := List.getElem_of_mem hx
    exact hA j hj (by omega)
  · intro h
    have h4 : m = 0 := by
      by_cases h0 : m = 0
      · exact h0
      · exfalso
        have hl : m - 1 < l.length := by omega
        have h5 := hE hl (by omega)
        have := List.all_eq_true.1 h _ (List.getElem_mem hl)
        rw [h5] at this
        cases this
    rw [h4]; simp

theorem ba_toList (t : ByteArray) : t.toList = t.data.toList := ByteArray.toList_eq t
theorem ba_empty (t : ByteArray) : t.toList.isEmpty = decide (t.size = 0) := by
  rw [ba_toList, ← ba_size]
  cases t.data.toList <;> simp

theorem trim_any (s : ByteArray) (w : World) (hs : s.size ≤ 1000000) :
    Calls Tryd.prog 20 #[.string s, .string ⟨#[48, 49]⟩] w fun e w' => ∃ t : ByteArray, e = .returned (.string t) ∧ Hid (t.size = 0 ↔ s.data.toList.all isL = true) ∧ Below w.heap.size w w' := by
  by_cases h0 : s.size = 0
  · have hb : s.toList.isEmpty = true := by rw [ba_empty]; exact decide_eq_true h0
    have HE := Lib.hid (show s.size = 0 ↔ s.data.toList.all isL = true by
      have : s.data.toList = [] := List.eq_nil_of_length_eq_zero (by rw [ba_size]; exact h0)
      rw [this]
      exact ⟨fun _ => rfl, fun _ => h0⟩)
    clear h0
    go_enter Tryd.func20, Tryd.ntmps20
    go_wp2
    go_ret
    exact ⟨s, rfl, HE, Below.refl _ _⟩
  · have hb : s.toList.isEmpty = false := by rw [ba_empty]; exact decide_eq_false h0
    have hcb : (⟨#[48, 49]⟩ : ByteArray).toList.isEmpty = false := by rw [ba_empty]; exact decide_eq_false (by decide)
    have hz := zero256
    have HI := Lib.hid (show (Tryd.prog.info? 40).map (·.size) = some s01.toArray.size by rw [size256, List.size_toArray, s01_len])
    have HO := Lib.hid (one_bools b01)
    have HZS := Lib.hid (show z256.size = s01.toArray.size from (show z256.size = 256 by unfold z256; exact Array.size_replicate).trans (show s01.toArray.size = 256 by rw [List.size_toArray, s01_len]).symm)
    have HS1 := Lib.hid s01_at
    obtain ⟨cs, hcs⟩ : ∃ cs : Array Value, cs = s01.toArray := ⟨_, rfl⟩
    have HO2 := Lib.hid (show cs.all (·.oneCell') = true by rw [hcs]; exact HO.out)
    have HM := Lib.hid (fun w' => makeSet_any w')
    have HSC := Lib.hid (show ∀ c : UInt8, cs[c.toNat]? = some (.bool (isL c)) from fun c => by rw [hcs, List.getElem?_toArray]; exact s01_at c)
    rw [← hcs] at HI HZS HM
    clear hcs HO HS1 h0
    go_enter Tryd.func20, Tryd.ntmps20
    go_wp2_with fail
    refine (HM.out _).mono ?_
    rintro e w1 ⟨rfl, hb1⟩
    have HB1 := Lib.hid hb1
    have HN := Lib.hid (heap_alloc_new w1 (.cells z256 40))
    have HSET := Lib.hid (show Set01 ((w1.alloc (.cells z256 40)).setRow w1.heap.size cs) w1.heap.size from fun c => by
      rw [cell_of_row _ _ c.toNat cs 40 (0, 0) (setRow_heap _ _ _ _ _ _ HN.out)]
      exact HSC.out c)
    have HB2 := Lib.hid (show Below w.heap.size w ((w1.alloc (.cells z256 40)).setRow w1.heap.size cs) from below_setRow (HB1.out.alloc HB1.out.size _) HB1.out.size _)
    clear hb1
    go_wp2_with (refine wpList_store_row rfl 40 (.tmp 5) (.tmp 32) rfl w1.heap.size cs rfl rfl _ _ HN.out HI.out HZS.out HO2.out ?_)
    refine (trimRight_any s _ _ HSET.out hs).mono ?_
    rintro e w2 ⟨t, rfl, rfl, m, hm, ht, hA, hE⟩
    have HT := Lib.hid ht
    have HA := Lib.hid hA
    have HE := Lib.hid hE
    have hts : t.size ≤ 1000000 := by rw [← ba_size, ht, List.length_take]; omega
    have HLN := Lib.hid (show s.data.toList.length = s.size from ba_size s)
    clear ht hA hE
    go_wp2_with fail
    refine (trimLeft_any t _ _ HSET.out hts).mono ?_
    rintro e w2 ⟨u, rfl, rfl, m2, hm2, hu, hA2, hE2⟩
    have HF := Lib.hid (show u.size = 0 ↔ s.data.toList.all isL = true by
      rw [HT.out] at hu hA2
      rw [← ba_size, hu, List.length_eq_zero_iff]
      exact trim_none (by rw [HLN.out]; exact hm) HA.out HE.out (fun j h hj => hA2 j h hj))
    clear hu hA2 hE2
    go_wp2
    go_ret
    exact ⟨u, rfl, HF, HB2.out⟩

/-- A text of at most 20 letters 0 and 1. -/
def okW (s : ByteArray) : Bool := decide (s.size ≤ 20) && s.data.toList.all isL

theorem isParityWord_any (s : ByteArray) (w : World) :
    Calls Tryd.prog 11 #[.string s] w fun e w' => e = .returned (.bool (okW s)) ∧ Below w.heap.size w w' := by
  by_cases h : s.size ≤ 20
  · have A2 := Lib.hid (wl_yes (k := (s.size : Int)) (by omega) (by omega))
    obtain ⟨q, hq⟩ : ∃ q, q = s.data.toList.all isL := ⟨_, rfl⟩
    have HO := Lib.hid (show okW s = q by rw [okW, decide_eq_true h, ← hq, Bool.true_and])
    have HQ := Lib.hid hq
    clear hq
    go_enter Tryd.func11, Tryd.ntmps11
    go_wp2_with (go_at_call 19; refine (isWordLength_any _ _).mono ?_; rw [A2.out]; rintro e w1 ⟨rfl, rfl⟩)
    refine (trim_any s _ (by omega)).mono ?_
    rintro e w1 ⟨t, rfl, HT, hb⟩
    have HB := Lib.hid hb
    clear hb
    rw [← HQ.out] at HT
    have hbe : t.toList.isEmpty = q := by
      rw [ba_empty]
      cases q with
      | true => exact decide_eq_true (HT.out.2 rfl)
      | false => exact decide_eq_false (fun e => by have := HT.out.1 e; cases this)
    go_wp2
    go_ret
    exact ⟨by rw [HO.out]; rfl, HB.out⟩
  · have A2 := Lib.hid (wl_no (k := (s.size : Int)) (by omega))
    have HO := Lib.hid (show okW s = false by rw [okW, decide_eq_false h, Bool.false_and])
    clear h
    go_enter Tryd.func11, Tryd.ntmps11
    go_wp2_with (go_at_call 19; refine (isWordLength_any _ _).mono ?_; rw [A2.out]; rintro e w1 ⟨rfl, rfl⟩)
    go_ret
    exact ⟨by rw [HO.out]; rfl, Below.refl _ _⟩

theorem byte_ne {c : UInt8} (d : UInt8) (n : Int) (hn : n = (d.toNat : Int)) : ((c.toNat : Int) != n) = !decide (c = d) := by
  by_cases h : c = d
  · subst h; rw [hn]; simp
  · have : c.toNat ≠ d.toNat := fun e => h (UInt8.toNat_inj.1 e)
    rw [decide_eq_false h, hn]; exact bne_yes (by omega)
theorem byte_eq {c : UInt8} (d : UInt8) (n : Int) (hn : n = (d.toNat : Int)) : ((c.toNat : Int) == n) = decide (c = d) := by
  by_cases h : c = d
  · subst h; rw [hn]; simp
  · have : c.toNat ≠ d.toNat := fun e => h (UInt8.toNat_inj.1 e)
    rw [decide_eq_false h, hn]; exact beq_no (by omega)

theorem stLetters_any (s : ByteArray) (w : World) :
    Calls Tryd.prog 9 #[.string s] w fun e w' => e = .returned (.bool (okW s)) ∧ w = w' := by
  by_cases h : s.size ≤ 20
  · obtain ⟨l, hl⟩ : ∃ l, l = s.data.toList := ⟨_, rfl⟩
    have HLL := Lib.hid (show l.length = s.size by rw [hl, ba_size])
    have HO := Lib.hid (show okW s = l.all isL by rw [okW, decide_eq_true h, ← hl, Bool.true_and])
    have HL := Lib.hid hl
    clear hl
    go_enter Tryd.func9, Tryd.ntmps9
    go_wp2
    go_loop [3] (fun i => ∃ j : Nat, j ≤ s.size ∧ i = .int .i64 (j : Int) ∧ Hid (∀ t (ht : t < l.length), t < j → isL l[t] = true)) (fun i => s.size - (intOf i).toNat)
    case atStart => exact ⟨0, Nat.zero_le _, rfl, Lib.hid (fun t ht h => by omega)⟩
    case round =>
      obtain ⟨j, hj, rfl, HA⟩ := hrel
      by_cases hlt : j < s.size
      · have hjl : j < l.length := by rw [HLL.out]; exact hlt
        have hi := fun w => run_byte s j hlt w
        have HC := Lib.hid (show s.data.toList[j]'(by rw [ba_size]; exact hlt) = l[j]'hjl by simp only [HL.out])
        rw [HC.out] at hi
        obtain ⟨c, hc⟩ : ∃ c, c = l[j]'hjl := ⟨_, rfl⟩
        have HCC := Lib.hid hc
        rw [← hc] at hi
        clear HC hc
        have h48 := byte_ne (c := c) 48 48 rfl
        have h49 := byte_ne (c := c) 49 49 rfl
        by_cases e48 : c = 48
        · have hb : ((c.toNat : Int) != 48) = false := by rw [h48, decide_eq_true e48]; rfl
          have HI := Lib.hid (show isL c = true by simp [isL, e48])
          clear h48 h49 e48
          go_wp2
          go_round
          case rel => exact ⟨j + 1, by omega, by go_num, Lib.hid (fun t ht h => by by_cases e : t = j; (subst e; rw [← HCC.out]; exact HI.out); exact HA.out t ht (by omega))⟩
          case measure => simp [intOf]; omega
        · have hb : ((c.toNat : Int) != 48) = true := by rw [h48, decide_eq_false e48]; rfl
          by_cases e49 : c = 49
          · have hb2 : ((c.toNat : Int) != 49) = false := by rw [h49, decide_eq_true e49]; rfl
            have HI := Lib.hid (show isL c = true by simp [isL, e49])
            clear h48 h49 e48 e49
            go_wp2
            go_round
            case rel => exact ⟨j + 1, by omega, by go_num, Lib.hid (fun t ht h => by by_cases e : t = j; (subst e; rw [← HCC.out]; exact HI.out); exact HA.out t ht (by omega))⟩
            case measure => simp [intOf]; omega
          · have hb2 : ((c.toNat : Int) != 49) = true := by rw [h49, decide_eq_false e49]; rfl
            have HE := Lib.hid (show okW s = false by
              rw [HO.out, List.all_eq_false]
              exact ⟨l[j], List.getElem_mem hjl, by rw [← HCC.out]; simp [isL, e48, e49]⟩)
            clear h48 h49 e48 e49
            go_wp2
            go_ret
            exact ⟨by rw [HE.out]; rfl, rfl⟩
      · have HE := Lib.hid (show okW s = true by
          rw [HO.out, List.all_eq_true]
          intro x hx
          obtain ⟨t, ht, rfl⟩ := List.getElem_of_mem hx
          exact HA.out t ht (by rw [HLL.out] at ht; omega))
        go_wp2
        go_ret
        exact ⟨by rw [HE.out]; rfl, rfl⟩
  · have HO := Lib.hid (show okW s = false by rw [okW, decide_eq_false h, Bool.false_and])
    have hb : decide ((20 : Int) < (s.size : Int)) = true := decide_eq_true (by omega)
    go_enter Tryd.func9, Tryd.ntmps9
    go_wp2
    go_ret
    exact ⟨by rw [HO.out]; rfl, rfl⟩

end Go.Proofs.YtbgnieajeipllaaDoor
