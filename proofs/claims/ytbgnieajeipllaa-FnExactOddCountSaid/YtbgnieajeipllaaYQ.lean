/-
  How many letters 1 a word has: the program's and the model's answers.
-/
import Derived.Test.YtbgnieajeipllaaYP
namespace Go.Proofs.Ytbgnieajeipllaa
open Go.RowKit
set_option linter.unusedVariables false
set_option linter.unusedSimpArgs false
set_option maxRecDepth 100000

theorem run_byte (s : ByteArray) (k : Nat) (h : k < s.size) (w : World) :
    (Instr.index 9 (.string s) (.int .i64 (k : Int))).run Try.prog w = .ok (.int .u8 (s.data.toList[k]'(by simpa using h)).toNat) w := by
  rw [run_index_string (P := Try.prog) w 9 _ .i64 (k : Int) Try.underlying9]
  have h2 : 0 ≤ (k : Int) ∧ (k : Int) < (s.size : Int) := ⟨by omega, by omega⟩
  first
    | (rw [dif_pos h2]; exact congrArg (fun v => Result.ok v w) (by simp; rfl))
    | (simp [h2, h]; rfl)

theorem ones_take {l : List UInt8} {j : Nat} (h : j < l.length) : ones (l.take (j + 1)) = ones (l.take j) + (if l[j] = 49 then 1 else 0) := by
  rw [List.take_add_one, List.getElem?_eq_getElem h]
  unfold ones
  rw [List.count_append]
  simp only [Option.toList_some, List.count_singleton]
  by_cases e : l[j] = 49
  · simp [e]
  · have : (l[j] == 49) = false := by simpa using e
    simp [e]

theorem byte_eq {c : UInt8} (d : UInt8) (n : Int) (hn : n = (d.toNat : Int)) : ((c.toNat : Int) == n) = decide (c = d) := by
  by_cases h : c = d
  · subst h; rw [hn]; simp
  · have : c.toNat ≠ d.toNat := fun e => h (UInt8.toNat_inj.1 e)
    rw [decide_eq_false h, hn]; exact beq_no (by omega)

theorem stOnes_any (s : ByteArray) (w : World) (hs : s.size ≤ 1000) :
    Calls Try.prog 68 #[.string s] w fun e w' => e = .returned (.int .i64 (ones s.data.toList : Nat)) ∧ w = w' := by
  have hsl : s.data.toList.length = s.size := by simp
  have HSL := Lib.hid hsl
  clear hsl
  obtain ⟨T, hT⟩ : ∃ T, T = ones s.data.toList := ⟨_, rfl⟩
  have HT := Lib.hid hT
  rw [← hT]
  clear hT
  go_enter Try.func68, Try.ntmps68
  go_wp2
  go_loop [3, 4] (fun o i => ∃ j t : Nat, j ≤ s.size ∧ i = .int .i64 (j : Int) ∧ o = .int .i64 (t : Int) ∧ Hid (t = ones (s.data.toList.take j)) ∧ t ≤ j) (fun _ i => s.size - (intOf i).toNat)
  case atStart => exact ⟨0, 0, Nat.zero_le _, rfl, rfl, Lib.hid rfl, Nat.le_refl _⟩
  case round =>
    obtain ⟨j, t, hj, rfl, rfl, HO, ht⟩ := hrel
    by_cases hlt : j < s.size
    · have hi := fun w => run_byte s j hlt w
      have HN := Lib.hid (ones_take (l := s.data.toList) (j := j) (by rw [HSL.out]; exact hlt))
      obtain ⟨c, hc⟩ : ∃ c, c = s.data.toList[j]'(by rw [HSL.out]; exact hlt) := ⟨_, rfl⟩
      rw [← hc] at hi HN
      clear hc
      by_cases h49 : c = 49
      · have hb : ((c.toNat : Int) == 49) = true := by rw [byte_eq 49 49 rfl]; exact decide_eq_true h49
        have HN2 := Lib.hid (show ones (s.data.toList.take (j + 1)) = t + 1 by rw [HN.out, if_pos h49, HO.out])
        clear h49
        go_wp2
        go_round
        case rel => exact ⟨j + 1, t + 1, by omega, by go_num, by go_num, Lib.hid HN2.out.symm, by omega⟩
        case measure => simp [intOf]; omega
      · have hb : ((c.toNat : Int) == 49) = false := by rw [byte_eq 49 49 rfl]; exact decide_eq_false h49
        have HN2 := Lib.hid (show ones (s.data.toList.take (j + 1)) = t by rw [HN.out, if_neg h49, HO.out]; rfl)
        clear h49
        go_wp2
        go_round
        case rel => exact ⟨j + 1, t, by omega, by go_num, rfl, Lib.hid HN2.out.symm, by omega⟩
        case measure => simp [intOf]; omega
    · obtain rfl : j = s.size := by omega
      have HE := Lib.hid (show t = T by rw [HO.out, HT.out, List.take_of_length_le (by rw [HSL.out]; exact Nat.le_refl _)])
      go_wp2
      go_ret
      exact ⟨by rw [HE.out]; rfl, rfl⟩

theorem sum_ones (l : List Int) : (par l).sum = (ones (lts l) : Int) := by
  induction l with
  | nil => rfl
  | cons a t ih =>
    show a % 2 + (par t).sum = (ones (let1 a :: lts t) : Int)
    rw [ones_cons, ih]
    unfold let1
    by_cases h : a % 2 = 0
    · rw [if_pos h, h]; simp
    · rw [if_neg h, show a % 2 = 1 by omega]; simp; omega

/-- How many letters 1, the program's and the model's. -/
def ROC (n k : Int) : Option Int := (RWd n k).map fun l => (ones l : Int)
theorem ROC_some {n k : Int} {l : List UInt8} (h : RWd n k = some l) : ROC n k = some (ones l : Int) := by rw [ROC, h]; rfl
theorem ROC_none {n k : Int} (h : RWd n k = none) : ROC n k = none := by rw [ROC, h]; rfl
theorem RWd_len {n k : Int} {l : List UInt8} (h : RWd n k = some l) : l.length ≤ 20 := by
  by_cases hn : Nst n ∧ (0 ≤ k ∧ k ≤ 20)
  · obtain ⟨c, rfl⟩ : ∃ c : Nat, k = (c : Int) := ⟨k.toNat, by omega⟩
    rw [RWd_yes (asked_yes hn.1 hn.2.1 hn.2.2) rfl] at h
    cases hX : shs c n with
    | none => rw [hX] at h; cases h
    | some y =>
      rw [hX] at h
      cases h
      rw [lts_len, (shs_len _ _ _ hX).1]; omega
  · rw [RWd_no (by
      by_cases h : Nst n
      · exact asked_no2 (fun h2 => hn ⟨h, h2⟩)
      · exact asked_no1 h)] at h
    cases h

theorem word_impl {n k : Int} {o : Option (List UInt8)} (h : RWd n k = o) (w : World) :
    Calls Try.prog 31 #[.int .i64 n, .int .i64 k] w fun e w' => e = .returned (.tuple #[str (o.getD []), .bool o.isSome]) ∧ Below w.heap.size w w' := by
  rw [← h]; exact impl_ParityWord n k w

theorem impl_OddCount (n k : Int) (w : World) :
    Calls Try.prog 33 #[.int .i64 n, .int .i64 k] w fun e w' => e = .returned (optRes (ROC n k)) ∧ Below w.heap.size w w' := by
  cases hX : RWd n k with
  | none =>
    have HS := Lib.hid (ROC_none hX)
    have HW := Lib.hid (fun w' => word_impl hX w')
    clear hX
    go_enter Try.func33, Try.ntmps33
    go_wp2_with (first | (go_at_call 31; refine (HW.out _).mono ?_; rintro e w1 ⟨rfl, hb⟩; have HB := Lib.hid hb; clear hb) | (go_at_call 69; refine (Try.strings_Count_one _ _ _).mono ?_; rintro e w2 ⟨rfl, rfl⟩))
    go_ret2
    exact ⟨by rw [HS.out]; rfl, HB.out⟩
  | some l =>
    have HS := Lib.hid (ROC_some hX)
    have HW := Lib.hid (fun w' => word_impl hX w')
    clear hX
    go_enter Try.func33, Try.ntmps33
    go_wp2_with (first | (go_at_call 31; refine (HW.out _).mono ?_; rintro e w1 ⟨rfl, hb⟩; have HB := Lib.hid hb; clear hb) | (go_at_call 69; refine (Try.strings_Count_one _ _ _).mono ?_; rintro e w2 ⟨rfl, rfl⟩))
    go_ret2
    exact ⟨by rw [HS.out]; rfl, HB.out⟩

theorem spec_OddCount (n k : Int) (w : World) :
    Calls Try.prog 32 #[.int .i64 n, .int .i64 k] w fun e w' => e = .returned (optRes (ROC n k)) ∧ Below w.heap.size w w' := by
  by_cases hn : Nst n ∧ (0 ≤ k ∧ k ≤ 20)
  · have A1 := Lib.hid (asked_yes hn.1 hn.2.1 hn.2.2)
    obtain ⟨c, rfl⟩ : ∃ c : Nat, k = (c : Int) := ⟨k.toNat, by omega⟩
    obtain ⟨X, hX⟩ : ∃ X, X = shs c n := ⟨_, rfl⟩
    have HR := Lib.hid (show RWd n (c : Int) = X.map lts by rw [RWd_yes A1.out rfl, hX])
    have HW := Lib.hid (fun w' => stWord_any n c X w' hn.1 (by omega) hX)
    have hll : (wrdL X).length ≤ 1000 := by
      unfold wrdL
      rw [lts_len]
      cases hX2 : X with
      | none => simp
      | some y => have := (shs_len c n y (by rw [← hX, hX2])).1; simp; omega
    have HO := Lib.hid (show optRes (ROC n (c : Int)) = .tuple #[.int .i64 (ones (wrdL X) : Nat), .bool X.isSome] by
      rw [ROC, HR.out]; cases X <;> rfl)
    obtain ⟨s, hs⟩ : ∃ s : ByteArray, s = ⟨(wrdL X).toArray⟩ := ⟨_, rfl⟩
    have HSS := Lib.hid (show s.data.toList = wrdL X by rw [hs])
    have hsz : s.size ≤ 1000 := by rw [hs]; simpa [ByteArray.size] using hll
    rw [show str (wrdL X) = .string s by rw [hs]] at HW
    rw [HO.out, ← HSS.out]
    clear hX hn hs hll
    go_enter Try.func32, Try.ntmps32
    go_wp2_with (first | (go_at_call 64; refine (stAsked_any _ _ _).mono ?_; rw [A1.out]; rintro e w1 ⟨rfl, rfl⟩) | (go_at_call 65; refine (HW.out _).mono ?_; rintro e w1 ⟨rfl, hb⟩; have HB := Lib.hid hb; clear hb) | (go_at_call 68; refine (stOnes_any _ _ hsz).mono ?_; rintro e w2 ⟨rfl, rfl⟩))
    go_ret2
    exact ⟨rfl, HB.out⟩
  · have A1 := Lib.hid (show asked n k = false by
      by_cases h : Nst n
      · exact asked_no2 (fun h2 => hn ⟨h, h2⟩)
      · exact asked_no1 h)
    have HS := Lib.hid (ROC_none (RWd_no A1.out))
    clear hn
    go_enter Try.func32, Try.ntmps32
    go_wp2_with (go_at_call 64; refine (stAsked_any _ _ _).mono ?_; rw [A1.out]; rintro e w1 ⟨rfl, rfl⟩)
    go_ret2
    exact ⟨by rw [HS.out]; rfl, Below.refl _ _⟩

theorem law_OddCount (n d : Int) (w : World) :
    Calls Try.prog 9 #[.int .i64 n, .int .i64 d] w fun e w' => e = .returned (.bool true) ∧ Below w.heap.size w w' := by
  go_enter Try.func9, Try.ntmps9
  go_wp2_with (first | (go_at_call 32; refine (spec_OddCount _ _ _).mono ?_; rintro e w1 ⟨rfl, hbl⟩; have HB1 := Lib.hid hbl; clear hbl) | (go_at_call 33; refine (impl_OddCount _ _ _).mono ?_; rintro e w2 ⟨rfl, hbl⟩; have HB2 := Lib.hid hbl; clear hbl))
  go_ret
  exact ⟨by simp, Below.step HB1.out HB1.out.size HB2.out⟩

end Go.Proofs.Ytbgnieajeipllaa
