/-
  strings.Trim of a text by the letters 0 and 1: nothing is left exactly if it has no others.
-/
import Derived.Test.YtbgnieajeipllaaDoorYR
import Derived.Laws.Rows
import Derived.Laws.Tables
import Derived.Laws.CopyOwn
import Derived.Laws.OwnMore
import Derived.Laws.ResultCell
namespace Go.Proofs.YtbgnieajeipllaaDoor
open Go.RowKit
set_option linter.unusedVariables false
set_option linter.unusedSimpArgs false
set_option maxRecDepth 100000

/-- A row of 256 truth values. -/
def z256 : Array Value := Array.replicate 256 (.bool false)
def b01 : List Bool := (List.range 256).map fun n => n == 48 || n == 49
def s01 : List Value := b01.map Value.bool
def T01 (w : World) (B g : Nat) (xs : List Value) : Prop := Rg 40 w B (.slice (some ⟨g, 0, none⟩) 256 256) xs

theorem b01_len : b01.length = 256 := by simp [b01]
theorem s01_len : s01.length = 256 := by simp [s01, b01_len]
theorem b01_set : (((List.replicate 256 false).set 48 true).set 49 true) = b01 := by decide +kernel
theorem s01_set : (((List.replicate 256 (Value.bool false)).set 48 (.bool true)).set 49 (.bool true)) = s01 := by
  rw [s01, ← b01_set, List.map_set, List.map_set, List.map_replicate]
theorem s01_at (c : UInt8) : s01[c.toNat]? = some (.bool (isL c)) := by
  have hc : c.toNat < 256 := c.toNat_lt
  unfold s01 b01
  rw [List.getElem?_map, List.getElem?_map, List.getElem?_range hc]
  simp only [Option.map_some, Option.some.injEq, Value.bool.injEq]
  unfold isL
  have h1 : (c.toNat == 48) = decide (c = 48) := by
    by_cases h : c = 48
    · subst h; rfl
    · rw [decide_eq_false h]; simp; exact fun e => h (UInt8.toNat_inj.1 e)
  have h2 : (c.toNat == 49) = decide (c = 49) := by
    by_cases h : c = 49
    · subst h; rfl
    · rw [decide_eq_false h]; simp; exact fun e => h (UInt8.toNat_inj.1 e)
  rw [h1, h2]

theorem zero256 (w : World) : (zeroValue 40).run Tryd.prog w = .ok (.agg z256) w := by kernel_rfl
theorem size256 : (Tryd.prog.info? 40).map (·.size) = some 256 := by kernel_rfl

theorem T01.zero (w : World) (B : Nat) (hB : B ≤ w.heap.size) : T01 (w.alloc (.cells z256 40)) B w.heap.size (List.replicate 256 (.bool false)) := by
  have h := World.ownsRow_lit (e := 40) (size := 1) (base := B) w z256 256 hB (by unfold maxLen; omega) (by simp [z256])
  unfold T01 Rg
  rw [List.length_replicate]
  rwa [show z256.toList = List.replicate 256 (.bool false) by simp [z256]] at h
theorem T01.heap {w : World} {B g : Nat} {xs : List Value} (h : T01 w B g xs) : w.heap[g]? = some (.cells xs.toArray 40 (0, 0)) ∧ xs.length = 256 := by
  have hl : xs.length = 256 := h.at.1.symm
  refine ⟨?_, hl⟩
  rcases h.2 with ⟨h1, _⟩ | ⟨g', cap', cur, h1, hg, hh, hn, hm, hc, ht⟩
  · simp at h1
  · simp only [Value.slice.injEq, Option.some.injEq, Addr.mk.injEq, and_true, true_and] at h1
    obtain ⟨rfl, h2, h3⟩ := h1
    rw [hh]
    have h4 : cur.toList = xs := by
      rw [← ht, List.take_of_length_le]
      simp [hl, hc, ← h3]
    rw [← h4]

theorem one_bools (xs : List Bool) : ((xs.map Value.bool).toArray).all (·.oneCell') = true := by
  rw [List.all_toArray, List.all_map, List.all_eq_true]
  intro x _
  rfl

/-- The set's row as it is made: place by place. -/
theorem c01 : (z256.setIfInBounds 48 (.bool true)).setIfInBounds 49 (.bool true) = s01.toArray := by
  kernel_rfl

set_option maxHeartbeats 1000000 in
theorem makeSet_any (w : World) :
    Calls Tryd.prog 29 #[.string ⟨#[48, 49]⟩] w fun e w' => e = .returned (.tuple #[.agg s01.toArray, .bool true]) ∧ Below w.heap.size w w' := by
  have hz := zero256
  have hi0 : ∀ w : World, (Instr.index 9 (.string ⟨#[48, 49]⟩) (.int .i64 0)).run Tryd.prog w = .ok (.int .u8 48) w := fun w => by kernel_rfl
  have hi1 : ∀ w : World, (Instr.index 9 (.string ⟨#[48, 49]⟩) (.int .i64 1)).run Tryd.prog w = .ok (.int .u8 49) w := fun w => by kernel_rfl
  have A0 := Lib.hid (T01.zero w w.heap.size (Nat.le_refl _))
  have A1 := Lib.hid (Rg.set A0.out 48 (.bool true))
  have hc0 := A0.out.at.2.2.2.2.2.1 48 (by simp)
  have hf0 := A0.out.at.2.2.2.2.2.2 48
  have hc1 := A1.out.1.at.2.2.2.2.2.1 49 (by simp)
  have hf1 := A1.out.1.at.2.2.2.2.2.2 49
  have HH := Lib.hid (heap_alloc_new w (.cells ((z256.setIfInBounds 48 (.bool true)).setIfInBounds 49 (.bool true)) 40))
  have HI := Lib.hid (show (Tryd.prog.info? 40).map (·.size) = some ((z256.setIfInBounds 48 (.bool true)).setIfInBounds 49 (.bool true)).size by rw [size256, c01, List.size_toArray, s01_len])
  have HO := Lib.hid (show ((z256.setIfInBounds 48 (.bool true)).setIfInBounds 49 (.bool true)).all (·.oneCell') = true by rw [c01]; exact one_bools b01)
  have HC := Lib.hid c01
  go_enter Tryd.func29, Tryd.ntmps29
  go_wp2
  refine wp_loop_rounds 3 ?_
  rw [rounds_succ]
  go_wp2
  rw [rounds_succ]
  go_wp2
  rw [rounds_succ]
  go_wp2_with (first
    | (refine wpList_load_row rfl 40 (.tmp 2) rfl w.heap.size rfl _ ((z256.setIfInBounds 48 (.bool true)).setIfInBounds 49 (.bool true)) _ _ HH.out Tryd.underlying40 rfl HI.out ?_)
    | (refine wpList_store_row rfl 40 (.tmp 2) (.tmp 20) rfl w.heap.size ((z256.setIfInBounds 48 (.bool true)).setIfInBounds 49 (.bool true)) rfl rfl _ _ HH.out HI.out rfl HO.out ?_))
  try simp only [Exit.inBlock, Exit.then]
  refine bodyPost_ret (v := .tuple #[.agg ((z256.setIfInBounds 48 (.bool true)).setIfInBounds 49 (.bool true)), .bool true]) ?_ ?_ ?_
  case refine_2 => rfl
  case refine_3 => exact ⟨by rw [HC.out], below_setRow (al_below _ _) (Nat.le_refl _) _⟩
  rw [results_cell_tmp rfl]
  simp [asAddr, run_loadVar_row _ w.heap.size _ 40 ((z256.setIfInBounds 48 (.bool true)).setIfInBounds 49 (.bool true)) _ _ (setRow_heap _ _ _ _ _ _ HH.out) Tryd.underlying40 rfl HI.out, Result.andThen]

theorem contains_any (g : Nat) (c : UInt8) (q : Bool) (w : World) (hc : w.cell? ⟨g, c.toNat, none⟩ = some (.bool q)) :
    Calls Tryd.prog 35 #[.pointer (some ⟨g, 0, none⟩), .int .u8 (c.toNat : Int)] w fun e w' => e = .returned (.bool q) ∧ w = w' := by
  have h256 : c.toNat < 256 := c.toNat_lt
  obtain ⟨n, hn⟩ : ∃ n, n = c.toNat := ⟨_, rfl⟩
  rw [← hn] at hc h256
  rw [← hn]
  clear hn
  go_enter Tryd.func35, Tryd.ntmps35
  go_wp2
  go_ret
  exact ⟨rfl, rfl⟩

/-! Bytes of a text and of its parts. -/
theorem ba_size (t : ByteArray) : t.data.toList.length = t.size := by simp
theorem ba_take (t : ByteArray) (k : Nat) : (t.extract 0 k).data.toList = t.data.toList.take k := by simp
theorem ba_drop (t : ByteArray) (k : Nat) : (t.extract k t.size).data.toList = t.data.toList.drop k := by
  rw [show (t.extract k t.size).data.toList = (t.data.toList.drop k).take (t.size - k) by simp]
  rw [List.take_of_length_le]
  simp

theorem run_byte (s : ByteArray) (k : Nat) (h : k < s.size) (w : World) :
    (Instr.index 9 (.string s) (.int .i64 (k : Int))).run Tryd.prog w = .ok (.int .u8 (s.data.toList[k]'(by simpa using h)).toNat) w := by
  rw [run_index_string (P := Tryd.prog) w 9 _ .i64 (k : Int) Tryd.underlying9]
  have h2 : 0 ≤ (k : Int) ∧ (k : Int) < (s.size : Int) := ⟨by omega, by omega⟩
  first
    | (rw [dif_pos h2]; exact congrArg (fun v => Result.ok v w) (by simp; rfl))
    | (simp [h2, h]; rfl)
theorem run_to (s : ByteArray) (k : Nat) (h : k ≤ s.size) (w : World) :
    (Instr.slice 9 (.string s) none (some (.int .i64 (k : Int))) none).run Tryd.prog w = .ok (.string (s.extract 0 k)) w :=
  run_slice_string_h w 9 s Tryd.underlying9 .i64 (k : Int) (by omega) (by omega)
theorem run_from1 (s : ByteArray) (h : 1 ≤ s.size) (w : World) :
    (Instr.slice 9 (.string s) (some (.int .i64 1)) none none).run Tryd.prog w = .ok (.string (s.extract 1 s.size)) w :=
  run_slice_string_l w 9 s Tryd.underlying9 .i64 1 (by omega) (by omega)

/-- The set in block g, as the trimming functions read it. -/
def Set01 (w : World) (g : Nat) : Prop := ∀ c : UInt8, w.cell? ⟨g, c.toNat, none⟩ = some (.bool (isL c))

theorem trimRight_any (s : ByteArray) (g : Nat) (w : World) (hS : Set01 w g) (hs : s.size ≤ 1000000) :
    Calls Tryd.prog 31 #[.string s, .pointer (some ⟨g, 0, none⟩)] w fun e w' => ∃ t : ByteArray, e = .returned (.string t) ∧ w = w' ∧ ∃ m : Nat, m ≤ s.size ∧ t.data.toList = s.data.toList.take m ∧ (∀ j (h : j < s.data.toList.length), m ≤ j → isL s.data.toList[j] = true) ∧ (∀ (h : m - 1 < s.data.toList.length), 1 ≤ m → isL s.data.toList[m - 1] = false) := by
  have HS := Lib.hid hS
  clear hS
  obtain ⟨l, hl⟩ : ∃ l, l = s.data.toList := ⟨_, rfl⟩
  have HLL := Lib.hid (show l.length = s.size by rw [hl, ba_size])
  have HL := Lib.hid hl
  rw [← hl]
  clear hl
  go_enter Tryd.func31, Tryd.ntmps31
  go_wp2
  go_loop [0] (fun o => ∃ (t : ByteArray) (m : Nat), o = .string t ∧ m ≤ s.size ∧ t.size = m ∧ Hid (t.data.toList = l.take m) ∧ Hid (∀ j (h : j < l.length), m ≤ j → isL l[j] = true)) (fun o => match o with | .string t => t.size | _ => 0)
  case atStart => exact ⟨s, s.size, rfl, Nat.le_refl _, rfl, Lib.hid (by rw [← HL.out, List.take_of_length_le (by rw [HLL.out]; exact Nat.le_refl _)]), Lib.hid (fun j h hm => by rw [HLL.out] at h; omega)⟩
  case round =>
    obtain ⟨t, m, rfl, hm, htm, HT, HA⟩ := hrel
    cases m with
    | zero =>
      have hz : decide ((0 : Int) < 0) = false := rfl
      go_wp2
      go_ret
      exact ⟨t, rfl, rfl, 0, Nat.zero_le _, HT.out, HA.out, fun h h1 => by omega⟩
    | succ k =>
      have hkl : k < l.length := by rw [HLL.out]; omega
      have hkt : k < t.data.toList.length := by rw [ba_size, htm]; omega
      have hi := fun w => run_byte t k (by omega) w
      have hsl := fun w => run_to t k (by omega) w
      have HC := Lib.hid (show t.data.toList[k]'hkt = l[k]'hkl by
        have := HT.out
        simp only [this, List.getElem_take])
      rw [HC.out] at hi
      have HN := Lib.hid (HS.out (l[k]'hkl))
      obtain ⟨c, hc⟩ : ∃ c, c = l[k]'hkl := ⟨_, rfl⟩
      have HCC := Lib.hid hc
      rw [← hc] at hi HN
      obtain ⟨u, hu⟩ : ∃ u, u = t.extract 0 k := ⟨_, rfl⟩
      have HU := Lib.hid (show u.data.toList = l.take k by rw [hu, ba_take, HT.out, List.take_take, Nat.min_eq_left (by omega)])
      have HUS := Lib.hid (show u.size = k by rw [← ba_size, HU.out, List.length_take]; omega)
      rw [← hu] at hsl
      obtain ⟨q, hq⟩ : ∃ q, q = isL c := ⟨_, rfl⟩
      have HQ := Lib.hid hq
      rw [← hq] at HN
      clear HC hc hu hq hkt
      cases q with
      | true =>
        go_wp2_with (go_at_call 35; refine (contains_any g c true _ HN.out).mono ?_; rintro e w1 ⟨rfl, rfl⟩)
        go_round
        case rel => exact ⟨u, k, rfl, by omega, HUS.out, HU, Lib.hid (fun j h hj => by
          by_cases e : j = k
          · subst e; rw [← HCC.out]; exact HQ.out.symm
          · exact HA.out j h (by omega))⟩
        case measure => (have := HUS.out; simp; omega)
      | false =>
        go_wp2_with (go_at_call 35; refine (contains_any g c false _ HN.out).mono ?_; rintro e w1 ⟨rfl, rfl⟩)
        go_ret
        exact ⟨t, rfl, rfl, k + 1, hm, HT.out, HA.out, fun h h1 => by
          have e : l[k + 1 - 1]'h = c := by rw [HCC.out]; rfl
          rw [e]; exact HQ.out.symm⟩

theorem trimLeft_any (s : ByteArray) (g : Nat) (w : World) (hS : Set01 w g) (hs : s.size ≤ 1000000) :
    Calls Tryd.prog 30 #[.string s, .pointer (some ⟨g, 0, none⟩)] w fun e w' => ∃ t : ByteArray, e = .returned (.string t) ∧ w = w' ∧ ∃ m : Nat, m ≤ s.size ∧ t.data.toList = s.data.toList.drop m ∧ (∀ j (h : j < s.data.toList.length), j < m → isL s.data.toList[j] = true) ∧ (∀ (h : m < s.data.toList.length), isL s.data.toList[m] = false) := by
  have HS := Lib.hid hS
  clear hS
  obtain ⟨l, hl⟩ : ∃ l, l = s.data.toList := ⟨_, rfl⟩
  have HLL := Lib.hid (show l.length = s.size by rw [hl, ba_size])
  have HL := Lib.hid hl
  rw [← hl]
  clear hl
  go_enter Tryd.func30, Tryd.ntmps30
  go_wp2
  go_loop [0] (fun o => ∃ (t : ByteArray) (m : Nat), o = .string t ∧ m ≤ s.size ∧ Hid (t.size + m = s.size) ∧ Hid (t.data.toList = l.drop m) ∧ Hid (∀ j (h : j < l.length), j < m → isL l[j] = true)) (fun o => match o with | .string t => t.size | _ => 0)
  case atStart => exact ⟨s, 0, rfl, Nat.zero_le _, Lib.hid rfl, Lib.hid (by rw [← HL.out]; rfl), Lib.hid (fun j h hm => by omega)⟩
  case round =>
    obtain ⟨t, m, rfl, hm, HTM, HT, HA⟩ := hrel
    by_cases hlt : m < s.size
    · have hkl : m < l.length := by rw [HLL.out]; exact hlt
      have ht1 : 1 ≤ t.size := by have := HTM.out; omega
      have hkt : 0 < t.data.toList.length := by rw [ba_size]; omega
      have hi : ∀ w : World, (Instr.index 9 (.string t) (.int .i64 0)).run Tryd.prog w = .ok (.int .u8 (t.data.toList[0]'hkt).toNat) w := fun w => run_byte t 0 (by omega) w
      have hsl := fun w => run_from1 t ht1 w
      have HC := Lib.hid (show t.data.toList[0]'hkt = l[m]'hkl by
        have := HT.out
        simp only [this, List.getElem_drop, Nat.add_zero])
      rw [HC.out] at hi
      have HN := Lib.hid (HS.out (l[m]'hkl))
      obtain ⟨c, hc⟩ : ∃ c, c = l[m]'hkl := ⟨_, rfl⟩
      have HCC := Lib.hid hc
      rw [← hc] at hi HN
      obtain ⟨u, hu⟩ : ∃ u, u = t.extract 1 t.size := ⟨_, rfl⟩
      have HU := Lib.hid (show u.data.toList = l.drop (m + 1) by rw [hu, ba_drop, HT.out, List.drop_drop])
      have HUS := Lib.hid (show u.size + (m + 1) = s.size by rw [← ba_size, HU.out, List.length_drop, HLL.out]; omega)
      rw [← hu] at hsl
      obtain ⟨q, hq⟩ : ∃ q, q = isL c := ⟨_, rfl⟩
      have HQ := Lib.hid hq
      rw [← hq] at HN
      have hpos : decide ((0 : Int) < (t.size : Int)) = true := decide_eq_true (by omega)
      clear HC hc hu hq hkt
      cases q with
      | true =>
        go_wp2_with (go_at_call 35; refine (contains_any g c true _ HN.out).mono ?_; rintro e w1 ⟨rfl, rfl⟩)
        go_round
        case rel => exact ⟨u, m + 1, rfl, by omega, HUS, HU, Lib.hid (fun j h hj => by
          by_cases e : j = m
          · subst e; rw [← HCC.out]; exact HQ.out.symm
          · exact HA.out j h (by omega))⟩
        case measure => (have h1 := HUS.out; have h2 := HTM.out; simp; omega)
      | false =>
        go_wp2_with (go_at_call 35; refine (contains_any g c false _ HN.out).mono ?_; rintro e w1 ⟨rfl, rfl⟩)
        go_ret
        exact ⟨t, rfl, rfl, m, hm, HT.out, HA.out, fun h => by
          rw [← HCC.out]; exact HQ.out.symm⟩
    · have hz : t.size = 0 := by have := HTM.out; omega
      go_wp2
      go_ret
      exact ⟨t, rfl, rfl, m, hm, HT.out, HA.out, fun h => by rw [HLL.out] at h; omega⟩

end Go.Proofs.YtbgnieajeipllaaDoor
