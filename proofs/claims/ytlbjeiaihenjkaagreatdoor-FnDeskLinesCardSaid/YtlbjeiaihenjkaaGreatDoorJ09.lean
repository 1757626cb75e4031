/-
  Joint text of YT, YU: what each proves stands ahead of it.
-/
import Derived.Test.YtlbjeiaihenjkaaGreatDoorJ08
import Derived.Laws.Rows
import Derived.Laws.Tables
import Derived.Laws.CopyOwn
import Derived.Laws.OwnMore
import Derived.Laws.ResultCell
/- from YT: strings.Trim of a text by the letters 0 and 1: nothing is left exactly if it has no others.  -/
namespace Go.Proofs.YtlbjeiaihenjkaaGreatDoor
open Go.RowKit
set_option linter.unusedVariables false
set_option linter.unusedSimpArgs false
set_option maxRecDepth 100000

/-- A row of 256 truth values. -/
def z256 : Array Value := Array.replicate 256 (.bool false)
def b01 : List Bool := (List.range 256).map fun n => n == 48 || n == 49
def s01 : List Value := b01.map Value.bool
def T01 (w : World) (B g : Nat) (xs : List Value) : Prop := Rg 215 w B (.slice (some ⟨g, 0, none⟩) 256 256) xs

theorem b01_len : b01.length = 256 := by simp [b01]
theorem s01_len : s01.length = 256 := by simp [s01, b01_len]
theorem b01_set : (((List.replicate 256 false).set 48 true).set 49 true) = b01 := by decide +kernel
theorem s01_set : (((List.replicate 256 (Value.bool false)).set 48 (.bool true)).set 49 (.bool true)) = s01 := by
  rw [s01, ← b01_set, List.map_set, List.map_set, List.map_replicate]
theorem s01_at (c : UInt8) : s01[c.toNat]? = some (.bool (isL c)) := by
  have hc : c.toNat < 256 := c.toNat_lt
  unfold s01 b01
  rw [List.getElem?_map, List.getElem?_map, List.getElem?_range hc]
  simp only [Option.map_some, Option.some.injEq, Value.bool.injEq]
  unfold isL
  have h1 : (c.toNat == 48) = decide (c = 48) := by
    by_cases h : c = 48
    · subst h; rfl
    · rw [decide_eq_false h]; simp; exact fun e => h (UInt8.toNat_inj.1 e)
  have h2 : (c.toNat == 49) = decide (c = 49) := by
    by_cases h : c = 49
    · subst h; rfl
    · rw [decide_eq_false h]; simp; exact fun e => h (UInt8.toNat_inj.1 e)
  rw [h1, h2]

theorem zero256 (w : World) : (zeroValue 215).run Tryz.prog w = .ok (.agg z256) w := by kernel_rfl
theorem size256 : (Tryz.prog.info? 215).map (·.size) = some 256 := by kernel_rfl

theorem T01.zero (w : World) (B : Nat) (hB : B ≤ w.heap.size) : T01 (w.alloc (.cells z256 215)) B w.heap.size (List.replicate 256 (.bool false)) := by
  have h := World.ownsRow_lit (e := 215) (size := 1) (base := B) w z256 256 hB (by unfold maxLen; omega) (by simp [z256])
  unfold T01 Rg
  rw [List.length_replicate]
  rwa [show z256.toList = List.replicate 256 (.bool false) by simp [z256]] at h
theorem T01.heap {w : World} {B g : Nat} {xs : List Value} (h : T01 w B g xs) : w.heap[g]? = some (.cells xs.toArray 215 (0, 0)) ∧ xs.length = 256 := by
  have hl : xs.length = 256 := h.at.1.symm
  refine ⟨?_, hl⟩
  rcases h.2 with ⟨h1, _⟩ | ⟨g', cap', cur, h1, hg, hh, hn, hm, hc, ht⟩
  · simp at h1
  · simp only [Value.slice.injEq, Option.some.injEq, Addr.mk.injEq, and_true, true_and] at h1
    obtain ⟨rfl, h2, h3⟩ := h1
    rw [hh]
    have h4 : cur.toList = xs := by
      rw [← ht, List.take_of_length_le]
      simp [hl, hc, ← h3]
    rw [← h4]

theorem one_bools (xs : List Bool) : ((xs.map Value.bool).toArray).all (·.oneCell') = true := by
  rw [List.all_toArray, List.all_map, List.all_eq_true]
  intro x _
  rfl

/-- The set's row as it is made: place by place. -/
theorem c01 : (z256.setIfInBounds 48 (.bool true)).setIfInBounds 49 (.bool true) = s01.toArray := by
  kernel_rfl

set_option maxHeartbeats 1000000 in
theorem makeSet_any (w : World) :
    Calls Tryz.prog 235 #[.string ⟨#[48, 49]⟩] w fun e w' => e = .returned (.tuple #[.agg s01.toArray, .bool true]) ∧ Below w.heap.size w w' := by
  have hz := zero256
  have hi0 : ∀ w : World, (Instr.index 9 (.string ⟨#[48, 49]⟩) (.int .i64 0)).run Tryz.prog w = .ok (.int .u8 48) w := fun w => by kernel_rfl
  have hi1 : ∀ w : World, (Instr.index 9 (.string ⟨#[48, 49]⟩) (.int .i64 1)).run Tryz.prog w = .ok (.int .u8 49) w := fun w => by kernel_rfl
  have A0 := Lib.hid (T01.zero w w.heap.size (Nat.le_refl _))
  have A1 := Lib.hid (Rg.set A0.out 48 (.bool true))
  have hc0 := A0.out.at.2.2.2.2.2.1 48 (by simp)
  have hf0 := A0.out.at.2.2.2.2.2.2 48
  have hc1 := A1.out.1.at.2.2.2.2.2.1 49 (by simp)
  have hf1 := A1.out.1.at.2.2.2.2.2.2 49
  have HH := Lib.hid (heap_alloc_new w (.cells ((z256.setIfInBounds 48 (.bool true)).setIfInBounds 49 (.bool true)) 215))
  have HI := Lib.hid (show (Tryz.prog.info? 215).map (·.size) = some ((z256.setIfInBounds 48 (.bool true)).setIfInBounds 49 (.bool true)).size by rw [size256, c01, List.size_toArray, s01_len])
  have HO := Lib.hid (show ((z256.setIfInBounds 48 (.bool true)).setIfInBounds 49 (.bool true)).all (·.oneCell') = true by rw [c01]; exact one_bools b01)
  have HC := Lib.hid c01
  go_enter Tryz.func235, Tryz.ntmps235
  go_wp2
  refine wp_loop_rounds 3 ?_
  rw [rounds_succ]
  go_wp2
  rw [rounds_succ]
  go_wp2
  rw [rounds_succ]
  go_wp2_with (first
    | (refine wpList_load_row rfl 215 (.tmp 2) rfl w.heap.size rfl _ ((z256.setIfInBounds 48 (.bool true)).setIfInBounds 49 (.bool true)) _ _ HH.out Tryz.underlying215 rfl HI.out ?_)
    | (refine wpList_store_row rfl 215 (.tmp 2) (.tmp 20) rfl w.heap.size ((z256.setIfInBounds 48 (.bool true)).setIfInBounds 49 (.bool true)) rfl rfl _ _ HH.out HI.out rfl HO.out ?_))
  try simp only [Exit.inBlock, Exit.then]
  refine bodyPost_ret (v := .tuple #[.agg ((z256.setIfInBounds 48 (.bool true)).setIfInBounds 49 (.bool true)), .bool true]) ?_ ?_ ?_
  case refine_2 => rfl
  case refine_3 => exact ⟨by rw [HC.out], below_setRow (al_below _ _) (Nat.le_refl _) _⟩
  rw [results_cell_tmp rfl]
  simp [asAddr, run_loadVar_row _ w.heap.size _ 215 ((z256.setIfInBounds 48 (.bool true)).setIfInBounds 49 (.bool true)) _ _ (setRow_heap _ _ _ _ _ _ HH.out) Tryz.underlying215 rfl HI.out, Result.andThen]

theorem contains_any (g : Nat) (c : UInt8) (q : Bool) (w : World) (hc : w.cell? ⟨g, c.toNat, none⟩ = some (.bool q)) :
    Calls Tryz.prog 262 #[.pointer (some ⟨g, 0, none⟩), .int .u8 (c.toNat : Int)] w fun e w' => e = .returned (.bool q) ∧ w = w' := by
  have h256 : c.toNat < 256 := c.toNat_lt
  obtain ⟨n, hn⟩ : ∃ n, n = c.toNat := ⟨_, rfl⟩
  rw [← hn] at hc h256
  rw [← hn]
  clear hn
  go_enter Tryz.func262, Tryz.ntmps262
  go_wp2
  go_ret
  exact ⟨rfl, rfl⟩

/-! Bytes of a text and of its parts. -/
theorem ba_size (t : ByteArray) : t.data.toList.length = t.size := by simp
theorem ba_take (t : ByteArray) (k : Nat) : (t.extract 0 k).data.toList = t.data.toList.take k := by simp
theorem ba_drop (t : ByteArray) (k : Nat) : (t.extract k t.size).data.toList = t.data.toList.drop k := by
  rw [show (t.extract k t.size).data.toList = (t.data.toList.drop k).take (t.size - k) by simp]
  rw [List.take_of_length_le]
  simp

theorem run_byteY (s : ByteArray) (k : Nat) (h : k < s.size) (w : World) :
    (Instr.index 9 (.string s) (.int .i64 (k : Int))).run Tryz.prog w = .ok (.int .u8 (s.data.toList[k]'(by simpa using h)).toNat) w := by
  rw [run_index_string (P := Tryz.prog) w 9 _ .i64 (k : Int) Tryz.underlying9]
  have h2 : 0 ≤ (k : Int) ∧ (k : Int) < (s.size : Int) := ⟨by omega, by omega⟩
  first
    | (rw [dif_pos h2]; exact congrArg (fun v => Result.ok v w) (by simp; rfl))
    | (simp [h2, h]; rfl)
theorem run_to (s : ByteArray) (k : Nat) (h : k ≤ s.size) (w : World) :
    (Instr.slice 9 (.string s) none (some (.int .i64 (k : Int))) none).run Tryz.prog w = .ok (.string (s.extract 0 k)) w :=
  run_slice_string_h w 9 s Tryz.underlying9 .i64 (k : Int) (by omega) (by omega)
theorem run_from1 (s : ByteArray) (h : 1 ≤ s.size) (w : World) :
    (Instr.slice 9 (.string s) (some (.int .i64 1)) none none).run Tryz.prog w = .ok (.string (s.extract 1 s.size)) w :=
  run_slice_string_l w 9 s Tryz.underlying9 .i64 1 (by omega) (by omega)

/-- The set in block g, as the trimming functions read it. -/
def Set01 (w : World) (g : Nat) : Prop := ∀ c : UInt8, w.cell? ⟨g, c.toNat, none⟩ = some (.bool (isL c))

theorem trimRight_any (s : ByteArray) (g : Nat) (w : World) (hS : Set01 w g) (hs : s.size ≤ 1000000) :
    Calls Tryz.prog 237 #[.string s, .pointer (some ⟨g, 0, none⟩)] w fun e w' => ∃ t : ByteArray, e = .returned (.string t) ∧ w = w' ∧ ∃ m : Nat, m ≤ s.size ∧ t.data.toList = s.data.toList.take m ∧ (∀ j (h : j < s.data.toList.length), m ≤ j → isL s.data.toList[j] = true) ∧ (∀ (h : m - 1 < s.data.toList.length), 1 ≤ m → isL s.data.toList[m - 1] = false) := by
  have HS := Lib.hid hS
  clear hS
  obtain ⟨l, hl⟩ : ∃ l, l = s.data.toList := ⟨_, rfl⟩
  have HLL := Lib.hid (show l.length = s.size by rw [hl, ba_size])
  have HL := Lib.hid hl
  rw [← hl]
  clear hl
  go_enter Tryz.func237, Tryz.ntmps237
  go_wp2
  go_loop [0] (fun o => ∃ (t : ByteArray) (m : Nat), o = .string t ∧ m ≤ s.size ∧ t.size = m ∧ Hid (t.data.toList = l.take m) ∧ Hid (∀ j (h : j < l.length), m ≤ j → isL l[j] = true)) (fun o => match o with | .string t => t.size | _ => 0)
  case atStart => exact ⟨s, s.size, rfl, Nat.le_refl _, rfl, Lib.hid (by rw [← HL.out, List.take_of_length_le (by rw [HLL.out]; exact Nat.le_refl _)]), Lib.hid (fun j h hm => by rw [HLL.out] at h; omega)⟩
  case round =>
    obtain ⟨t, m, rfl, hm, htm, HT, HA⟩ := hrel
    cases m with
    | zero =>
      have hz : decide ((0 : Int) < 0) = false := rfl
      go_wp2
      go_ret
      exact ⟨t, rfl, rfl, 0, Nat.zero_le _, HT.out, HA.out, fun h h1 => by omega⟩
    | succ k =>
      have hkl : k < l.length := by rw [HLL.out]; omega
      have hkt : k < t.data.toList.length := by rw [ba_size, htm]; omega
      have hi := fun w => run_byteY t k (by omega) w
      have hsl := fun w => run_to t k (by omega) w
      have HC := Lib.hid (show t.data.toList[k]'hkt = l[k]'hkl by
        have := HT.out
        simp only [this, List.getElem_take])
      rw [HC.out] at hi
      have HN := Lib.hid (HS.out (l[k]'hkl))
      obtain ⟨c, hc⟩ : ∃ c, c = l[k]'hkl := ⟨_, rfl⟩
      have HCC := Lib.hid hc
      rw [← hc] at hi HN
      obtain ⟨u, hu⟩ : ∃ u, u = t.extract 0 k := ⟨_, rfl⟩
      have HU := Lib.hid (show u.data.toList = l.take k by rw [hu, ba_take, HT.out, List.take_take, Nat.min_eq_left (by omega)])
      have HUS := Lib.hid (show u.size = k by rw [← ba_size, HU.out, List.length_take]; omega)
      rw [← hu] at hsl
      obtain ⟨q, hq⟩ : ∃ q, q = isL c := ⟨_, rfl⟩
      have HQ := Lib.hid hq
      rw [← hq] at HN
      clear HC hc hu hq hkt
      cases q with
      | true =>
        go_wp2_with (go_at_call 262; refine (contains_any g c true _ HN.out).mono ?_; rintro e w1 ⟨rfl, rfl⟩)
        go_round
        case rel => exact ⟨u, k, rfl, by omega, HUS.out, HU, Lib.hid (fun j h hj => by
          by_cases e : j = k
          · subst e; rw [← HCC.out]; exact HQ.out.symm
          · exact HA.out j h (by omega))⟩
        case measure => (have := HUS.out; simp; omega)
      | false =>
        go_wp2_with (go_at_call 262; refine (contains_any g c false _ HN.out).mono ?_; rintro e w1 ⟨rfl, rfl⟩)
        go_ret
        exact ⟨t, rfl, rfl, k + 1, hm, HT.out, HA.out, fun h h1 => by
          have e : l[k + 1 - 1]'h = c := by rw [HCC.out]; rfl
          rw [e]; exact HQ.out.symm⟩

theorem trimLeft_any (s : ByteArray) (g : Nat) (w : World) (hS : Set01 w g) (hs : s.size ≤ 1000000) :
    Calls Tryz.prog 236 #[.string s, .pointer (some ⟨g, 0, none⟩)] w fun e w' => ∃ t : ByteArray, e = .returned (.string t) ∧ w = w' ∧ ∃ m : Nat, m ≤ s.size ∧ t.data.toList = s.data.toList.drop m ∧ (∀ j (h : j < s.data.toList.length), j < m → isL s.data.toList[j] = true) ∧ (∀ (h : m < s.data.toList.length), isL s.data.toList[m] = false) := by
  have HS := Lib.hid hS
  clear hS
  obtain ⟨l, hl⟩ : ∃ l, l = s.data.toList := ⟨_, rfl⟩
  have HLL := Lib.hid (show l.length = s.size by rw [hl, ba_size])
  have HL := Lib.hid hl
  rw [← hl]
  clear hl
  go_enter Tryz.func236, Tryz.ntmps236
  go_wp2
  go_loop [0] (fun o => ∃ (t : ByteArray) (m : Nat), o = .string t ∧ m ≤ s.size ∧ Hid (t.size + m = s.size) ∧ Hid (t.data.toList = l.drop m) ∧ Hid (∀ j (h : j < l.length), j < m → isL l[j] = true)) (fun o => match o with | .string t => t.size | _ => 0)
  case atStart => exact ⟨s, 0, rfl, Nat.zero_le _, Lib.hid rfl, Lib.hid (by rw [← HL.out]; rfl), Lib.hid (fun j h hm => by omega)⟩
  case round =>
    obtain ⟨t, m, rfl, hm, HTM, HT, HA⟩ := hrel
    by_cases hlt : m < s.size
    · have hkl : m < l.length := by rw [HLL.out]; exact hlt
      have ht1 : 1 ≤ t.size := by have := HTM.out; omega
      have hkt : 0 < t.data.toList.length := by rw [ba_size]; omega
      have hi : ∀ w : World, (Instr.index 9 (.string t) (.int .i64 0)).run Tryz.prog w = .ok (.int .u8 (t.data.toList[0]'hkt).toNat) w := fun w => run_byteY t 0 (by omega) w
      have hsl := fun w => run_from1 t ht1 w
      have HC := Lib.hid (show t.data.toList[0]'hkt = l[m]'hkl by
        have := HT.out
        simp only [this, List.getElem_drop, Nat.add_zero])
      rw [HC.out] at hi
      have HN := Lib.hid (HS.out (l[m]'hkl))
      obtain ⟨c, hc⟩ : ∃ c, c = l[m]'hkl := ⟨_, rfl⟩
      have HCC := Lib.hid hc
      rw [← hc] at hi HN
      obtain ⟨u, hu⟩ : ∃ u, u = t.extract 1 t.size := ⟨_, rfl⟩
      have HU := Lib.hid (show u.data.toList = l.drop (m + 1) by rw [hu, ba_drop, HT.out, List.drop_drop])
      have HUS := Lib.hid (show u.size + (m + 1) = s.size by rw [← ba_size, HU.out, List.length_drop, HLL.out]; omega)
      rw [← hu] at hsl
      obtain ⟨q, hq⟩ : ∃ q, q = isL c := ⟨_, rfl⟩
      have HQ := Lib.hid hq
      rw [← hq] at HN
      have hpos : decide ((0 : Int) < (t.size : Int)) = true := decide_eq_true (by omega)
      clear HC hc hu hq hkt
      cases q with
      | true =>
        go_wp2_with (go_at_call 262; refine (contains_any g c true _ HN.out).mono ?_; rintro e w1 ⟨rfl, rfl⟩)
        go_round
        case rel => exact ⟨u, m + 1, rfl, by omega, HUS, HU, Lib.hid (fun j h hj => by
          by_cases e : j = m
          · subst e; rw [← HCC.out]; exact HQ.out.symm
          · exact HA.out j h (by omega))⟩
        case measure => (have h1 := HUS.out; have h2 := HTM.out; simp; omega)
      | false =>
        go_wp2_with (go_at_call 262; refine (contains_any g c false _ HN.out).mono ?_; rintro e w1 ⟨rfl, rfl⟩)
        go_ret
        exact ⟨t, rfl, rfl, m, hm, HT.out, HA.out, fun h => by
          rw [← HCC.out]; exact HQ.out.symm⟩
    · have hz : t.size = 0 := by have := HTM.out; omega
      go_wp2
      go_ret
      exact ⟨t, rfl, rfl, m, hm, HT.out, HA.out, fun h => by rw [HLL.out] at h; omega⟩

end Go.Proofs.YtlbjeiaihenjkaaGreatDoor

/- from YU: Texts of letters 0 and 1: the program's test (strings.Trim) and the model's.  -/
namespace Go.Proofs.YtlbjeiaihenjkaaGreatDoor
open Go.RowKit
set_option linter.unusedVariables false
set_option linter.unusedSimpArgs false
set_option maxRecDepth 100000

theorem trim_none {l : List UInt8} {m m2 : Nat} (hm : m ≤ l.length) (hA : ∀ j (h : j < l.length), m ≤ j → isL l[j] = true) (hE : ∀ (h : m - 1 < l.length), 1 ≤ m → isL l[m - 1] = false)
    (h2 : ∀ j (h : j < (l.take m).length), j < m2 → isL (l.take m)[j] = true) : ((l.take m).drop m2 = [] ↔ l.all isL = true) := by
  constructor
  · intro h
    have h3 : (l.take m).length ≤ m2 := List.drop_eq_nil_iff.1 h
    have h4 : m = 0 := by
      by_cases h0 : m = 0
      · exact h0
      · exfalso
        have hl : m - 1 < l.length := by omega
        have h5 := hE hl (by omega)
        have hlt : m - 1 < (l.take m).length := by simp; omega
        have h6 := h2 (m - 1) hlt (by omega)
        rw [List.getElem_take] at h6
        rw [h5] at h6
        cases h6
    rw [List.all_eq_true]
    intro x hx
    obtain ⟨j, hj, rfl⟩ := List.getElem_of_mem hx
    exact hA j hj (by omega)
  · intro h
    have h4 : m = 0 := by
      by_cases h0 : m = 0
      · exact h0
      · exfalso
        have hl : m - 1 < l.length := by omega
        have h5 := hE hl (by omega)
        have := List.all_eq_true.1 h _ (List.getElem_mem hl)
        rw [h5] at this
        cases this
    rw [h4]; simp

theorem ba_toList (t : ByteArray) : t.toList = t.data.toList := ByteArray.toList_eq t
theorem ba_empty (t : ByteArray) : t.toList.isEmpty = decide (t.size = 0) := by
  rw [ba_toList, ← ba_size]
  cases t.data.toList <;> simp

theorem trim_any (s : ByteArray) (w : World) (hs : s.size ≤ 1000000) :
    Calls Tryz.prog 185 #[.string s, .string ⟨#[48, 49]⟩] w fun e w' => ∃ t : ByteArray, e = .returned (.string t) ∧ Hid (t.size = 0 ↔ s.data.toList.all isL = true) ∧ Below w.heap.size w w' := by
  by_cases h0 : s.size = 0
  · have hb : s.toList.isEmpty = true := by rw [ba_empty]; exact decide_eq_true h0
    have HE := Lib.hid (show s.size = 0 ↔ s.data.toList.all isL = true by
      have : s.data.toList = [] := List.eq_nil_of_length_eq_zero (by rw [ba_size]; exact h0)
      rw [this]
      exact ⟨fun _ => rfl, fun _ => h0⟩)
    clear h0
    go_enter Tryz.func185, Tryz.ntmps185
    go_wp2
    go_ret
    exact ⟨s, rfl, HE, Below.refl _ _⟩
  · have hb : s.toList.isEmpty = false := by rw [ba_empty]; exact decide_eq_false h0
    have hcb : (⟨#[48, 49]⟩ : ByteArray).toList.isEmpty = false := by rw [ba_empty]; exact decide_eq_false (by decide)
    have hz := zero256
    have HI := Lib.hid (show (Tryz.prog.info? 215).map (·.size) = some s01.toArray.size by rw [size256, List.size_toArray, s01_len])
    have HO := Lib.hid (one_bools b01)
    have HZS := Lib.hid (show z256.size = s01.toArray.size from (show z256.size = 256 by unfold z256; exact Array.size_replicate).trans (show s01.toArray.size = 256 by rw [List.size_toArray, s01_len]).symm)
    have HS1 := Lib.hid s01_at
    obtain ⟨cs, hcs⟩ : ∃ cs : Array Value, cs = s01.toArray := ⟨_, rfl⟩
    have HO2 := Lib.hid (show cs.all (·.oneCell') = true by rw [hcs]; exact HO.out)
    have HM := Lib.hid (fun w' => makeSet_any w')
    have HSC := Lib.hid (show ∀ c : UInt8, cs[c.toNat]? = some (.bool (isL c)) from fun c => by rw [hcs, List.getElem?_toArray]; exact s01_at c)
    rw [← hcs] at HI HZS HM
    clear hcs HO HS1 h0
    go_enter Tryz.func185, Tryz.ntmps185
    go_wp2_with fail
    refine (HM.out _).mono ?_
    rintro e w1 ⟨rfl, hb1⟩
    have HB1 := Lib.hid hb1
    have HN := Lib.hid (heap_alloc_new w1 (.cells z256 215))
    have HSET := Lib.hid (show Set01 ((w1.alloc (.cells z256 215)).setRow w1.heap.size cs) w1.heap.size from fun c => by
      rw [cell_of_row _ _ c.toNat cs 215 (0, 0) (setRow_heap _ _ _ _ _ _ HN.out)]
      exact HSC.out c)
    have HB2 := Lib.hid (show Below w.heap.size w ((w1.alloc (.cells z256 215)).setRow w1.heap.size cs) from below_setRow (HB1.out.alloc HB1.out.size _) HB1.out.size _)
    clear hb1
    go_wp2_with (refine wpList_store_row rfl 215 (.tmp 5) (.tmp 32) rfl w1.heap.size cs rfl rfl _ _ HN.out HI.out HZS.out HO2.out ?_)
    refine (trimRight_any s _ _ HSET.out hs).mono ?_
    rintro e w2 ⟨t, rfl, rfl, m, hm, ht, hA, hE⟩
    have HT := Lib.hid ht
    have HA := Lib.hid hA
    have HE := Lib.hid hE
    have hts : t.size ≤ 1000000 := by rw [← ba_size, ht, List.length_take]; omega
    have HLN := Lib.hid (show s.data.toList.length = s.size from ba_size s)
    clear ht hA hE
    go_wp2_with fail
    refine (trimLeft_any t _ _ HSET.out hts).mono ?_
    rintro e w2 ⟨u, rfl, rfl, m2, hm2, hu, hA2, hE2⟩
    have HF := Lib.hid (show u.size = 0 ↔ s.data.toList.all isL = true by
      rw [HT.out] at hu hA2
      rw [← ba_size, hu, List.length_eq_zero_iff]
      exact trim_none (by rw [HLN.out]; exact hm) HA.out HE.out (fun j h hj => hA2 j h hj))
    clear hu hA2 hE2
    go_wp2
    go_ret
    exact ⟨u, rfl, HF, HB2.out⟩

/-- A text of at most 20 letters 0 and 1. -/
def okW (s : ByteArray) : Bool := decide (s.size ≤ 20) && s.data.toList.all isL

theorem isParityWord_any (s : ByteArray) (w : World) :
    Calls Tryz.prog 240 #[.string s] w fun e w' => e = .returned (.bool (okW s)) ∧ Below w.heap.size w w' := by
  by_cases h : s.size ≤ 20
  · have A2 := Lib.hid (wl_yes (k := (s.size : Int)) (by omega) (by omega))
    obtain ⟨q, hq⟩ : ∃ q, q = s.data.toList.all isL := ⟨_, rfl⟩
    have HO := Lib.hid (show okW s = q by rw [okW, decide_eq_true h, ← hq, Bool.true_and])
    have HQ := Lib.hid hq
    clear hq
    go_enter Tryz.func240, Tryz.ntmps240
    go_wp2_with (go_at_call 247; refine (isWordLength_any _ _).mono ?_; rw [A2.out]; rintro e w1 ⟨rfl, rfl⟩)
    refine (trim_any s _ (by omega)).mono ?_
    rintro e w1 ⟨t, rfl, HT, hb⟩
    have HB := Lib.hid hb
    clear hb
    rw [← HQ.out] at HT
    have hbe : t.toList.isEmpty = q := by
      rw [ba_empty]
      cases q with
      | true => exact decide_eq_true (HT.out.2 rfl)
      | false => exact decide_eq_false (fun e => by have := HT.out.1 e; cases this)
    go_wp2
    go_ret
    exact ⟨by rw [HO.out]; rfl, HB.out⟩
  · have A2 := Lib.hid (wl_no (k := (s.size : Int)) (by omega))
    have HO := Lib.hid (show okW s = false by rw [okW, decide_eq_false h, Bool.false_and])
    clear h
    go_enter Tryz.func240, Tryz.ntmps240
    go_wp2_with (go_at_call 247; refine (isWordLength_any _ _).mono ?_; rw [A2.out]; rintro e w1 ⟨rfl, rfl⟩)
    go_ret
    exact ⟨by rw [HO.out]; rfl, Below.refl _ _⟩

theorem byte_ne {c : UInt8} (d : UInt8) (n : Int) (hn : n = (d.toNat : Int)) : ((c.toNat : Int) != n) = !decide (c = d) := by
  by_cases h : c = d
  · subst h; rw [hn]; simp
  · have : c.toNat ≠ d.toNat := fun e => h (UInt8.toNat_inj.1 e)
    rw [decide_eq_false h, hn]; exact bne_yes (by omega)
theorem byte_eq {c : UInt8} (d : UInt8) (n : Int) (hn : n = (d.toNat : Int)) : ((c.toNat : Int) == n) = decide (c = d) := by
  by_cases h : c = d
  · subst h; rw [hn]; simp
  · have : c.toNat ≠ d.toNat := fun e => h (UInt8.toNat_inj.1 e)
    rw [decide_eq_false h, hn]; exact beq_no (by omega)

theorem stLetters_any (s : ByteArray) (w : World) :
    Calls Tryz.prog 161 #[.string s] w fun e w' => e = .returned (.bool (okW s)) ∧ w = w' := by
  by_cases h : s.size ≤ 20
  · obtain ⟨l, hl⟩ : ∃ l, l = s.data.toList := ⟨_, rfl⟩
    have HLL := Lib.hid (show l.length = s.size by rw [hl, ba_size])
    have HO := Lib.hid (show okW s = l.all isL by rw [okW, decide_eq_true h, ← hl, Bool.true_and])
    have HL := Lib.hid hl
    clear hl
    go_enter Tryz.func161, Tryz.ntmps161
    go_wp2
    go_loop [3] (fun i => ∃ j : Nat, j ≤ s.size ∧ i = .int .i64 (j : Int) ∧ Hid (∀ t (ht : t < l.length), t < j → isL l[t] = true)) (fun i => s.size - (intOf i).toNat)
    case atStart => exact ⟨0, Nat.zero_le _, rfl, Lib.hid (fun t ht h => by omega)⟩
    case round =>
      obtain ⟨j, hj, rfl, HA⟩ := hrel
      by_cases hlt : j < s.size
      · have hjl : j < l.length := by rw [HLL.out]; exact hlt
        have hi := fun w => run_byteY s j hlt w
        have HC := Lib.hid (show s.data.toList[j]'(by rw [ba_size]; exact hlt) = l[j]'hjl by simp only [HL.out])
        rw [HC.out] at hi
        obtain ⟨c, hc⟩ : ∃ c, c = l[j]'hjl := ⟨_, rfl⟩
        have HCC := Lib.hid hc
        rw [← hc] at hi
        clear HC hc
        have h48 := byte_ne (c := c) 48 48 rfl
        have h49 := byte_ne (c := c) 49 49 rfl
        by_cases e48 : c = 48
        · have hb : ((c.toNat : Int) != 48) = false := by rw [h48, decide_eq_true e48]; rfl
          have HI := Lib.hid (show isL c = true by simp [isL, e48])
          clear h48 h49 e48
          go_wp2
          go_round
          case rel => exact ⟨j + 1, by omega, by go_num, Lib.hid (fun t ht h => by by_cases e : t = j; (subst e; rw [← HCC.out]; exact HI.out); exact HA.out t ht (by omega))⟩
          case measure => simp [intOf]; omega
        · have hb : ((c.toNat : Int) != 48) = true := by rw [h48, decide_eq_false e48]; rfl
          by_cases e49 : c = 49
          · have hb2 : ((c.toNat : Int) != 49) = false := by rw [h49, decide_eq_true e49]; rfl
            have HI := Lib.hid (show isL c = true by simp [isL, e49])
            clear h48 h49 e48 e49
            go_wp2
            go_round
            case rel => exact ⟨j + 1, by omega, by go_num, Lib.hid (fun t ht h => by by_cases e : t = j; (subst e; rw [← HCC.out]; exact HI.out); exact HA.out t ht (by omega))⟩
            case measure => simp [intOf]; omega
          · have hb2 : ((c.toNat : Int) != 49) = true := by rw [h49, decide_eq_false e49]; rfl
            have HE := Lib.hid (show okW s = false by
              rw [HO.out, List.all_eq_false]
              exact ⟨l[j], List.getElem_mem hjl, by rw [← HCC.out]; simp [isL, e48, e49]⟩)
            clear h48 h49 e48 e49
            go_wp2
            go_ret
            exact ⟨by rw [HE.out]; rfl, rfl⟩
      · have HE := Lib.hid (show okW s = true by
          rw [HO.out, List.all_eq_true]
          intro x hx
          obtain ⟨t, ht, rfl⟩ := List.getElem_of_mem hx
          exact HA.out t ht (by rw [HLL.out] at ht; omega))
        go_wp2
        go_ret
        exact ⟨by rw [HE.out]; rfl, rfl⟩
  · have HO := Lib.hid (show okW s = false by rw [okW, decide_eq_false h, Bool.false_and])
    have hb : decide ((20 : Int) < (s.size : Int)) = true := decide_eq_true (by omega)
    go_enter Tryz.func161, Tryz.ntmps161
    go_wp2
    go_ret
    exact ⟨by rw [HO.out]; rfl, rfl⟩

end Go.Proofs.YtlbjeiaihenjkaaGreatDoor
