/-
  Joint text of SB, D, M, V: what each proves stands ahead of it.
-/
import Derived.Test.YtlbjeiaihenjkaaGreatDoorJ00
import Derived.Lib.Builder
import Derived.Lib.Strings
import Derived.Lib.Slices
import Derived.Lib.Walk
import Derived.Lib.MakeNoZero
import Derived.Laws.Externs
import Derived.BigRegion
/- from SB: strings.Builder, as the program uses it: a fresh builder of the call's own, bytes written one by one.  -/
namespace Go.Proofs.YtlbjeiaihenjkaaGreatDoor
open Go.RowKit
set_option linter.unusedVariables false
set_option linter.unusedSimpArgs false
set_option maxRecDepth 100000

theorem infoByte : (Tryz.prog.info? 5).map (fun i => (i.zero, i.size, i.bytes)) = some (some (.int .u8 0), 1, 1) := by kernel_rfl
theorem sizeBuilder : (Tryz.prog.info? 115).map (·.size) = some 2 := by kernel_rfl
theorem liesBuilder : liesAt Tryz.prog Tryz.prog.depth 115 (2 / Tryz.prog.cellsOf 115) 0 115 1 = true := by kernel_rfl

/-- A builder in block b, of the call's own, that holds bytes. -/
abbrev Bld (w : World) (B b : Nat) (bs : List Value) : Prop := Lib.IsBuilder 115 5 B b bs w

/-- Every slice of integers stands as it stood. -/
def KeepI (w w' : World) : Prop := ∀ C u xs, Rd w C u xs → Rd w' C u xs

theorem KeepI.of_blocks {w w' : World} (h : ∀ (k : Nat) (cur : Array Value), w.heap[k]? = some (.cells cur 3 (0, 0)) → w'.heap[k]? = w.heap[k]?) : KeepI w w' := by
  intro C u xs hr
  refine ⟨hr.1, ?_⟩
  rcases hr.2 with h2 | ⟨g, cap, cur, hv, hg, hh, r⟩
  · exact .inl h2
  · exact .inr ⟨g, cap, cur, hv, hg, by rw [h g cur hh]; exact hh, r⟩

theorem KeepI.refl (w : World) : KeepI w w := fun _ _ _ h => h
theorem KeepI.trans {a b c : World} (h : KeepI a b) (k : KeepI b c) : KeepI a c := fun C u xs hr => k C u xs (h C u xs hr)
theorem KeepI.alloc (w : World) (o : Obj) : KeepI w (w.alloc o) := fun _ _ _ h => h.alloc o
theorem KeepI.setCell {w : World} {b : Nat} {cs : Array Value} {T : TypeId} {fr : Nat × Nat} (hb : w.heap[b]? = some (.cells cs T fr)) (hT : T ≠ 3) (o : Nat) (u : Value) : KeepI w (w.setCell ⟨b, o, none⟩ u) := by
  refine KeepI.of_blocks fun k cur hk => Below.heap_setCell _ _ _ _ (fun e => ?_)
  simp at e
  subst e
  rw [hb] at hk
  simp at hk
  exact hT hk.2.1
theorem KeepI.grown {w w' : World} {B n : Nat} {e : TypeId} {v : Value} {xs : List Value} (hown : w.ownsRow B e 1 v n xs) (hg : w.grownBy w' v.ownBlock) (he : e ≠ 3) : KeepI w w' := by
  refine KeepI.of_blocks fun k cur hk => hg.block k (Array.getElem?_eq_some_iff.1 hk).1 (fun h => ?_)
  rcases hown.2 with ⟨rfl, _⟩ | ⟨g, cap, cur', rfl, _, hh, _⟩
  · simp [Value.ownBlock] at h
  · simp [Value.ownBlock] at h
    subst h
    rw [hh] at hk
    simp at hk
    exact he hk.2

set_option maxHeartbeats 1000000 in
theorem copyCheck_used (b : Nat) (w : World) (h0 : w.cell? ⟨b, 0, none⟩ = some (.pointer (some ⟨b, 0, none⟩))) :
    Calls Tryz.prog 137 #[.pointer (some ⟨b, 0, none⟩)] w fun e w' => e = .returned (.tuple #[]) ∧ w = w' := by
  obtain ⟨j, hj, _⟩ := Option.map_eq_some_iff.1 sizeBuilder
  have hne := fun (w : World) => Lib.run_neq_ptr_same (P := Tryz.prog) w ⟨b, 0, none⟩ Tryz.underlying113 hj
  go_enter Tryz.func137, Tryz.ntmps137
  go_wp2
  try (rw [Lib.run_neq_ptr_same w _ Tryz.underlying113 hj]; go_wp2)
  go_end0
  exact ⟨rfl, rfl⟩

set_option maxHeartbeats 1000000 in
theorem copyCheck_fresh (b : Nat) (w : World) (h0 : w.cell? ⟨b, 0, none⟩ = some (.pointer none)) (hsh : w.shape? b = some (115, 2)) (hfz : w.frozen? ⟨b, 0, none⟩ = false) :
    Calls Tryz.prog 137 #[.pointer (some ⟨b, 0, none⟩)] w fun e w' => e = .returned (.tuple #[]) ∧ w' = w.setCell ⟨b, 0, none⟩ (.pointer (some ⟨b, 0, none⟩)) := by
  obtain ⟨j, hj, hjs⟩ := Option.map_eq_some_iff.1 sizeBuilder
  have hlies := Lib.hid liesBuilder
  have hj0 : j.size ≠ 0 := by rw [hjs]; decide
  clear hjs
  go_enter Tryz.func137, Tryz.ntmps137
  go_wp2
  rw [Lib.run_to_unsafe w ⟨b, 0, none⟩ Tryz.underlying113 Tryz.underlying95 hj hj0 hsh (Nat.zero_lt_succ 1)]
  simp only [Result.andThen]
  rw [Oper.upon_value]
  go_wp2
  rw [run_callFunc_extern Tryz.func192 (by kernel_rfl) (by kernel_rfl) (by kernel_rfl) (e := Extern.AbiNoEscape.same) (by kernel_rfl), Lib.run_noEscape]
  simp only [Result.andThen]
  rw [Oper.upon_value]
  go_wp2
  rw [Lib.run_from_unsafe w ⟨b, 0, none⟩ Tryz.underlying95 Tryz.underlying113 hj hsh hlies.out]
  simp only [Result.andThen]
  rw [Oper.upon_value]
  go_wp2
  go_end0
  exact ⟨rfl, rfl⟩

theorem copyCheck_any (B b : Nat) (bs : List Value) (w : World) (h : Bld w B b bs) :
    Calls Tryz.prog 137 #[.pointer (some ⟨b, 0, none⟩)] w fun e w' => e = .returned (.tuple #[]) ∧ Lib.BuilderAt 115 5 B b (.pointer (some ⟨b, 0, none⟩)) bs w' ∧ Below B w w' ∧ KeepI w w' := by
  rcases h with h | h
  · refine (copyCheck_fresh b w h.cell0 h.shape h.frozen0).mono ?_
    rintro e w' ⟨rfl, rfl⟩
    obtain ⟨_, v, hbk, _⟩ := id h
    exact ⟨rfl, h.used _, (Below.refl B w).setCell (p := ⟨b, 0, none⟩) h.1 _, KeepI.setCell hbk (by decide) 0 _⟩
  · refine (copyCheck_used b w h.cell0).mono ?_
    rintro e w' ⟨rfl, rfl⟩
    exact ⟨rfl, h, Below.refl B _, KeepI.refl _⟩

set_option maxHeartbeats 1000000 in
theorem writeByte_any (B b : Nat) (bs : List Value) (c : Int) (w : World) (h : Bld w B b bs) (hlen : bs.length ≤ 1000000) (hBw : B ≤ w.heap.size) :
    Calls Tryz.prog 78 #[.pointer (some ⟨b, 0, none⟩), .int .u8 c] w fun e w' => e = .returned .nilIface ∧ Bld w' B b (bs ++ [.int .u8 c]) ∧ Below B w w' ∧ KeepI w w' := by
  obtain ⟨i0, hi, hz0, hz1, hz2⟩ := info_parts infoByte
  have H := Lib.hid h
  clear h
  go_enter Tryz.func78, Tryz.ntmps78
  go_wp2_with fail
  refine (copyCheck_any B b bs _ H.out).mono ?_
  rintro e w1 ⟨rfl, h1, hb1, hk1⟩
  have HKI := Lib.hid hk1
  clear hk1
  obtain ⟨hB, v, hbk, hown, hne⟩ := h1
  have HB := Lib.hid hb1
  have hsz := hb1.size
  have hlt : b < w1.heap.size := (Array.getElem?_eq_some_iff.1 hbk).1
  have c0 : w1.cell? ⟨b, 0, none⟩ = some (.pointer (some ⟨b, 0, none⟩)) := by rw [Lib.cell_of_heap hbk]; rfl
  have c1 : w1.cell? ⟨b, 1, none⟩ = some v := by rw [Lib.cell_of_heap hbk]; rfl
  have HK := Lib.hid hbk
  have HN := Lib.hid hne
  have HW := Lib.hid hown
  clear hb1 hbk hne hown
  go_wp2_with (at_builtin; refine wpList_append_own _ rfl _ _ 43 rfl B 5 i0 (.int .u8 0) 1 1 Tryz.underlying43 hi hz0 hz1 hz2 rfl (by decide) _ _ _ rfl (HW.out.alloc _) ⟨w1.heap.size, 0, none⟩ 1 1 [.int .u8 c] rfl rfl ?c1 ?c2 ?c3 ?c4 ?c5 ?_)
  case c1 =>
    intro j u hj
    match j, hj with
    | 0, hj => simp at hj; subst hj; simp [Addr.add]
  case c2 => intro u hu; simp at hu; subst hu; rfl
  case c3 => unfold maxLen; omega
  case c4 => omega
  case c5 => simp; omega
  intro v' w2 hown' hgrow _
  have hb2 : w2.heap[b]? = some (.cells #[.pointer (some ⟨b, 0, none⟩), v] 115 (0, 0)) := by
    rw [hgrow.block b (by simp; omega) (fun e => HN.out e.symm), Below.heap_alloc w1 _ b hlt]
    exact HK.out
  have d0 : w2.cell? ⟨b, 0, none⟩ = some (.pointer (some ⟨b, 0, none⟩)) := by rw [Lib.cell_of_heap hb2]; rfl
  have d1 : w2.cell? ⟨b, 1, none⟩ = some v := by rw [Lib.cell_of_heap hb2]; rfl
  have f1 : w2.frozen? ⟨b, 1, none⟩ = false := Lib.frozen_of_heap hb2 1
  obtain ⟨g, cap, rfl⟩ : ∃ g cap, v' = .slice (some ⟨g, 0, none⟩) (bs.length + 1) cap := by
    rcases hown'.2 with ⟨_, h0⟩ | ⟨g, cap, cur, hv, _⟩
    · omega
    · exact ⟨g, cap, hv⟩
  have HK2 := Lib.hid hb2
  have HW2 := Lib.hid hown'
  have HG2 := Lib.hid hgrow
  clear hb2 hown' hgrow
  go_wp2
  go_ret
  refine ⟨rfl, .inr ?_, ?_, ((HKI.out.trans (KeepI.alloc _ _)).trans (KeepI.grown (HW.out.alloc _) HG2.out (by decide))).trans (KeepI.setCell HK2.out (by decide) 1 _)⟩
  · exact Lib.BuilderAt.put (T := 115) (e := 5) hB HK2.out (bs' := bs ++ [.int .u8 c]) (by simpa using HW2.out) (by decide)
  · exact ((HB.out.alloc (by omega) _).grown HG2.out (by simp; omega) (fun k hk => (HW.out.lt k hk).1)).setCell (p := ⟨b, 1, none⟩) hB _

end Go.Proofs.YtlbjeiaihenjkaaGreatDoor

/- from D: Digits of numbers: plain mathematics.  -/
namespace Go.Proofs.YtlbjeiaihenjkaaGreatDoor
set_option linter.unusedVariables false
set_option linter.unusedSimpArgs false

theorem div_lt (b n : Int) (hb : 2 ≤ b) (hn : b ≤ n) : 0 ≤ n / b ∧ n / b < n := by
  have h1 : 0 ≤ n / b := Int.ediv_nonneg (by omega) (by omega)
  refine ⟨h1, ?_⟩
  exact Int.ediv_lt_of_lt_mul (by omega) (by have := Int.mul_le_mul_of_nonneg_left hb (show (0:Int) ≤ n by omega); omega)

theorem div_pos (b n : Int) (hb : 2 ≤ b) (hn : b ≤ n) : 1 ≤ n / b := by
  have := (Int.le_ediv_iff_mul_le (show 0 < b by omega) (a := 1) (b := n)).2 (by omega)
  exact this

theorem div_small (b n : Int) (hb : 2 ≤ b) (h0 : 0 ≤ n) (hn : n < b) : n / b = 0 := Int.ediv_eq_zero_of_lt h0 hn
theorem mod_small (b n : Int) (hb : 2 ≤ b) (h0 : 0 ≤ n) (hn : n < b) : n % b = n := Int.emod_eq_of_lt h0 hn
theorem mod_bd (b n : Int) (hb : 2 ≤ b) : 0 ≤ n % b ∧ n % b < b := ⟨Int.emod_nonneg _ (by omega), Int.emod_lt_of_pos _ (by omega)⟩
theorem div_half (b n : Int) (hb : 2 ≤ b) (h0 : 0 ≤ n) : 0 ≤ n / b ∧ n / b ≤ n / 2 := by
  have h1 : 0 ≤ n / b := Int.ediv_nonneg h0 (by omega)
  refine ⟨h1, ?_⟩
  rw [Int.le_ediv_iff_mul_le (by omega)]
  have h2 : n / b * b ≤ n := Int.ediv_mul_le _ (by omega)
  have h3 := Int.mul_le_mul_of_nonneg_left hb h1
  omega

/-- The digits of a number, the last place first. -/
def revD (b n : Int) : List Int := if h : 2 ≤ b ∧ b ≤ n then n % b :: revD b (n / b) else [n]
termination_by n.toNat
decreasing_by have := div_lt b n h.1 h.2; omega

/-- The digits of a number, the first place first. -/
def dgs (b n : Int) : List Int := (revD b n).reverse

/-- What is left of them: none for 0. -/
def lft (b m : Int) : List Int := if m = 0 then [] else revD b m

theorem revD_small (b n : Int) (h : ¬ b ≤ n) : revD b n = [n] := by
  rw [revD]
  simp [h]

theorem revD_big (b n : Int) (hb : 2 ≤ b) (h : b ≤ n) : revD b n = n % b :: revD b (n / b) := by
  rw [revD]
  simp [h, hb]

theorem revD_step (b n : Int) (hb : 2 ≤ b) (h0 : 0 ≤ n) : revD b n = n % b :: lft b (n / b) := by
  by_cases h : b ≤ n
  · have := div_pos b n hb h
    rw [revD_big b n hb h, lft, if_neg (by omega)]
  · rw [revD_small b n h, div_small b n hb h0 (by omega), mod_small b n hb h0 (by omega)]
    rfl

theorem lft_step (b m : Int) (hb : 2 ≤ b) (h0 : 0 < m) : lft b m = m % b :: lft b (m / b) := by
  rw [← revD_step b m hb (by omega), lft, if_neg (by omega)]

theorem revD_zero (b : Int) (hb : 2 ≤ b) : revD b 0 = [0] := revD_small b 0 (by omega)

theorem revD_ne (b n : Int) : revD b n ≠ [] := by
  rw [revD]
  split <;> simp

theorem revD_len (b : Int) (hb : 2 ≤ b) : ∀ (k : Nat) (n : Int), 0 ≤ n → n < 2 ^ (k + 1) → (revD b n).length ≤ k + 1 := by
  intro k
  induction k with
  | zero =>
    intro n h0 h1
    rw [revD_small b n (by simp at h1; omega)]
    simp
  | succ k ih =>
    intro n h0 h1
    by_cases h : b ≤ n
    · have h2 := div_half b n hb h0
      rw [revD_big b n hb h]
      have := ih (n / b) h2.1 (by rw [Int.pow_succ] at h1; omega)
      simpa using this
    · rw [revD_small b n h]
      simp

theorem revD_len40 (b n : Int) (hb : 2 ≤ b) (h0 : 0 ≤ n) (h1 : n ≤ 1000000000000) : (revD b n).length ≤ 40 :=
  revD_len b hb 39 n h0 (by have : (2:Int) ^ (39 + 1) = 1099511627776 := by decide
                            omega)

theorem revD_len41 (b n : Int) (hb : 2 ≤ b) (h0 : 0 ≤ n) (h1 : n ≤ 1000000000001) : (revD b n).length ≤ 40 :=
  revD_len b hb 39 n h0 (by have : (2:Int) ^ (39 + 1) = 1099511627776 := by decide
                            omega)

theorem revD_all (b : Int) (hb : 2 ≤ b) : ∀ (k : Nat) (n : Int), n.toNat ≤ k → 0 ≤ n → ∀ x ∈ revD b n, 0 ≤ x ∧ x ≤ b - 1 := by
  intro k
  induction k with
  | zero =>
    intro n hk h0 x hx
    rw [revD_small b n (by omega)] at hx
    simp at hx
    omega
  | succ k ih =>
    intro n hk h0 x hx
    by_cases h : b ≤ n
    · have h2 := div_lt b n hb h
      have h3 := mod_bd b n hb
      rw [revD_big b n hb h] at hx
      rcases List.mem_cons.1 hx with rfl | hx
      · omega
      · exact ih (n / b) (by omega) h2.1 x hx
    · rw [revD_small b n h] at hx
      simp at hx
      omega

theorem dgs_len (b n : Int) : (dgs b n).length = (revD b n).length := by simp [dgs]
theorem dgs_len40 (b n : Int) (hb : 2 ≤ b) (h0 : 0 ≤ n) (h1 : n ≤ 1000000000000) : (dgs b n).length ≤ 40 := by
  rw [dgs_len]; exact revD_len40 b n hb h0 h1
theorem dgs_all (b n : Int) (hb : 2 ≤ b) (h0 : 0 ≤ n) : ∀ x ∈ dgs b n, 0 ≤ x ∧ x ≤ b - 1 := by
  intro x hx
  exact revD_all b hb n.toNat n (Nat.le_refl _) h0 x (by simpa [dgs] using hx)
theorem dgs_ne (b n : Int) : dgs b n ≠ [] := by
  have := revD_ne b n
  simpa [dgs] using this
theorem dgs_pos (b n : Int) : 1 ≤ (dgs b n).length := by
  have := dgs_ne b n
  cases h : dgs b n with
  | nil => exact absurd h this
  | cons a t => simp

end Go.Proofs.YtlbjeiaihenjkaaGreatDoor

/- from M: Functions that make a slice: the copy of an argument; digits.  -/
namespace Go.Proofs.YtlbjeiaihenjkaaGreatDoor
open Go.RowKit
set_option linter.unusedVariables false
set_option linter.unusedSimpArgs false

theorem dgOf_any (n b : Int) (w : World) (h0 : 0 ≤ n) (h1 : n ≤ 1000000000000) (hb : 2 ≤ b) (hb' : b ≤ 16) :
    Calls Tryz.prog 98 #[.int .i64 n, .int .i64 b] w fun e w' => ∃ u, e = .returned u ∧ Rd w' w.heap.size u (dgs b n) ∧ Below w.heap.size w w' := by
  by_cases hz : n = 0
  · subst hz
    have hd := Lib.hid (show dgs b 0 = [0] by rw [dgs, revD_zero b hb]; rfl)
    go_enter Tryz.func98, Tryz.ntmps98
    go_wp2
    go_ret
    exact ⟨_, rfl, by rw [hd.out]; exact Rd.lit _ _, (Below.refl _ _).alloc (Nat.le_refl _) _⟩
  · have hnz := beq_no hz
    have hl := Lib.hid (revD_len40 b n hb h0 h1)
    have hn : 0 < n := by omega
    have hst := Lib.hid (show (lft b n).reverse ++ [] = dgs b n by rw [lft, if_neg hz, List.append_nil, dgs])
    clear hz
    go_enter Tryz.func98, Tryz.ntmps98
    go_wp2
    go_loopw [0, 5] (fun c o wr => ∃ (m : Int) (out : List Int), 0 ≤ m ∧ m ≤ 1000000000000 ∧ c = .int .i64 m ∧ Rd wr w.heap.size o out ∧ Below w.heap.size w wr ∧ (lft b m).reverse ++ out = dgs b n) (fun c _ _ => (intOf c).toNat)
    case atStart => exact ⟨n, [], by omega, by omega, rfl, Rd.nil _ _, Below.refl _ _, hst.out⟩
    case round =>
      obtain ⟨m, out, m0, m1, rfl, hr, hbl, heq⟩ := hrel
      have HR := Lib.hid hr
      have HB := Lib.hid hbl
      have HE := Lib.hid heq
      clear hr hbl heq
      have hol : out.length ≤ 40 := by
        have h2 := congrArg List.length HE.out
        have h3 := hl.out
        rw [dgs_len] at h2
        simp at h2
        omega
      by_cases hm : 0 < m
      · have hdv := div_half b m hb m0
        have hdl := Int.ediv_lt_of_lt_mul (a := m) (b := m) (c := b) (by omega) (by have := Int.mul_le_mul_of_nonneg_left hb (show (0:Int) ≤ m by omega); omega)
        have hmd := mod_bd b m hb
        have hls := Lib.hid (lft_step b m hb hm)
        have hsz := HB.out.size
        go_wp2_with (at_builtin; refine wpList_appR rfl _ _ rfl w.heap.size w.heap.size _ _ [m % b] out rfl rfl (Rd.litB _ _ _ (by omega)) (HR.out.alloc _) (by simp; omega) (by simp; omega) ?_; intro v1 w1 hr1 hg1 hb1)
        have HR1 := Lib.hid hr1
        have HB1 := Lib.hid (((HB.out.alloc (by omega) _).trans hb1))
        clear hr1 hg1 hb1
        go_wp2
        go_roundw
        case rel => exact ⟨m / b, m % b :: out, by omega, by omega, by go_num, HR1.out, HB1.out, by rw [← HE.out, hls.out]; simp⟩
        case measure => simp [intOf]; omega
      · obtain rfl : m = 0 := by omega
        go_wp2
        go_ret
        exact ⟨_, rfl, by rw [← HE.out]; exact HR.out, HB.out⟩

end Go.Proofs.YtlbjeiaihenjkaaGreatDoor

/- from V: slices.Reverse; the program's digits.  -/
namespace Go.Proofs.YtlbjeiaihenjkaaGreatDoor
open Go.RowKit
set_option linter.unusedVariables false
set_option linter.unusedSimpArgs false

/-- A list whose first and last k elements have been exchanged. -/
def RevK (xs ys : List Int) (k : Nat) : Prop := ys.length = xs.length ∧ ∀ t, t < xs.length → ys[t]? = if t < k ∨ xs.length - k ≤ t then xs[xs.length - 1 - t]? else xs[t]?

theorem RevK.zero (xs : List Int) : RevK xs xs 0 := ⟨rfl, fun t ht => by rw [if_neg (by omega)]⟩

theorem RevK.done {xs ys : List Int} {k : Nat} (h : RevK xs ys k) (hk : xs.length ≤ 2 * k + 1) : ys = xs.reverse := by
  apply List.ext_getElem?
  intro t
  by_cases ht : t < xs.length
  · rw [h.2 t ht, List.getElem?_reverse ht]
    split
    · rfl
    · rw [show xs.length - 1 - t = t by omega]
  · rw [List.getElem?_eq_none (by rw [h.1]; omega), List.getElem?_eq_none (by simp; omega)]

theorem RevK.step {xs ys : List Int} {k : Nat} (h : RevK xs ys k) (hk : 2 * k + 1 < xs.length) (p q : Int) (hp : ys[k]? = some p) (hq : ys[xs.length - 1 - k]? = some q) :
    RevK xs ((ys.set k q).set (xs.length - 1 - k) p) (k + 1) := by
  refine ⟨by simp [h.1], fun t ht => ?_⟩
  have h1 := h.2 k (by omega)
  have h2 := h.2 (xs.length - 1 - k) (by omega)
  rw [if_neg (by omega)] at h1 h2
  rw [hp] at h1
  rw [hq] at h2
  rw [List.getElem?_set]
  by_cases e1 : xs.length - 1 - k = t
  · rw [if_pos e1, if_pos (by simp [h.1]; omega), if_pos (by omega), show xs.length - 1 - t = k by omega]
    exact h1
  · rw [if_neg e1, List.getElem?_set]
    by_cases e2 : k = t
    · rw [if_pos e2, if_pos (by rw [h.1]; omega), if_pos (by omega), ← e2]
      exact h2
    · rw [if_neg e2, h.2 t ht]
      by_cases e3 : t < k ∨ xs.length - k ≤ t
      · rw [if_pos e3, if_pos (by omega)]
      · rw [if_neg e3, if_neg (by omega)]

theorem reverse_any (g n cap : Nat) (xs : List Int) (B : Nat) (w : World) (h : Rd w B (.slice (some ⟨g, 0, none⟩) n cap) xs) (hl : xs.length ≤ 2000000) :
    Calls Tryz.prog 136 #[.slice (some ⟨g, 0, none⟩) n cap] w fun e w' => e = .returned (.tuple #[]) ∧ Rd w' B (.slice (some ⟨g, 0, none⟩) n cap) xs.reverse ∧ w.grownBy w' (some g) := by
  obtain ⟨rfl, hBg, hgw, _⟩ := h.at
  have H := Lib.hid h
  clear h
  by_cases h0 : xs.length = 0
  · have hx : xs = [] := List.eq_nil_of_length_eq_zero h0
    subst hx
    clear h0
    go_enter Tryz.func136, Tryz.ntmps136
    go_wp2
    refine wp_loop_rounds 1 ?_
    rw [rounds_succ]
    go_wp2
    go_end0
    exact ⟨rfl, H.out, World.grownBy.refl _ _⟩
  · have hpos : 1 ≤ xs.length := by omega
    clear h0
    go_enter Tryz.func136, Tryz.ntmps136
    go_wp2
    go_loopw [2, 3] (fun i j wr => ∃ (k jn : Nat) (ys : List Int), i = .int .i64 k ∧ j = .int .i64 jn ∧ jn + k + 1 ≤ xs.length ∧ xs.length ≤ jn + k + 1 ∧ k ≤ jn + 1 ∧ RevK xs ys k ∧ Rd wr B (.slice (some ⟨g, 0, none⟩) xs.length cap) ys ∧ w.grownBy wr (some g)) (fun i j _ => (intOf j + 1 - intOf i).toNat)
    case atStart => exact ⟨0, xs.length - 1, xs, rfl, by rw [show ((xs.length - 1 : Nat) : Int) = (xs.length : Int) - 1 by omega], by omega, by omega, by omega, RevK.zero xs, H.out, World.grownBy.refl _ _⟩
    case round =>
      obtain ⟨k, jn, ys, rfl, rfl, e1, e2, hkj, hrk, hr, hg⟩ := hrel
      have HK := Lib.hid hrk
      have HR := Lib.hid hr
      have HG := Lib.hid hg
      clear hrk hr hg
      by_cases hlt : k < jn
      · have hyl : k < ys.length ∧ jn < ys.length := by have := HK.out.1; omega
        obtain ⟨p, hp⟩ : ∃ p, p = ys[k]'hyl.1 := ⟨_, rfl⟩
        obtain ⟨q, hq⟩ : ∃ q, q = ys[jn]'hyl.2 := ⟨_, rfl⟩
        have ck : wr.cell? ⟨g, k, none⟩ = some (.int .i64 p) := by rw [hp]; exact HR.out.at.2.2.2.2.1 k hyl.1
        have cj : wr.cell? ⟨g, jn, none⟩ = some (.int .i64 q) := by rw [hq]; exact HR.out.at.2.2.2.2.1 jn hyl.2
        have fk : wr.frozen? ⟨g, k, none⟩ = false := HR.out.at.2.2.2.2.2 k
        have fj : wr.frozen? ⟨g, jn, none⟩ = false := HR.out.at.2.2.2.2.2 jn
        have HP := Lib.hid hp
        have HQ := Lib.hid hq
        clear hp hq
        have hne : k ≠ jn := by omega
        go_wp2
        go_region
        go_wp2
        go_roundw
        case rel =>
          have h1 := HR.out.set k q
          have h2 := h1.1.set jn p
          have hjn : xs.length - 1 - k = jn := by omega
          have hst := HK.out.step (k := k) (by omega) p q (by rw [HP.out]; simp) (by rw [hjn, HQ.out]; simp)
          rw [hjn] at hst
          exact ⟨k + 1, jn - 1, _, by go_num, by rw [show ((jn - 1 : Nat) : Int) = (jn : Int) - 1 by omega], by omega, by omega, by omega, hst, h2.1.drew, grown_drew (grown_trans (grown_trans HG.out h1.2) h2.2)⟩
        case measure => simp [intOf]; omega
      · go_wp2
        go_end0
        exact ⟨rfl, by rw [← HK.out.done (by omega)]; exact HR.out, HG.out⟩


theorem digits_any (n b : Int) (w : World) (h0 : 0 ≤ n) (h1 : n ≤ 1000000000001) (hb : 2 ≤ b) (hb' : b ≤ 16) :
    Calls Tryz.prog 77 #[.int .i64 b, .int .i64 n] w fun e w' => ∃ g cap, e = .returned (.slice (some ⟨g, 0, none⟩) (dgs b n).length cap) ∧ Rd w' w.heap.size (.slice (some ⟨g, 0, none⟩) (dgs b n).length cap) (dgs b n) ∧ Below w.heap.size w w' := by
  have hl := Lib.hid (revD_len41 b n hb h0 h1)
  have hst := Lib.hid (show [n % b] ++ lft b (n / b) = revD b n by rw [revD_step b n hb h0]; rfl)
  have hmd0 := mod_bd b n hb
  go_enter Tryz.func77, Tryz.ntmps77
  go_wp2
  go_loopw [1, 5] (fun c o wr => ∃ (m : Int) (out : List Int), 0 ≤ m ∧ m ≤ 1000000000001 ∧ c = .int .i64 m ∧ Rd wr w.heap.size o out ∧ Below w.heap.size w wr ∧ out ++ lft b (m / b) = revD b n ∧ 1 ≤ out.length) (fun c _ _ => (intOf c).toNat)
  case atStart => exact ⟨n, [n % b], by omega, by omega, rfl, Rd.litB _ _ _ (Nat.le_refl _), (Below.refl _ _).alloc (Nat.le_refl _) _, hst.out, by simp⟩
  case round =>
    obtain ⟨m, out, m0, m1, rfl, hr, hbl, heq, hop⟩ := hrel
    have HR := Lib.hid hr
    have HB := Lib.hid hbl
    have HE := Lib.hid heq
    clear hr hbl heq
    have hol : out.length ≤ 40 := by
      have h2 := congrArg List.length HE.out
      have h3 := hl.out
      simp at h2
      omega
    by_cases hm : b ≤ m
    · have hdv := div_half b m hb m0
      have hdl := div_lt b m hb hm
      have hdp := div_pos b m hb hm
      have hmd := mod_bd b (m / b) hb
      have hls := Lib.hid (lft_step b (m / b) hb (by omega))
      have hsz := HB.out.size
      go_wp2_with (at_builtin; refine wpList_appR rfl _ _ rfl w.heap.size w.heap.size _ _ out [m / b % b] rfl rfl (HR.out.alloc _) (Rd.litB _ _ _ (by omega)) (by simp; omega) (by simp; omega) ?_; intro v1 w1 hr1 hg1 hb1)
      have HR1 := Lib.hid hr1
      have HB1 := Lib.hid (((HB.out.alloc (by omega) _).trans hb1))
      clear hr1 hg1 hb1
      go_wp2
      go_roundw
      case rel => exact ⟨m / b, out ++ [m / b % b], by omega, by omega, by go_num, HR1.out, HB1.out, by rw [← HE.out, hls.out]; simp, by simp⟩
      case measure => simp [intOf]; omega
    · have hz := Lib.hid (div_small b m hb m0 (by omega))
      rcases HR.out.cases with ⟨_, rfl⟩ | ⟨g, cap, rfl, hg1, hg2, _, _, _, _⟩
      · simp at hop
      · have hout := Lib.hid (show out = revD b n by rw [← HE.out, hz.out]; simp [lft])
        have hsz := HB.out.size
        go_wp2_with (go_at_call 136; refine (reverse_any _ _ _ _ _ _ HR.out (by omega)).mono ?_; rintro e w1 ⟨rfl, hr1, hgr1⟩)
        have HR1 := Lib.hid hr1
        have HG1 := Lib.hid hgr1
        clear hr1 hgr1
        go_ret
        have hlen : (dgs b n).length = out.length := by rw [dgs_len, hout.out]
        exact ⟨g, cap, by rw [hlen]; rfl, by rw [hlen, dgs, ← hout.out]; exact HR1.out, HB.out.trans (grown_below HG1.out (by omega) hg1)⟩

end Go.Proofs.YtlbjeiaihenjkaaGreatDoor
