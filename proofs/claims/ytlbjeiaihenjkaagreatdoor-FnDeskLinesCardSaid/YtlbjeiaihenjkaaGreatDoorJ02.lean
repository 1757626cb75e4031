/-
  Joint text of R, A, R2, T, C: what each proves stands ahead of it.
-/
import Derived.Test.YtlbjeiaihenjkaaGreatDoorJ00
import Derived.Test.YtlbjeiaihenjkaaGreatDoorRows
import Derived.WalkKit
import Derived.BigQuiet
import Derived.Lib.Hide
import Derived.Deep.QuietTactic
import Derived.OpenShut
import Derived.ProofKit
import Derived.Test.YtlbjeiaihenjkaaGreatDoorJ01
/- from R: Functions that only read a slice of integers.  -/
namespace Go.Proofs.YtlbjeiaihenjkaaGreatDoor
open Go.RowKit
set_option linter.unusedVariables false
set_option linter.unusedSimpArgs false

theorem dgSum_any (v : Value) (xs : List Int) (B : Nat) (w : World) (h : Rd w B v xs) (hb : ∀ x ∈ xs, 0 ≤ x ∧ x ≤ 1000000) (hl : xs.length ≤ 1000000) :
    Calls Tryz.prog 99 #[v] w fun e w' => e = .returned (.int .i64 xs.sum) ∧ w = w' := by
  rcases h.cases with ⟨rfl, rfl⟩ | ⟨g, cap, rfl, _, _, _, _, hc, _⟩
  · go_enter Tryz.func99, Tryz.ntmps99
    go_wp2
    refine wp_loop_rounds 1 ?_
    rw [rounds_succ]
    go_wp2
    go_ret
    exact ⟨rfl, rfl⟩
  · have hc' := Lib.hid hc
    have hb' := Lib.hid hb
    clear hc hb h
    go_enter Tryz.func99, Tryz.ntmps99
    go_wp2
    go_loop [3, 8] (fun s i => ∃ k : Nat, k ≤ xs.length ∧ i = .int .i64 k ∧ s = .int .i64 (xs.take k).sum) (fun _ i => xs.length - (intOf i).toNat)
    case atStart => exact ⟨0, Nat.zero_le _, rfl, rfl⟩
    case round =>
      obtain ⟨k, hk, rfl, rfl⟩ := hrel
      obtain ⟨b1, b2⟩ := sum_take_bd xs 1000000 k hb'.out (by omega) hk
      by_cases hlt : k < xs.length
      · obtain ⟨x1, x2⟩ := hb'.out _ (List.getElem_mem hlt)
        have hcell := hc'.out k hlt
        have hs := Lib.hid (sum_snoc xs k hlt)
        go_wp2
        go_round
        case rel => exact ⟨k + 1, by omega, by go_num, by rw [hs.out]⟩
        case measure => simp [intOf]; omega
      · obtain rfl : k = xs.length := by omega
        go_wp2
        go_ret
        exact ⟨ret_int (by simp), rfl⟩

theorem sumOf_any (v : Value) (xs : List Int) (B : Nat) (w : World) (h : Rd w B v xs) (hb : ∀ x ∈ xs, 0 ≤ x ∧ x ≤ 1000000) (hl : xs.length ≤ 1000000) :
    Calls Tryz.prog 224 #[v] w fun e w' => e = .returned (.int .i64 xs.sum) ∧ w = w' := by
  rcases h.cases with ⟨rfl, rfl⟩ | ⟨g, cap, rfl, _, _, _, _, hc, _⟩
  · go_enter Tryz.func224, Tryz.ntmps224
    go_wp2
    refine wp_loop_rounds 1 ?_
    rw [rounds_succ]
    go_wp2
    go_ret
    exact ⟨rfl, rfl⟩
  · have hc' := Lib.hid hc
    have hb' := Lib.hid hb
    clear hc hb h
    go_enter Tryz.func224, Tryz.ntmps224
    go_wp2
    go_loop [3, 8] (fun s i => ∃ k : Nat, k ≤ xs.length ∧ i = .int .i64 k ∧ s = .int .i64 (xs.take k).sum) (fun _ i => xs.length - (intOf i).toNat)
    case atStart => exact ⟨0, Nat.zero_le _, rfl, rfl⟩
    case round =>
      obtain ⟨k, hk, rfl, rfl⟩ := hrel
      obtain ⟨b1, b2⟩ := sum_take_bd xs 1000000 k hb'.out (by omega) hk
      by_cases hlt : k < xs.length
      · obtain ⟨x1, x2⟩ := hb'.out _ (List.getElem_mem hlt)
        have hcell := hc'.out k hlt
        have hs := Lib.hid (sum_snoc xs k hlt)
        go_wp2
        go_round
        case rel => exact ⟨k + 1, by omega, by go_num, by rw [hs.out]⟩
        case measure => simp [intOf]; omega
      · obtain rfl : k = xs.length := by omega
        go_wp2
        go_ret
        exact ⟨ret_int (by simp), rfl⟩


theorem dgFrom_any (v : Value) (xs : List Int) (b : Int) (B : Nat) (w : World) (h : Rd w B v xs) (hd : ∀ x ∈ xs, 0 ≤ x ∧ x ≤ 1000000) (hb : 2 ≤ b) (hb' : b ≤ 16) (hl : xs.length ≤ 1000000) :
    Calls Tryz.prog 142 #[v, .int .i64 b] w fun e w' => e = .returned (optRes (numF b xs 0)) ∧ w = w' := by
  rcases h.cases with ⟨rfl, rfl⟩ | ⟨g, cap, rfl, _, _, _, _, hc, _⟩
  · go_enter Tryz.func142, Tryz.ntmps142
    go_wp2
    refine wp_loop_rounds 1 ?_
    rw [rounds_succ]
    go_wp2
    go_ret2
    exact ⟨rfl, rfl⟩
  · have hc' := Lib.hid hc
    have hd' := Lib.hid hd
    clear hc h hd
    go_enter Tryz.func142, Tryz.ntmps142
    go_wp2
    go_loop [6, 11] (fun s i => ∃ (k : Nat) (n : Int), k ≤ xs.length ∧ i = .int .i64 k ∧ s = .int .i64 n ∧ 0 ≤ n ∧ n ≤ 1000000000000 ∧ numF b (xs.drop k) n = numF b xs 0) (fun _ i => xs.length - (intOf i).toNat)
    case atStart => exact ⟨0, 0, Nat.zero_le _, rfl, rfl, by omega, by omega, rfl⟩
    case round =>
      obtain ⟨k, n, hk, rfl, rfl, n0, n1, hp⟩ := hrel
      have hp' := Lib.hid hp
      clear hp
      obtain ⟨m0, m1⟩ := mul_le16 n b n0 n1 hb hb'
      by_cases hlt : k < xs.length
      · have hcell := hc'.out k hlt
        obtain ⟨x1, x2⟩ := hd'.out _ (List.getElem_mem hlt)
        have hs := Lib.hid (numF_step b xs k n hlt)
        by_cases hgt : 1000000000000 < n * b + xs[k]
        · go_wp2
          go_ret2
          refine ⟨?_, rfl⟩
          rw [← hp'.out, hs.out, if_pos hgt]
          rfl
        · go_wp2
          go_round
          case rel => exact ⟨k + 1, n * b + xs[k], by omega, by go_num, by first | rfl | go_num, by omega, by omega, by rw [← hp'.out, hs.out, if_neg hgt]⟩
          case measure => simp [intOf]; omega
      · obtain rfl : k = xs.length := by omega
        go_wp2
        go_ret2
        refine ⟨?_, rfl⟩
        rw [← hp'.out]
        simp [numF, optRes]

theorem number_any (v : Value) (xs : List Int) (b : Int) (B : Nat) (w : World) (h : Rd w B v xs) (hd : ∀ x ∈ xs, 0 ≤ x ∧ x ≤ 1000000) (hb : 2 ≤ b) (hb' : b ≤ 16) (hl : xs.length ≤ 1000000) :
    Calls Tryz.prog 81 #[.int .i64 b, v] w fun e w' => e = .returned (optRes (numF b xs 0)) ∧ w = w' := by
  rcases h.cases with ⟨rfl, rfl⟩ | ⟨g, cap, rfl, _, _, _, _, hc, _⟩
  · go_enter Tryz.func81, Tryz.ntmps81
    go_wp2
    refine wp_loop_rounds 1 ?_
    rw [rounds_succ]
    go_wp2
    go_ret2
    exact ⟨rfl, rfl⟩
  · have hc' := Lib.hid hc
    have hd' := Lib.hid hd
    clear hc h hd
    go_enter Tryz.func81, Tryz.ntmps81
    go_wp2
    go_loop [6, 11] (fun s i => ∃ (k : Nat) (n : Int), k ≤ xs.length ∧ i = .int .i64 k ∧ s = .int .i64 n ∧ 0 ≤ n ∧ n ≤ 1000000000000 ∧ numF b (xs.drop k) n = numF b xs 0) (fun _ i => xs.length - (intOf i).toNat)
    case atStart => exact ⟨0, 0, Nat.zero_le _, rfl, rfl, by omega, by omega, rfl⟩
    case round =>
      obtain ⟨k, n, hk, rfl, rfl, n0, n1, hp⟩ := hrel
      have hp' := Lib.hid hp
      clear hp
      obtain ⟨m0, m1⟩ := mul_le16 n b n0 n1 hb hb'
      by_cases hlt : k < xs.length
      · have hcell := hc'.out k hlt
        obtain ⟨x1, x2⟩ := hd'.out _ (List.getElem_mem hlt)
        have hs := Lib.hid (numF_step b xs k n hlt)
        by_cases hgt : 1000000000000 < n * b + xs[k]
        · go_wp2
          go_ret2
          refine ⟨?_, rfl⟩
          rw [← hp'.out, hs.out, if_pos hgt]
          rfl
        · go_wp2
          go_round
          case rel => exact ⟨k + 1, n * b + xs[k], by omega, by go_num, by first | rfl | go_num, by omega, by omega, by rw [← hp'.out, hs.out, if_neg hgt]⟩
          case measure => simp [intOf]; omega
      · obtain rfl : k = xs.length := by omega
        go_wp2
        go_ret2
        refine ⟨?_, rfl⟩
        rw [← hp'.out]
        simp [numF, optRes]

end Go.Proofs.YtlbjeiaihenjkaaGreatDoor

/- from A: Small contracts of stage 1: ranges, bases, numbers.  -/
namespace Go.Proofs.YtlbjeiaihenjkaaGreatDoor
open Go.RowKit

theorem l1In_yes (n lo hi : Int) (w : World) (h1 : lo ≤ n) (h2 : n ≤ hi) :
    Calls Tryz.prog 140 #[.int .i64 n, .int .i64 lo, .int .i64 hi] w fun e w' => e = .returned (.bool true) ∧ w = w' := by
  go_enter Tryz.func140, Tryz.ntmps140
  go_wp2
  go_ret
  exact ⟨by simp [*], rfl⟩

theorem l1In_no (n lo hi : Int) (w : World) (h : n < lo ∨ hi < n) :
    Calls Tryz.prog 140 #[.int .i64 n, .int .i64 lo, .int .i64 hi] w fun e w' => e = .returned (.bool false) ∧ w = w' := by
  by_cases h1 : lo ≤ n
  · have h2 : hi < n := by omega
    clear h
    go_enter Tryz.func140, Tryz.ntmps140
    go_wp2
    go_ret
    exact ⟨by simp; try omega, rfl⟩
  · have h2 : n < lo := by omega
    clear h h1
    go_enter Tryz.func140, Tryz.ntmps140
    go_wp2
    go_ret
    exact ⟨by simp; try omega, rfl⟩

end Go.Proofs.YtlbjeiaihenjkaaGreatDoor

/- from R2: Functions that only read a slice of integers: tests.  -/
namespace Go.Proofs.YtlbjeiaihenjkaaGreatDoor
open Go.RowKit
set_option linter.unusedVariables false
set_option linter.unusedSimpArgs false

theorem l1All_any (v : Value) (xs : List Int) (lo hi : Int) (B : Nat) (w : World) (h : Rd w B v xs) (hl : xs.length ≤ 2000000) :
    Calls Tryz.prog 204 #[v, .int .i64 lo, .int .i64 hi] w fun e w' => e = .returned (.bool (allIn lo hi xs)) ∧ w = w' := by
  rcases h.cases with ⟨rfl, rfl⟩ | ⟨g, cap, rfl, _, _, _, _, hc, _⟩
  · go_enter Tryz.func204, Tryz.ntmps204
    go_wp2
    refine wp_loop_rounds 1 ?_
    rw [rounds_succ]
    go_wp2
    go_ret
    exact ⟨rfl, rfl⟩
  · have hc' := Lib.hid hc
    clear hc h
    go_enter Tryz.func204, Tryz.ntmps204
    go_wp2
    go_loop [11] (fun i => ∃ k : Nat, k ≤ xs.length ∧ i = .int .i64 k ∧ allIn lo hi (xs.take k) = true) (fun i => xs.length - (intOf i).toNat)
    case atStart => exact ⟨0, Nat.zero_le _, rfl, rfl⟩
    case round =>
      obtain ⟨k, hk, rfl, hp⟩ := hrel
      have hp' := Lib.hid hp
      clear hp
      by_cases hlt : k < xs.length
      · have hcell := hc'.out k hlt
        by_cases hin : lo ≤ xs[k] ∧ xs[k] ≤ hi
        · obtain ⟨i1, i2⟩ := hin
          go_wp2_with (go_at_call 140; refine (l1In_yes _ _ _ _ (by assumption) (by assumption)).mono ?_; rintro e w' ⟨rfl, rfl⟩)
          go_round
          case rel => exact ⟨k + 1, by omega, by go_num, allIn_take lo hi xs k hlt hp'.out i1 i2⟩
          case measure => simp [intOf]; omega
        · have hin' : xs[k] < lo ∨ hi < xs[k] := by omega
          have H := Lib.hid hin'
          clear hin hin'
          go_wp2_with (go_at_call 140; refine (l1In_no _ _ _ _ H.out).mono ?_; rintro e w' ⟨rfl, rfl⟩)
          go_ret
          exact ⟨ret_bool (allIn_bad lo hi xs k hlt H.out).symm, rfl⟩
      · obtain rfl : k = xs.length := by omega
        go_wp2
        go_ret
        exact ⟨ret_bool (by have := hp'.out; rw [List.take_of_length_le (Nat.le_refl _)] at this; exact this.symm), rfl⟩

theorem areD_nil (b : Int) : areD b [] = false := rfl
theorem areD_head (b : Int) (xs : List Int) (h1 : 1 < xs.length) (h0 : xs[0] = 0) : areD b xs = false := by
  cases xs with
  | nil => simp at h1
  | cons a t => simp at h0 h1; subst h0; cases t with
    | nil => simp at h1
    | cons c u => simp [areD]
theorem areD_ok (b : Int) (xs : List Int) (h0 : 0 < xs.length) (h : xs.length = 1 ∨ xs[0] ≠ 0) : areD b xs = allIn 0 (b - 1) xs := by
  cases xs with
  | nil => simp at h0
  | cons a t =>
    simp only [areD, List.headD_cons]
    simp at h
    rcases h with h | h <;> simp [h]

theorem areDigits_any (v : Value) (xs : List Int) (b : Int) (B : Nat) (w : World) (h : Rd w B v xs) (hb : 2 ≤ b) (hb' : b ≤ 16) (hl : xs.length ≤ 2000000) :
    Calls Tryz.prog 261 #[.int .i64 b, v] w fun e w' => e = .returned (.bool (areD b xs)) ∧ w = w' := by
  rcases h.cases with ⟨rfl, rfl⟩ | ⟨g, cap, rfl, _, _, _, _, hc, _⟩
  · go_enter Tryz.func261, Tryz.ntmps261
    go_wp2
    go_ret
    exact ⟨rfl, rfl⟩
  · have hc' := Lib.hid hc
    clear hc h
    by_cases h0 : xs.length = 0
    · have hx : xs = [] := List.eq_nil_of_length_eq_zero h0
      subst hx
      go_enter Tryz.func261, Tryz.ntmps261
      go_wp2
      go_ret
      exact ⟨rfl, rfl⟩
    · have h0' : 0 < xs.length := by omega
      have hc0 := hc'.out 0 h0'
      have hl0 : ((xs.length : Int) == 0) = false := beq_no (by omega)
      by_cases hbad : 1 < xs.length ∧ xs[0] = 0
      · obtain ⟨h1, hz⟩ := hbad
        have hf := Lib.hid (areD_head b xs h1 hz)
        have hz' : (xs[0] == 0) = true := beq_yes hz
        clear hz h0
        go_enter Tryz.func261, Tryz.ntmps261
        go_wp2
        go_ret
        exact ⟨ret_bool hf.out.symm, rfl⟩
      · have hok := Lib.hid (areD_ok b xs h0' (by omega))
        by_cases h1 : 1 < xs.length
        all_goals
          have HZ : 1 < xs.length → (xs[0] == 0) = false := fun h => beq_no (by omega)
          have hz := HZ
          first | replace hz := HZ h1 | clear hz
          clear HZ hbad h0
          go_enter Tryz.func261, Tryz.ntmps261
          go_wp2
          go_loop [23] (fun i => ∃ k : Nat, k ≤ xs.length ∧ i = .int .i64 k ∧ allIn 0 (b - 1) (xs.take k) = true) (fun i => xs.length - (intOf i).toNat)
          case atStart => exact ⟨0, Nat.zero_le _, rfl, rfl⟩
          case round =>
            obtain ⟨k, hk, rfl, hp⟩ := hrel
            have hp' := Lib.hid hp
            clear hp
            by_cases hlt : k < xs.length
            · have hcell := hc'.out k hlt
              by_cases hin : 0 ≤ xs[k] ∧ xs[k] ≤ b - 1
              · obtain ⟨i1, i2⟩ := hin
                have i2' : xs[k] < b := by omega
                go_wp2
                go_round
                case rel => exact ⟨k + 1, by omega, by go_num, allIn_take 0 (b - 1) xs k hlt hp'.out i1 i2⟩
                case measure => simp [intOf]; omega
              · have H := Lib.hid (show xs[k] < 0 ∨ b - 1 < xs[k] by omega)
                have hf := Lib.hid (allIn_bad 0 (b - 1) xs k hlt H.out)
                by_cases hneg : xs[k] < 0
                all_goals
                  have hge : ¬ xs[k] < 0 → b ≤ xs[k] := fun h => by omega
                  first | replace hge := hge hneg | clear hge
                  clear hin
                  go_wp2
                  go_ret
                  exact ⟨ret_bool (by rw [hok.out, hf.out]), rfl⟩
            · obtain rfl : k = xs.length := by omega
              go_wp2
              go_ret
              exact ⟨ret_bool (by have := hp'.out; rw [List.take_of_length_le (Nat.le_refl _)] at this; rw [hok.out, this]), rfl⟩

/-- The two results of a list of digits: its number, if they are digits and it is not too great. -/
def numD (b : Int) (xs : List Int) : Option Int := if areD b xs = true then numF b xs 0 else none

theorem areD_all {b : Int} {xs : List Int} (h : areD b xs = true) : ∀ x ∈ xs, 0 ≤ x ∧ x ≤ b - 1 := by
  simp only [areD, Bool.and_eq_true] at h
  exact (allIn_iff _ _ _).1 h.2

theorem numberOf_any (v : Value) (xs : List Int) (b : Int) (B : Nat) (w : World) (h : Rd w B v xs) (hb : 2 ≤ b) (hb' : b ≤ 16) (hl : xs.length ≤ 1000000) :
    Calls Tryz.prog 232 #[.int .i64 b, v] w fun e w' => e = .returned (optRes (numD b xs)) ∧ w = w' := by
  have H := Lib.hid h
  clear h
  by_cases ha : areD b xs = true
  · have hall := Lib.hid (areD_all ha)
    have hn := Lib.hid (show numD b xs = numF b xs 0 by simp [numD, ha])
    go_enter Tryz.func232, Tryz.ntmps232
    go_wp2_with (first | (go_at_call 261; refine (areDigits_any _ _ _ _ _ H.out hb hb' (by omega)).mono ?_; rintro e w' ⟨rfl, rfl⟩) | (go_at_call 81; refine (number_any _ _ _ _ _ H.out (fun x hx => by have := hall.out x hx; omega) hb hb' hl).mono ?_; rintro e w' ⟨rfl, rfl⟩))
    go_ret2
    exact ⟨by rw [hn.out]; rfl, rfl⟩
  · have ha' : areD b xs = false := by simpa using ha
    have hn := Lib.hid (show numD b xs = none by simp [numD, ha])
    clear ha
    go_enter Tryz.func232, Tryz.ntmps232
    go_wp2_with (first | (go_at_call 261; refine (areDigits_any _ _ _ _ _ H.out hb hb' (by omega)).mono ?_; rintro e w' ⟨rfl, rfl⟩))
    go_ret2
    exact ⟨by rw [hn.out]; rfl, rfl⟩

end Go.Proofs.YtlbjeiaihenjkaaGreatDoor

/- from T: Who may ask: numbers and bases; the program's tell and find.  -/
namespace Go.Proofs.YtlbjeiaihenjkaaGreatDoor
open Go.RowKit
set_option linter.unusedVariables false
set_option linter.unusedSimpArgs false

def Num (n : Int) : Prop := 0 ≤ n ∧ n ≤ 1000000000000
def Bas (b : Int) : Prop := 2 ≤ b ∧ b ≤ 16
instance (n : Int) : Decidable (Num n) := by unfold Num; infer_instance
instance (b : Int) : Decidable (Bas b) := by unfold Bas; infer_instance

theorem dgNumber_any (n : Int) (w : World) : Calls Tryz.prog 83 #[.int .i64 n] w fun e w' => e = .returned (.bool (decide (Num n))) ∧ w = w' := by
  by_cases h : 0 ≤ n ∧ n ≤ 1000000000000
  · have hd := Lib.hid (show decide (Num n) = true from decide_eq_true (p := Num n) h)
    obtain ⟨h1, h2⟩ := h
    go_enter Tryz.func83, Tryz.ntmps83
    go_wp2_with (go_at_call 140; refine (l1In_yes _ _ _ _ h1 h2).mono ?_; rintro e w' ⟨rfl, rfl⟩)
    go_ret
    exact ⟨ret_bool hd.out.symm, rfl⟩
  · have hd := Lib.hid (show decide (Num n) = false from decide_eq_false (p := Num n) h)
    have H := Lib.hid (show n < 0 ∨ 1000000000000 < n by omega)
    clear h
    go_enter Tryz.func83, Tryz.ntmps83
    go_wp2_with (go_at_call 140; refine (l1In_no _ _ _ _ H.out).mono ?_; rintro e w' ⟨rfl, rfl⟩)
    go_ret
    exact ⟨ret_bool hd.out.symm, rfl⟩

theorem dgBase_any (b : Int) (w : World) : Calls Tryz.prog 84 #[.int .i64 b] w fun e w' => e = .returned (.bool (decide (Bas b))) ∧ w = w' := by
  by_cases h : 2 ≤ b ∧ b ≤ 16
  · have hd := Lib.hid (show decide (Bas b) = true from decide_eq_true (p := Bas b) h)
    obtain ⟨h1, h2⟩ := h
    go_enter Tryz.func84, Tryz.ntmps84
    go_wp2_with (go_at_call 140; refine (l1In_yes _ _ _ _ h1 h2).mono ?_; rintro e w' ⟨rfl, rfl⟩)
    go_ret
    exact ⟨ret_bool hd.out.symm, rfl⟩
  · have hd := Lib.hid (show decide (Bas b) = false from decide_eq_false (p := Bas b) h)
    have H := Lib.hid (show b < 2 ∨ 16 < b by omega)
    clear h
    go_enter Tryz.func84, Tryz.ntmps84
    go_wp2_with (go_at_call 140; refine (l1In_no _ _ _ _ H.out).mono ?_; rintro e w' ⟨rfl, rfl⟩)
    go_ret
    exact ⟨ret_bool hd.out.symm, rfl⟩

theorem isNumber_any (n : Int) (w : World) : Calls Tryz.prog 46 #[.int .i64 n] w fun e w' => e = .returned (.bool (decide (Num n))) ∧ w = w' := by
  by_cases h : 0 ≤ n
  · by_cases h2 : n ≤ 1000000000000
    · have hd := Lib.hid (show decide (Num n) = true from decide_eq_true (p := Num n) ⟨h, h2⟩)
      go_enter Tryz.func46, Tryz.ntmps46
      go_wp2
      go_ret
      exact ⟨ret_bool (by rw [hd.out]; try simp [h2]), rfl⟩
    · have hd := Lib.hid (show decide (Num n) = false from decide_eq_false (p := Num n) (fun hc => by have h3 := hc.1; have h4 := hc.2; omega))
      go_enter Tryz.func46, Tryz.ntmps46
      go_wp2
      go_ret
      exact ⟨ret_bool (by rw [hd.out]; try simp [h2]), rfl⟩
  · have hd := Lib.hid (show decide (Num n) = false from decide_eq_false (p := Num n) (fun hc => by have h3 := hc.1; have h4 := hc.2; omega))
    go_enter Tryz.func46, Tryz.ntmps46
    go_wp2
    go_ret
    exact ⟨ret_bool (by rw [hd.out]; try simp [h]), rfl⟩

theorem isBase_any (n : Int) (w : World) : Calls Tryz.prog 47 #[.int .i64 n] w fun e w' => e = .returned (.bool (decide (Bas n))) ∧ w = w' := by
  by_cases h : 2 ≤ n
  · by_cases h2 : n ≤ 16
    · have hd := Lib.hid (show decide (Bas n) = true from decide_eq_true (p := Bas n) ⟨h, h2⟩)
      go_enter Tryz.func47, Tryz.ntmps47
      go_wp2
      go_ret
      exact ⟨ret_bool (by rw [hd.out]; try simp [h2]), rfl⟩
    · have hd := Lib.hid (show decide (Bas n) = false from decide_eq_false (p := Bas n) (fun hc => by have h3 := hc.1; have h4 := hc.2; omega))
      go_enter Tryz.func47, Tryz.ntmps47
      go_wp2
      go_ret
      exact ⟨ret_bool (by rw [hd.out]; try simp [h2]), rfl⟩
  · have hd := Lib.hid (show decide (Bas n) = false from decide_eq_false (p := Bas n) (fun hc => by have h3 := hc.1; have h4 := hc.2; omega))
    go_enter Tryz.func47, Tryz.ntmps47
    go_wp2
    go_ret
    exact ⟨ret_bool (by rw [hd.out]; try simp [h]), rfl⟩

theorem dgAsked_any (n b : Int) (w : World) : Calls Tryz.prog 53 #[.int .i64 n, .int .i64 b] w fun e w' => e = .returned (.bool (decide (Num n ∧ Bas b))) ∧ w = w' := by
  by_cases h : Num n
  · have hn : decide (Num n) = true := by simpa using h
    have hd := Lib.hid (show decide (Num n ∧ Bas b) = decide (Bas b) by simp [h])
    clear h
    go_enter Tryz.func53, Tryz.ntmps53
    go_wp2_with (first | (go_at_call 83; refine (dgNumber_any _ _).mono ?_; rintro e w' ⟨rfl, rfl⟩) | (go_at_call 84; refine (dgBase_any _ _).mono ?_; rintro e w' ⟨rfl, rfl⟩))
    go_ret
    exact ⟨ret_bool (by rw [hd.out]), rfl⟩
  · have hn : decide (Num n) = false := by simpa using h
    have hd := Lib.hid (show decide (Num n ∧ Bas b) = false by simp [h])
    clear h
    go_enter Tryz.func53, Tryz.ntmps53
    go_wp2_with (first | (go_at_call 83; refine (dgNumber_any _ _).mono ?_; rintro e w' ⟨rfl, rfl⟩) | (go_at_call 84; refine (dgBase_any _ _).mono ?_; rintro e w' ⟨rfl, rfl⟩))
    go_ret
    exact ⟨ret_bool (by rw [hd.out]), rfl⟩

end Go.Proofs.YtlbjeiaihenjkaaGreatDoor

/- from C: The program's questions, one by one.  -/
namespace Go.Proofs.YtlbjeiaihenjkaaGreatDoor
open Go.RowKit
set_option linter.unusedVariables false
set_option linter.unusedSimpArgs false

/-- What a function of a number and a base answers: nothing unless both are valid. -/
def askI (R : Int → Int → Int) (n b : Int) : Option Int := if Num n ∧ Bas b then some (R b n) else none
def askF (R : Int → Int → Option Int) (n b : Int) : Option Int := if Num n ∧ Bas b then R b n else none
def RCountDigits (b n : Int) : Int := (dgs b n).length
def RDigitSum (b n : Int) : Int := (dgs b n).sum
def RDigitProduct (b n : Int) : Int := prodW (dgs b n) 1
def RReverseNumber (b n : Int) : Option Int := numF b (dgs b n).reverse 0

theorem dgOf_s (n b : Int) (w : World) (h0 : 0 ≤ n) (h1 : n ≤ 1000000000000) (hb : 2 ≤ b) (hb' : b ≤ 16) :
    Calls Tryz.prog 98 #[.int .i64 n, .int .i64 b] w fun e w' => ∃ g cap, e = .returned (.slice (some ⟨g, 0, none⟩) (dgs b n).length cap) ∧ Rd w' w.heap.size (.slice (some ⟨g, 0, none⟩) (dgs b n).length cap) (dgs b n) ∧ Below w.heap.size w w' := by
  refine (dgOf_any n b w h0 h1 hb hb').mono ?_
  rintro e w' ⟨u, rfl, hr, hbl⟩
  rcases hr.cases with ⟨_, hx⟩ | ⟨g, cap, rfl, _⟩
  · exact absurd hx (dgs_ne _ _)
  · exact ⟨g, cap, rfl, hr, hbl⟩

def okq (n b : Int) : Bool := decide (Num n ∧ Bas b)
theorem okq_yes {n b : Int} (h : Num n ∧ Bas b) : okq n b = true := decide_eq_true h
theorem okq_no {n b : Int} (h : ¬ (Num n ∧ Bas b)) : okq n b = false := decide_eq_false h
def askL (L : Int → Int → List Int) (n b : Int) : List Int := if Num n ∧ Bas b then L b n else []

theorem digits_l (n b : Int) (w : World) (h0 : 0 ≤ n) (h1 : n ≤ 1000000000000) (hb : 2 ≤ b) (hb' : b ≤ 16) :
    Calls Tryz.prog 77 #[.int .i64 b, .int .i64 n] w fun e w' => ∃ v, e = .returned v ∧ Rd w' w.heap.size v (dgs b n) ∧ Below w.heap.size w w' :=
  (digits_any n b w h0 (by omega) hb hb').mono fun _ _ ⟨_, _, h1, h2, h3⟩ => ⟨_, h1, h2, h3⟩

theorem below_refl (w : World) : Below w.heap.size w w := Below.refl _ _

theorem digitSum_any (n b : Int) (w : World) (h0 : 0 ≤ n) (h1 : n ≤ 1000000000000) (hb : 2 ≤ b) (hb' : b ≤ 16) :
    Calls Tryz.prog 179 #[.int .i64 b, .int .i64 n] w fun e w' => e = .returned (.int .i64 (dgs b n).sum) ∧ Below w.heap.size w w' := by
  have hall := Lib.hid (dgs_all b n hb h0)
  have hlen := Lib.hid (dgs_len40 b n hb h0 h1)
  go_enter Tryz.func179, Tryz.ntmps179
  go_wp2_with (first | (go_at_call 77; refine (digits_any _ _ _ h0 (by omega) hb hb').mono ?_; rintro e w1 ⟨g, cap, rfl, hr, hbl⟩; have HB := Lib.hid hbl; have HR := Lib.hid hr; clear hbl hr) | (go_at_call 224; refine (sumOf_any _ _ _ _ HR.out (fun x hx => by have := hall.out x hx; omega) (by have := hlen.out; omega)).mono ?_; rintro e w2 ⟨rfl, rfl⟩))
  go_ret
  exact ⟨rfl, HB.out⟩

end Go.Proofs.YtlbjeiaihenjkaaGreatDoor
