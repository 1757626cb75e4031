/-
  Joint text of K, YD, YE: what each proves stands ahead of it.
-/
import Derived.Test.YtlbjeiaihenjkaaGreatDoorJ03
import Derived.Test.YtlbjeiaihenjkaaGreatDoorJ05
import Derived.Test.YtlbjeiaihenjkaaGreatDoorJ02
import Derived.Deep.RegionHeld3
/- from K: Marks that the laws lay into a result, and look for again.  -/
namespace Go.Proofs.YtlbjeiaihenjkaaGreatDoor
open Go.RowKit
set_option linter.unusedVariables false
set_option linter.unusedSimpArgs false

def seqF (k : Int) (n : Nat) : List Int := (List.range n).map fun (i : Nat) => k + (i : Int)

theorem seqF_len (k : Int) (n : Nat) : (seqF k n).length = n := by simp [seqF]
theorem seqF_at (k : Int) (n j : Nat) (h : j < (seqF k n).length) : (seqF k n)[j] = k + j := by simp [seqF]

/-- The first j cells bear marks. -/
def Mk (k : Int) (xs ys : List Int) (j : Nat) : Prop := ys.length = xs.length ∧ ∀ t, t < j → ys[t]? = some (k + (t : Int))

theorem Mk.step {k : Int} {xs ys : List Int} {j : Nat} (h : Mk k xs ys j) (hj : j < xs.length) : Mk k xs (ys.set j (k + (j : Int))) (j + 1) := by
  refine ⟨by simp [h.1], fun t ht => ?_⟩
  rw [List.getElem?_set]
  by_cases e : j = t
  · subst e
    rw [if_pos rfl, if_pos (by rw [h.1]; omega)]
  · rw [if_neg e]
    exact h.2 t (by omega)

theorem Mk.done {k : Int} {xs ys : List Int} (h : Mk k xs ys xs.length) : ys = seqF k xs.length := by
  apply List.ext_getElem?
  intro t
  by_cases ht : t < xs.length
  · rw [h.2 t ht]
    simp [seqF, ht]
  · rw [List.getElem?_eq_none (by rw [h.1]; omega), List.getElem?_eq_none (by rw [seqF_len]; omega)]

theorem markIntS_any (v : Value) (xs : List Int) (k : Int) (B : Nat) (w : World) (h : Rd w B v xs) (hB : B ≤ w.heap.size) (hk : 0 ≤ k) (hk2 : k ≤ 1000000000) (hl : xs.length ≤ 2000000) :
    Calls Tryz.prog 23 #[v, .int .i64 k] w fun e w' => e = .returned (.int .i64 (k + xs.length)) ∧ Rd w' B v (seqF k xs.length) ∧ w.grownBy w' v.ownBlock := by
  rcases h.cases with ⟨rfl, rfl⟩ | ⟨g, cap, rfl, hg, _, _, _, _, _⟩
  · go_enter Tryz.func23, Tryz.ntmps23
    go_wp2
    refine wp_loop_rounds 1 ?_
    rw [rounds_succ]
    go_wp2
    go_ret
    exact ⟨ret_int (by simp), Rd.nil _ _, World.grownBy.refl _ _⟩
  · have H := Lib.hid h
    clear h
    go_enter Tryz.func23, Tryz.ntmps23
    go_wp2
    go_loopw [1, 5] (fun m i wr => ∃ (j : Nat) (ys : List Int), j ≤ xs.length ∧ i = .int .i64 j ∧ m = .int .i64 (k + j) ∧ Mk k xs ys j ∧ Rd wr B (.slice (some ⟨g, 0, none⟩) xs.length cap) ys ∧ w.grownBy wr (some g)) (fun _ i _ => xs.length - (intOf i).toNat)
    case atStart => exact ⟨0, xs, Nat.zero_le _, rfl, by simp, ⟨rfl, fun t ht => by omega⟩, H.out, World.grownBy.refl _ _⟩
    case round =>
      obtain ⟨j, ys, hj, rfl, rfl, hm, hr, hgr⟩ := hrel
      have HM := Lib.hid hm
      have HR := Lib.hid hr
      have HG := Lib.hid hgr
      clear hm hr hgr
      by_cases hlt : j < xs.length
      · obtain ⟨q, hd⟩ : ∃ q, wr.cell? ⟨g, j, none⟩ = some (.int .i64 q) := ⟨_, HR.out.at.2.2.2.2.1 j (by have := HM.out.1; omega)⟩
        have hf := HR.out.at.2.2.2.2.2 j
        go_wp2
        go_roundw
        case rel =>
          have h1 := HR.out.set j (k + j)
          exact ⟨j + 1, _, by omega, by go_num, by go_num, HM.out.step hlt, h1.1, grown_trans HG.out h1.2⟩
        case measure => simp [intOf]; omega
      · obtain rfl : j = xs.length := by omega
        go_wp2
        go_ret
        exact ⟨rfl, by rw [← HM.out.done]; exact HR.out, HG.out⟩

theorem heldIntS_any (v : Value) (n : Nat) (k : Int) (B : Nat) (w : World) (h : Rd w B v (seqF k n)) (hk : 0 ≤ k) (hk2 : k ≤ 1000000000) (hl : n ≤ 2000000) :
    Calls Tryz.prog 24 #[v, .int .i64 k] w fun e w' => e = .returned (.int .i64 (k + n)) ∧ w = w' := by
  rcases h.cases with ⟨rfl, hx⟩ | ⟨g, cap, rfl, hg, _, _, _, hc, _⟩
  · have hn : n = 0 := by have := congrArg List.length hx; rw [seqF_len] at this; simpa using this
    subst hn
    go_enter Tryz.func24, Tryz.ntmps24
    go_wp2
    refine wp_loop_rounds 1 ?_
    rw [rounds_succ]
    go_wp2
    go_ret
    exact ⟨ret_int (by simp), rfl⟩
  · have HC := Lib.hid hc
    have HL := Lib.hid (seqF_len k n)
    clear hc h
    rw [HL.out]
    go_enter Tryz.func24, Tryz.ntmps24
    go_wp2
    go_loop [1, 5] (fun m i => ∃ j : Nat, j ≤ n ∧ i = .int .i64 j ∧ m = .int .i64 (k + j)) (fun _ i => n - (intOf i).toNat)
    case atStart => exact ⟨0, Nat.zero_le _, rfl, by simp⟩
    case round =>
      obtain ⟨j, hj, rfl, rfl⟩ := hrel
      by_cases hlt : j < n
      · have hcell : w.cell? ⟨g, j, none⟩ = some (.int .i64 (k + j)) := by rw [HC.out j (by rw [HL.out]; exact hlt), seqF_at]
        go_wp2
        go_round
        case rel => exact ⟨j + 1, by omega, by go_num, by go_num⟩
        case measure => simp [intOf]; omega
      · obtain rfl : j = n := by omega
        go_wp2
        go_ret
        exact ⟨rfl, rfl⟩

theorem Rd.apart {w : World} {B : Nat} {u v : Value} {xs : List Int} (hu : ∀ k, u.ownBlock = some k → k < B) (hv : Rd w B v xs) : u.ownBlock = none ∨ u.ownBlock ≠ v.ownBlock := by
  cases h : u.ownBlock with
  | none => exact .inl rfl
  | some k =>
    right
    intro hc
    have h1 := hu k h
    have h2 := hv.lt k hc.symm
    omega

end Go.Proofs.YtlbjeiaihenjkaaGreatDoor

/- from YD: Steps and short steps: the program's and the model's leaves.  -/
namespace Go.Proofs.YtlbjeiaihenjkaaGreatDoor
open Go.RowKit
set_option linter.unusedVariables false
set_option linter.unusedSimpArgs false
set_option maxRecDepth 100000

theorem al_below (w : World) (o : Obj) : Below w.heap.size w (w.alloc o) := (Below.refl _ _).alloc (Nat.le_refl _) o
/-- A cell that can be read stays where nothing below is written. -/
theorem Below.keeps_cellY {w w' : World} (h : Below w.heap.size w w') {a : Addr} {u : Value} (hc : w.cell? a = some u) : w'.cell? a = some u := by
  have hlt : a.block < w.heap.size := by
    by_cases hl : a.block < w.heap.size
    · exact hl
    · unfold World.cell? at hc
      simp [Array.getElem?_eq_none (Nat.le_of_not_lt hl)] at hc
  rw [h.cell (p := a) hlt]
  exact hc

theorem apart_sym2Y {u v : Value} (h : u.ownBlock = none ∨ u.ownBlock ≠ v.ownBlock) : v.ownBlock = none ∨ v.ownBlock ≠ u.ownBlock := by
  cases hv : v.ownBlock with
  | none => exact .inl rfl
  | some b =>
    right
    rcases h with h | h
    · rw [h]; simp
    · rw [hv] at h; exact fun e => h e.symm

theorem nst_yes {n : Int} (h1 : 1 ≤ n) (h2 : n ≤ 1000000000000) : decide (Nst n) = true := decide_eq_true (p := Nst n) ⟨h1, h2⟩
theorem nst_no {n : Int} (h : ¬ (1 ≤ n ∧ n ≤ 1000000000000)) : decide (Nst n) = false := decide_eq_false (p := Nst n) h
theorem add_yes {d : Int} (h : Add d) : decide (Add d) = true := decide_eq_true h
theorem add_no {d : Int} (h : ¬ Add d) : decide (Add d) = false := decide_eq_false h

theorem isStart_any (n : Int) (w : World) : Calls Tryz.prog 216 #[.int .i64 n] w fun e w' => e = .returned (.bool (decide (Nst n))) ∧ w = w' := by
  by_cases h : 1 ≤ n
  · by_cases h2 : n ≤ 1000000000000
    · have hd := Lib.hid (nst_yes h h2)
      go_enter Tryz.func216, Tryz.ntmps216
      go_wp2
      go_ret
      exact ⟨ret_bool (by rw [hd.out]; try simp [h2]), rfl⟩
    · have hd := Lib.hid (nst_no (fun hc => h2 hc.2))
      go_enter Tryz.func216, Tryz.ntmps216
      go_wp2
      go_ret
      exact ⟨ret_bool (by rw [hd.out]; try simp [h2]), rfl⟩
  · have hd := Lib.hid (nst_no (fun hc => h hc.1))
    go_enter Tryz.func216, Tryz.ntmps216
    go_wp2
    go_ret
    exact ⟨ret_bool (by rw [hd.out]), rfl⟩

theorem stNumber_any (n : Int) (w : World) : Calls Tryz.prog 147 #[.int .i64 n] w fun e w' => e = .returned (.bool (decide (Nst n))) ∧ w = w' := by
  by_cases h : 1 ≤ n ∧ n ≤ 1000000000000
  · have hd := Lib.hid (nst_yes h.1 h.2)
    obtain ⟨h1, h2⟩ := h
    go_enter Tryz.func147, Tryz.ntmps147
    go_wp2_with (go_at_call 140; refine (l1In_yes _ _ _ _ h1 h2).mono ?_; rintro e w1 ⟨rfl, rfl⟩)
    go_ret
    exact ⟨ret_bool (by rw [hd.out]), rfl⟩
  · have hd := Lib.hid (nst_no h)
    have h2 : n < 1 ∨ 1000000000000 < n := by omega
    clear h
    go_enter Tryz.func147, Tryz.ntmps147
    go_wp2_with (go_at_call 140; refine (l1In_no _ _ _ _ h2).mono ?_; rintro e w1 ⟨rfl, rfl⟩)
    go_ret
    exact ⟨ret_bool (by rw [hd.out]), rfl⟩

/-- The value of a step that adds what stands in block g. -/
abbrev stepV (g : Nat) : Value := .func (.func 217) #[] #[.pointer (some ⟨g, 0, none⟩)]
abbrev shortV : Value := .func (.func 173) #[] #[]

theorem stepWith_any (d : Int) (w : World) :
    Calls Tryz.prog 172 #[.int .i64 d] w fun e w' => ∃ g, e = .returned (stepV g) ∧ w.heap.size ≤ g ∧ w'.cell? ⟨g, 0, none⟩ = some (.int .i64 d) ∧ Below w.heap.size w w' := by
  have hmf : ∀ (fn : Fn) (first cap : Array Value) (w : World), (Instr.makeFunc fn first cap).run Tryz.prog w = .ok (.func fn first cap) w := fun _ _ _ _ => rfl
  have HC0 := Lib.hid (show (w.alloc (.cells #[.int .i64 d] 3)).cell? ⟨w.heap.size, 0, none⟩ = some (.int .i64 d) by simp [go_sem])
  go_enter Tryz.func172, Tryz.ntmps172
  go_wp2
  go_ret
  exact ⟨_, rfl, Nat.le_refl _, HC0.out, al_below _ _⟩

theorem stepWith1_any (n d : Int) (g : Nat) (w : World) (h0 : 0 ≤ n) (h1 : n ≤ 1000000000000) (d0 : 0 ≤ d) (d1 : d ≤ 99) (hc : w.cell? ⟨g, 0, none⟩ = some (.int .i64 d)) :
    Calls Tryz.prog 217 #[.int .i64 n, .pointer (some ⟨g, 0, none⟩)] w fun e w' => e = .returned (.int .i64 (stp d n)) ∧ w = w' := by
  obtain ⟨z, hz⟩ : ∃ z, z = stp d n := ⟨_, rfl⟩
  have HZ := Lib.hid hz
  rw [← hz]
  clear hz
  by_cases hm : n % 2 = 0
  · have HS := Lib.hid (stp_even (d := d) hm)
    go_enter Tryz.func217, Tryz.ntmps217
    go_wp2
    go_ret
    exact ⟨by rw [HZ.out, HS.out]; first | rfl | go_num, rfl⟩
  · have HS := Lib.hid (stp_odd (d := d) hm)
    go_enter Tryz.func217, Tryz.ntmps217
    go_wp2
    go_ret
    exact ⟨by rw [HZ.out, HS.out]; first | rfl | go_num, rfl⟩

theorem shortStep_any (n : Int) (w : World) (h0 : 0 ≤ n) (h1 : n ≤ 3000000000000) :
    Calls Tryz.prog 173 #[.int .i64 n] w fun e w' => e = .returned (.int .i64 (sho n)) ∧ w = w' := by
  by_cases hm : n % 2 = 0
  · have HS := Lib.hid (sho_even hm)
    rw [HS.out]
    go_enter Tryz.func173, Tryz.ntmps173
    go_wp2
    go_ret
    exact ⟨by first | rfl | go_num, rfl⟩
  · have HS := Lib.hid (sho_odd hm)
    rw [HS.out]
    go_enter Tryz.func173, Tryz.ntmps173
    go_wp2
    go_ret
    exact ⟨by first | rfl | go_num, rfl⟩

theorem stStep_any (n d : Int) (w : World) (h0 : 0 ≤ n) (h1 : n ≤ 3000000000000) (d0 : 0 ≤ d) (d1 : d ≤ 99) :
    Calls Tryz.prog 149 #[.int .i64 n, .int .i64 d] w fun e w' => e = .returned (.int .i64 (stp d n)) ∧ w = w' := by
  by_cases hm : n % 2 = 0
  · have HS := Lib.hid (stp_even (d := d) hm)
    rw [HS.out]
    go_enter Tryz.func149, Tryz.ntmps149
    go_wp2
    go_ret
    exact ⟨by first | rfl | go_num, rfl⟩
  · have HS := Lib.hid (stp_odd (d := d) hm)
    rw [HS.out]
    go_enter Tryz.func149, Tryz.ntmps149
    go_wp2
    go_ret
    exact ⟨by first | rfl | go_num, rfl⟩

theorem stShort_any (n : Int) (w : World) (h0 : 0 ≤ n) (h1 : n ≤ 3000000000000) :
    Calls Tryz.prog 150 #[.int .i64 n] w fun e w' => e = .returned (.int .i64 (sho n)) ∧ w = w' := by
  by_cases hm : n % 2 = 0
  · have HS := Lib.hid (sho_even hm)
    rw [HS.out]
    go_enter Tryz.func150, Tryz.ntmps150
    go_wp2
    go_ret
    exact ⟨by first | rfl | go_num, rfl⟩
  · have HS := Lib.hid (sho_odd hm)
    rw [HS.out]
    go_enter Tryz.func150, Tryz.ntmps150
    go_wp2
    go_ret
    exact ⟨by first | rfl | go_num, rfl⟩

theorem stIf_any (n : Int) (w : World) : Calls Tryz.prog 148 #[.int .i64 n] w fun e w' => e = .returned (optRes (inN n)) ∧ w = w' := by
  by_cases h : Nst n
  · have a1 : decide (Nst n) = true := decide_eq_true h
    have HS := Lib.hid (inN_yes h)
    clear h
    go_enter Tryz.func148, Tryz.ntmps148
    go_wp2_with (go_at_call 147; refine (stNumber_any _ _).mono ?_; rintro e w1 ⟨rfl, rfl⟩)
    go_ret2
    exact ⟨by rw [HS.out]; rfl, rfl⟩
  · have a1 : decide (Nst n) = false := decide_eq_false h
    have HS := Lib.hid (inN_no h)
    clear h
    go_enter Tryz.func148, Tryz.ntmps148
    go_wp2_with (go_at_call 147; refine (stNumber_any _ _).mono ?_; rintro e w1 ⟨rfl, rfl⟩)
    go_ret2
    exact ⟨by rw [HS.out]; rfl, rfl⟩

theorem lead_with (n d : Int) (g : Nat) (w : World) (d0 : 0 ≤ d) (d1 : d ≤ 99) (hc : w.cell? ⟨g, 0, none⟩ = some (.int .i64 d)) :
    Calls Tryz.prog 171 #[.int .i64 n, stepV g] w fun e w' => e = .returned (optRes (ledW d n)) ∧ w = w' := by
  by_cases hn : Nst n
  · have a1 : decide (Nst n) = true := decide_eq_true hn
    by_cases hs : Nst (stp d n)
    · have a2 : decide (Nst (stp d n)) = true := decide_eq_true hs
      have HS := Lib.hid (ledW_in hn hs)
      obtain ⟨h0, h1⟩ := hn
      obtain ⟨z, hz⟩ : ∃ z, z = stp d n := ⟨_, rfl⟩
      have HZ := Lib.hid hz
      rw [← hz] at a2 HS
      clear hs hz
      go_enter Tryz.func171, Tryz.ntmps171
      go_wp2_with (first | (go_at_call 216; refine (isStart_any _ _).mono ?_; rintro e w1 ⟨rfl, rfl⟩) | (go_at_call 217; refine (stepWith1_any _ _ _ _ (by omega) h1 d0 d1 hc).mono ?_; rw [← HZ.out]; rintro e w1 ⟨rfl, rfl⟩))
      go_ret2
      exact ⟨by rw [HS.out]; rfl, rfl⟩
    · have a2 : decide (Nst (stp d n)) = false := decide_eq_false hs
      have HS := Lib.hid (ledW_out hn hs)
      obtain ⟨h0, h1⟩ := hn
      obtain ⟨z, hz⟩ : ∃ z, z = stp d n := ⟨_, rfl⟩
      have HZ := Lib.hid hz
      rw [← hz] at a2
      clear hs hz
      go_enter Tryz.func171, Tryz.ntmps171
      go_wp2_with (first | (go_at_call 216; refine (isStart_any _ _).mono ?_; rintro e w1 ⟨rfl, rfl⟩) | (go_at_call 217; refine (stepWith1_any _ _ _ _ (by omega) h1 d0 d1 hc).mono ?_; rw [← HZ.out]; rintro e w1 ⟨rfl, rfl⟩))
      go_ret2
      exact ⟨by rw [HS.out]; rfl, rfl⟩
  · have a1 : decide (Nst n) = false := decide_eq_false hn
    have HS := Lib.hid (ledW_not (d := d) hn)
    clear hn
    go_enter Tryz.func171, Tryz.ntmps171
    go_wp2_with (go_at_call 216; refine (isStart_any _ _).mono ?_; rintro e w1 ⟨rfl, rfl⟩)
    go_ret2
    exact ⟨by rw [HS.out]; rfl, rfl⟩

theorem lead_short (n : Int) (w : World) :
    Calls Tryz.prog 171 #[.int .i64 n, shortV] w fun e w' => e = .returned (optRes (ledS n)) ∧ w = w' := by
  by_cases hn : Nst n
  · have a1 : decide (Nst n) = true := decide_eq_true hn
    by_cases hs : Nst (sho n)
    · have a2 : decide (Nst (sho n)) = true := decide_eq_true hs
      have HS := Lib.hid (ledS_in hn hs)
      obtain ⟨h0, h1⟩ := hn
      obtain ⟨z, hz⟩ : ∃ z, z = sho n := ⟨_, rfl⟩
      have HZ := Lib.hid hz
      rw [← hz] at a2 HS
      clear hs hz
      go_enter Tryz.func171, Tryz.ntmps171
      go_wp2_with (first | (go_at_call 216; refine (isStart_any _ _).mono ?_; rintro e w1 ⟨rfl, rfl⟩) | (go_at_call 173; refine (shortStep_any _ _ (by omega) (by omega)).mono ?_; rw [← HZ.out]; rintro e w1 ⟨rfl, rfl⟩))
      go_ret2
      exact ⟨by rw [HS.out]; rfl, rfl⟩
    · have a2 : decide (Nst (sho n)) = false := decide_eq_false hs
      have HS := Lib.hid (ledS_out hn hs)
      obtain ⟨h0, h1⟩ := hn
      obtain ⟨z, hz⟩ : ∃ z, z = sho n := ⟨_, rfl⟩
      have HZ := Lib.hid hz
      rw [← hz] at a2
      clear hs hz
      go_enter Tryz.func171, Tryz.ntmps171
      go_wp2_with (first | (go_at_call 216; refine (isStart_any _ _).mono ?_; rintro e w1 ⟨rfl, rfl⟩) | (go_at_call 173; refine (shortStep_any _ _ (by omega) (by omega)).mono ?_; rw [← HZ.out]; rintro e w1 ⟨rfl, rfl⟩))
      go_ret2
      exact ⟨by rw [HS.out]; rfl, rfl⟩
  · have a1 : decide (Nst n) = false := decide_eq_false hn
    have HS := Lib.hid (ledS_not hn)
    clear hn
    go_enter Tryz.func171, Tryz.ntmps171
    go_wp2_with (go_at_call 216; refine (isStart_any _ _).mono ?_; rintro e w1 ⟨rfl, rfl⟩)
    go_ret2
    exact ⟨by rw [HS.out]; rfl, rfl⟩

end Go.Proofs.YtlbjeiaihenjkaaGreatDoor

/- from YE: One step: the program's and the model's answers.  -/
namespace Go.Proofs.YtlbjeiaihenjkaaGreatDoor
open Go.RowKit
set_option linter.unusedVariables false
set_option linter.unusedSimpArgs false
set_option maxRecDepth 100000

theorem impl_StepOf (n : Int) (w : World) :
    Calls Tryz.prog 115 #[.int .i64 n] w fun e w' => e = .returned (optRes (ledW 1 n)) ∧ Below w.heap.size w w' := by
  go_enter Tryz.func115, Tryz.ntmps115
  go_wp2_with (first | (go_at_call 172; refine (stepWith_any _ _).mono ?_; rintro e w1 ⟨g, rfl, hg, hc, hb⟩; have HB := Lib.hid hb; clear hb) | (go_at_call 171; refine (lead_with _ 1 g _ (by omega) (by omega) hc).mono ?_; rintro e w2 ⟨rfl, rfl⟩))
  go_ret2
  exact ⟨rfl, HB.out⟩

theorem spec_StepOf (n : Int) (w : World) :
    Calls Tryz.prog 94 #[.int .i64 n] w fun e w' => e = .returned (optRes (ledW 1 n)) ∧ Below w.heap.size w w' := by
  by_cases hn : Nst n
  · have a1 : decide (Nst n) = true := decide_eq_true hn
    have HS := Lib.hid (show ledW 1 n = inN (stp 1 n) from if_pos hn)
    obtain ⟨h0, h1⟩ := hn
    go_enter Tryz.func94, Tryz.ntmps94
    go_wp2_with (first | (go_at_call 147; refine (stNumber_any _ _).mono ?_; rintro e w1 ⟨rfl, rfl⟩) | (go_at_call 149; refine (stStep_any _ 1 _ (by omega) (by omega) (by omega) (by omega)).mono ?_; rintro e w1 ⟨rfl, rfl⟩) | (go_at_call 148; refine (stIf_any _ _).mono ?_; rintro e w1 ⟨rfl, rfl⟩))
    go_ret2
    exact ⟨by rw [HS.out]; rfl, Below.refl _ _⟩
  · have a1 : decide (Nst n) = false := decide_eq_false hn
    have HS := Lib.hid (ledW_not (d := 1) hn)
    clear hn
    go_enter Tryz.func94, Tryz.ntmps94
    go_wp2_with (go_at_call 147; refine (stNumber_any _ _).mono ?_; rintro e w1 ⟨rfl, rfl⟩)
    go_ret2
    exact ⟨by rw [HS.out]; rfl, Below.refl _ _⟩

theorem impl_ShortStep (n : Int) (w : World) :
    Calls Tryz.prog 116 #[.int .i64 n] w fun e w' => e = .returned (optRes (ledS n)) ∧ Below w.heap.size w w' := by
  go_enter Tryz.func116, Tryz.ntmps116
  go_wp2_with (go_at_call 171; refine (lead_short _ _).mono ?_; rintro e w2 ⟨rfl, rfl⟩)
  go_ret2
  exact ⟨rfl, Below.refl _ _⟩

theorem spec_ShortStep (n : Int) (w : World) :
    Calls Tryz.prog 95 #[.int .i64 n] w fun e w' => e = .returned (optRes (ledS n)) ∧ Below w.heap.size w w' := by
  by_cases hn : Nst n
  · have a1 : decide (Nst n) = true := decide_eq_true hn
    have HS := Lib.hid (show ledS n = inN (sho n) from if_pos hn)
    obtain ⟨h0, h1⟩ := hn
    go_enter Tryz.func95, Tryz.ntmps95
    go_wp2_with (first | (go_at_call 147; refine (stNumber_any _ _).mono ?_; rintro e w1 ⟨rfl, rfl⟩) | (go_at_call 150; refine (stShort_any _ _ (by omega) (by omega)).mono ?_; rintro e w1 ⟨rfl, rfl⟩) | (go_at_call 148; refine (stIf_any _ _).mono ?_; rintro e w1 ⟨rfl, rfl⟩))
    go_ret2
    exact ⟨by rw [HS.out]; rfl, Below.refl _ _⟩
  · have a1 : decide (Nst n) = false := decide_eq_false hn
    have HS := Lib.hid (ledS_not hn)
    clear hn
    go_enter Tryz.func95, Tryz.ntmps95
    go_wp2_with (go_at_call 147; refine (stNumber_any _ _).mono ?_; rintro e w1 ⟨rfl, rfl⟩)
    go_ret2
    exact ⟨by rw [HS.out]; rfl, Below.refl _ _⟩

theorem odd_yes {d : Int} (h : d % 2 = 1) : (d % 2 == 1) = true := beq_yes h
theorem odd_no {d : Int} (h : ¬ d % 2 = 1) : (d % 2 == 1) = false := beq_no h

end Go.Proofs.YtlbjeiaihenjkaaGreatDoor
