/-
  Steps and short steps: the program's and the model's leaves.
-/
import Derived.Test.YtbgnieajeipllaaYC
import Derived.Test.YtbgnieajeipllaaK
import Derived.Test.YtbgnieajeipllaaA
import Derived.Deep.RegionHeld3
namespace Go.Proofs.Ytbgnieajeipllaa
open Go.RowKit
set_option linter.unusedVariables false
set_option linter.unusedSimpArgs false
set_option maxRecDepth 100000

theorem al_below (w : World) (o : Obj) : Below w.heap.size w (w.alloc o) := (Below.refl _ _).alloc (Nat.le_refl _) o
/-- A cell that can be read stays where nothing below is written. -/
theorem Below.keeps_cell {w w' : World} (h : Below w.heap.size w w') {a : Addr} {u : Value} (hc : w.cell? a = some u) : w'.cell? a = some u := by
  have hlt : a.block < w.heap.size := by
    by_cases hl : a.block < w.heap.size
    · exact hl
    · unfold World.cell? at hc
      simp [Array.getElem?_eq_none (Nat.le_of_not_lt hl)] at hc
  rw [h.cell (p := a) hlt]
  exact hc

theorem apart_sym2 {u v : Value} (h : u.ownBlock = none ∨ u.ownBlock ≠ v.ownBlock) : v.ownBlock = none ∨ v.ownBlock ≠ u.ownBlock := by
  cases hv : v.ownBlock with
  | none => exact .inl rfl
  | some b =>
    right
    rcases h with h | h
    · rw [h]; simp
    · rw [hv] at h; exact fun e => h e.symm

theorem nst_yes {n : Int} (h1 : 1 ≤ n) (h2 : n ≤ 1000000000000) : decide (Nst n) = true := decide_eq_true (p := Nst n) ⟨h1, h2⟩
theorem nst_no {n : Int} (h : ¬ (1 ≤ n ∧ n ≤ 1000000000000)) : decide (Nst n) = false := decide_eq_false (p := Nst n) h
theorem add_yes {d : Int} (h : Add d) : decide (Add d) = true := decide_eq_true h
theorem add_no {d : Int} (h : ¬ Add d) : decide (Add d) = false := decide_eq_false h

theorem isStart_any (n : Int) (w : World) : Calls Try.prog 57 #[.int .i64 n] w fun e w' => e = .returned (.bool (decide (Nst n))) ∧ w = w' := by
  by_cases h : 1 ≤ n
  · by_cases h2 : n ≤ 1000000000000
    · have hd := Lib.hid (nst_yes h h2)
      go_enter Try.func57, Try.ntmps57
      go_wp2
      go_ret
      exact ⟨ret_bool (by rw [hd.out]; try simp [h2]), rfl⟩
    · have hd := Lib.hid (nst_no (fun hc => h2 hc.2))
      go_enter Try.func57, Try.ntmps57
      go_wp2
      go_ret
      exact ⟨ret_bool (by rw [hd.out]; try simp [h2]), rfl⟩
  · have hd := Lib.hid (nst_no (fun hc => h hc.1))
    go_enter Try.func57, Try.ntmps57
    go_wp2
    go_ret
    exact ⟨ret_bool (by rw [hd.out]), rfl⟩

theorem stNumber_any (n : Int) (w : World) : Calls Try.prog 51 #[.int .i64 n] w fun e w' => e = .returned (.bool (decide (Nst n))) ∧ w = w' := by
  by_cases h : 1 ≤ n ∧ n ≤ 1000000000000
  · have hd := Lib.hid (nst_yes h.1 h.2)
    obtain ⟨h1, h2⟩ := h
    go_enter Try.func51, Try.ntmps51
    go_wp2_with (go_at_call 71; refine (l1In_yes _ _ _ _ h1 h2).mono ?_; rintro e w1 ⟨rfl, rfl⟩)
    go_ret
    exact ⟨ret_bool (by rw [hd.out]), rfl⟩
  · have hd := Lib.hid (nst_no h)
    have h2 : n < 1 ∨ 1000000000000 < n := by omega
    clear h
    go_enter Try.func51, Try.ntmps51
    go_wp2_with (go_at_call 71; refine (l1In_no _ _ _ _ h2).mono ?_; rintro e w1 ⟨rfl, rfl⟩)
    go_ret
    exact ⟨ret_bool (by rw [hd.out]), rfl⟩

/-- The value of a step that adds what stands in block g. -/
abbrev stepV (g : Nat) : Value := .func (.func 82) #[] #[.pointer (some ⟨g, 0, none⟩)]
abbrev shortV : Value := .func (.func 63) #[] #[]

theorem stepWith_any (d : Int) (w : World) :
    Calls Try.prog 55 #[.int .i64 d] w fun e w' => ∃ g, e = .returned (stepV g) ∧ w.heap.size ≤ g ∧ w'.cell? ⟨g, 0, none⟩ = some (.int .i64 d) ∧ Below w.heap.size w w' := by
  have hmf : ∀ (fn : Fn) (first cap : Array Value) (w : World), (Instr.makeFunc fn first cap).run Try.prog w = .ok (.func fn first cap) w := fun _ _ _ _ => rfl
  have HC0 := Lib.hid (show (w.alloc (.cells #[.int .i64 d] 3)).cell? ⟨w.heap.size, 0, none⟩ = some (.int .i64 d) by simp [go_sem])
  go_enter Try.func55, Try.ntmps55
  go_wp2
  go_ret
  exact ⟨_, rfl, Nat.le_refl _, HC0.out, al_below _ _⟩

theorem stepWith1_any (n d : Int) (g : Nat) (w : World) (h0 : 0 ≤ n) (h1 : n ≤ 1000000000000) (d0 : 0 ≤ d) (d1 : d ≤ 99) (hc : w.cell? ⟨g, 0, none⟩ = some (.int .i64 d)) :
    Calls Try.prog 82 #[.int .i64 n, .pointer (some ⟨g, 0, none⟩)] w fun e w' => e = .returned (.int .i64 (stp d n)) ∧ w = w' := by
  obtain ⟨z, hz⟩ : ∃ z, z = stp d n := ⟨_, rfl⟩
  have HZ := Lib.hid hz
  rw [← hz]
  clear hz
  by_cases hm : n % 2 = 0
  · have HS := Lib.hid (stp_even (d := d) hm)
    go_enter Try.func82, Try.ntmps82
    go_wp2
    go_ret
    exact ⟨by rw [HZ.out, HS.out]; first | rfl | go_num, rfl⟩
  · have HS := Lib.hid (stp_odd (d := d) hm)
    go_enter Try.func82, Try.ntmps82
    go_wp2
    go_ret
    exact ⟨by rw [HZ.out, HS.out]; first | rfl | go_num, rfl⟩

theorem shortStep_any (n : Int) (w : World) (h0 : 0 ≤ n) (h1 : n ≤ 3000000000000) :
    Calls Try.prog 63 #[.int .i64 n] w fun e w' => e = .returned (.int .i64 (sho n)) ∧ w = w' := by
  by_cases hm : n % 2 = 0
  · have HS := Lib.hid (sho_even hm)
    rw [HS.out]
    go_enter Try.func63, Try.ntmps63
    go_wp2
    go_ret
    exact ⟨by first | rfl | go_num, rfl⟩
  · have HS := Lib.hid (sho_odd hm)
    rw [HS.out]
    go_enter Try.func63, Try.ntmps63
    go_wp2
    go_ret
    exact ⟨by first | rfl | go_num, rfl⟩

theorem stStep_any (n d : Int) (w : World) (h0 : 0 ≤ n) (h1 : n ≤ 3000000000000) (d0 : 0 ≤ d) (d1 : d ≤ 99) :
    Calls Try.prog 53 #[.int .i64 n, .int .i64 d] w fun e w' => e = .returned (.int .i64 (stp d n)) ∧ w = w' := by
  by_cases hm : n % 2 = 0
  · have HS := Lib.hid (stp_even (d := d) hm)
    rw [HS.out]
    go_enter Try.func53, Try.ntmps53
    go_wp2
    go_ret
    exact ⟨by first | rfl | go_num, rfl⟩
  · have HS := Lib.hid (stp_odd (d := d) hm)
    rw [HS.out]
    go_enter Try.func53, Try.ntmps53
    go_wp2
    go_ret
    exact ⟨by first | rfl | go_num, rfl⟩

theorem stShort_any (n : Int) (w : World) (h0 : 0 ≤ n) (h1 : n ≤ 3000000000000) :
    Calls Try.prog 62 #[.int .i64 n] w fun e w' => e = .returned (.int .i64 (sho n)) ∧ w = w' := by
  by_cases hm : n % 2 = 0
  · have HS := Lib.hid (sho_even hm)
    rw [HS.out]
    go_enter Try.func62, Try.ntmps62
    go_wp2
    go_ret
    exact ⟨by first | rfl | go_num, rfl⟩
  · have HS := Lib.hid (sho_odd hm)
    rw [HS.out]
    go_enter Try.func62, Try.ntmps62
    go_wp2
    go_ret
    exact ⟨by first | rfl | go_num, rfl⟩

theorem stIf_any (n : Int) (w : World) : Calls Try.prog 52 #[.int .i64 n] w fun e w' => e = .returned (optRes (inN n)) ∧ w = w' := by
  by_cases h : Nst n
  · have a1 : decide (Nst n) = true := decide_eq_true h
    have HS := Lib.hid (inN_yes h)
    clear h
    go_enter Try.func52, Try.ntmps52
    go_wp2_with (go_at_call 51; refine (stNumber_any _ _).mono ?_; rintro e w1 ⟨rfl, rfl⟩)
    go_ret2
    exact ⟨by rw [HS.out]; rfl, rfl⟩
  · have a1 : decide (Nst n) = false := decide_eq_false h
    have HS := Lib.hid (inN_no h)
    clear h
    go_enter Try.func52, Try.ntmps52
    go_wp2_with (go_at_call 51; refine (stNumber_any _ _).mono ?_; rintro e w1 ⟨rfl, rfl⟩)
    go_ret2
    exact ⟨by rw [HS.out]; rfl, rfl⟩

theorem lead_with (n d : Int) (g : Nat) (w : World) (d0 : 0 ≤ d) (d1 : d ≤ 99) (hc : w.cell? ⟨g, 0, none⟩ = some (.int .i64 d)) :
    Calls Try.prog 54 #[.int .i64 n, stepV g] w fun e w' => e = .returned (optRes (ledW d n)) ∧ w = w' := by
  by_cases hn : Nst n
  · have a1 : decide (Nst n) = true := decide_eq_true hn
    by_cases hs : Nst (stp d n)
    · have a2 : decide (Nst (stp d n)) = true := decide_eq_true hs
      have HS := Lib.hid (ledW_in hn hs)
      obtain ⟨h0, h1⟩ := hn
      obtain ⟨z, hz⟩ : ∃ z, z = stp d n := ⟨_, rfl⟩
      have HZ := Lib.hid hz
      rw [← hz] at a2 HS
      clear hs hz
      go_enter Try.func54, Try.ntmps54
      go_wp2_with (first | (go_at_call 57; refine (isStart_any _ _).mono ?_; rintro e w1 ⟨rfl, rfl⟩) | (go_at_call 82; refine (stepWith1_any _ _ _ _ (by omega) h1 d0 d1 hc).mono ?_; rw [← HZ.out]; rintro e w1 ⟨rfl, rfl⟩))
      go_ret2
      exact ⟨by rw [HS.out]; rfl, rfl⟩
    · have a2 : decide (Nst (stp d n)) = false := decide_eq_false hs
      have HS := Lib.hid (ledW_out hn hs)
      obtain ⟨h0, h1⟩ := hn
      obtain ⟨z, hz⟩ : ∃ z, z = stp d n := ⟨_, rfl⟩
      have HZ := Lib.hid hz
      rw [← hz] at a2
      clear hs hz
      go_enter Try.func54, Try.ntmps54
      go_wp2_with (first | (go_at_call 57; refine (isStart_any _ _).mono ?_; rintro e w1 ⟨rfl, rfl⟩) | (go_at_call 82; refine (stepWith1_any _ _ _ _ (by omega) h1 d0 d1 hc).mono ?_; rw [← HZ.out]; rintro e w1 ⟨rfl, rfl⟩))
      go_ret2
      exact ⟨by rw [HS.out]; rfl, rfl⟩
  · have a1 : decide (Nst n) = false := decide_eq_false hn
    have HS := Lib.hid (ledW_not (d := d) hn)
    clear hn
    go_enter Try.func54, Try.ntmps54
    go_wp2_with (go_at_call 57; refine (isStart_any _ _).mono ?_; rintro e w1 ⟨rfl, rfl⟩)
    go_ret2
    exact ⟨by rw [HS.out]; rfl, rfl⟩

theorem lead_short (n : Int) (w : World) :
    Calls Try.prog 54 #[.int .i64 n, shortV] w fun e w' => e = .returned (optRes (ledS n)) ∧ w = w' := by
  by_cases hn : Nst n
  · have a1 : decide (Nst n) = true := decide_eq_true hn
    by_cases hs : Nst (sho n)
    · have a2 : decide (Nst (sho n)) = true := decide_eq_true hs
      have HS := Lib.hid (ledS_in hn hs)
      obtain ⟨h0, h1⟩ := hn
      obtain ⟨z, hz⟩ : ∃ z, z = sho n := ⟨_, rfl⟩
      have HZ := Lib.hid hz
      rw [← hz] at a2 HS
      clear hs hz
      go_enter Try.func54, Try.ntmps54
      go_wp2_with (first | (go_at_call 57; refine (isStart_any _ _).mono ?_; rintro e w1 ⟨rfl, rfl⟩) | (go_at_call 63; refine (shortStep_any _ _ (by omega) (by omega)).mono ?_; rw [← HZ.out]; rintro e w1 ⟨rfl, rfl⟩))
      go_ret2
      exact ⟨by rw [HS.out]; rfl, rfl⟩
    · have a2 : decide (Nst (sho n)) = false := decide_eq_false hs
      have HS := Lib.hid (ledS_out hn hs)
      obtain ⟨h0, h1⟩ := hn
      obtain ⟨z, hz⟩ : ∃ z, z = sho n := ⟨_, rfl⟩
      have HZ := Lib.hid hz
      rw [← hz] at a2
      clear hs hz
      go_enter Try.func54, Try.ntmps54
      go_wp2_with (first | (go_at_call 57; refine (isStart_any _ _).mono ?_; rintro e w1 ⟨rfl, rfl⟩) | (go_at_call 63; refine (shortStep_any _ _ (by omega) (by omega)).mono ?_; rw [← HZ.out]; rintro e w1 ⟨rfl, rfl⟩))
      go_ret2
      exact ⟨by rw [HS.out]; rfl, rfl⟩
  · have a1 : decide (Nst n) = false := decide_eq_false hn
    have HS := Lib.hid (ledS_not hn)
    clear hn
    go_enter Try.func54, Try.ntmps54
    go_wp2_with (go_at_call 57; refine (isStart_any _ _).mono ?_; rintro e w1 ⟨rfl, rfl⟩)
    go_ret2
    exact ⟨by rw [HS.out]; rfl, rfl⟩

end Go.Proofs.Ytbgnieajeipllaa
