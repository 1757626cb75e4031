/-
  Joint text of CZ: what each proves stands ahead of it.
-/
import Derived.Test.YtlbjeiaihenjkaaGreatDoorJ40
/- from CZ: The model executes any line: as the plain function of lines says.  -/
namespace Go.Proofs.YtlbjeiaihenjkaaGreatDoor
open Go.RowKit
set_option linter.unusedVariables false
set_option linter.unusedSimpArgs false
set_option maxRecDepth 100000

theorem spA_mem (c : UInt8) : ∀ (l acc : Tx), ∀ t ∈ spA c acc l, t.length ≤ acc.length + l.length
  | [], acc, t, h => by simp [spA] at h; subst h; simp
  | x :: l, acc, t, h => by
    unfold spA at h
    split at h
    · rcases List.mem_cons.1 h with h | h
      · subst h; simp
      · have := spA_mem c l [] t h
        simp at this ⊢
        omega
    · have := spA_mem c l (acc ++ [x]) t h
      simp at this ⊢
      omega
theorem itoa_ne {z : Int} (h : 0 ≤ z) : orD (Lib.itoa z) = Lib.itoa z := by
  unfold orD
  rw [if_neg]
  intro e
  by_cases hs : z.toNat < 10
  · have := itoa_small hs
    rw [Int.toNat_of_nonneg h, e] at this
    cases this
  · have := itoa_big hs
    rw [Int.toNat_of_nonneg h, e] at this
    have := congrArg List.length this
    simp at this
theorem say_txt (n b : Int) (o : Option Tx) : (sayF n b o).2.2.txt = noT (o.map orD) ∧ (sayF n b o).1 = n ∧ (sayF n b o).2.1 = b := by cases o <;> exact ⟨rfl, rfl, rfl⟩
theorem num_txt (n b : Int) (o : Option Int) (ho : Pos o) : (numR n b o).2.2.txt = noT (o.map Lib.itoa) ∧ (numR n b o).1 = n ∧ (numR n b o).2.1 = b := by
  cases o with
  | none => exact ⟨rfl, rfl, rfl⟩
  | some z => exact ⟨itoa_ne (ho z rfl).1, rfl, rfl⟩
theorem lst_txt (n b : Int) (ok : Bool) (l : List Int) : (lstF n b ok l).2.2.txt = noT (if ok then some (orD (jnT l)) else none) ∧ (lstF n b ok l).1 = n ∧ (lstF n b ok l).2.1 = b := by cases ok <;> exact ⟨rfl, rfl, rfl⟩

/-- What a line's result is as the model's value. -/
abbrev stV (r : Int × Int × Rp) : Value := .tuple #[dsk r.1 r.2.1, str r.2.2.txt]

theorem shp_reverse {x : Tx} (h : x = [114, 101, 118, 101, 114, 115, 101]) : shp x = [] := by subst h; rfl
theorem shp_up {x : Tx} (h : x = [117, 112]) : shp x = [] := by subst h; rfl
theorem shp_down {x : Tx} (h : x = [100, 111, 119, 110]) : shp x = [] := by subst h; rfl
theorem shp_step {x : Tx} (h : x = [115, 116, 101, 112]) : shp x = [] := by subst h; rfl
theorem shp_short {x : Tx} (h : x = [115, 104, 111, 114, 116]) : shp x = [] := by subst h; rfl
theorem shp_next {x : Tx} (h : x = [110, 101, 120, 116]) : shp x = [] := by subst h; rfl
theorem shp_show {x : Tx} (h : x = [115, 104, 111, 119]) : shp x = [] := by subst h; rfl
theorem shp_digits {x : Tx} (h : x = [100, 105, 103, 105, 116, 115]) : shp x = [] := by subst h; rfl
theorem shp_sum {x : Tx} (h : x = [115, 117, 109]) : shp x = [] := by subst h; rfl
theorem shp_root {x : Tx} (h : x = [114, 111, 111, 116]) : shp x = [] := by subst h; rfl
theorem shp_ways {x : Tx} (h : x = [119, 97, 121, 115]) : shp x = [] := by subst h; rfl
theorem shp_happy {x : Tx} (h : x = [104, 97, 112, 112, 121]) : shp x = [] := by subst h; rfl
theorem shp_steps {x : Tx} (h : x = [115, 116, 101, 112, 115]) : shp x = [] := by subst h; rfl
theorem shp_base {x : Tx} (h : x = [98, 97, 115, 101]) : shp x = [110] := by subst h; rfl
theorem shp_power {x : Tx} (h : x = [112, 111, 119, 101, 114]) : shp x = [110] := by subst h; rfl
theorem shp_run {x : Tx} (h : x = [114, 117, 110]) : shp x = [110] := by subst h; rfl
theorem shp_own {x : Tx} (h : x = [111, 119, 110]) : shp x = [110] := by subst h; rfl
theorem shp_word {x : Tx} (h : x = [119, 111, 114, 100]) : shp x = [110] := by subst h; rfl
theorem shp_take {x : Tx} (h : x = [116, 97, 107, 101]) : shp x = [116] := by subst h; rfl
theorem shp_number {x : Tx} (h : x = [110, 117, 109, 98, 101, 114]) : shp x = [119] := by subst h; rfl
theorem shp_none {x : Tx} (h0 : ¬ x = [114, 101, 118, 101, 114, 115, 101]) (h1 : ¬ x = [117, 112]) (h2 : ¬ x = [100, 111, 119, 110]) (h3 : ¬ x = [115, 116, 101, 112]) (h4 : ¬ x = [115, 104, 111, 114, 116]) (h5 : ¬ x = [110, 101, 120, 116]) (h6 : ¬ x = [115, 104, 111, 119]) (h7 : ¬ x = [100, 105, 103, 105, 116, 115]) (h8 : ¬ x = [115, 117, 109]) (h9 : ¬ x = [114, 111, 111, 116]) (h10 : ¬ x = [119, 97, 121, 115]) (h11 : ¬ x = [104, 97, 112, 112, 121]) (h12 : ¬ x = [115, 116, 101, 112, 115]) (h13 : ¬ x = [98, 97, 115, 101]) (h14 : ¬ x = [112, 111, 119, 101, 114]) (h15 : ¬ x = [114, 117, 110]) (h16 : ¬ x = [111, 119, 110]) (h17 : ¬ x = [119, 111, 114, 100]) (h18 : ¬ x = [116, 97, 107, 101]) (h19 : ¬ x = [110, 117, 109, 98, 101, 114]) : shp x = [63] := by
  unfold shp
  rw [if_neg (fun e => h0 (eq_of_beq e)), if_neg (fun e => h1 (eq_of_beq e)), if_neg (fun e => h2 (eq_of_beq e)), if_neg (fun e => h3 (eq_of_beq e)), if_neg (fun e => h4 (eq_of_beq e)), if_neg (fun e => h5 (eq_of_beq e)), if_neg (fun e => h6 (eq_of_beq e)), if_neg (fun e => h7 (eq_of_beq e)), if_neg (fun e => h8 (eq_of_beq e)), if_neg (fun e => h9 (eq_of_beq e)), if_neg (fun e => h10 (eq_of_beq e)), if_neg (fun e => h11 (eq_of_beq e)), if_neg (fun e => h12 (eq_of_beq e)), if_neg (fun e => h13 (eq_of_beq e)), if_neg (fun e => h14 (eq_of_beq e)), if_neg (fun e => h15 (eq_of_beq e)), if_neg (fun e => h16 (eq_of_beq e)), if_neg (fun e => h17 (eq_of_beq e)), if_neg (fun e => h18 (eq_of_beq e)), if_neg (fun e => h19 (eq_of_beq e))]
theorem shp_le (x : Tx) : (shp x).length ≤ 1 := by
  unfold shp
  by_cases h0 : (x == [114, 101, 118, 101, 114, 115, 101]) = true
  · rw [if_pos h0]; simp
  rw [if_neg h0]
  by_cases h1 : (x == [117, 112]) = true
  · rw [if_pos h1]; simp
  rw [if_neg h1]
  by_cases h2 : (x == [100, 111, 119, 110]) = true
  · rw [if_pos h2]; simp
  rw [if_neg h2]
  by_cases h3 : (x == [115, 116, 101, 112]) = true
  · rw [if_pos h3]; simp
  rw [if_neg h3]
  by_cases h4 : (x == [115, 104, 111, 114, 116]) = true
  · rw [if_pos h4]; simp
  rw [if_neg h4]
  by_cases h5 : (x == [110, 101, 120, 116]) = true
  · rw [if_pos h5]; simp
  rw [if_neg h5]
  by_cases h6 : (x == [115, 104, 111, 119]) = true
  · rw [if_pos h6]; simp
  rw [if_neg h6]
  by_cases h7 : (x == [100, 105, 103, 105, 116, 115]) = true
  · rw [if_pos h7]; simp
  rw [if_neg h7]
  by_cases h8 : (x == [115, 117, 109]) = true
  · rw [if_pos h8]; simp
  rw [if_neg h8]
  by_cases h9 : (x == [114, 111, 111, 116]) = true
  · rw [if_pos h9]; simp
  rw [if_neg h9]
  by_cases h10 : (x == [119, 97, 121, 115]) = true
  · rw [if_pos h10]; simp
  rw [if_neg h10]
  by_cases h11 : (x == [104, 97, 112, 112, 121]) = true
  · rw [if_pos h11]; simp
  rw [if_neg h11]
  by_cases h12 : (x == [115, 116, 101, 112, 115]) = true
  · rw [if_pos h12]; simp
  rw [if_neg h12]
  by_cases h13 : (x == [98, 97, 115, 101]) = true
  · rw [if_pos h13]; simp
  rw [if_neg h13]
  by_cases h14 : (x == [112, 111, 119, 101, 114]) = true
  · rw [if_pos h14]; simp
  rw [if_neg h14]
  by_cases h15 : (x == [114, 117, 110]) = true
  · rw [if_pos h15]; simp
  rw [if_neg h15]
  by_cases h16 : (x == [111, 119, 110]) = true
  · rw [if_pos h16]; simp
  rw [if_neg h16]
  by_cases h17 : (x == [119, 111, 114, 100]) = true
  · rw [if_pos h17]; simp
  rw [if_neg h17]
  by_cases h18 : (x == [116, 97, 107, 101]) = true
  · rw [if_pos h18]; simp
  rw [if_neg h18]
  by_cases h19 : (x == [110, 117, 109, 98, 101, 114]) = true
  · rw [if_pos h19]; simp
  rw [if_neg h19]
  simp

theorem one_reverse (n b : Int) (s x : Tx) (hs : s.length ≤ 1000000) (hN : Num n) (hB : Bas b) (hw : spl 32 s = [x]) (hx : x = [114, 101, 118, 101, 114, 115, 101]) (w : World) : Calls Tryz.prog 35 #[dsk n b, str s] w fun e w' => e = .returned (stV (becF n b (askF RReverseNumber n b))) ∧ Below w.heap.size w w' := by
  have HR : ∀ W : World, Calls Tryz.prog 54 #[dsk n b, str s] W fun e w' => (∃ nv, e = Ending.returned (.tuple #[str x, lnV n b 0 [] nv, .bool true]) ∧ NvA w' nv (none)) ∧ Below W.heap.size W w' := fun W => (cr_zero n b s x hs hw (shp_reverse hx) W).mono (fun e w' ⟨he, hb⟩ => ⟨⟨.slice none 0 0, he, rfl⟩, hb⟩)
  exact step_m_reverse n b 0 _ _ [] _ s x none hx w HR (fun W g nv hL _ => moved_reverse g n b 0 [] nv x hx hB W hL)
theorem one_up (n b : Int) (s x : Tx) (hs : s.length ≤ 1000000) (hN : Num n) (hB : Bas b) (hw : spl 32 s = [x]) (hx : x = [117, 112]) (w : World) : Calls Tryz.prog 35 #[dsk n b, str s] w fun e w' => e = .returned (stV (becF n b (askF RSortedUp n b))) ∧ Below w.heap.size w w' := by
  have HR : ∀ W : World, Calls Tryz.prog 54 #[dsk n b, str s] W fun e w' => (∃ nv, e = Ending.returned (.tuple #[str x, lnV n b 0 [] nv, .bool true]) ∧ NvA w' nv (none)) ∧ Below W.heap.size W w' := fun W => (cr_zero n b s x hs hw (shp_up hx) W).mono (fun e w' ⟨he, hb⟩ => ⟨⟨.slice none 0 0, he, rfl⟩, hb⟩)
  exact step_m_up n b 0 _ _ [] _ s x none hx w HR (fun W g nv hL _ => moved_up g n b 0 [] nv x hx hB W hL)
theorem one_down (n b : Int) (s x : Tx) (hs : s.length ≤ 1000000) (hN : Num n) (hB : Bas b) (hw : spl 32 s = [x]) (hx : x = [100, 111, 119, 110]) (w : World) : Calls Tryz.prog 35 #[dsk n b, str s] w fun e w' => e = .returned (stV (becF n b (askF RSortedDown n b))) ∧ Below w.heap.size w w' := by
  have HR : ∀ W : World, Calls Tryz.prog 54 #[dsk n b, str s] W fun e w' => (∃ nv, e = Ending.returned (.tuple #[str x, lnV n b 0 [] nv, .bool true]) ∧ NvA w' nv (none)) ∧ Below W.heap.size W w' := fun W => (cr_zero n b s x hs hw (shp_down hx) W).mono (fun e w' ⟨he, hb⟩ => ⟨⟨.slice none 0 0, he, rfl⟩, hb⟩)
  exact step_m_down n b 0 _ _ [] _ s x none hx w HR (fun W g nv hL _ => moved_down g n b 0 [] nv x hx hB W hL)
theorem one_step (n b : Int) (s x : Tx) (hs : s.length ≤ 1000000) (hN : Num n) (hB : Bas b) (hw : spl 32 s = [x]) (hx : x = [115, 116, 101, 112]) (w : World) : Calls Tryz.prog 35 #[dsk n b, str s] w fun e w' => e = .returned (stV (becF n b (ledW 1 n))) ∧ Below w.heap.size w w' := by
  have HR : ∀ W : World, Calls Tryz.prog 54 #[dsk n b, str s] W fun e w' => (∃ nv, e = Ending.returned (.tuple #[str x, lnV n b 0 [] nv, .bool true]) ∧ NvA w' nv (none)) ∧ Below W.heap.size W w' := fun W => (cr_zero n b s x hs hw (shp_step hx) W).mono (fun e w' ⟨he, hb⟩ => ⟨⟨.slice none 0 0, he, rfl⟩, hb⟩)
  exact step_m_step n b 0 _ _ [] _ s x none hx w HR (fun W g nv hL _ => moved_step g n b 0 [] nv x hx hB W hL)
theorem one_short (n b : Int) (s x : Tx) (hs : s.length ≤ 1000000) (hN : Num n) (hB : Bas b) (hw : spl 32 s = [x]) (hx : x = [115, 104, 111, 114, 116]) (w : World) : Calls Tryz.prog 35 #[dsk n b, str s] w fun e w' => e = .returned (stV (becF n b (ledS n))) ∧ Below w.heap.size w w' := by
  have HR : ∀ W : World, Calls Tryz.prog 54 #[dsk n b, str s] W fun e w' => (∃ nv, e = Ending.returned (.tuple #[str x, lnV n b 0 [] nv, .bool true]) ∧ NvA w' nv (none)) ∧ Below W.heap.size W w' := fun W => (cr_zero n b s x hs hw (shp_short hx) W).mono (fun e w' ⟨he, hb⟩ => ⟨⟨.slice none 0 0, he, rfl⟩, hb⟩)
  exact step_m_short n b 0 _ _ [] _ s x none hx w HR (fun W g nv hL _ => moved_short g n b 0 [] nv x hx hB W hL)
theorem one_next (n b : Int) (s x : Tx) (hs : s.length ≤ 1000000) (hN : Num n) (hB : Bas b) (hw : spl 32 s = [x]) (hx : x = [110, 101, 120, 116]) (w : World) : Calls Tryz.prog 35 #[dsk n b, str s] w fun e w' => e = .returned (stV (becF n b (askF RNextPalindrome n b))) ∧ Below w.heap.size w w' := by
  have HR : ∀ W : World, Calls Tryz.prog 54 #[dsk n b, str s] W fun e w' => (∃ nv, e = Ending.returned (.tuple #[str x, lnV n b 0 [] nv, .bool true]) ∧ NvA w' nv (none)) ∧ Below W.heap.size W w' := fun W => (cr_zero n b s x hs hw (shp_next hx) W).mono (fun e w' ⟨he, hb⟩ => ⟨⟨.slice none 0 0, he, rfl⟩, hb⟩)
  exact step_m_next n b 0 _ _ [] _ s x none hx w HR (fun W g nv hL _ => moved_next g n b 0 [] nv x hx hB W hL)
theorem one_show (n b : Int) (s x : Tx) (hs : s.length ≤ 1000000) (hN : Num n) (hB : Bas b) (hw : spl 32 s = [x]) (hx : x = [115, 104, 111, 119]) (w : World) : Calls Tryz.prog 35 #[dsk n b, str s] w fun e w' => e = .returned (stV (n, b, Rp.say (RText n b))) ∧ Below w.heap.size w w' := by
  have HR : ∀ W : World, Calls Tryz.prog 54 #[dsk n b, str s] W fun e w' => (∃ nv, e = Ending.returned (.tuple #[str x, lnV n b 0 [] nv, .bool true]) ∧ NvA w' nv (none)) ∧ Below W.heap.size W w' := fun W => (cr_zero n b s x hs hw (shp_show hx) W).mono (fun e w' ⟨he, hb⟩ => ⟨⟨.slice none 0 0, he, rfl⟩, hb⟩)
  have h := step_a n b 0 [] _ s x none (by subst hx; decide) w HR (fun W g nv hL _ => asked_show g n b 0 [] nv x hx hN hB W hL)
  exact h
theorem one_digits (n b : Int) (s x : Tx) (hs : s.length ≤ 1000000) (hN : Num n) (hB : Bas b) (hw : spl 32 s = [x]) (hx : x = [100, 105, 103, 105, 116, 115]) (w : World) : Calls Tryz.prog 35 #[dsk n b, str s] w fun e w' => e = .returned (stV (lstF n b true (dgs b n))) ∧ Below w.heap.size w w' := by
  have HR : ∀ W : World, Calls Tryz.prog 54 #[dsk n b, str s] W fun e w' => (∃ nv, e = Ending.returned (.tuple #[str x, lnV n b 0 [] nv, .bool true]) ∧ NvA w' nv (none)) ∧ Below W.heap.size W w' := fun W => (cr_zero n b s x hs hw (shp_digits hx) W).mono (fun e w' ⟨he, hb⟩ => ⟨⟨.slice none 0 0, he, rfl⟩, hb⟩)
  have h := step_a n b 0 [] _ s x none (by subst hx; decide) w HR (fun W g nv hL _ => asked_digits g n b 0 [] nv x hx hN hB W hL)
  exact h
theorem one_sum (n b : Int) (s x : Tx) (hs : s.length ≤ 1000000) (hN : Num n) (hB : Bas b) (hw : spl 32 s = [x]) (hx : x = [115, 117, 109]) (w : World) : Calls Tryz.prog 35 #[dsk n b, str s] w fun e w' => e = .returned (stV (numR n b (askI RDigitSum n b))) ∧ Below w.heap.size w w' := by
  have HR : ∀ W : World, Calls Tryz.prog 54 #[dsk n b, str s] W fun e w' => (∃ nv, e = Ending.returned (.tuple #[str x, lnV n b 0 [] nv, .bool true]) ∧ NvA w' nv (none)) ∧ Below W.heap.size W w' := fun W => (cr_zero n b s x hs hw (shp_sum hx) W).mono (fun e w' ⟨he, hb⟩ => ⟨⟨.slice none 0 0, he, rfl⟩, hb⟩)
  have h := step_a n b 0 [] _ s x none (by subst hx; decide) w HR (fun W g nv hL _ => asked_sum g n b 0 [] nv x hx hN hB W hL)
  have e := num_txt n b (askI RDigitSum n b) (sum_pos n b)
  have e2 : askI RDigitSum n b = some (RDigitSum b n) := if_pos ⟨hN, hB⟩
  rw [stV, e.1, e.2.1, e.2.2, e2]
  exact h
theorem one_root (n b : Int) (s x : Tx) (hs : s.length ≤ 1000000) (hN : Num n) (hB : Bas b) (hw : spl 32 s = [x]) (hx : x = [114, 111, 111, 116]) (w : World) : Calls Tryz.prog 35 #[dsk n b, str s] w fun e w' => e = .returned (stV (numR n b (askI RDigitalRoot n b))) ∧ Below w.heap.size w w' := by
  have HR : ∀ W : World, Calls Tryz.prog 54 #[dsk n b, str s] W fun e w' => (∃ nv, e = Ending.returned (.tuple #[str x, lnV n b 0 [] nv, .bool true]) ∧ NvA w' nv (none)) ∧ Below W.heap.size W w' := fun W => (cr_zero n b s x hs hw (shp_root hx) W).mono (fun e w' ⟨he, hb⟩ => ⟨⟨.slice none 0 0, he, rfl⟩, hb⟩)
  have h := step_a n b 0 [] _ s x none (by subst hx; decide) w HR (fun W g nv hL _ => asked_root g n b 0 [] nv x hx hN hB W hL)
  have e := num_txt n b _ (root_pos n b)
  rw [stV, e.1, e.2.1, e.2.2]
  exact h
theorem one_ways (n b : Int) (s x : Tx) (hs : s.length ≤ 1000000) (hN : Num n) (hB : Bas b) (hw : spl 32 s = [x]) (hx : x = [119, 97, 121, 115]) (w : World) : Calls Tryz.prog 35 #[dsk n b, str s] w fun e w' => e = .returned (stV (numR n b (askI RCountRearranged n b))) ∧ Below w.heap.size w w' := by
  have HR : ∀ W : World, Calls Tryz.prog 54 #[dsk n b, str s] W fun e w' => (∃ nv, e = Ending.returned (.tuple #[str x, lnV n b 0 [] nv, .bool true]) ∧ NvA w' nv (none)) ∧ Below W.heap.size W w' := fun W => (cr_zero n b s x hs hw (shp_ways hx) W).mono (fun e w' ⟨he, hb⟩ => ⟨⟨.slice none 0 0, he, rfl⟩, hb⟩)
  have h := step_a n b 0 [] _ s x none (by subst hx; decide) w HR (fun W g nv hL _ => asked_ways g n b 0 [] nv x hx hN hB W hL)
  have e := num_txt n b _ (ways_pos n b)
  rw [stV, e.1, e.2.1, e.2.2]
  exact h
theorem one_happy (n b : Int) (s x : Tx) (hs : s.length ≤ 1000000) (hN : Num n) (hB : Bas b) (hw : spl 32 s = [x]) (hx : x = [104, 97, 112, 112, 121]) (w : World) : Calls Tryz.prog 35 #[dsk n b, str s] w fun e w' => e = .returned (stV (n, b, Rp.say (if hap b.toNat n.toNat then [121, 101, 115] else [115, 97, 100]))) ∧ Below w.heap.size w w' := by
  have HR : ∀ W : World, Calls Tryz.prog 54 #[dsk n b, str s] W fun e w' => (∃ nv, e = Ending.returned (.tuple #[str x, lnV n b 0 [] nv, .bool true]) ∧ NvA w' nv (none)) ∧ Below W.heap.size W w' := fun W => (cr_zero n b s x hs hw (shp_happy hx) W).mono (fun e w' ⟨he, hb⟩ => ⟨⟨.slice none 0 0, he, rfl⟩, hb⟩)
  have h := step_a n b 0 [] _ s x none (by subst hx; decide) w HR (fun W g nv hL _ => asked_happy g n b 0 [] nv x hx hN hB W hL)
  exact h
theorem one_steps (n b : Int) (s x : Tx) (hs : s.length ≤ 1000000) (hN : Num n) (hB : Bas b) (hw : spl 32 s = [x]) (hx : x = [115, 116, 101, 112, 115]) (w : World) : Calls Tryz.prog 35 #[dsk n b, str s] w fun e w' => e = .returned (stV (numR n b (RStepsTo n))) ∧ Below w.heap.size w w' := by
  have HR : ∀ W : World, Calls Tryz.prog 54 #[dsk n b, str s] W fun e w' => (∃ nv, e = Ending.returned (.tuple #[str x, lnV n b 0 [] nv, .bool true]) ∧ NvA w' nv (none)) ∧ Below W.heap.size W w' := fun W => (cr_zero n b s x hs hw (shp_steps hx) W).mono (fun e w' ⟨he, hb⟩ => ⟨⟨.slice none 0 0, he, rfl⟩, hb⟩)
  have h := step_a n b 0 [] _ s x none (by subst hx; decide) w HR (fun W g nv hL _ => asked_steps g n b 0 [] nv x hx hN hB W hL)
  have e := num_txt n b _ (steps_pos n)
  rw [stV, e.1, e.2.1, e.2.2]
  exact h
theorem len_what (n b : Int) (s x : Tx) (ws : List Tx) (hs : s.length ≤ 1000000) (hw : spl 32 s = x :: ws) (hsh : (shp x).length ≠ ws.length) (w : World) : Calls Tryz.prog 35 #[dsk n b, str s] w fun e w' => e = .returned (stV (n, b, Rp.what)) ∧ Below w.heap.size w w' :=
  step_what n b s w (fun W => (cr_len n b s x hs ws hw hsh W).mono (fun e w' ⟨he, hb⟩ => ⟨⟨0, [], none, 0, 0, he⟩, hb⟩))
theorem one_any (n b : Int) (s x : Tx) (hs : s.length ≤ 1000000) (hN : Num n) (hB : Bas b) (hw : spl 32 s = [x]) (w : World) : Calls Tryz.prog 35 #[dsk n b, str s] w fun e w' => e = .returned (stV (aloneF n b x)) ∧ Below w.heap.size w w' := by
  unfold aloneF
  by_cases h0 : x = [114, 101, 118, 101, 114, 115, 101]
  · rw [if_pos h0]
    exact one_reverse n b s x hs hN hB hw h0 w
  by_cases h1 : x = [117, 112]
  · rw [if_neg h0, if_pos h1]
    exact one_up n b s x hs hN hB hw h1 w
  by_cases h2 : x = [100, 111, 119, 110]
  · rw [if_neg h0, if_neg h1, if_pos h2]
    exact one_down n b s x hs hN hB hw h2 w
  by_cases h3 : x = [115, 116, 101, 112]
  · rw [if_neg h0, if_neg h1, if_neg h2, if_pos h3]
    exact one_step n b s x hs hN hB hw h3 w
  by_cases h4 : x = [115, 104, 111, 114, 116]
  · rw [if_neg h0, if_neg h1, if_neg h2, if_neg h3, if_pos h4]
    exact one_short n b s x hs hN hB hw h4 w
  by_cases h5 : x = [110, 101, 120, 116]
  · rw [if_neg h0, if_neg h1, if_neg h2, if_neg h3, if_neg h4, if_pos h5]
    exact one_next n b s x hs hN hB hw h5 w
  by_cases h6 : x = [115, 104, 111, 119]
  · rw [if_neg h0, if_neg h1, if_neg h2, if_neg h3, if_neg h4, if_neg h5, if_pos h6]
    exact one_show n b s x hs hN hB hw h6 w
  by_cases h7 : x = [100, 105, 103, 105, 116, 115]
  · rw [if_neg h0, if_neg h1, if_neg h2, if_neg h3, if_neg h4, if_neg h5, if_neg h6, if_pos h7]
    exact one_digits n b s x hs hN hB hw h7 w
  by_cases h8 : x = [115, 117, 109]
  · rw [if_neg h0, if_neg h1, if_neg h2, if_neg h3, if_neg h4, if_neg h5, if_neg h6, if_neg h7, if_pos h8]
    exact one_sum n b s x hs hN hB hw h8 w
  by_cases h9 : x = [114, 111, 111, 116]
  · rw [if_neg h0, if_neg h1, if_neg h2, if_neg h3, if_neg h4, if_neg h5, if_neg h6, if_neg h7, if_neg h8, if_pos h9]
    exact one_root n b s x hs hN hB hw h9 w
  by_cases h10 : x = [119, 97, 121, 115]
  · rw [if_neg h0, if_neg h1, if_neg h2, if_neg h3, if_neg h4, if_neg h5, if_neg h6, if_neg h7, if_neg h8, if_neg h9, if_pos h10]
    exact one_ways n b s x hs hN hB hw h10 w
  by_cases h11 : x = [104, 97, 112, 112, 121]
  · rw [if_neg h0, if_neg h1, if_neg h2, if_neg h3, if_neg h4, if_neg h5, if_neg h6, if_neg h7, if_neg h8, if_neg h9, if_neg h10, if_pos h11]
    exact one_happy n b s x hs hN hB hw h11 w
  by_cases h12 : x = [115, 116, 101, 112, 115]
  · rw [if_neg h0, if_neg h1, if_neg h2, if_neg h3, if_neg h4, if_neg h5, if_neg h6, if_neg h7, if_neg h8, if_neg h9, if_neg h10, if_neg h11, if_pos h12]
    exact one_steps n b s x hs hN hB hw h12 w
  rw [if_neg h0, if_neg h1, if_neg h2, if_neg h3, if_neg h4, if_neg h5, if_neg h6, if_neg h7, if_neg h8, if_neg h9, if_neg h10, if_neg h11, if_neg h12]
  refine len_what n b s x [] hs hw ?_ w
  have hne : shp x ≠ [] := by
    unfold shp
    rw [if_neg (fun e => h0 (eq_of_beq e)), if_neg (fun e => h1 (eq_of_beq e)), if_neg (fun e => h2 (eq_of_beq e)), if_neg (fun e => h3 (eq_of_beq e)), if_neg (fun e => h4 (eq_of_beq e)), if_neg (fun e => h5 (eq_of_beq e)), if_neg (fun e => h6 (eq_of_beq e)), if_neg (fun e => h7 (eq_of_beq e)), if_neg (fun e => h8 (eq_of_beq e)), if_neg (fun e => h9 (eq_of_beq e)), if_neg (fun e => h10 (eq_of_beq e)), if_neg (fun e => h11 (eq_of_beq e)), if_neg (fun e => h12 (eq_of_beq e))]
    by_cases g0 : (x == [98, 97, 115, 101]) = true
    · rw [if_pos g0]; simp
    rw [if_neg g0]
    by_cases g1 : (x == [112, 111, 119, 101, 114]) = true
    · rw [if_pos g1]; simp
    rw [if_neg g1]
    by_cases g2 : (x == [114, 117, 110]) = true
    · rw [if_pos g2]; simp
    rw [if_neg g2]
    by_cases g3 : (x == [111, 119, 110]) = true
    · rw [if_pos g3]; simp
    rw [if_neg g3]
    by_cases g4 : (x == [119, 111, 114, 100]) = true
    · rw [if_pos g4]; simp
    rw [if_neg g4]
    by_cases g5 : (x == [116, 97, 107, 101]) = true
    · rw [if_pos g5]; simp
    rw [if_neg g5]
    by_cases g6 : (x == [110, 117, 109, 98, 101, 114]) = true
    · rw [if_pos g6]; simp
    rw [if_neg g6]
    simp
  intro e
  exact hne (List.eq_nil_of_length_eq_zero e)

theorem two_take (n b : Int) (s x y : Tx) (hs : s.length ≤ 1000000) (hy : y.length ≤ 1000000) (hN : Num n) (hB : Bas b) (hw : spl 32 s = [x, y]) (hx : x = [116, 97, 107, 101]) (w : World) : Calls Tryz.prog 35 #[dsk n b, str s] w fun e w' => e = .returned (stV (match RParse b y with | some m => becF n b (some m) | none => (n, b, Rp.what))) ∧ Below w.heap.size w w' := by
  cases hp : RParse b y with
  | none => exact step_what n b s w (fun W => (cr_t_no n b s x y hs hw (shp_take hx) hy hp W).mono (fun e w' ⟨he, hb⟩ => ⟨⟨0, [], none, 0, 0, he⟩, hb⟩))
  | some m =>
    have HR : ∀ W : World, Calls Tryz.prog 54 #[dsk n b, str s] W fun e w' => (∃ nv, e = Ending.returned (.tuple #[str x, lnV n b m [] nv, .bool true]) ∧ NvA w' nv (none)) ∧ Below W.heap.size W w' := fun W => (cr_t_yes n b m s x y hs hw (shp_take hx) hy hp W).mono (fun e w' ⟨he, hb⟩ => ⟨⟨.slice none 0 0, he, rfl⟩, hb⟩)
    exact step_m_take n b m _ _ [] _ s x none hx w HR (fun W g nv hL _ => moved_take g n b m [] nv x hx (parse_rng hp).1 hB W hL)
theorem two_number (n b : Int) (s x y : Tx) (hs : s.length ≤ 1000000) (hy : y.length ≤ 1000000) (hN : Num n) (hB : Bas b) (hw : spl 32 s = [x, y]) (hx : x = [110, 117, 109, 98, 101, 114]) (w : World) : Calls Tryz.prog 35 #[dsk n b, str s] w fun e w' => e = .returned (stV (if okL y then numR n b (RNumberOfWord ⟨y.toArray⟩) else (n, b, Rp.what))) ∧ Below w.heap.size w w' := by
  cases hp : okL y with
  | false => exact step_what n b s w (fun W => (cr_w_no n b s x y hs hw (shp_number hx) hy hp W).mono (fun e w' ⟨he, hb⟩ => ⟨⟨0, y, none, 0, 0, he⟩, hb⟩))
  | true =>
    have HR : ∀ W : World, Calls Tryz.prog 54 #[dsk n b, str s] W fun e w' => (∃ nv, e = Ending.returned (.tuple #[str x, lnV n b 0 y nv, .bool true]) ∧ NvA w' nv (none)) ∧ Below W.heap.size W w' := fun W => (cr_w_yes n b s x y hs hw (shp_number hx) hy hp W).mono (fun e w' ⟨he, hb⟩ => ⟨⟨.slice none 0 0, he, rfl⟩, hb⟩)
    have h := step_a n b 0 y _ s x none (by subst hx; decide) w HR (fun W g nv hL _ => asked_number g n b 0 y nv x hx hN hB W hL)
    have e := num_txt n b _ (word_pos ⟨y.toArray⟩)
    rw [if_pos rfl, stV, e.1, e.2.1, e.2.2]
    exact h
theorem two_base (n b : Int) (s x y : Tx) (hs : s.length ≤ 1000000) (hy : y.length ≤ 1000000) (hN : Num n) (hB : Bas b) (hw : spl 32 s = [x, y]) (k : Int) (hp : rdN y = some k) (hx : x = [98, 97, 115, 101]) (w : World) : Calls Tryz.prog 35 #[dsk n b, str s] w fun e w' => e = .returned (stV (if Bas k then (n, k, Rp.say [111, 107]) else (n, b, Rp.no))) ∧ Below w.heap.size w w' := by
  have HR : ∀ W : World, Calls Tryz.prog 54 #[dsk n b, str s] W fun e w' => (∃ nv, e = Ending.returned (.tuple #[str x, lnV n b 0 [] nv, .bool true]) ∧ NvA w' nv (some k)) ∧ Below W.heap.size W w' := fun W => (cr_n_yes n b k s x y hs hw (shp_base hx) hy hp W).mono (fun e w' ⟨⟨p, cp, he, hc, hl⟩, hb⟩ => ⟨⟨.slice (some ⟨p, 0, none⟩) 1 cp, he, ⟨p, cp, rfl, hc, hl⟩⟩, hb⟩)
  by_cases hK : Bas k
  · rw [if_pos hK]
    exact step_m_base n b 0 _ _ [] _ s x (some k) hx w HR (fun W g nv hL ⟨p, cp, hv, hc, _⟩ => by subst hv; exact moved_base_yes g n b 0 k [] p cp x hx hK W hL hc)
  · rw [if_neg hK]
    exact step_m_base n b 0 _ _ [] _ s x (some k) hx w HR (fun W g nv hL ⟨p, cp, hv, hc, _⟩ => by subst hv; exact moved_base_no g n b 0 k [] p cp x hx hK W hL hc)
theorem two_power (n b : Int) (s x y : Tx) (hs : s.length ≤ 1000000) (hy : y.length ≤ 1000000) (hN : Num n) (hB : Bas b) (hw : spl 32 s = [x, y]) (k : Int) (hp : rdN y = some k) (hx : x = [112, 111, 119, 101, 114]) (w : World) : Calls Tryz.prog 35 #[dsk n b, str s] w fun e w' => e = .returned (stV (becF n b (if OK3 n b k 8 then some (V_PowerSum n b k) else none))) ∧ Below w.heap.size w w' := by
  have HR : ∀ W : World, Calls Tryz.prog 54 #[dsk n b, str s] W fun e w' => (∃ nv, e = Ending.returned (.tuple #[str x, lnV n b 0 [] nv, .bool true]) ∧ NvA w' nv (some k)) ∧ Below W.heap.size W w' := fun W => (cr_n_yes n b k s x y hs hw (shp_power hx) hy hp W).mono (fun e w' ⟨⟨p, cp, he, hc, hl⟩, hb⟩ => ⟨⟨.slice (some ⟨p, 0, none⟩) 1 cp, he, ⟨p, cp, rfl, hc, hl⟩⟩, hb⟩)
  exact step_m_power n b 0 _ _ [] _ s x (some k) hx w HR (fun W g nv hL ⟨p, cp, hv, hc, _⟩ => by subst hv; exact moved_power g n b 0 k [] p cp x hx hB W hL hc)
theorem two_run (n b : Int) (s x y : Tx) (hs : s.length ≤ 1000000) (hy : y.length ≤ 1000000) (hN : Num n) (hB : Bas b) (hw : spl 32 s = [x, y]) (k : Int) (hp : rdN y = some k) (hx : x = [114, 117, 110]) (w : World) : Calls Tryz.prog 35 #[dsk n b, str s] w fun e w' => e = .returned (stV (lstF n b (OK3 n b k 4) (LF_PowerRun n b k))) ∧ Below w.heap.size w w' := by
  have HR : ∀ W : World, Calls Tryz.prog 54 #[dsk n b, str s] W fun e w' => (∃ nv, e = Ending.returned (.tuple #[str x, lnV n b 0 [] nv, .bool true]) ∧ NvA w' nv (some k)) ∧ Below W.heap.size W w' := fun W => (cr_n_yes n b k s x y hs hw (shp_run hx) hy hp W).mono (fun e w' ⟨⟨p, cp, he, hc, hl⟩, hb⟩ => ⟨⟨.slice (some ⟨p, 0, none⟩) 1 cp, he, ⟨p, cp, rfl, hc, hl⟩⟩, hb⟩)
  have h := step_a n b 0 [] _ s x (some k) (by subst hx; decide) w HR (fun W g nv hL ⟨p, cp, hv, hc, _⟩ => by subst hv; exact asked_run g n b 0 [] k p cp x hx hN hB W hL hc)
  have e := lst_txt n b (OK3 n b k 4) (LF_PowerRun n b k)
  rw [stV, e.1, e.2.1, e.2.2]
  exact h
theorem two_own (n b : Int) (s x y : Tx) (hs : s.length ≤ 1000000) (hy : y.length ≤ 1000000) (hN : Num n) (hB : Bas b) (hw : spl 32 s = [x, y]) (k : Int) (hp : rdN y = some k) (hx : x = [111, 119, 110]) (w : World) : Calls Tryz.prog 35 #[dsk n b, str s] w fun e w' => e = .returned (stV (lstF n b (OKO b k) (LF_OwnPowers b k))) ∧ Below w.heap.size w w' := by
  have HR : ∀ W : World, Calls Tryz.prog 54 #[dsk n b, str s] W fun e w' => (∃ nv, e = Ending.returned (.tuple #[str x, lnV n b 0 [] nv, .bool true]) ∧ NvA w' nv (some k)) ∧ Below W.heap.size W w' := fun W => (cr_n_yes n b k s x y hs hw (shp_own hx) hy hp W).mono (fun e w' ⟨⟨p, cp, he, hc, hl⟩, hb⟩ => ⟨⟨.slice (some ⟨p, 0, none⟩) 1 cp, he, ⟨p, cp, rfl, hc, hl⟩⟩, hb⟩)
  have h := step_a n b 0 [] _ s x (some k) (by subst hx; decide) w HR (fun W g nv hL ⟨p, cp, hv, hc, _⟩ => by subst hv; exact asked_own g n b 0 [] k p cp x hx hN hB W hL hc)
  have e := lst_txt n b (OKO b k) (LF_OwnPowers b k)
  rw [stV, e.1, e.2.1, e.2.2]
  exact h
theorem two_word (n b : Int) (s x y : Tx) (hs : s.length ≤ 1000000) (hy : y.length ≤ 1000000) (hN : Num n) (hB : Bas b) (hw : spl 32 s = [x, y]) (k : Int) (hp : rdN y = some k) (hx : x = [119, 111, 114, 100]) (w : World) : Calls Tryz.prog 35 #[dsk n b, str s] w fun e w' => e = .returned (stV (sayF n b (RWd n k))) ∧ Below w.heap.size w w' := by
  have HR : ∀ W : World, Calls Tryz.prog 54 #[dsk n b, str s] W fun e w' => (∃ nv, e = Ending.returned (.tuple #[str x, lnV n b 0 [] nv, .bool true]) ∧ NvA w' nv (some k)) ∧ Below W.heap.size W w' := fun W => (cr_n_yes n b k s x y hs hw (shp_word hx) hy hp W).mono (fun e w' ⟨⟨p, cp, he, hc, hl⟩, hb⟩ => ⟨⟨.slice (some ⟨p, 0, none⟩) 1 cp, he, ⟨p, cp, rfl, hc, hl⟩⟩, hb⟩)
  have h := step_a n b 0 [] _ s x (some k) (by subst hx; decide) w HR (fun W g nv hL ⟨p, cp, hv, hc, _⟩ => by subst hv; exact asked_word g n b 0 [] k p cp x hx hN hB W hL hc)
  have e := say_txt n b (RWd n k)
  rw [stV, e.1, e.2.1, e.2.2]
  exact h
theorem two_bad (n b : Int) (s x y : Tx) (hs : s.length ≤ 1000000) (hy : y.length ≤ 1000000) (hN : Num n) (hB : Bas b) (hw : spl 32 s = [x, y]) (hsh : shp x = [110]) (hp : rdN y = none) (w : World) : Calls Tryz.prog 35 #[dsk n b, str s] w fun e w' => e = .returned (stV (n, b, Rp.what)) ∧ Below w.heap.size w w' :=
  step_what n b s w (fun W => (cr_n_no n b s x y hs hw hsh hy hp W).mono (fun e w' ⟨⟨p, cp, he⟩, hb⟩ => ⟨⟨0, [], some ⟨p, 0, none⟩, 1, cp, he⟩, hb⟩))
theorem two_q (n b : Int) (s x y : Tx) (hs : s.length ≤ 1000000) (hy : y.length ≤ 1000000) (hN : Num n) (hB : Bas b) (hw : spl 32 s = [x, y]) (hsh : shp x = [63]) (w : World) : Calls Tryz.prog 35 #[dsk n b, str s] w fun e w' => e = .returned (stV (n, b, Rp.what)) ∧ Below w.heap.size w w' :=
  step_what n b s w (fun W => (cr_q n b s x y hs hw hsh W).mono (fun e w' ⟨he, hb⟩ => ⟨⟨0, [], none, 0, 0, he⟩, hb⟩))
theorem numF2_none {n b k : Int} {x : Tx} (h0 : ¬ x = [98, 97, 115, 101]) (h1 : ¬ x = [112, 111, 119, 101, 114]) (h2 : ¬ x = [114, 117, 110]) (h3 : ¬ x = [111, 119, 110]) (h4 : ¬ x = [119, 111, 114, 100]) : numF2 n b x k = (n, b, Rp.what) := by
  unfold numF2
  rw [if_neg h0, if_neg h1, if_neg h2, if_neg h3, if_neg h4]
theorem two_any (n b : Int) (s x y : Tx) (hs : s.length ≤ 1000000) (hy : y.length ≤ 1000000) (hN : Num n) (hB : Bas b) (hw : spl 32 s = [x, y]) (w : World) : Calls Tryz.prog 35 #[dsk n b, str s] w fun e w' => e = .returned (stV (withF n b x y)) ∧ Below w.heap.size w w' := by
  by_cases ht : x = [116, 97, 107, 101]
  · have e : withF n b x y = (match RParse b y with | some m => becF n b (some m) | none => (n, b, Rp.what)) := by unfold withF; rw [if_pos ht]; cases RParse b y <;> rfl
    rw [e]
    exact two_take n b s x y hs hy hN hB hw ht w
  by_cases hn : x = [110, 117, 109, 98, 101, 114]
  · have e : withF n b x y = (if okL y then numR n b (RNumberOfWord ⟨y.toArray⟩) else (n, b, Rp.what)) := by unfold withF; rw [if_neg ht, if_pos hn]
    rw [e]
    exact two_number n b s x y hs hy hN hB hw hn w
  have en : rdN y = none → withF n b x y = (n, b, Rp.what) := fun h => by unfold withF; rw [if_neg ht, if_neg hn, h]
  have es : ∀ k, rdN y = some k → withF n b x y = numF2 n b x k := fun k h => by unfold withF; rw [if_neg ht, if_neg hn, h]
  by_cases h0 : x = [98, 97, 115, 101]
  · cases hp : rdN y with
    | none =>
      rw [en hp]
      exact two_bad n b s x y hs hy hN hB hw (shp_base h0) hp w
    | some k =>
      rw [es k hp]
      unfold numF2
      rw [if_pos h0]
      exact two_base n b s x y hs hy hN hB hw k hp h0 w
  by_cases h1 : x = [112, 111, 119, 101, 114]
  · cases hp : rdN y with
    | none =>
      rw [en hp]
      exact two_bad n b s x y hs hy hN hB hw (shp_power h1) hp w
    | some k =>
      rw [es k hp]
      unfold numF2
      rw [if_neg h0, if_pos h1]
      exact two_power n b s x y hs hy hN hB hw k hp h1 w
  by_cases h2 : x = [114, 117, 110]
  · cases hp : rdN y with
    | none =>
      rw [en hp]
      exact two_bad n b s x y hs hy hN hB hw (shp_run h2) hp w
    | some k =>
      rw [es k hp]
      unfold numF2
      rw [if_neg h0, if_neg h1, if_pos h2]
      exact two_run n b s x y hs hy hN hB hw k hp h2 w
  by_cases h3 : x = [111, 119, 110]
  · cases hp : rdN y with
    | none =>
      rw [en hp]
      exact two_bad n b s x y hs hy hN hB hw (shp_own h3) hp w
    | some k =>
      rw [es k hp]
      unfold numF2
      rw [if_neg h0, if_neg h1, if_neg h2, if_pos h3]
      exact two_own n b s x y hs hy hN hB hw k hp h3 w
  by_cases h4 : x = [119, 111, 114, 100]
  · cases hp : rdN y with
    | none =>
      rw [en hp]
      exact two_bad n b s x y hs hy hN hB hw (shp_word h4) hp w
    | some k =>
      rw [es k hp]
      unfold numF2
      rw [if_neg h0, if_neg h1, if_neg h2, if_neg h3, if_pos h4]
      exact two_word n b s x y hs hy hN hB hw k hp h4 w
  have hwh : withF n b x y = (n, b, Rp.what) := by
    cases h : rdN y with
    | none => exact en h
    | some k => rw [es k h]; exact numF2_none (h0 := h0) (h1 := h1) (h2 := h2) (h3 := h3) (h4 := h4)
  rw [hwh]
  by_cases a0 : x = [114, 101, 118, 101, 114, 115, 101]
  · exact len_what n b s x [y] hs hw (by rw [shp_reverse a0]; simp) w
  by_cases a1 : x = [117, 112]
  · exact len_what n b s x [y] hs hw (by rw [shp_up a1]; simp) w
  by_cases a2 : x = [100, 111, 119, 110]
  · exact len_what n b s x [y] hs hw (by rw [shp_down a2]; simp) w
  by_cases a3 : x = [115, 116, 101, 112]
  · exact len_what n b s x [y] hs hw (by rw [shp_step a3]; simp) w
  by_cases a4 : x = [115, 104, 111, 114, 116]
  · exact len_what n b s x [y] hs hw (by rw [shp_short a4]; simp) w
  by_cases a5 : x = [110, 101, 120, 116]
  · exact len_what n b s x [y] hs hw (by rw [shp_next a5]; simp) w
  by_cases a6 : x = [115, 104, 111, 119]
  · exact len_what n b s x [y] hs hw (by rw [shp_show a6]; simp) w
  by_cases a7 : x = [100, 105, 103, 105, 116, 115]
  · exact len_what n b s x [y] hs hw (by rw [shp_digits a7]; simp) w
  by_cases a8 : x = [115, 117, 109]
  · exact len_what n b s x [y] hs hw (by rw [shp_sum a8]; simp) w
  by_cases a9 : x = [114, 111, 111, 116]
  · exact len_what n b s x [y] hs hw (by rw [shp_root a9]; simp) w
  by_cases a10 : x = [119, 97, 121, 115]
  · exact len_what n b s x [y] hs hw (by rw [shp_ways a10]; simp) w
  by_cases a11 : x = [104, 97, 112, 112, 121]
  · exact len_what n b s x [y] hs hw (by rw [shp_happy a11]; simp) w
  by_cases a12 : x = [115, 116, 101, 112, 115]
  · exact len_what n b s x [y] hs hw (by rw [shp_steps a12]; simp) w
  exact two_q n b s x y hs hy hN hB hw (shp_none (h0 := a0) (h1 := a1) (h2 := a2) (h3 := a3) (h4 := a4) (h5 := a5) (h6 := a6) (h7 := a7) (h8 := a8) (h9 := a9) (h10 := a10) (h11 := a11) (h12 := a12) (h13 := h0) (h14 := h1) (h15 := h2) (h16 := h3) (h17 := h4) (h18 := ht) (h19 := hn)) w

theorem coStep_any (n b : Int) (s : Tx) (hs : s.length ≤ 1000000) (hN : Num n) (hB : Bas b) (w : World) : Calls Tryz.prog 35 #[dsk n b, str s] w fun e w' => e = .returned (stV (lineF n b (spl 32 s))) ∧ Below w.heap.size w w' := by
  have hm := spA_mem 32 s []
  have hp := spA_pos 32 s []
  cases hws : spl 32 s with
  | nil => rw [show spA 32 [] s = [] from hws] at hp; simp at hp
  | cons x r =>
    cases r with
    | nil => exact one_any n b s x hs hN hB hws w
    | cons y r2 =>
      cases r2 with
      | nil => exact two_any n b s x y hs (by have := hm y (by rw [show spA 32 [] s = [x, y] from hws]; simp); simp at this; omega) hN hB hws w
      | cons z r3 =>
        show Calls Tryz.prog 35 #[dsk n b, str s] w fun e w' => e = .returned (stV (n, b, Rp.what)) ∧ Below w.heap.size w w'
        exact len_what n b s x (y :: z :: r3) hs hws (by have := shp_le x; simp; omega) w

end Go.Proofs.YtlbjeiaihenjkaaGreatDoor
