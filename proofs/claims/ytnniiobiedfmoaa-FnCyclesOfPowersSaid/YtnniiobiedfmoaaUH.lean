/-
  What a run tells behind its interface.
-/
import Derived.Test.YtnniiobiedfmoaaUG
namespace Go.Proofs.Ytnniiobiedfmoaa
open Go.RowKit
set_option linter.unusedVariables false
set_option linter.unusedSimpArgs false
set_option maxRecDepth 100000

theorem as_circle (v : Value) (w : World) : (Instr.typeAssert (.iface 83 v) 45 85 true).run Try.prog w = .ok (.tuple #[.agg #[.slice none 0 0, .slice none 0 0], .bool false]) w := by kernel_rfl
theorem as_tailed (v : Value) (w : World) : (Instr.typeAssert (.iface 85 v) 45 85 true).run Try.prog w = .ok (.tuple #[v, .bool true]) w := by kernel_rfl

/-- A cell that can be read stays where nothing below is written. -/
theorem Below.keeps_cell {w w' : World} (h : Below w.heap.size w w') {a : Addr} {u : Value} (hc : w.cell? a = some u) : w'.cell? a = some u := by
  have hlt : a.block < w.heap.size := by
    by_cases hl : a.block < w.heap.size
    · exact hl
    · unfold World.cell? at hc
      simp [Array.getElem?_eq_none (Nat.le_of_not_lt hl)] at hc
  rw [h.cell (p := a) hlt]
  exact hc

theorem tailOfRun_any (r : Value) (xs : List Int) (t : Nat) (B : Nat) (w : World) (h : RunV w B r xs t) :
    Calls Try.prog 44 #[r] w fun e w' => ∃ a c, e = .returned (.slice a t c) ∧ Below w.heap.size w w' := by
  obtain ⟨g, cap, hr, ⟨h0, rfl⟩ | ⟨h0, ht, rfl⟩⟩ := h
  · subst h0
    clear hr
    have hA := as_circle (.slice (some ⟨g, 0, none⟩) xs.length cap)
    go_enter Try.func44, Try.ntmps44
    go_wp2
    go_ret
    exact ⟨_, _, rfl, Below.refl _ _⟩
  · clear hr
    have hA := as_tailed (.agg #[.slice (some ⟨g, 0, none⟩) t cap, .slice (some ⟨g, t, none⟩) (xs.length - t) (cap - t)])
    go_enter Try.func44, Try.ntmps44
    go_wp2
    go_ret
    exact ⟨_, _, rfl, (Below.refl _ _).alloc (Nat.le_refl _) _⟩

theorem cycle_circle (a : Option Addr) (n c : Nat) (w : World) :
    Calls Try.prog 142 #[.slice a n c] w fun e w' => e = .returned (.slice a n c) ∧ w = w' := by
  go_enter Try.func142, Try.ntmps142
  go_wp2
  go_ret
  exact ⟨rfl, rfl⟩

theorem numbers_circle (a : Option Addr) (n c : Nat) (w : World) :
    Calls Try.prog 143 #[.slice a n c] w fun e w' => e = .returned (.slice a n c) ∧ w = w' := by
  go_enter Try.func143, Try.ntmps143
  go_wp2
  go_ret
  exact ⟨rfl, rfl⟩

theorem cycle_tailed (a a2 : Option Addr) (n c n2 c2 : Nat) (w : World) :
    Calls Try.prog 144 #[.agg #[.slice a n c, .slice a2 n2 c2]] w fun e w' => e = .returned (.slice a2 n2 c2) ∧ Below w.heap.size w w' := by
  go_enter Try.func144, Try.ntmps144
  go_wp2
  go_ret
  exact ⟨rfl, (Below.refl _ _).alloc (Nat.le_refl _) _⟩

theorem meth_cc (v : Value) (w : World) : (method 246 83 v "loop.example/g01151/impl.cycle").run Try.prog w = .ok (142, v) w := by kernel_rfl
theorem meth_cn (v : Value) (w : World) : (method 246 83 v "loop.example/g01151/impl.numbers").run Try.prog w = .ok (143, v) w := by kernel_rfl
theorem meth_tc (v : Value) (w : World) : (method 246 85 v "loop.example/g01151/impl.cycle").run Try.prog w = .ok (144, v) w := by kernel_rfl
theorem meth_tn (v : Value) (w : World) : (method 246 85 v "loop.example/g01151/impl.numbers").run Try.prog w = .ok (145, v) w := by kernel_rfl

/-- What is read of the numbers of a slice, from its address on. -/
def CellsAt (w : World) (g o : Nat) (xs : List Int) : Prop := ∀ j, j < xs.length → w.cell? ⟨g, o + j, none⟩ = some (.int .i64 (xs.getD j 0))

theorem Rd.cellsAt {w : World} {B g n c : Nat} {xs : List Int} (h : Rd w B (.slice (some ⟨g, 0, none⟩) n c) xs) (t : Nat) : CellsAt w g t (xs.drop t) := by
  intro j hj
  rw [List.length_drop] at hj
  have h2 : t + j < xs.length := by omega
  rw [h.at.2.2.2.2.1 (t + j) h2]
  congr 2
  rw [List.getD_eq_getElem?_getD, List.getElem?_drop, List.getElem?_eq_getElem h2]
  rfl

/-- The least number of the cycle of a run. -/
def endOf (f : Nat → Nat) (M x : Nat) : Int := Lib.minOf ((run f M x).drop (tl f M x))

theorem run_len (f : Nat → Nat) (M x : Nat) : (run f M x).length = rl f M x := by simp [run]

theorem ends_yes (n b p : Nat) (w : World) (hn : n ≤ 1000000000000) (hb : 2 ≤ b) (hb' : b ≤ 16) (hp : 1 ≤ p) (hp' : p ≤ 4) :
    Calls Try.prog 12 #[.int .i64 (n : Int), .int .i64 (b : Int), .int .i64 (p : Int)] w fun e w' => e = .returned (.tuple #[.int .i64 (endOf (ps b p) PM n), .bool true]) ∧ Below w.heap.size w w' := by
  obtain ⟨s1, s2, s3, s4, s5, s6⟩ := rl_spec (it_ps hb hb' hp' hn)
  have hpm : rl (ps b p) PM n ≤ 1012502 := by unfold PM at s2; exact s2
  obtain ⟨xs, hxs⟩ : ∃ xs, xs = run (ps b p) PM n := ⟨_, rfl⟩
  obtain ⟨t, ht⟩ : ∃ t, t = tl (ps b p) PM n := ⟨_, rfl⟩
  have hlen : xs.length = rl (ps b p) PM n := by rw [hxs, run_len]
  have htl : t < xs.length := by rw [hlen, ht]; exact s3
  have hl2 : xs.length ≤ 1012502 := by omega
  have HE := Lib.hid (show endOf (ps b p) PM n = Lib.minOf ((xs.drop t).take (xs.length - t)) by unfold endOf; rw [← hxs, ← ht, List.take_of_length_le (by simp)])
  have HF := Lib.hid (show ∀ w' : World, Calls Try.prog 40 #[.int .i64 (n : Int), .int .i64 (b : Int), .int .i64 (p : Int)] w' fun e w'' => ∃ r, e = .returned (.tuple #[r, .bool true]) ∧ RunV w'' w'.heap.size r xs t ∧ Below w'.heap.size w' w'' by rw [hxs, ht]; exact fun w' => findRun_yes n b p w' hn hb hb' hp hp')
  clear s1 s2 s3 s4 s5 s6 hpm hxs ht hlen
  go_enter Try.func12, Try.ntmps12
  go_wp2_with fail
  refine (HF.out _).mono ?_
  rintro e w2 ⟨r, rfl, hr, hb2⟩
  have HB2 := Lib.hid hb2
  obtain ⟨g, cap, hr, ⟨h0, rfl⟩ | ⟨h0, ht, rfl⟩⟩ := hr
  · have HC := Lib.hid (hr.cellsAt 0)
    subst h0
    have hm := meth_cc (.slice (some ⟨g, 0, none⟩) xs.length cap)
    clear hb2 hr
    go_wp2_with fail
    refine (cycle_circle _ _ _ _).mono ?_
    rintro e w3 ⟨rfl, rfl⟩
    go_wp2_with fail
    refine (Try.slices_Min_int g 0 xs.length cap xs _ (by omega) (Nat.le_refl _) (by omega) (fun j hj => HC.out j (by rw [List.drop_zero]; exact hj))).mono ?_
    rintro e w4 ⟨rfl, rfl⟩
    go_wp2
    go_ret2
    exact ⟨by rw [HE.out, List.drop_zero, Nat.sub_zero, List.take_of_length_le (Nat.le_refl _)]; rfl, HB2.out⟩
  · have HC := Lib.hid (hr.cellsAt t)
    have HL := Lib.hid (show (xs.drop t).length = xs.length - t by simp)
    have hm := meth_tc (.agg #[.slice (some ⟨g, 0, none⟩) t cap, .slice (some ⟨g, t, none⟩) (xs.length - t) (cap - t)])
    clear hb2 hr
    go_wp2_with fail
    refine (cycle_tailed _ _ _ _ _ _ _).mono ?_
    rintro e w3 ⟨rfl, hb3⟩
    have HB3 := Lib.hid (Below.step HB2.out HB2.out.size hb3)
    have HC3 := Lib.hid (show CellsAt w3 g t (xs.drop t) from fun j hj => Below.keeps_cell hb3 (HC.out j hj))
    clear hb3
    go_wp2_with fail
    refine (Try.slices_Min_int g t (xs.length - t) (cap - t) (xs.drop t) _ (by omega) (by rw [HL.out]; exact Nat.le_refl _) (by omega) HC3.out).mono ?_
    rintro e w4 ⟨rfl, rfl⟩
    go_wp2
    go_ret2
    exact ⟨by rw [HE.out]; rfl, HB3.out⟩

end Go.Proofs.Ytnniiobiedfmoaa
