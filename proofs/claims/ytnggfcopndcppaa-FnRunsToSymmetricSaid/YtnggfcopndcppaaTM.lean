/-
  slices.Concat of any number of slices of integers.
-/
import Derived.Test.YtnggfcopndcppaaTE
import Derived.Lib.AppendZeros
namespace Go.Proofs.Ytnggfcopndcppaa
open Go.RowKit
set_option linter.unusedVariables false
set_option linter.unusedSimpArgs false
set_option maxRecDepth 100000

theorem rd_zero_len {w : World} {g cap : Nat} {cur : Array Value} (h : w.heap[g]? = some (.cells cur 3 (0, 0))) (hc : cur.size = cap) (hm : cap ≤ maxLen) (B : Nat) (hB : B ≤ g) : Rd w B (.slice (some ⟨g, 0, none⟩) 0 cap) [] :=
  ⟨rfl, .inr ⟨g, cap, cur, rfl, hB, h, Nat.zero_le _, hm, by rw [hc, Nat.mul_one], rfl⟩⟩

theorem wpList_growI {w : World} {ops : Array Oper} {rest : List Oper} {o : Oper} {a : Act} {Q : Exit → Act → World → Prop} (hgd : o.guard = none) (s x : Operand)
    (ho : o.op = .call { callee := .builtin .append, args := #[s, x], argTypes := #[24, 3] }) (n : Nat) (hn : 1 ≤ n) (hn2 : n ≤ 1000000000)
    (hs : a.eval s = .slice none 0 0) (hx : a.eval x = .int .i64 (n : Int))
    (h : ∀ G w', G ≤ maxLen → n ≤ G → Rd w' w.heap.size (.slice (some ⟨w.heap.size, 0, none⟩) 0 G) [] → Below w.heap.size w w' → wpList Try.prog ops Q rest (a.put o.dst (.slice (some ⟨w.heap.size, 0, none⟩) n G)) w') : wpList Try.prog ops Q (o :: rest) a w := by
  obtain ⟨i0, hi, hz0, hz1, hz2⟩ := info_parts info3
  have hrun := fun ty => Lib.run_append_nil_zeros (P := Try.prog) w 24 3 ty 3 i0 (.int .i64 0) .i64 .i64 Try.underlying24 Try.underlying3 hi hz0 n (by omega) (by omega) (by omega) (by rw [hz2]; omega)
  refine wpList_plain hgd fun K hK => ?_
  unfold Oper.wp
  simp [execOp, ho, resolve, invoke, builtin, hs, hx, hrun, Result.andThen]
  refine hK _ _ (h (grownCap w n 0 3) _ (grownCap_le_maxLen w n 0 _ (by unfold maxLen; omega)) (grownCap_ge w n 0 _) ?_ (((Below.refl w.heap.size w).drew).alloc (Nat.le_refl _) _))
  refine rd_zero_len (heap_alloc_new w.drew _) ?_ (grownCap_le_maxLen w n 0 _ (by unfold maxLen; omega)) _ (Nat.le_refl _)
  rw [Array.size_append, size_zeroCells, size_zeroCells]
  have := grownCap_ge w n 0 3
  show n * 1 + (grownCap w n 0 3 - n) * 1 = grownCap w n 0 3
  omega

theorem growI_none (n : Nat) (w : World) (hn : 1 ≤ n) (hn2 : n ≤ 1000000000) :
    Calls Try.prog 101 #[.slice none 0 0, .int .i64 (n : Int)] w fun e w' => ∃ u, e = .returned u ∧ Rd w' w.heap.size u [] ∧ Below w.heap.size w w' := by
  go_enter Try.func101, Try.ntmps101
  go_wp2_with (at_builtin; refine wpList_growI rfl (.tmp 20) (.tmp 21) rfl n hn hn2 rfl rfl ?_; intro G w1 hG hGn hr hb; have R := Lib.hid hr; have B := Lib.hid hb; have hG63 : G ≤ 9223372036854775807 := (by unfold maxLen at hG; exact hG); clear hr hb hG)
  go_ret
  exact ⟨_, rfl, R.out, B.out⟩

/-- The first parts of a list of lists, joined. -/
def jnP (Y : Nat → List Int) : Nat → List Int
  | 0 => []
  | i + 1 => jnP Y i ++ Y i

theorem concatI_any (gs n c : Nat) (u : Nat → Value) (Y : Nat → List Int) (w : World) (hcell : ∀ i, i < n → w.cell? ⟨gs, i, none⟩ = some (u i)) (hu : ∀ i, i < n → Rd w 0 (u i) (Y i))
    (hpos : 1 ≤ (jnP Y n).length) (hlen : ∀ i, i ≤ n → (jnP Y i).length ≤ 1000000) (hn : n ≤ 1000000) :
    Calls Try.prog 80 #[.slice (some ⟨gs, 0, none⟩) n c] w fun e w' => ∃ v, e = .returned v ∧ Rd w' w.heap.size v (jnP Y n) ∧ Below w.heap.size w w' := by
  have HC := Lib.hid hcell
  have HU := Lib.hid hu
  have HL := Lib.hid hlen
  obtain ⟨N, hN⟩ : ∃ N, N = (jnP Y n).length := ⟨_, rfl⟩
  have HN := Lib.hid hN
  have hN1 : 1 ≤ N := by omega
  have hN2 : N ≤ 1000000 := by have := hlen n (Nat.le_refl _); omega
  clear hcell hu hlen hN hpos
  go_enter Try.func80, Try.ntmps80
  go_wp2
  go_loop [3, 11] (fun s i => ∃ j z : Nat, j ≤ n ∧ i = .int .i64 (j : Int) ∧ s = .int .i64 (z : Int) ∧ z = (jnP Y j).length) (fun _ i => n - (intOf i).toNat)
  case atStart => exact ⟨0, 0, Nat.zero_le _, rfl, rfl, rfl⟩
  case round =>
    obtain ⟨j, z, hj, rfl, rfl, hz⟩ := hrel
    have HZ := Lib.hid hz
    have hz1 : z ≤ 1000000 := by rw [hz]; exact HL.out j hj
    clear hz
    by_cases hlt : j < n
    · obtain ⟨a1, c1, hu1⟩ := (HU.out j hlt).sl.len
      have hcell := HC.out j hlt
      rw [hu1] at hcell
      obtain ⟨m, hm⟩ : ∃ m, m = (Y j).length := ⟨_, rfl⟩
      have hs : z + m ≤ 1000000 := by
        have := HL.out (j + 1) (by omega)
        rw [jnP, List.length_append] at this
        rw [HZ.out, hm]; exact this
      rw [← hm] at hcell
      have HM := Lib.hid hm
      clear hm hu1
      go_wp2
      go_round
      case rel => exact ⟨j + 1, z + m, by omega, by go_num, by go_num, by rw [jnP, List.length_append, ← HZ.out, ← HM.out]⟩
      case measure => simp [intOf]; omega
    · obtain rfl : j = n := by omega
      have hzn : z = N := by rw [HZ.out, HN.out]
      subst hzn
      go_wp2_with fail
      refine (growI_none z _ hN1 (by omega)).mono ?_
      rintro e w1 ⟨v1, rfl, hr, hb⟩
      have R1 := Lib.hid hr
      have B1 := Lib.hid hb
      clear hr hb
      go_wp2
      go_loopw [6, 27] (fun v i wr => ∃ k : Nat, k ≤ j ∧ i = .int .i64 (k : Int) ∧ Rd wr w.heap.size v (jnP Y k) ∧ Below w.heap.size w wr) (fun _ i _ => j - (intOf i).toNat)
      case atStart => exact ⟨0, Nat.zero_le _, rfl, R1.out, B1.out⟩
      case round =>
        obtain ⟨k, hk, rfl, hr, hb⟩ := hrel
        have HR := Lib.hid hr
        have HB := Lib.hid hb
        clear hr hb
        by_cases hlt : k < j
        · have hub := (HU.out k hlt).keep HB.out
          have HUK := Lib.hid hub
          obtain ⟨a1, c1, hu1⟩ := hub.sl.len
          have hcell := Below.keeps_cell HB.out (HC.out k hlt)
          rw [hu1] at hcell
          have hl1 := HL.out (k + 1) (by omega)
          rw [jnP, List.length_append] at hl1
          have HU1 := Lib.hid hu1
          clear hub hu1
          go_wp2_with (at_builtin; go_loud (refine wpList_appR rfl _ _ rfl w.heap.size 0 _ _ (jnP Y k) (Y k) rfl rfl HR.out (by have h := HUK.out; rw [HU1.out] at h; exact h) (by omega) HB.out.size ?_; intro v1 w5 hr1 hg1 hb1; have HR1 := Lib.hid hr1; have HB5 := Lib.hid (HB.out.trans hb1); clear hr1 hg1 hb1))
          go_roundw
          case rel => exact ⟨k + 1, by omega, by go_num, HR1.out, HB5.out⟩
          case measure => simp [intOf]; omega
        · obtain rfl : k = j := by omega
          go_wp2
          go_ret
          exact ⟨_, rfl, HR.out, HB.out⟩

end Go.Proofs.Ytnggfcopndcppaa
