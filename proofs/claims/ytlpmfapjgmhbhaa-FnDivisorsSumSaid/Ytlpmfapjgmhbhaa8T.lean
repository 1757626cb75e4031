/-
  slices.Concat of parts of slices of integers (wip/tpl/XTM with sources of any place).
-/
import Derived.Test.Ytlpmfapjgmhbhaa8S
import Derived.Lib.AppendZeros
namespace Go.Proofs.Ytlpmfapjgmhbhaa
open Go.RowKit
set_option linter.unusedVariables false
set_option linter.unusedSimpArgs false
set_option maxRecDepth 100000

theorem Src.len {w : World} {u : Value} {ys : List Int} (h : Src w u ys) : ∃ a c, u = .slice a ys.length c := by
  rcases h with ⟨rfl, rfl⟩ | ⟨ad, c, rfl, _⟩
  · exact ⟨none, 0, rfl⟩
  · exact ⟨_, c, rfl⟩
theorem rd_zero_len {w : World} {g cap : Nat} {cur : Array Value} (h : w.heap[g]? = some (.cells cur 3 (0, 0))) (hc : cur.size = cap) (hm : cap ≤ maxLen) (B : Nat) (hB : B ≤ g) : Rd w B (.slice (some ⟨g, 0, none⟩) 0 cap) [] :=
  ⟨rfl, .inr ⟨g, cap, cur, rfl, hB, h, Nat.zero_le _, hm, by rw [hc, Nat.mul_one], rfl⟩⟩

theorem wpList_growI {w : World} {ops : Array Oper} {rest : List Oper} {o : Oper} {a : Act} {Q : Exit → Act → World → Prop} (hgd : o.guard = none) (s x : Operand)
    (ho : o.op = .call { callee := .builtin .append, args := #[s, x], argTypes := #[28, 3] }) (n : Nat) (hn : 1 ≤ n) (hn2 : n ≤ 1000000000)
    (hs : a.eval s = .slice none 0 0) (hx : a.eval x = .int .i64 (n : Int))
    (h : ∀ G w', G ≤ maxLen → n ≤ G → Rd w' w.heap.size (.slice (some ⟨w.heap.size, 0, none⟩) 0 G) [] → Below w.heap.size w w' → wpList Try.prog ops Q rest (a.put o.dst (.slice (some ⟨w.heap.size, 0, none⟩) n G)) w') : wpList Try.prog ops Q (o :: rest) a w := by
  obtain ⟨i0, hi, hz0, hz1, hz2⟩ := info_parts info3
  have hrun := fun ty => Lib.run_append_nil_zeros (P := Try.prog) w 28 3 ty 3 i0 (.int .i64 0) .i64 .i64 Try.underlying28 Try.underlying3 hi hz0 n (by omega) (by omega) (by omega) (by rw [hz2]; omega)
  refine wpList_plain hgd fun K hK => ?_
  unfold Oper.wp
  simp [execOp, ho, resolve, invoke, builtin, hs, hx, hrun, Result.andThen]
  refine hK _ _ (h (grownCap w n 0 3) _ (grownCap_le_maxLen w n 0 _ (by unfold maxLen; omega)) (grownCap_ge w n 0 _) ?_ (((Below.refl w.heap.size w).drew).alloc (Nat.le_refl _) _))
  refine rd_zero_len (heap_alloc_new w.drew _) ?_ (grownCap_le_maxLen w n 0 _ (by unfold maxLen; omega)) _ (Nat.le_refl _)
  rw [Array.size_append, size_zeroCells, size_zeroCells]
  have := grownCap_ge w n 0 3
  show n * 1 + (grownCap w n 0 3 - n) * 1 = grownCap w n 0 3
  omega

theorem growI_none (n : Nat) (w : World) (hn : 1 ≤ n) (hn2 : n ≤ 1000000000) :
    Calls Try.prog 82 #[.slice none 0 0, .int .i64 (n : Int)] w fun e w' => ∃ u, e = .returned u ∧ Rd w' w.heap.size u [] ∧ Below w.heap.size w w' := by
  go_enter Try.func82, Try.ntmps82
  go_wp2_with (at_builtin; refine wpList_growI rfl (.tmp 20) (.tmp 21) rfl n hn hn2 rfl rfl ?_; intro G w1 hG hGn hr hb; have R := Lib.hid hr; have B := Lib.hid hb; have hG63 : G ≤ 9223372036854775807 := (by unfold maxLen at hG; exact hG); clear hr hb hG)
  go_ret
  exact ⟨_, rfl, R.out, B.out⟩

/-- The first parts of a list of lists, joined. -/
def jnP (Y : Nat → List Int) : Nat → List Int
  | 0 => []
  | i + 1 => jnP Y i ++ Y i

theorem concatI_any (gs n c : Nat) (u : Nat → Value) (Y : Nat → List Int) (w : World) (hcell : ∀ i, i < n → w.cell? ⟨gs, i, none⟩ = some (u i)) (hu : ∀ i, i < n → Src w (u i) (Y i))
    (hpos : 1 ≤ (jnP Y n).length) (hlen : ∀ i, i ≤ n → (jnP Y i).length ≤ 1000000) (hn : n ≤ 1000000) :
    Calls Try.prog 55 #[.slice (some ⟨gs, 0, none⟩) n c] w fun e w' => ∃ v, e = .returned v ∧ Rd w' w.heap.size v (jnP Y n) ∧ Below w.heap.size w w' := by
  have HC := Lib.hid hcell
  have HU := Lib.hid hu
  have HL := Lib.hid hlen
  obtain ⟨N, hN⟩ : ∃ N, N = (jnP Y n).length := ⟨_, rfl⟩
  have HN := Lib.hid hN
  have hN1 : 1 ≤ N := by omega
  have hN2 : N ≤ 1000000 := by have := hlen n (Nat.le_refl _); omega
  clear hcell hu hlen hN hpos
  go_enter Try.func55, Try.ntmps55
  go_wp2
  go_loop [3, 11] (fun s i => ∃ j z : Nat, j ≤ n ∧ i = .int .i64 (j : Int) ∧ s = .int .i64 (z : Int) ∧ z = (jnP Y j).length) (fun _ i => n - (intOf i).toNat)
  case atStart => exact ⟨0, 0, Nat.zero_le _, rfl, rfl, rfl⟩
  case round =>
    obtain ⟨j, z, hj, rfl, rfl, hz⟩ := hrel
    have HZ := Lib.hid hz
    have hz1 : z ≤ 1000000 := by rw [hz]; exact HL.out j hj
    clear hz
    by_cases hlt : j < n
    · obtain ⟨a1, c1, hu1⟩ := (HU.out j hlt).len
      have hcell := HC.out j hlt
      rw [hu1] at hcell
      obtain ⟨m, hm⟩ : ∃ m, m = (Y j).length := ⟨_, rfl⟩
      have hs : z + m ≤ 1000000 := by
        have := HL.out (j + 1) (by omega)
        rw [jnP, List.length_append] at this
        rw [HZ.out, hm]; exact this
      rw [← hm] at hcell
      have HM := Lib.hid hm
      clear hm hu1
      go_wp2
      go_round
      case rel => exact ⟨j + 1, z + m, by omega, by go_num, by go_num, by rw [jnP, List.length_append, ← HZ.out, ← HM.out]⟩
      case measure => simp [intOf]; omega
    · obtain rfl : j = n := by omega
      have hzn : z = N := by rw [HZ.out, HN.out]
      subst hzn
      go_wp2_with fail
      refine (growI_none z _ hN1 (by omega)).mono ?_
      rintro e w1 ⟨v1, rfl, hr, hb⟩
      have R1 := Lib.hid hr
      have B1 := Lib.hid hb
      clear hr hb
      go_wp2
      go_loopw [6, 27] (fun v i wr => ∃ k : Nat, k ≤ j ∧ i = .int .i64 (k : Int) ∧ Rd wr w.heap.size v (jnP Y k) ∧ Below w.heap.size w wr) (fun _ i _ => j - (intOf i).toNat)
      case atStart => exact ⟨0, Nat.zero_le _, rfl, R1.out, B1.out⟩
      case round =>
        obtain ⟨k, hk, rfl, hr, hb⟩ := hrel
        have HR := Lib.hid hr
        have HB := Lib.hid hb
        clear hr hb
        by_cases hlt : k < j
        · have hub := (HU.out k hlt).keep HB.out
          have HUK := Lib.hid hub
          obtain ⟨a1, c1, hu1⟩ := hub.len
          have hcell := Below.keeps_cell HB.out (HC.out k hlt)
          rw [hu1] at hcell
          have hl1 := HL.out (k + 1) (by omega)
          rw [jnP, List.length_append] at hl1
          have HU1 := Lib.hid hu1
          clear hub hu1
          go_wp2_with (at_builtin; refine wpList_appS rfl _ _ rfl w.heap.size _ _ (jnP Y k) (Y k) rfl rfl HR.out (by have h := HUK.out; rw [HU1.out] at h; exact h) (by omega) HB.out.size ?_; intro v1 w5 hr1 hg1 hb1; have HR1 := Lib.hid hr1; have HB5 := Lib.hid (HB.out.trans hb1); clear hr1 hg1 hb1)
          go_roundw
          case rel => exact ⟨k + 1, by omega, by go_num, HR1.out, HB5.out⟩
          case measure => simp [intOf]; omega
        · obtain rfl : k = j := by omega
          go_wp2
          go_ret
          exact ⟨_, rfl, HR.out, HB.out⟩
theorem nodup_getD {c : List Int} (h : c.Nodup) {i j : Nat} (hi : i < c.length) (hj : j < i) : c.getD j 0 ≠ c.getD i 0 := by
  have h2 := (List.pairwise_iff_getElem.1 h) j i (by omega) hi hj
  simpa [show j < c.length by omega, hi] using h2
theorem idx_min {c : List Int} (h : c.Nodup) (h0 : 0 < c.length) : Lib.idxOf (c.take c.length) (Lib.minOf (c.take c.length)) = (mi c : Int) := by
  rw [List.take_of_length_le (Nat.le_refl _)]
  have h1 := Lib.idxFrom_hit (Lib.minOf c) c (mi c) 0 (mi_lt h0) (mi_min h0) (fun j hj => by
    rw [← mi_min h0]
    exact nodup_getD h (mi_lt h0) hj)
  rw [Nat.zero_add] at h1
  exact h1

theorem concat2_any (W : World) (g : Nat) (u0 u1 : Value) (Y : List Int) (d : Nat) (c0 : W.cell? ⟨g, 0, none⟩ = some u0) (c1 : W.cell? ⟨g, 1, none⟩ = some u1) (r0 : Src W u0 (Y.drop d)) (r1 : Src W u1 (Y.take d)) (hp : d < Y.length) (h0 : Y.length ≤ 1000) :
    Calls Try.prog 55 #[.slice (some ⟨g, 0, none⟩) 2 2] W fun e w' => ∃ v, e = .returned v ∧ Rd w' W.heap.size v (Y.drop d ++ Y.take d) ∧ Below W.heap.size W w' := by
  have hj2 : jnP (fun i => if i = 0 then Y.drop d else Y.take d) 2 = Y.drop d ++ Y.take d := by
    show ([] ++ (if 0 = 0 then Y.drop d else Y.take d)) ++ (if 1 = 0 then Y.drop d else Y.take d) = _
    simp
  have hj1 : jnP (fun i => if i = 0 then Y.drop d else Y.take d) 1 = Y.drop d := by
    show ([] ++ (if 0 = 0 then Y.drop d else Y.take d)) = _
    simp
  refine (concatI_any g 2 2 (fun i => if i = 0 then u0 else u1) (fun i => if i = 0 then Y.drop d else Y.take d) W (fun i hi => ?_) (fun i hi => ?_) ?_ (fun i hi => ?_) (by omega)).mono ?_
  · match i, hi with
    | 0, _ => exact c0
    | 1, _ => exact c1
  · match i, hi with
    | 0, _ => exact r0
    | 1, _ => exact r1
  · rw [hj2]; simp; omega
  · match i, hi with
    | 0, _ => simp [jnP]
    | 1, _ => rw [hj1]; simp; omega
    | 2, _ => rw [hj2]; simp; omega
  · rintro e w' ⟨v, rfl, hr, hb⟩
    rw [hj2] at hr
    exact ⟨v, rfl, hr, hb⟩

theorem l1Has_any (v : Value) (xs : List Int) (x : Int) (B : Nat) (w : World) (h : Rd w B v xs) (hl : xs.length ≤ 2000000) :
    Calls Try.prog 81 #[v, .int .i64 x] w fun e w' => e = .returned (.bool (decide (x ∈ xs))) ∧ w = w' := by
  rcases h.cases with ⟨rfl, rfl⟩ | ⟨g, cap, rfl, _, _, _, _, hc, _⟩
  · go_enter Try.func81, Try.ntmps81
    go_wp2
    refine wp_loop_rounds 1 ?_
    rw [rounds_succ]
    go_wp2
    go_ret
    exact ⟨rfl, rfl⟩
  · have hc' := Lib.hid hc
    clear hc h
    go_enter Try.func81, Try.ntmps81
    go_wp2
    go_loop [9] (fun i => ∃ k : Nat, k ≤ xs.length ∧ i = .int .i64 k ∧ x ∉ xs.take k) (fun i => xs.length - (intOf i).toNat)
    case atStart => exact ⟨0, Nat.zero_le _, rfl, by simp⟩
    case round =>
      obtain ⟨k, hk, rfl, hp⟩ := hrel
      have hp' := Lib.hid hp
      clear hp
      by_cases hlt : k < xs.length
      · have hcell := hc'.out k hlt
        by_cases he : xs[k] = x
        · have hbq : (xs[k] == x) = true := beq_yes he
          have HD := Lib.hid (show decide (x ∈ xs) = true from decide_eq_true (he ▸ List.getElem_mem hlt))
          clear he
          go_wp2
          go_ret
          exact ⟨ret_bool HD.out.symm, rfl⟩
        · have hbq : (xs[k] == x) = false := beq_no he
          have HN := Lib.hid (show x ∉ xs.take (k + 1) by rw [take_snoc' xs k hlt, List.mem_append, List.mem_singleton]; exact fun h => h.elim hp'.out (fun e => he e.symm))
          clear he
          go_wp2
          go_round
          case rel => exact ⟨k + 1, by omega, by go_num, HN.out⟩
          case measure => simp [intOf]; omega
      · obtain rfl : k = xs.length := by omega
        go_wp2
        go_ret
        exact ⟨ret_bool (by have := hp'.out; rw [List.take_of_length_le (Nat.le_refl _)] at this; exact (decide_eq_false this).symm), rfl⟩


end Go.Proofs.Ytlpmfapjgmhbhaa
