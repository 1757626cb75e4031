/-
  slices.Concat of a tail and a cycle: the numbers of a run.
-/
import Derived.Test.YtnniiobiedfmoaaUJ
import Derived.Lib.AppendZeros
namespace Go.Proofs.Ytnniiobiedfmoaa
open Go.RowKit
set_option linter.unusedVariables false
set_option linter.unusedSimpArgs false
set_option maxRecDepth 100000

theorem rd_zero_len {w : World} {g cap : Nat} {cur : Array Value} (h : w.heap[g]? = some (.cells cur 3 (0, 0))) (hc : cur.size = cap) (hm : cap ≤ maxLen) (B : Nat) (hB : B ≤ g) : Rd w B (.slice (some ⟨g, 0, none⟩) 0 cap) [] :=
  ⟨rfl, .inr ⟨g, cap, cur, rfl, hB, h, Nat.zero_le _, hm, by rw [hc, Nat.mul_one], rfl⟩⟩

theorem heap_alloc_last (w : World) (o : Obj) : (w.alloc o).heap[w.heap.size]? = some o := heap_alloc_new w o

theorem wpList_growC {w : World} {ops : Array Oper} {rest : List Oper} {o : Oper} {a : Act} {Q : Exit → Act → World → Prop} (hgd : o.guard = none) (s x : Operand)
    (ho : o.op = .call { callee := .builtin .append, args := #[s, x], argTypes := #[83, 3] }) (n : Nat) (hn : 1 ≤ n) (hn2 : n ≤ 1000000000)
    (hs : a.eval s = .slice none 0 0) (hx : a.eval x = .int .i64 (n : Int))
    (h : ∀ G w', G ≤ maxLen → n ≤ G → Rd w' w.heap.size (.slice (some ⟨w.heap.size, 0, none⟩) 0 G) [] → Below w.heap.size w w' → wpList Try.prog ops Q rest (a.put o.dst (.slice (some ⟨w.heap.size, 0, none⟩) n G)) w') : wpList Try.prog ops Q (o :: rest) a w := by
  obtain ⟨i0, hi, hz0, hz1, hz2⟩ := info_parts info3
  have hrun := fun ty => Lib.run_append_nil_zeros (P := Try.prog) w 83 3 ty 3 i0 (.int .i64 0) .i64 .i64 Try.underlying83 Try.underlying3 hi hz0 n (by omega) (by omega) (by omega) (by rw [hz2]; omega)
  refine wpList_plain hgd fun K hK => ?_
  unfold Oper.wp
  simp [execOp, ho, resolve, invoke, builtin, hs, hx, hrun, Result.andThen]
  refine hK _ _ (h (grownCap w n 0 3) _ (grownCap_le_maxLen w n 0 _ (by unfold maxLen; omega)) (grownCap_ge w n 0 _) ?_ (((Below.refl w.heap.size w).drew).alloc (Nat.le_refl _) _))
  refine rd_zero_len (heap_alloc_new w.drew _) ?_ (grownCap_le_maxLen w n 0 _ (by unfold maxLen; omega)) _ (Nat.le_refl _)
  rw [Array.size_append, size_zeroCells, size_zeroCells]
  have := grownCap_ge w n 0 3
  show n * 1 + (grownCap w n 0 3 - n) * 1 = grownCap w n 0 3
  omega

theorem growC_none (n : Nat) (w : World) (hn : 1 ≤ n) (hn2 : n ≤ 1000000000) :
    Calls Try.prog 147 #[.slice none 0 0, .int .i64 (n : Int)] w fun e w' => ∃ u, e = .returned u ∧ Rd w' w.heap.size u [] ∧ Below w.heap.size w w' := by
  go_enter Try.func147, Try.ntmps147
  go_wp2_with (at_builtin; refine wpList_growC rfl (.tmp 20) (.tmp 21) rfl n hn hn2 rfl rfl ?_; intro G w1 hG hGn hr hb; have R := Lib.hid hr; have B := Lib.hid hb; have hG63 : G ≤ 9223372036854775807 := (by unfold maxLen at hG; exact hG); clear hr hb hG)
  go_ret
  exact ⟨_, rfl, R.out, B.out⟩

theorem wpList_appC {w : World} {ops : Array Oper} {rest : List Oper} {o : Oper} {a : Act} {Q : Exit → Act → World → Prop} (hgd : o.guard = none) (s x : Operand)
    (ho : o.op = .call { callee := .builtin .append, args := #[s, x], argTypes := #[83, 83] })
    (B : Nat) (v u : Value) (xs ys : List Int) (hs : a.eval s = v) (hx : a.eval x = u) (hv : Rd w B v xs) (hu : Src3 w u ys)
    (hlen : xs.length + ys.length ≤ 17179869184) (hB : B ≤ w.heap.size)
    (h : ∀ v' w', Rd w' B v' (xs ++ ys) → w.grownBy w' v.ownBlock → Below B w w' → wpList Try.prog ops Q rest (a.put o.dst v') w') : wpList Try.prog ops Q (o :: rest) a w := by
  obtain ⟨i0, hi, hz0, hz1, hz2⟩ := info_parts info3
  have hbel : ∀ w', w.grownBy w' v.ownBlock → Below B w w' := fun w' hg => (Below.refl _ _).grown hg hB (fun k hk => (hv.lt k hk).1)
  rcases hu with ⟨rfl, rfl⟩ | ⟨ad, cap, rfl, hc⟩
  · refine wpList_append_own_none hgd s x 83 ho B 3 i0 1 Try.underlying83 hi v xs.length _ hs hv hx ?_
    exact h v w (by simpa using hv) (World.grownBy.refl _ _) (Below.refl _ _)
  · refine wpList_append_own w hgd s x 83 ho B 3 i0 (.int .i64 0) 1 8 Try.underlying83 hi hz0 hz1 hz2 rfl (by decide) v xs.length _ hs hv ad ys.length cap (ys.map (Value.int .i64)) hx (by simp) ?_ (ints_oneCell _ _) (by unfold maxLen; omega) (by omega) hB ?_
    · intro j q hj
      have hj' : j < ys.length := by
        have := (List.getElem?_eq_some_iff.1 hj).1
        simpa using this
      rw [hc j hj', ← hj]
      simp [hj']
    · intro v' w' h2 h3 _
      refine h v' w' ?_ h3 (hbel w' h3)
      unfold Rd
      rw [List.length_append, List.map_append]
      exact h2

theorem concat_any (gs t m c1 c2 : Nat) (a1 a2 : Option Addr) (xa xb : List Int) (w : World) (hs0 : w.cell? ⟨gs, 0, none⟩ = some (.slice a1 t c1)) (hs1 : w.cell? ⟨gs, 1, none⟩ = some (.slice a2 m c2))
    (h1 : Src3 w (.slice a1 t c1) xa) (h2 : Src3 w (.slice a2 m c2) xb) (ht : xa.length = t) (hm : xb.length = m) (hpos : 1 ≤ t + m) (hlen : t + m ≤ 1000000000) :
    Calls Try.prog 146 #[.slice (some ⟨gs, 0, none⟩) 2 2] w fun e w' => ∃ u, e = .returned u ∧ Rd w' w.heap.size u (xa ++ xb) ∧ Below w.heap.size w w' := by
  have H1 := Lib.hid h1
  have H2 := Lib.hid h2
  have HT := Lib.hid ht
  have HM := Lib.hid hm
  have HC0 := Lib.hid hs0
  have HC1 := Lib.hid hs1
  clear h1 h2 ht hm hs0 hs1
  go_enter Try.func146, Try.ntmps146
  go_wp2
  go_loop [3, 11] (fun s i => ∃ j z : Nat, ((j = 0 ∧ z = 0) ∨ (j = 1 ∧ z = t) ∨ (j = 2 ∧ z = t + m)) ∧ i = .int .i64 (j : Int) ∧ s = .int .i64 (z : Int)) (fun _ i => 2 - (intOf i).toNat)
  case atStart => exact ⟨0, 0, .inl ⟨rfl, rfl⟩, rfl, rfl⟩
  case round =>
    obtain ⟨j, z, ⟨rfl, rfl⟩ | ⟨rfl, rfl⟩ | ⟨rfl, rfl⟩, rfl, rfl⟩ := hrel
    · have hcell := HC0.out
      go_wp2
      go_round
      case rel => exact ⟨1, t, .inr (.inl ⟨rfl, rfl⟩), by go_num, by go_num⟩
      case measure => simp [intOf]
    · have hcell := HC1.out
      go_wp2
      go_round
      case rel => exact ⟨2, z + m, .inr (.inr ⟨rfl, rfl⟩), by go_num, by go_num⟩
      case measure => simp [intOf]
    · go_wp2_with (go_at_call 147; refine (growC_none (t + m) _ hpos hlen).mono ?_; rintro e w1 ⟨u1, rfl, hr1, hb1⟩)
      have R1 := Lib.hid hr1
      have B1 := Lib.hid hb1
      clear hr1 hb1
      go_loopw [6, 27] (fun o i wr => ∃ (j : Nat) (xs : List Int), ((j = 0 ∧ xs = []) ∨ (j = 1 ∧ xs = xa) ∨ (j = 2 ∧ xs = xa ++ xb)) ∧ i = .int .i64 (j : Int) ∧ Rd wr w.heap.size o xs ∧ Below w.heap.size w wr) (fun _ i _ => 2 - (intOf i).toNat)
      case atStart => exact ⟨0, [], .inl ⟨rfl, rfl⟩, rfl, R1.out, B1.out⟩
      case round =>
        obtain ⟨j, xs, hj, rfl, hr, hb⟩ := hrel
        have R := Lib.hid hr
        have B := Lib.hid hb
        have S1 := Lib.hid (H1.out.keep hb)
        have S2 := Lib.hid (H2.out.keep hb)
        have C0 := Lib.hid (Below.keeps_cell hb HC0.out)
        have C1 := Lib.hid (Below.keeps_cell hb HC1.out)
        clear hr hb
        obtain ⟨rfl, rfl⟩ | ⟨rfl, rfl⟩ | ⟨rfl, rfl⟩ := hj
        · have hcell := C0.out
          go_wp2_with (at_builtin; refine wpList_appC rfl (.tmp 31) (.tmp 32) rfl w.heap.size _ _ [] xa rfl rfl R.out S1.out (by rw [HT.out]; simp; omega) B.out.size ?_; intro v1 w1 hr1 hg1 hb1; have R3 := Lib.hid hr1; have B3 := Lib.hid (B.out.trans hb1); clear hr1 hg1 hb1)
          go_roundw
          case rel => exact ⟨1, xa, .inr (.inl ⟨rfl, rfl⟩), by go_num, by have := R3.out; rwa [List.nil_append] at this, B3.out⟩
          case measure => simp [intOf]
        · have hcell := C1.out
          go_wp2_with (at_builtin; refine wpList_appC rfl (.tmp 31) (.tmp 32) rfl w.heap.size _ _ xs xb rfl rfl R.out S2.out (by rw [HT.out, HM.out]; omega) B.out.size ?_; intro v1 w1 hr1 hg1 hb1; have R3 := Lib.hid hr1; have B3 := Lib.hid (B.out.trans hb1); clear hr1 hg1 hb1)
          go_roundw
          case rel => exact ⟨2, xs ++ xb, .inr (.inr ⟨rfl, rfl⟩), by go_num, R3.out, B3.out⟩
          case measure => simp [intOf]
        · go_wp2
          go_ret
          exact ⟨_, rfl, R.out, B.out⟩

theorem cell_alloc2 (w : World) (o : Obj) (cs : Array Value) (t : TypeId) (j : Nat) : ((w.alloc o).alloc (.cells cs t)).cell? ⟨w.heap.size + 1, j, none⟩ = cs[j]? := by
  have h := heap_alloc_new (w.alloc o) (.cells cs t)
  rw [World.size_alloc] at h
  exact cell_of_row _ _ j cs t (0, 0) h

theorem numbers_tailed (g t n cap B : Nat) (xs : List Int) (w : World) (h : Rd w B (.slice (some ⟨g, 0, none⟩) n cap) xs) (hn : n = xs.length) (ht : 0 < t) (htn : t < n) (hl : n ≤ 1000000000) :
    Calls Try.prog 145 #[.agg #[.slice (some ⟨g, 0, none⟩) t cap, .slice (some ⟨g, t, none⟩) (n - t) (cap - t)]] w fun e w' => ∃ u, e = .returned u ∧ Rd w' w.heap.size u xs ∧ Below w.heap.size w w' := by
  have H := Lib.hid h
  have HN := Lib.hid hn
  have HC0 := Lib.hid (src_cells (c := cap) (m := t) ((h.cellsAt 0).take t) (by rw [List.drop_zero, List.length_take]; omega))
  have HC1 := Lib.hid (src_cells (c := cap - t) (m := n - t) (h.cellsAt t) (by rw [List.length_drop]; omega))
  rw [List.drop_zero] at HC0
  have HX := Lib.hid (List.take_append_drop t xs)
  have HL0 := Lib.hid (show (xs.take t).length = t by rw [List.length_take]; omega)
  have HL1 := Lib.hid (show (xs.drop t).length = n - t by rw [List.length_drop]; omega)
  clear h hn
  go_enter Try.func145, Try.ntmps145
  go_wp2_with fail
  refine (concat_any (w.heap.size + 1) t (n - t) cap (cap - t) (some ⟨g, 0, none⟩) (some ⟨g, t, none⟩) (xs.take t) (xs.drop t) _ ?c0 ?c1 ?s0 ?s1 HL0.out HL1.out (by omega) (by omega)).mono ?_
  case c0 => rw [cell_alloc2]; rfl
  case c1 => rw [cell_alloc2]; rfl
  case s0 => exact HC0.out.keep ((alloc_below w _).alloc (by simp) _)
  case s1 => exact HC1.out.keep ((alloc_below w _).alloc (by simp) _)
  rw [HX.out]
  rintro e w1 ⟨u, rfl, hr, hb⟩
  have R := Lib.hid (hr.mono (show w.heap.size ≤ _ by simp; omega))
  have B1 := Lib.hid (((alloc_below w _).alloc (by simp) _).trans (hb.mono (show w.heap.size ≤ _ by simp; omega)))
  clear hr hb
  go_wp2
  go_ret
  exact ⟨u, rfl, R.out, B1.out⟩

end Go.Proofs.Ytnniiobiedfmoaa
