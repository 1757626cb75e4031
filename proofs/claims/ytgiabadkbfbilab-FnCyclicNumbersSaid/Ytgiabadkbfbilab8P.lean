/-
  The program's powers of prime numbers, in a slice of structs.
-/
import Derived.Test.Ytgiabadkbfbilab8D
import Derived.Test.YtgiabadkbfbilabPW
namespace Go.Proofs.Ytgiabadkbfbilab
open Go.RowKit
set_option linter.unusedVariables false
set_option linter.unusedSimpArgs false
set_option maxRecDepth 100000

/-- The cells of powers. -/
def rowP : List (Int × Nat) → List Value
  | [] => []
  | p :: t => .int .i64 p.1 :: .int .i64 (p.2 : Int) :: rowP t
theorem rowP_app (a b : List (Int × Nat)) : rowP (a ++ b) = rowP a ++ rowP b := by
  induction a with
  | nil => rfl
  | cons p t ih => rw [List.cons_append, rowP, rowP, ih]; rfl
theorem rowP_len (a : List (Int × Nat)) : (rowP a).length = a.length * 2 := by
  induction a with
  | nil => rfl
  | cons p t ih => rw [rowP]; simp [ih]; omega
theorem rowP_at (a : List (Int × Nat)) : ∀ (i : Nat) (p : Int × Nat), a[i]? = some p → (rowP a)[i * 2]? = some (.int .i64 p.1) ∧ (rowP a)[i * 2 + 1]? = some (.int .i64 (p.2 : Int)) := by
  induction a with
  | nil => intro i p h; simp at h
  | cons q t ih =>
    intro i p h
    cases i with
    | zero => simp at h; subst h; exact ⟨rfl, rfl⟩
    | succ i =>
      have := ih i p (by simpa using h)
      rw [rowP, show (i + 1) * 2 = i * 2 + 1 + 1 by omega]
      simpa using this

/-- Powers in a slice of the call's own. -/
def Pw (w : World) (B : Nat) (v : Value) (ps : List (Int × Nat)) : Prop := w.ownsRow B 93 2 v ps.length (rowP ps)
theorem Pw.nil (w : World) (B : Nat) : Pw w B (.slice none 0 0) [] := World.ownsRow_nil w B _ _
theorem Pw.keep {w w' : World} {B : Nat} {v : Value} {ps : List (Int × Nat)} (h : Pw w B v ps) (hb : Below w.heap.size w w') : Pw w' B v ps := by
  refine ⟨h.1, ?_⟩
  rcases h.2 with h2 | ⟨g, cap, cur, hv, hg, hh, r⟩
  · exact .inl h2
  · exact .inr ⟨g, cap, cur, hv, hg, by rw [hb.block g (Array.getElem?_eq_some_iff.1 hh).1]; exact hh, r⟩
theorem Pw.alloc {w : World} {B : Nat} {v : Value} {ps : List (Int × Nat)} (h : Pw w B v ps) (o : Obj) : Pw (w.alloc o) B v ps := World.ownsRow.alloc h o
theorem Pw.len {w : World} {B : Nat} {v : Value} {ps : List (Int × Nat)} (h : Pw w B v ps) : ∃ a cap, v = .slice a ps.length cap := by
  rcases h.2 with ⟨h1, h2⟩ | ⟨g, cap, cur, hv, _⟩
  · have : ps = [] := by
      cases ps with
      | nil => rfl
      | cons p t => simp at h2
    subst this
    exact ⟨none, 0, h1⟩
  · exact ⟨_, _, hv⟩
theorem Pw.cases {w : World} {B : Nat} {v : Value} {ps : List (Int × Nat)} (h : Pw w B v ps) :
    (v = .slice none 0 0 ∧ ps = []) ∨ ∃ g cap, v = .slice (some ⟨g, 0, none⟩) ps.length cap ∧ B ≤ g ∧ g < w.heap.size ∧ ∀ i p, ps[i]? = some p → w.cell? ⟨g, i * 2, none⟩ = some (.int .i64 p.1) ∧ w.cell? ⟨g, i * 2 + 1, none⟩ = some (.int .i64 (p.2 : Int)) := by
  have h0 := h
  rcases h.2 with ⟨h1, h2⟩ | ⟨g, cap, cur, rfl, hg, hh, _⟩
  · exact .inl ⟨h1, List.eq_nil_of_length_eq_zero h2⟩
  · refine .inr ⟨g, cap, rfl, hg, (Array.getElem?_eq_some_iff.1 hh).1, fun i p hi => ?_⟩
    have hl : i < ps.length := (List.getElem?_eq_some_iff.1 hi).1
    obtain ⟨r1, r2⟩ := rowP_at ps i p hi
    have c1 := World.ownsRow.cellAt (w := w) (base := B) (e := 93) (size := 2) (n := ps.length) (xs := rowP ps) (cap := cap) h0 (i * 2) (by omega)
    have c2 := World.ownsRow.cellAt (w := w) (base := B) (e := 93) (size := 2) (n := ps.length) (xs := rowP ps) (cap := cap) h0 (i * 2 + 1) (by omega)
    exact ⟨c1.trans r1, c2.trans r2⟩

theorem infoPP : (Try.prog.info? 93).map (fun i => (i.zero, i.size, i.bytes)) = some (some (.agg #[.int .i64 0, .int .i64 0]), 2, 16) := by kernel_rfl

theorem wpList_appP {w : World} {ops : Array Oper} {rest : List Oper} {o : Oper} {a : Act} {Q : Exit → Act → World → Prop} (hgd : o.guard = none) (s x : Operand)
    (ho : o.op = .call { callee := .builtin .append, args := #[s, x], argTypes := #[90, 90] })
    (B g : Nat) (v : Value) (ps : List (Int × Nat)) (p : Int × Nat) (hs : a.eval s = v) (hx : a.eval x = .slice (some ⟨g, 0, none⟩) 1 1) (hv : Pw w B v ps)
    (h0 : w.cell? ⟨g, 0, none⟩ = some (.int .i64 p.1)) (h1 : w.cell? ⟨g, 1, none⟩ = some (.int .i64 (p.2 : Int))) (hlen : ps.length ≤ 100000) (hB : B ≤ w.heap.size)
    (h : ∀ v' w', Pw w' B v' (ps ++ [p]) → w.grownBy w' v.ownBlock → Below B w w' → wpList Try.prog ops Q rest (a.put o.dst v') w') : wpList Try.prog ops Q (o :: rest) a w := by
  obtain ⟨i0, hi, hz0, hz1, hz2⟩ := info_parts infoPP
  have hbel : ∀ w', w.grownBy w' v.ownBlock → Below B w w' := fun w' hg => (Below.refl _ _).grown hg hB (fun k hk => (World.ownsRow.lt hv k hk).1)
  refine wpList_append_own w hgd s x 90 ho B 93 i0 _ 2 16 Try.underlying90 hi hz0 hz1 hz2 rfl (by decide) v ps.length _ hs hv ⟨g, 0, none⟩ 1 1 [.int .i64 p.1, .int .i64 (p.2 : Int)] hx rfl ?_ ?_ (by unfold maxLen; omega) (by omega) hB ?_
  · intro j q hj
    rw [addr_add, Nat.zero_add]
    match j, hj with
    | 0, hj => simp at hj; subst hj; exact h0
    | 1, hj => simp at hj; subst hj; exact h1
    | j + 2, hj => simp at hj
  · intro q hq
    simp at hq
    rcases hq with rfl | rfl <;> rfl
  · intro v' w' h2 h3 _
    refine h v' w' ?_ h3 (hbel w' h3)
    unfold Pw
    rw [rowP_app, List.length_append, List.length_singleton]
    exact h2

theorem pws_jump {y x : Int} (hy : 2 ≤ y) (hx : 0 < x) (hp : y = 2 ∨ (y % 2 = 1 ∧ x % 2 = 1)) : cof y x % 2 = 1 ∧ (y + (1 + y % 2)) % 2 = 1 ∧ pws (y + (1 + y % 2)) (cof y x) = pws (y + 1) (cof y x) := by
  rcases hp with rfl | ⟨h1, h2⟩
  · have := cof_no (d := 2) (by omega) x hx
    exact ⟨by omega, by omega, rfl⟩
  · have h3 := odd_cof hy hx h2
    refine ⟨h3, by omega, ?_⟩
    rw [h1, pws_even (d := y + 1) (by omega) (by omega) h3 (cof_pos hy x hx).1]
    congr 1
    omega
theorem pws_steps {y x : Int} (hy : 2 ≤ y) (h : y * y ≤ x) : pws y x = (if 0 < tms y x then [(y, tms y x)] else []) ++ pws (y + 1) (cof y x) := by
  by_cases ht : 0 < tms y x
  · rw [pws_hit hy h ht, if_pos ht]; rfl
  · rw [pws_miss hy h (by omega), if_neg ht]; rfl
theorem len_partP {pre r X : List (Int × Nat)} (h : pre ++ r = X) : pre.length ≤ X.length := by rw [← h]; simp

theorem powers_any (n : Int) (w : World) (hn : Dv n) :
    Calls Try.prog 145 #[.int .i64 n] w fun e w' => ∃ v, e = .returned v ∧ Pw w' w.heap.size v (pp n) ∧ Below w.heap.size w w' := by
  have HF := Lib.hid (fac_bd (n := n) (by have := hn.1; omega) hn.2)
  obtain ⟨X, hX⟩ : ∃ X, X = pp n := ⟨_, rfl⟩
  have HX := Lib.hid (show [] ++ pws 2 n = X by rw [hX]; rfl)
  rw [← hX] at HF ⊢
  have HL := Lib.hid HF.out.2
  clear hX HF
  obtain ⟨n0, n1⟩ := hn
  go_enter Try.func145, Try.ntmps145
  go_wp2
  go_loopw [3, 4, 5] (fun o i p wr => ∃ (x y : Int) (pre : List (Int × Nat)), i = .int .i64 x ∧ p = .int .i64 y ∧ 1 ≤ x ∧ x ≤ 1000000000 ∧ 2 ≤ y ∧ y ≤ 31700 ∧ Hid (y = 2 ∨ (y % 2 = 1 ∧ x % 2 = 1)) ∧ Pw wr w.heap.size o pre ∧ Hid (pre ++ pws y x = X) ∧ Below w.heap.size w wr) (fun _ i p _ => (intOf i - intOf p).toNat)
  case atStart => exact ⟨n, 2, [], rfl, rfl, n0, n1, by omega, by omega, Lib.hid (.inl rfl), Pw.nil _ _, Lib.hid HX.out, Below.refl _ _⟩
  case round =>
    obtain ⟨x, y, pre, rfl, rfl, x0, x1, y0, y1, HO, hr, HE, hbl⟩ := hrel
    have HR := Lib.hid hr
    have HB := Lib.hid hbl
    clear hr hbl
    obtain ⟨q0, q1⟩ := sq_in y0 y1
    have HLP := Lib.hid (len_partP HE.out)
    by_cases hlt : y * y ≤ x
    · have y2 := root_bd (by omega) hlt x1
      have yx := sq_less y0 hlt
      obtain ⟨c, hc⟩ : ∃ c, c = cof y x := ⟨_, rfl⟩
      obtain ⟨T, hT⟩ : ∃ T, T = tms y x := ⟨_, rfl⟩
      have HC := Lib.hid hc
      have HT := Lib.hid hT
      have T1 : (T : Int) ≤ 1000000000 := by rw [hT]; have := tms_lt y0 x (by omega); omega
      have cb := cof_pos y0 x (by omega)
      rw [← hc] at cb
      have HJ := Lib.hid (pws_jump y0 (show 0 < x by omega) HO.out)
      have HS := Lib.hid (show pre ++ ((if 0 < T then [(y, T)] else []) ++ pws (y + 1) c) = X by rw [hc, hT, ← pws_steps y0 hlt]; exact HE.out)
      rw [← hc] at HJ
      obtain ⟨c0, c1⟩ := cb
      obtain ⟨y3, hy3⟩ : ∃ y3, y3 = y + (1 + y % 2) := ⟨_, rfl⟩
      have HY3 := Lib.hid hy3
      have y4 : y < y3 := by omega
      have y5 : y3 ≤ 31700 := by omega
      rw [← hy3] at HJ
      clear hc hT hy3
      go_wp2
      go_loop [4, 6] (fun i q => ∃ (z : Int) (t : Nat), i = .int .i64 z ∧ q = .int .i64 (t : Int) ∧ 1 ≤ z ∧ z ≤ x ∧ (t : Int) ≤ (T : Int) ∧ Hid (cof y z = c) ∧ Hid (t + tms y z = T)) (fun i _ => (intOf i).toNat)
      case atStart => exact ⟨x, 0, rfl, rfl, x0, Int.le_refl _, by omega, Lib.hid HC.out.symm, Lib.hid (by have := HT.out; omega)⟩
      case round =>
        obtain ⟨z, t, rfl, rfl, z0, z1, tT, HCz, HTz⟩ := hrel
        by_cases hz : z % y = 0
        · have HCs := Lib.hid (cof_step y0 (by omega) hz)
          have HTs := Lib.hid (tms_step y0 (by omega) hz)
          have d1 := quo_pos y0 (by omega) hz
          have d2 := quo_less y0 (show 0 < z by omega)
          have t2 : (t : Int) + 1 ≤ (T : Int) := by have := HTz.out; have := HTs.out; omega
          go_wp2
          go_round
          case rel => exact ⟨z / y, t + 1, by go_num, by go_num, by omega, by omega, by omega, Lib.hid (by rw [← HCs.out]; exact HCz.out), Lib.hid (by have := HTz.out; have := HTs.out; omega)⟩
          case measure => simp [intOf]; omega
        · have hzc : z = c := by rw [← HCz.out]; exact (cof_end hz).symm
          have htT : t = T := by have := HTz.out; rw [tms_end hz] at this; omega
          subst hzc
          subst htT
          by_cases ht : 0 < t
          · have HS2 := Lib.hid (show (pre ++ [(y, t)]) ++ pws y3 z = X by rw [HJ.out.2.2, ← HS.out, if_pos ht]; simp)
            have ht2 : (0 : Int) < (t : Int) := by omega
            go_wp2_with (at_builtin; refine wpList_appP rfl _ _ rfl w.heap.size wr.heap.size _ pre (y, t) rfl rfl (HR.out.alloc _) (by simp [go_sem]) (by simp [go_sem]) (by have := HLP.out; have := HL.out; omega) (by have := HB.out.size; simp; omega) ?_; intro v1 w2 hr1 hg1 hb2; have HR3 := Lib.hid hr1; have HB3 := Lib.hid ((HB.out.alloc HB.out.size _).trans hb2); clear hr1 hg1 hb2)
            go_roundw
            case rel => exact ⟨z, y3, pre ++ [(y, t)], rfl, by rw [HY3.out] <;> go_num, z0, by omega, by omega, y5, Lib.hid (.inr ⟨HJ.out.2.1, HJ.out.1⟩), HR3.out, HS2, HB3.out⟩
            case measure => simp [intOf]; omega
          · have HS2 := Lib.hid (show pre ++ pws y3 z = X by rw [HJ.out.2.2, ← HS.out, if_neg ht]; simp)
            have ht2 : ¬ (0 : Int) < (t : Int) := by omega
            go_wp2
            go_roundw
            case rel => exact ⟨z, y3, pre, rfl, by rw [HY3.out] <;> go_num, z0, by omega, by omega, y5, Lib.hid (.inr ⟨HJ.out.2.1, HJ.out.1⟩), HR.out, HS2, HB.out⟩
            case measure => simp [intOf]; omega
    · by_cases h1 : 1 < x
      · have HE3 := Lib.hid (show pre ++ [(x, 1)] = X by have := HE.out; rw [pws_last hlt h1] at this; exact this)
        go_wp2_with (at_builtin; refine wpList_appP rfl _ _ rfl w.heap.size wr.heap.size _ pre (x, 1) rfl rfl (HR.out.alloc _) (by simp [go_sem]) (by simp [go_sem]) (by have := HLP.out; have := HL.out; omega) (by have := HB.out.size; simp; omega) ?_; intro v1 w2 hr1 hg1 hb2; have HR3 := Lib.hid hr1; have HB3 := Lib.hid ((HB.out.alloc HB.out.size _).trans hb2); clear hr1 hg1 hb2)
        go_ret
        exact ⟨_, rfl, by rw [← HE3.out]; exact HR3.out, HB3.out⟩
      · have HE3 := Lib.hid (show pre = X by have := HE.out; rw [pws_none hlt h1] at this; simpa using this)
        go_wp2
        go_ret
        exact ⟨_, rfl, by rw [← HE3.out]; exact HR.out, HB.out⟩

end Go.Proofs.Ytgiabadkbfbilab
