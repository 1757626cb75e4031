/-
  The program's stretches, in a slice of structs; who can be said.
-/
import Derived.Test.Ytmdjmbmkgboeaaa9K
import Derived.Test.Ytmdjmbmkgboeaaa9F
namespace Go.Proofs.Ytmdjmbmkgboeaaa
open Go.RowKit
set_option linter.unusedVariables false
set_option linter.unusedSimpArgs false
set_option maxRecDepth 100000

/-- The cells of stretches. -/
def rowS : List (Nat × Int) → List Value
  | [] => []
  | p :: t => .int .i64 (p.1 : Int) :: .int .i64 p.2 :: rowS t
theorem rowS_app (a b : List (Nat × Int)) : rowS (a ++ b) = rowS a ++ rowS b := by
  induction a with
  | nil => rfl
  | cons p t ih => rw [List.cons_append, rowS, rowS, ih]; rfl
theorem rowS_len (a : List (Nat × Int)) : (rowS a).length = a.length * 2 := by
  induction a with
  | nil => rfl
  | cons p t ih => rw [rowS]; simp [ih]; omega
theorem rowS_at (a : List (Nat × Int)) : ∀ (i : Nat) (p : Nat × Int), a[i]? = some p → (rowS a)[i * 2]? = some (.int .i64 (p.1 : Int)) ∧ (rowS a)[i * 2 + 1]? = some (.int .i64 p.2) := by
  induction a with
  | nil => intro i p h; simp at h
  | cons q t ih =>
    intro i p h
    cases i with
    | zero => simp at h; subst h; exact ⟨rfl, rfl⟩
    | succ i =>
      have := ih i p (by simpa using h)
      rw [rowS, show (i + 1) * 2 = i * 2 + 1 + 1 by omega]
      simpa using this
theorem rowS_set (R : List (Nat × Int)) (c d : Nat) (x : Int) : (rowS (R ++ [(c, x)])).set (R.length * 2) (.int .i64 (d : Int)) = rowS (R ++ [(d, x)]) := by
  rw [rowS_app, rowS_app, List.set_append, if_neg (by rw [rowS_len]; omega), rowS_len, Nat.sub_self]
  rfl

/-- Stretches in a slice of the call's own. -/
def Sk (w : World) (B : Nat) (v : Value) (ps : List (Nat × Int)) : Prop := w.ownsRow B 66 2 v ps.length (rowS ps)
theorem Sk.nil (w : World) (B : Nat) : Sk w B (.slice none 0 0) [] := World.ownsRow_nil w B _ _
theorem Sk.keep {w w' : World} {B : Nat} {v : Value} {ps : List (Nat × Int)} (h : Sk w B v ps) (hb : Below w.heap.size w w') : Sk w' B v ps := by
  refine ⟨h.1, ?_⟩
  rcases h.2 with h2 | ⟨g, cap, cur, hv, hg, hh, r⟩
  · exact .inl h2
  · exact .inr ⟨g, cap, cur, hv, hg, by rw [hb.block g (Array.getElem?_eq_some_iff.1 hh).1]; exact hh, r⟩
theorem Sk.alloc {w : World} {B : Nat} {v : Value} {ps : List (Nat × Int)} (h : Sk w B v ps) (o : Obj) : Sk (w.alloc o) B v ps := World.ownsRow.alloc h o
theorem Sk.drew {w : World} {B : Nat} {v : Value} {ps : List (Nat × Int)} (h : Sk w B v ps) : Sk w.drew B v ps := h
theorem Sk.drewN {w : World} {B : Nat} {v : Value} {ps : List (Nat × Int)} (h : Sk w B v ps) (n : Nat) : Sk (w.drewN n) B v ps := h
theorem Sk.mono {w : World} {B C : Nat} {v : Value} {ps : List (Nat × Int)} (h : Sk w B v ps) (hC : C ≤ B) : Sk w C v ps := by
  refine ⟨h.1, ?_⟩
  rcases h.2 with h2 | ⟨g, cap, cur, hv, hg, r⟩
  · exact .inl h2
  · exact .inr ⟨g, cap, cur, hv, Nat.le_trans hC hg, r⟩
theorem Sk.cases {w : World} {B : Nat} {v : Value} {ps : List (Nat × Int)} (h : Sk w B v ps) :
    (v = .slice none 0 0 ∧ ps = []) ∨ ∃ g cap, v = .slice (some ⟨g, 0, none⟩) ps.length cap ∧ B ≤ g ∧ g < w.heap.size ∧ ∀ i p, ps[i]? = some p → w.cell? ⟨g, i * 2, none⟩ = some (.int .i64 (p.1 : Int)) ∧ w.cell? ⟨g, i * 2 + 1, none⟩ = some (.int .i64 p.2) := by
  have h0 := h
  rcases h.2 with ⟨h1, h2⟩ | ⟨g, cap, cur, rfl, hg, hh, _⟩
  · exact .inl ⟨h1, List.eq_nil_of_length_eq_zero h2⟩
  · refine .inr ⟨g, cap, rfl, hg, (Array.getElem?_eq_some_iff.1 hh).1, fun i p hi => ?_⟩
    have hl : i < ps.length := (List.getElem?_eq_some_iff.1 hi).1
    obtain ⟨r1, r2⟩ := rowS_at ps i p hi
    have c1 := World.ownsRow.cellAt (w := w) (base := B) (e := 66) (size := 2) (n := ps.length) (xs := rowS ps) (cap := cap) h0 (i * 2) (by omega)
    have c2 := World.ownsRow.cellAt (w := w) (base := B) (e := 66) (size := 2) (n := ps.length) (xs := rowS ps) (cap := cap) h0 (i * 2 + 1) (by omega)
    exact ⟨c1.trans r1, c2.trans r2⟩
theorem Sk.len {w : World} {B : Nat} {v : Value} {ps : List (Nat × Int)} (h : Sk w B v ps) : ∃ a cap, v = .slice a ps.length cap := by
  rcases h.cases with ⟨rfl, rfl⟩ | ⟨g, cap, rfl, _⟩
  · exact ⟨none, 0, rfl⟩
  · exact ⟨_, _, rfl⟩
theorem Sk.last {w : World} {B m c : Nat} {v : Value} {R : List (Nat × Int)} {x : Int} (h : Sk w B v (R ++ [(c, x)])) (hm : R.length = m) (d : Nat) :
    ∃ g cap, v = .slice (some ⟨g, 0, none⟩) (m + 1) cap ∧ B ≤ g ∧ g < w.heap.size ∧ w.cell? ⟨g, m * 2, none⟩ = some (.int .i64 (c : Int)) ∧ w.frozen? ⟨g, m * 2, none⟩ = false ∧
      Sk (w.setCell ⟨g, m * 2, none⟩ (.int .i64 (d : Int))) B v (R ++ [(d, x)]) ∧ w.grownBy (w.setCell ⟨g, m * 2, none⟩ (.int .i64 (d : Int))) (some g) := by
  subst hm
  rcases h.cases with ⟨_, hx⟩ | ⟨g, cap, rfl, hg, hlt, hc⟩
  · simp at hx
  · have hc1 := (hc R.length (c, x) (by simp)).1
    have hst := World.ownsRow.stored (w := w) (base := B) (e := 66) (size := 2) (n := (R ++ [(c, x)]).length) (xs := rowS (R ++ [(c, x)])) (cap := cap) h (R.length * 2) (.int .i64 (d : Int))
    have hfz := World.ownsRow.frozenAt (w := w) (base := B) (e := 66) (size := 2) (n := (R ++ [(c, x)]).length) (xs := rowS (R ++ [(c, x)])) (cap := cap) h (R.length * 2)
    have hlen : (R ++ [(c, x)]).length = R.length + 1 := by simp
    refine ⟨g, cap, by rw [hlen], hg, hlt, hc1, hfz, ?_, hst.2⟩
    have h1 := hst.1
    rw [rowS_set] at h1
    unfold Sk
    rw [show (R ++ [(d, x)]).length = (R ++ [(c, x)]).length by simp]
    exact h1

theorem infoSk : (Try.prog.info? 66).map (fun i => (i.zero, i.size, i.bytes)) = some (some (.agg #[.int .i64 0, .int .i64 0]), 2, 16) := by kernel_rfl

theorem wpList_appK {w : World} {ops : Array Oper} {rest : List Oper} {o : Oper} {a : Act} {Q : Exit → Act → World → Prop} (hgd : o.guard = none) (s x : Operand)
    (ho : o.op = .call { callee := .builtin .append, args := #[s, x], argTypes := #[63, 63] })
    (B g : Nat) (v : Value) (ps : List (Nat × Int)) (p : Nat × Int) (hs : a.eval s = v) (hx : a.eval x = .slice (some ⟨g, 0, none⟩) 1 1) (hv : Sk w B v ps)
    (h0 : w.cell? ⟨g, 0, none⟩ = some (.int .i64 (p.1 : Int))) (h1 : w.cell? ⟨g, 1, none⟩ = some (.int .i64 p.2)) (hlen : ps.length ≤ 100000) (hB : B ≤ w.heap.size)
    (h : ∀ v' w', Sk w' B v' (ps ++ [p]) → w.grownBy w' v.ownBlock → Below B w w' → wpList Try.prog ops Q rest (a.put o.dst v') w') : wpList Try.prog ops Q (o :: rest) a w := by
  obtain ⟨i0, hi, hz0, hz1, hz2⟩ := info_parts infoSk
  have hbel : ∀ w', w.grownBy w' v.ownBlock → Below B w w' := fun w' hg => (Below.refl _ _).grown hg hB (fun k hk => (World.ownsRow.lt hv k hk).1)
  refine wpList_append_own w hgd s x 63 ho B 66 i0 _ 2 16 Try.underlying63 hi hz0 hz1 hz2 rfl (by decide) v ps.length _ hs hv ⟨g, 0, none⟩ 1 1 [.int .i64 (p.1 : Int), .int .i64 p.2] hx rfl ?_ ?_ (by unfold maxLen; omega) (by omega) hB ?_
  · intro j q hj
    rw [addr_add, Nat.zero_add]
    match j, hj with
    | 0, hj => simp at hj; subst hj; exact h0
    | 1, hj => simp at hj; subst hj; exact h1
    | j + 2, hj => simp at hj
  · intro q hq
    simp at hq
    rcases hq with rfl | rfl <;> rfl
  · intro v' w' h2 h3 _
    refine h v' w' ?_ h3 (hbel w' h3)
    unfold Sk
    rw [rowS_app, List.length_append, List.length_singleton]
    exact h2

/-- What is read of an argument: nothing, or numbers from some place on. -/
theorem Sl.at9 {w : World} {v : Value} {xs : List Int} (h : Sl w v xs) {k : Nat} (hk : k < xs.length) : ∃ b off cap, v = .slice (some ⟨b, off, none⟩) xs.length cap ∧ b < w.heap.size ∧ ∀ j (h : j < xs.length), w.cell? ⟨b, off + j, none⟩ = some (.int .i64 xs[j]) := by
  obtain ⟨a, cap, rfl, h | ⟨b, off, rfl, h1, h2⟩⟩ := h
  · rw [h] at hk; simp at hk
  · exact ⟨b, off, cap, rfl, h1, h2⟩

theorem get_same {xs : List Int} {i j : Nat} (hi : i < xs.length) (hj : j < xs.length) (e : i = j) : xs[i] = xs[j] := by subst e; rfl

theorem stretchesOf_any (v : Value) (xs : List Int) (w : World) (hv : Sl w v xs) (hl : xs.length ≤ 5000) :
    Calls Try.prog 56 #[v] w fun e w' => ∃ u, e = .returned u ∧ Sk w' w.heap.size u (strs xs) ∧ Below w.heap.size w w' := by
  obtain ⟨a, cap, rfl, hx⟩ := hv
  have HX := Lib.hid hx
  have H0 := Lib.hid (show strs xs = strs (xs.take xs.length) by rw [List.take_of_length_le (Nat.le_refl _)])
  have HL := Lib.hid (fun k => strs_len (xs.take k))
  obtain ⟨N, hN⟩ : ∃ N, N = xs.length := ⟨_, rfl⟩
  have HN := Lib.hid hN
  rw [← hN] at H0 hl ⊢
  clear hx hN
  go_enter Try.func56, Try.ntmps56
  go_wp2
  go_loopw [3, 7] (fun o i wr => ∃ k : Nat, k ≤ N ∧ i = .int .i64 (k : Int) ∧ Sk wr w.heap.size o (strs (xs.take k)) ∧ Below w.heap.size w wr) (fun _ i _ => N - (intOf i).toNat)
  case atStart => exact ⟨0, Nat.zero_le _, rfl, Sk.nil _ _, Below.refl _ _⟩
  case round =>
    obtain ⟨k, hk, rfl, hr, hbl⟩ := hrel
    have HR := Lib.hid hr
    have HB := Lib.hid hbl
    clear hr hbl
    by_cases hlt : k < N
    · have hkx : k < xs.length := by rw [← HN.out]; exact hlt
      rcases HX.out with hx | ⟨b, off, rfl, hbk, hc⟩
      · rw [hx] at hkx; simp at hkx
      have hcell : wr.cell? ⟨b, off + k, none⟩ = some (.int .i64 xs[k]) := (HB.out.cell (p := ⟨b, off + k, none⟩) hbk).trans (hc k hkx)
      have HSl := Lib.hid (show (strs (xs.take k)).length ≤ k by have := HL.out k; rw [List.length_take, Nat.min_eq_left (by omega)] at this; exact this)
      obtain ⟨m, hm⟩ : ∃ m, (strs (xs.take k)).length = m := ⟨_, rfl⟩
      have HM := Lib.hid hm
      have hmk : m ≤ k := by have := HSl.out; omega
      have HC := Lib.hid hc
      clear hm hc
      by_cases h0 : k = 0 ∨ xs[k] ≠ xs[k - 1]'(by omega)
      · have HE := Lib.hid (strs_other hkx h0)
        by_cases h1 : k = 0
        · have hk0 : ((k : Int) == 0) = true := beq_yes (by omega)
          clear h0 h1
          go_wp2
          go_region
          all_goals
            go_wp2_with (at_builtin; refine wpList_appK rfl _ _ rfl w.heap.size wr.heap.size _ (strs (xs.take k)) (0, xs[k]) rfl rfl (by first | exact HR.out.alloc _ | exact HR.out.drew.alloc _ | exact (HR.out.alloc _).drew) (by simp [go_sem]) (by simp [go_sem]) (by have := HM.out; omega) (by have := HB.out.size; simp; omega) ?_; intro v1 w4 hr4 hg4 hb4; obtain ⟨g, cap2, rfl, hBg, hgl, hcl, hfz, hset, hgr⟩ := Sk.last hr4 HM.out 1; have HB4 := Lib.hid (Below.trans (by first | exact HB.out.alloc HB.out.size _ | exact HB.out.drew.alloc HB.out.size _ | exact (HB.out.alloc HB.out.size _).drew) hb4); have HSet := Lib.hid hset; have HB5 := Lib.hid (HB4.out.setCell (p := ⟨g, m * 2, none⟩) hBg (.int .i64 ((1 : Nat) : Int))); clear hr4 hg4 hb4 hset hgr)
            go_roundw
            case rel => exact ⟨k + 1, by omega, by go_num, by rw [HE.out]; exact HSet.out, HB5.out⟩
            case measure => simp [intOf]; omega
        · have hk0 : ((k : Int) == 0) = false := beq_no (by omega)
          obtain ⟨k1, hk1⟩ : ∃ k1, k = k1 + 1 := ⟨k - 1, by omega⟩
          have hcell2 := (HB.out.cell (p := ⟨b, off + (k - 1), none⟩) hbk).trans (HC.out (k - 1) (by omega))
          have hne := bne_yes (h0.resolve_left h1)
          have HK1 := Lib.hid hk1
          have hkm : k - 1 = k1 := by omega
          obtain ⟨y, hy⟩ : ∃ y, y = xs[k - 1]'(by omega) := ⟨_, rfl⟩
          rw [← hy] at hcell2 hne
          rw [hkm] at hcell2
          have hki : (k : Int) - 1 = (k1 : Int) := by omega
          have hk2 : k1 < N := by omega
          clear h0 h1 hk1 hkm hy
          go_wp2
          go_region
          all_goals
            go_wp2_with (at_builtin; refine wpList_appK rfl _ _ rfl w.heap.size wr.heap.size _ (strs (xs.take k)) (0, xs[k]) rfl rfl (by first | exact HR.out.alloc _ | exact HR.out.drew.alloc _ | exact (HR.out.alloc _).drew) (by simp [go_sem]) (by simp [go_sem]) (by have := HM.out; omega) (by have := HB.out.size; simp; omega) ?_; intro v1 w4 hr4 hg4 hb4; obtain ⟨g, cap2, rfl, hBg, hgl, hcl, hfz, hset, hgr⟩ := Sk.last hr4 HM.out 1; have HB4 := Lib.hid (Below.trans (by first | exact HB.out.alloc HB.out.size _ | exact HB.out.drew.alloc HB.out.size _ | exact (HB.out.alloc HB.out.size _).drew) hb4); have HSet := Lib.hid hset; have HB5 := Lib.hid (HB4.out.setCell (p := ⟨g, m * 2, none⟩) hBg (.int .i64 ((1 : Nat) : Int))); clear hr4 hg4 hb4 hset hgr)
            go_roundw
            case rel => exact ⟨k + 1, by omega, by go_num, by rw [HE.out]; exact HSet.out, HB5.out⟩
            case measure => simp [intOf]; omega
      · have he : xs[k] = xs[k - 1]'(by omega) := Decidable.byContradiction (fun c => h0 (.inr c))
        have hkp : k ≠ 0 := fun c => h0 (.inl c)
        obtain ⟨R, c, hR1, hR2⟩ := strs_same (by omega) hkx he
        have HE := Lib.hid hR2
        have hcl := strs_le (xs.take k) (c, xs[k]) (by rw [hR1]; simp)
        have hcN : c ≤ 5000 := by rw [List.length_take] at hcl; simp at hcl; omega
        have hr5 := HR.out
        rw [hR1] at hr5
        have hRl : R.length + 1 = m := by rw [← HM.out, hR1]; simp
        obtain ⟨q, hq⟩ : ∃ q, R.length = q := ⟨_, rfl⟩
        obtain ⟨g, cap2, rfl, hBg, hgl, hcl2, hfz, hset, hgr⟩ := Sk.last hr5 hq (c + 1)
        have hcast : ((c + 1 : Nat) : Int) = (c : Int) + 1 := by push_cast; rfl
        rw [hcast] at hset
        have HSet := Lib.hid hset
        have HB5 := Lib.hid (HB.out.setCell (p := ⟨g, q * 2, none⟩) hBg (.int .i64 ((c : Int) + 1)))
        have hqm : q ≤ 5000 := by omega
        have hk0 : ((k : Int) == 0) = false := beq_no (by omega)
        obtain ⟨k1, hk1⟩ : ∃ k1, k = k1 + 1 := ⟨k - 1, by omega⟩
        have hne := bne_no he
        have hkm : k - 1 = k1 := by omega
        obtain ⟨y, hy⟩ : ∃ y, y = xs[k - 1]'(by omega) := ⟨_, rfl⟩
        have hcell3 : wr.cell? ⟨b, off + k1, none⟩ = some (.int .i64 y) := by
          rw [(HB.out.cell (p := ⟨b, off + k1, none⟩) hbk).trans (HC.out k1 (by omega)), hy, get_same (by omega) (by omega) hkm]
        rw [← hy] at hne
        have hki : (k : Int) - 1 = (k1 : Int) := by omega
        have hk2 : k1 < N := by omega
        clear h0 he hkp hR1 hR2 hcl hr5 hRl hq hset hgr hk1 hkm hy hcast
        go_wp2
        go_region
        all_goals
          go_wp2
          go_roundw
          case rel => exact ⟨k + 1, by omega, by go_num, by rw [HE.out]; exact HSet.out.drew, HB5.out.drew⟩
          case measure => simp [intOf]; omega
    · obtain rfl : k = N := by omega
      go_wp2
      go_ret
      exact ⟨_, rfl, by rw [H0.out]; exact HR.out, HB.out⟩

def okP (p : Nat × Int) : Bool := decide (1 ≤ p.2) && decide (p.2 ≤ 9) && decide (p.1 ≤ 9)
theorem toSay_iff (xs : List Int) : toSay xs = (decide (xs.length ≤ 400) && (strs xs).all okP) := by
  rw [Bool.eq_iff_iff]
  unfold toSay gdW
  simp only [Bool.and_eq_true, decide_eq_true_eq, allIn_iff, n9_iff, List.all_eq_true]
  have h1 := strs_all (fun x => 1 ≤ x ∧ x ≤ 9) xs
  constructor
  · rintro ⟨⟨a, b⟩, c⟩
    refine ⟨a, fun p hp => ?_⟩
    have h2 := h1.2 b p hp
    have h3 := c p hp
    simp [okP, h2, h3]
  · rintro ⟨a, b⟩
    refine ⟨⟨a, h1.1 (fun p hp => ?_)⟩, fun p hp => ?_⟩
    · have := b p hp; simp [okP] at this; exact this.1
    · have := b p hp; simp [okP] at this; exact this.2

theorem isToSay_any (v : Value) (xs : List Int) (w : World) (hv : Sl w v xs) (hl : xs.length ≤ 2000000) :
    Calls Try.prog 55 #[v] w fun e w' => e = .returned (.bool (toSay xs)) ∧ Below w.heap.size w w' := by
  have HI := Lib.hid (toSay_iff xs)
  by_cases h4 : xs.length ≤ 400
  · have HS := Lib.hid (fun w' (h : Sl w' v xs) => stretchesOf_any v xs w' h (by omega))
    rw [HI.out, decide_eq_true h4, Bool.true_and]
    obtain ⟨S, hS⟩ : ∃ S, S = strs xs := ⟨_, rfl⟩
    have hSl : S.length ≤ 400 := by have := strs_len xs; rw [← hS] at this; omega
    have HPos := Lib.hid (show ∀ p ∈ S, p.1 ≤ 400 from fun p hp => by rw [hS] at hp; have := strs_le xs p hp; omega)
    rw [← hS] at HS ⊢
    obtain ⟨a, cap, rfl⟩ := hv.len
    have HV := Lib.hid hv
    obtain ⟨N, hN⟩ : ∃ N, N = xs.length := ⟨_, rfl⟩
    rw [← hN] at HS HV h4 ⊢
    have hle : ¬ (400 : Int) < (N : Int) := by omega
    clear hS hv hN HI hl
    go_enter Try.func55, Try.ntmps55
    go_wp2_with (go_at_call 56; refine (HS.out _ HV.out).mono ?_; rintro e w1 ⟨u, rfl, hr, hb⟩; have HB := Lib.hid hb; have HR := Lib.hid hr; clear hr hb; obtain ⟨a2, cap2, rfl⟩ := HR.out.len)
    go_loopw [11] (fun i wr => ∃ j : Nat, j ≤ S.length ∧ i = .int .i64 (j : Int) ∧ Hid (∀ q p, q < j → S[q]? = some p → okP p = true) ∧ Below w.heap.size w wr ∧ Below w1.heap.size w1 wr) (fun i _ => S.length - (intOf i).toNat)
    case atStart => exact ⟨0, Nat.zero_le _, rfl, Lib.hid (fun q p h => by omega), HB.out, Below.refl _ _⟩
    case round =>
      obtain ⟨j, hj, rfl, HOk, hb1, hb2⟩ := hrel
      have HB1 := Lib.hid hb1
      have HB2 := Lib.hid hb2
      clear hb1 hb2
      by_cases hlt : j < S.length
      · obtain ⟨⟨t, x⟩, hp⟩ : ∃ p, S[j]? = some p := ⟨_, List.getElem?_eq_getElem hlt⟩
        have HP := Lib.hid hp
        have ht := HPos.out (t, x) (List.mem_of_getElem? hp)
        simp only at ht
        rcases HR.out.cases with ⟨_, hx⟩ | ⟨g, cap3, hv, _, _, hc⟩
        · rw [hx] at hlt; simp at hlt
        simp only [Value.slice.injEq] at hv
        obtain ⟨rfl, _, rfl⟩ := hv
        obtain ⟨cc0, cc1⟩ := hc j _ hp
        have c0 := Below.keeps_cell HB2.out cc0
        have c1 := Below.keeps_cell HB2.out cc1
        clear hc cc0 cc1 hp
        have HA1 := Lib.hid (HB1.out.alloc HB1.out.size (.cells #[.int .i64 (t : Int), .int .i64 x] 66))
        have HA2 := Lib.hid (HB2.out.alloc HB2.out.size (.cells #[.int .i64 (t : Int), .int .i64 x] 66))
        cases hok : okP (t, x) with
        | true =>
          have HO := Lib.hid hok
          unfold okP at hok
          simp only [Bool.and_eq_true, decide_eq_true_eq] at hok
          obtain ⟨⟨h1, h2⟩, h3⟩ := hok
          have n1 : ¬ x < 1 := by omega
          have n2 : ¬ 9 < x := by omega
          have n3 : ¬ (9 : Int) < (t : Int) := by omega
          clear h1 h2 h3
          go_wp2
          go_roundw
          case rel =>
            refine ⟨j + 1, by omega, by go_num, Lib.hid (fun q p hq hs => ?_), HA1.out, HA2.out⟩
            by_cases e : q = j
            · subst e
              rw [HP.out] at hs
              cases hs
              exact HO.out
            · exact HOk.out q p (by omega) hs
          case measure => simp [intOf]; omega
        | false =>
          have HAll := Lib.hid (show S.all okP = false by
            rw [← Bool.not_eq_true, List.all_eq_true]
            intro hc
            rw [hc _ (List.mem_of_getElem? HP.out)] at hok
            cases hok)
          unfold okP at hok
          simp only [Bool.and_eq_false_iff, decide_eq_false_iff_not] at hok
          by_cases n1 : x < 1
          · clear hok
            go_wp2
            go_ret
            exact ⟨ret_bool HAll.out.symm, HA1.out⟩
          · by_cases n2 : 9 < x
            · clear hok
              go_wp2
              go_ret
              exact ⟨ret_bool HAll.out.symm, HA1.out⟩
            · have n3 : (9 : Int) < (t : Int) := by omega
              clear hok
              go_wp2
              go_ret
              exact ⟨ret_bool HAll.out.symm, HA1.out⟩
      · obtain rfl : j = S.length := by omega
        have HAll := Lib.hid (show S.all okP = true by
          rw [List.all_eq_true]
          intro p hp
          obtain ⟨q, hq, he⟩ := List.getElem_of_mem hp
          exact HOk.out q p hq (by rw [← he]; exact List.getElem?_eq_getElem hq))
        go_wp2
        go_ret
        exact ⟨ret_bool HAll.out.symm, HB1.out⟩
  · rw [HI.out, decide_eq_false h4, Bool.false_and]
    obtain ⟨a, cap, rfl⟩ := hv.len
    obtain ⟨N, hN⟩ : ∃ N, N = xs.length := ⟨_, rfl⟩
    rw [← hN] at h4 hl ⊢
    have hle : (400 : Int) < (N : Int) := by omega
    clear hN h4 HI hv
    go_enter Try.func55, Try.ntmps55
    go_wp2
    go_ret
    exact ⟨rfl, Below.refl _ _⟩

end Go.Proofs.Ytmdjmbmkgboeaaa
