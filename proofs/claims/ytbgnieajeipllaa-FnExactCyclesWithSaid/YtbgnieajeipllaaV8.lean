/-
  slices.SortFunc of lists of numbers with different first numbers, by slices.Compare.
-/
import Derived.Test.YtbgnieajeipllaaV7
import Derived.Test.YtbgnieajeipllaaS6
import Derived.Sort.OwnSorted
namespace Go.Proofs.Ytbgnieajeipllaa
open Go.RowKit Go.Sort
set_option linter.unusedVariables false
set_option linter.unusedSimpArgs false
set_option maxRecDepth 100000

theorem nanI_any (x : Int) (w : World) : Calls Try.prog 117 #[.int .i64 x] w fun e w' => e = .returned (.bool false) ∧ w' = w := by
  go_enter Try.func117, Try.ntmps117
  go_wp2
  go_ret
  exact ⟨rfl, rfl⟩

theorem cmpI_any (x y : Int) (w : World) : Calls Try.prog 95 #[.int .i64 x, .int .i64 y] w fun e w' => e = .returned (.int .i64 (Lib.compareInt x y)) ∧ w' = w := by
  have HN := Lib.hid (fun z W => nanI_any z W)
  by_cases h1 : x < y
  · have HR := Lib.hid (show Lib.compareInt x y = -1 by simp [Lib.compareInt, h1])
    go_enter Try.func95, Try.ntmps95
    go_wp2_with (go_at_call 117; refine (HN.out _ _).mono ?_; rintro e w1 ⟨rfl, rfl⟩)
    go_ret
    exact ⟨by rw [HR.out]; rfl, rfl⟩
  · by_cases h2 : y < x
    · have HR := Lib.hid (show Lib.compareInt x y = 1 by simp [Lib.compareInt, h1, h2])
      go_enter Try.func95, Try.ntmps95
      go_wp2_with (go_at_call 117; refine (HN.out _ _).mono ?_; rintro e w1 ⟨rfl, rfl⟩)
      go_ret
      exact ⟨by rw [HR.out]; rfl, rfl⟩
    · have HR := Lib.hid (show Lib.compareInt x y = 0 by simp [Lib.compareInt, h1, h2])
      go_enter Try.func95, Try.ntmps95
      go_wp2_with (go_at_call 117; refine (HN.out _ _).mono ?_; rintro e w1 ⟨rfl, rfl⟩)
      go_ret
      exact ⟨by rw [HR.out]; rfl, rfl⟩

theorem cmp_zero {x y : Int} : Lib.compareInt x y = 0 ↔ x = y := by
  unfold Lib.compareInt
  constructor
  · intro h
    split at h
    · omega
    · split at h <;> omega
  · rintro rfl; simp

set_option maxHeartbeats 1000000 in
theorem rowsCompare_any (g1 c1 g2 c2 n m : Nat) (xs ys : List Int) (w : World) (h1 : CellsAt w g1 0 xs) (h2 : CellsAt w g2 0 ys) (hn : n = xs.length) (hm : m = ys.length) (n0 : 0 < n) (m0 : 0 < m) (nb : n ≤ 1000000) (mb : m ≤ 1000000)
    (hne : xs.getD 0 0 ≠ ys.getD 0 0 ∨ xs = ys) :
    Calls Try.prog 81 #[.slice (some ⟨g1, 0, none⟩) n c1, .slice (some ⟨g2, 0, none⟩) m c2] w fun e w' => e = .returned (.int .i64 (Lib.compareInt (xs.getD 0 0) (ys.getD 0 0))) ∧ w' = w := by
  have HC := Lib.hid (fun x y W => cmpI_any x y W)
  rcases hne with hne | rfl
  · have e1 := h1 0 (by omega)
    have e2 := h2 0 (by omega)
    obtain ⟨x, hx⟩ : ∃ x, x = xs.getD 0 0 := ⟨_, rfl⟩
    obtain ⟨y, hy⟩ : ∃ y, y = ys.getD 0 0 := ⟨_, rfl⟩
    rw [← hx] at e1 hne ⊢
    rw [← hy] at e2 hne ⊢
    obtain ⟨r, hr⟩ : ∃ r, r = Lib.compareInt x y := ⟨_, rfl⟩
    have hr0 : ¬ r = 0 := by rw [hr, cmp_zero]; exact hne
    have HX := Lib.hid (HC.out x y w)
    rw [← hr] at HX ⊢
    rw [Nat.zero_add] at e1 e2
    clear h1 h2 hx hy hr hne hn hm HC
    go_enter Try.func81, Try.ntmps81
    go_wp2
    go_loop [11] (fun i => i = .int .i64 0) (fun _ => 0)
    case atStart => rfl
    case round =>
      obtain rfl := hrel
      go_wp2_with (go_at_call 95; refine HX.out.mono ?_; rintro e w1 ⟨rfl, rfl⟩)
      go_ret
      exact ⟨rfl, rfl⟩
  · obtain rfl : n = m := by omega
    have HZ := Lib.hid (show ∀ x, Lib.compareInt x x = 0 from fun x => cmp_zero.2 rfl)
    rw [HZ.out]
    have H1 := Lib.hid h1
    have H2 := Lib.hid h2
    have HN := Lib.hid hn
    clear h1 h2 hn hm
    go_enter Try.func81, Try.ntmps81
    go_wp2
    go_loop [11] (fun i => ∃ k : Nat, k ≤ n ∧ i = .int .i64 (k : Int)) (fun i => n - (intOf i).toNat)
    case atStart => exact ⟨0, Nat.zero_le _, rfl⟩
    case round =>
      obtain ⟨k, hk, rfl⟩ := hrel
      by_cases hlt : k < n
      · have e1 := H1.out k (by rw [← HN.out]; exact hlt)
        have e2 := H2.out k (by rw [← HN.out]; exact hlt)
        obtain ⟨x, hx⟩ : ∃ x, x = xs.getD k 0 := ⟨_, rfl⟩
        rw [← hx, Nat.zero_add] at e1 e2
        have HX := Lib.hid (HC.out x x w)
        rw [HZ.out] at HX
        clear hx
        go_wp2_with (go_at_call 95; refine HX.out.mono ?_; rintro e w1 ⟨rfl, rfl⟩)
        go_round
        case rel => exact ⟨k + 1, by omega, by go_num⟩
        case measure => simp [intOf]; omega
      · obtain rfl : k = n := by omega
        go_wp2
        go_ret
        exact ⟨rfl, rfl⟩

def ixR (n i : Nat) : Nat := if i < n then i else 0
theorem ixR_lt {n i : Nat} (h : 0 < n) : ixR n i < n := by unfold ixR; split <;> omega
theorem ixR_id {n i : Nat} (h : i < n) : ixR n i = i := if_pos h
def encR (vs : List Value) (i : Nat) : Value := vs.getD (ixR vs.length i) (.slice none 0 0)
def lisR (ls : List (List Int)) (i : Nat) : List Int := ls.getD (ixR ls.length i) []
abbrev hd0 (l : List Int) : Int := l.getD 0 0
theorem encR_get {vs : List Value} {i : Nat} (h : i < vs.length) : vs[i]? = some (encR vs i) := by
  unfold encR
  rw [ixR_id h, List.getD_eq_getElem?_getD, List.getElem?_eq_getElem h]; rfl
theorem lisR_get {ls : List (List Int)} {i : Nat} (h : i < ls.length) : ls[i]? = some (lisR ls i) := by
  unfold lisR
  rw [ixR_id h, List.getD_eq_getElem?_getD, List.getElem?_eq_getElem h]; rfl
theorem encR_ix (vs : List Value) (i : Nat) (h : 0 < vs.length) : encR vs i = encR vs (ixR vs.length i) := by
  unfold encR; rw [ixR_id (ixR_lt h)]
theorem lisR_ix (ls : List (List Int)) (i : Nat) (h : 0 < ls.length) : lisR ls i = lisR ls (ixR ls.length i) := by
  unfold lisR; rw [ixR_id (ixR_lt h)]

theorem holds_R {w : World} {g : Nat} {cur : Array Value} {e : TypeId} {vs : List Value} (hb : w.heap[g]? = some (.cells cur e (0, 0))) (ht : cur.toList.take vs.length = vs) : Holds (encR vs) w g 0 (List.range vs.length).toArray := by
  intro j hj
  have hj' : j < vs.length := by simpa using hj
  refine ⟨?_, by simp [World.frozen?, hb]⟩
  have h1 : (cur.toList.take vs.length)[j]? = vs[j]? := by rw [ht]
  rw [List.getElem?_take_of_lt hj'] at h1
  simp only [World.cell?, hb, Nat.zero_add]
  simp only [Option.isSome_none, Bool.false_eq_true, if_false]
  rw [← Array.getElem?_toList, h1, encR_get hj']
  congr 2
  simp [hj']
theorem heap_R {enc : Nat → Value} {w : World} {g n : Nat} {os : Array Obj} {cur : Array Value} {e : TypeId} {fr : Nat × Nat} (d : Array Nat) (hb : w.heap[g]? = some (.cells cur e fr)) :
    (grow (putRow enc (Sort.ahead w n) g 0 d) os).heap[g]? = some (.cells (putCells enc 0 d cur) e fr) := by
  have hg : g < w.heap.size := (Array.getElem?_eq_some_iff.1 hb).1
  rw [heap_grow_old _ _ (by simpa using hg)]
  simp [putRow, mapBlock, Sort.ahead, Array.getElem?_modify, hb, onCells]
theorem grownBy_R {enc : Nat → Value} {w : World} {g n : Nat} {os : Array Obj} (d : Array Nat) : w.grownBy (grow (putRow enc (Sort.ahead w n) g 0 d) os) (some g) := by
  refine ⟨rfl, rfl, rfl, by simp, fun k hk hne => ?_⟩
  rw [heap_grow_old _ _ (by simpa using hk)]
  have : g ≠ k := fun e => hne (by rw [e])
  simp [putRow, mapBlock, Sort.ahead, Array.getElem?_modify, this]
theorem take_R {enc : Nat → Value} (cur : Array Value) (ts : List Nat) (h : ts.length ≤ cur.size) : (putCells enc 0 ts.toArray cur).toList.take ts.length = ts.map enc := by
  apply List.ext_getElem?
  intro j
  by_cases hj : j < ts.length
  · rw [List.getElem?_take_of_lt hj, Array.getElem?_toList]
    simp [putCells, hj, show j < cur.size by omega]
  · rw [List.getElem?_take_eq_none (by omega), List.getElem?_eq_none (by simp; omega)]
theorem owns_R {enc : Nat → Value} {w : World} {base g cap n : Nat} {e : TypeId} {os : Array Obj} {cur : Array Value} (ts : List Nat) (hbase : base ≤ g) (hb : w.heap[g]? = some (.cells cur e (0, 0)))
    (h1 : ts.length ≤ cap) (h2 : cap ≤ maxLen) (h3 : cur.size = cap * 1) :
    (grow (putRow enc (Sort.ahead w n) g 0 ts.toArray) os).ownsRow base e 1 (.slice (some ⟨g, 0, none⟩) ts.length cap) ts.length (ts.map enc) :=
  ⟨by simp, .inr ⟨g, cap, _, rfl, hbase, heap_R _ hb, h1, h2, by simp [putCells, h3], by rw [Nat.mul_one]; exact take_R cur ts (by omega)⟩⟩

theorem lt_R (f : Nat → Int) (x y : Nat) : ltOf (fun i j => Lib.compareInt (f i) (f j)) x y = decide (f x < f y) := by
  unfold ltOf Lib.compareInt
  by_cases h1 : f x < f y
  · simp [h1]
  · by_cases h2 : f y < f x <;> simp [h1, h2]
theorem swo_R (f : Nat → Int) : SWO (ltOf (fun i j => Lib.compareInt (f i) (f j))) where
  irrefl x := by rw [lt_R]; simp
  trans x y z h1 h2 := by rw [lt_R] at *; simp at *; omega
  ntrans x y z h1 h2 := by rw [lt_R] at *; simp at *; omega

theorem sortRows_any (g n cap B : Nat) (vs : List Value) (ls : List (List Int)) (w : World) (h : LLi w B (.slice (some ⟨g, 0, none⟩) n cap) vs ls) (h0 : 0 < n) (hn : n ≤ 1000000)
    (hl : ∀ l ∈ ls, 0 < l.length ∧ l.length ≤ 1000000) (hd : ∀ i j, i < ls.length → j < ls.length → hd0 (lisR ls i) = hd0 (lisR ls j) → i = j) :
    Calls Try.prog 80 #[.slice (some ⟨g, 0, none⟩) n cap, .func (.func 81) #[] #[]] w fun e w' => e = .returned (.tuple #[]) ∧ ∃ vs' ls', LLi w' B (.slice (some ⟨g, 0, none⟩) n cap) vs' ls' ∧ ls'.Perm ls ∧ (ls'.map hd0).Pairwise (· ≤ ·) ∧ w.grownBy w' (some g) := by
  obtain ⟨rfl, _⟩ := h.row.at
  have hlen := h.len
  rcases h.row.2 with ⟨h1, _⟩ | ⟨g', cap', cur, hv, hg, hh, hnn, hm, hc, ht⟩
  · simp at h1
  · simp only [Value.slice.injEq, Option.some.injEq, Addr.mk.injEq, and_true, true_and] at hv
    obtain ⟨rfl, rfl⟩ := hv
    rw [Nat.mul_one] at ht
    have hsz : (List.range vs.length).toArray.size = vs.length := by simp
    have hkeep : ∀ W : World, w.grownBy W (some g) → ∀ i, i < vs.length → Rd W B (encR vs i) (lisR ls i) := fun W hW i hi => by
      have h2 := h.at' i _ _ (encR_get hi) (lisR_get (by omega))
      exact h2.grown hW (rd_not_row h2 h.row)
    have hcmp : CmpReads Try.prog 81 #[] (encR vs) (fun i j => Lib.compareInt (hd0 (lisR ls i)) (hd0 (lisR ls j))) g 0 (List.range vs.length).toArray.size w := by
      intro m os dk hs x y
      have hW : w.grownBy (sortWorld (encR vs) w g 0 m dk os) (some g) := grownBy_R dk
      have hx : ixR vs.length x < vs.length := ixR_lt h0
      have hy : ixR vs.length y < vs.length := ixR_lt h0
      have r1 := hkeep _ hW _ hx
      have r2 := hkeep _ hW _ hy
      have l1 := hl (lisR ls (ixR vs.length x)) (List.mem_of_getElem? (lisR_get (by omega)))
      have l2 := hl (lisR ls (ixR vs.length y)) (List.mem_of_getElem? (lisR_get (by omega)))
      show Calls Try.prog 81 #[encR vs x, encR vs y] _ fun e w' => e = .returned (.int .i64 (Lib.compareInt (hd0 (lisR ls x)) (hd0 (lisR ls y)))) ∧ _
      rw [encR_ix vs x h0, encR_ix vs y h0, lisR_ix ls x (by omega), lisR_ix ls y (by omega), ← hlen]
      obtain ⟨i, hi⟩ : ∃ i, i = ixR vs.length x := ⟨_, rfl⟩
      obtain ⟨j, hj⟩ : ∃ j, j = ixR vs.length y := ⟨_, rfl⟩
      rw [← hi] at hx r1 l1 ⊢
      rw [← hj] at hy r2 l2 ⊢
      obtain ⟨W, hWW⟩ : ∃ W, W = sortWorld (encR vs) w g 0 m dk os := ⟨_, rfl⟩
      rw [← hWW] at r1 r2 ⊢
      obtain ⟨g1, c1, e1, _⟩ : ∃ g1 c1, encR vs i = .slice (some ⟨g1, 0, none⟩) (lisR ls i).length c1 ∧ True := by
        rcases r1.cases with ⟨_, hx⟩ | ⟨g1, c1, hu, _⟩
        · rw [hx] at l1; simp at l1
        · exact ⟨g1, c1, hu, trivial⟩
      obtain ⟨g2, c2, e2, _⟩ : ∃ g2 c2, encR vs j = .slice (some ⟨g2, 0, none⟩) (lisR ls j).length c2 ∧ True := by
        rcases r2.cases with ⟨_, hx⟩ | ⟨g2, c2, hu, _⟩
        · rw [hx] at l2; simp at l2
        · exact ⟨g2, c2, hu, trivial⟩
      rw [e1] at r1 ⊢
      rw [e2] at r2 ⊢
      have k1 := r1.cellsAt 0
      have k2 := r2.cellsAt 0
      rw [List.drop_zero] at k1 k2
      refine (rowsCompare_any g1 c1 g2 c2 _ _ (lisR ls i) (lisR ls j) W k1 k2 rfl rfl l1.1 l2.1 l1.2 l2.2 ?_).mono ?_
      · by_cases hij : hd0 (lisR ls i) = hd0 (lisR ls j)
        · right
          rw [hd i j (by omega) (by omega) hij]
        · exact .inl hij
      · rintro e w' ⟨rfl, rfl⟩
        exact ⟨rfl, 0, rfl⟩
    have eg : ∀ args w, (callFunc 81 args).run Try.prog w = .ok (.enter 81 args) w := enters_of Try.func81 (by kernel_rfl) rfl
    have hcon := Try.slices_SortFunc (encR vs) (fun i => by
      have hx : ixR vs.length i < vs.length := ixR_lt h0
      have r1 := hkeep w (World.grownBy.refl _ _) _ hx
      rw [encR_ix vs i h0]
      obtain ⟨a, c, hu⟩ := Rd.shape' r1
      rw [hu]; rfl) (fun i j => Lib.compareInt (hd0 (lisR ls i)) (hd0 (lisR ls j))) (swo_R _) 81 #[] g 0 cap (List.range vs.length).toArray w eg hcmp.lays (holds_R hh ht) (Array.getElem?_eq_some_iff.1 hh).1 (by rw [hsz]; omega)
    rw [hsz] at hcon
    refine hcon.mono ?_
    rintro e w' ⟨rfl, d', nn, os, hp, hs, rfl⟩
    obtain ⟨hp1, _, hp2⟩ := hp
    rw [hsz] at hp1
    have hp3 : d'.toList.Perm (List.range vs.length) := by
      have ha : d'.extract 0 vs.length = d' := Array.extract_eq_self_of_le (by omega)
      have hb : (List.range vs.length).toArray.extract 0 vs.length = (List.range vs.length).toArray := Array.extract_eq_self_of_le (by rw [hsz]; exact Nat.le_refl _)
      rw [ha, hb] at hp2
      exact hp2
    have hdl : d'.toList.length = vs.length := by rw [Array.length_toList, hp1]
    have hdn : d'.toList.Nodup := hp3.nodup_iff.2 List.nodup_range
    have hdm : ∀ i k, d'.toList[i]? = some k → k < vs.length := fun i k hk => List.mem_range.1 (hp3.mem_iff.1 (List.mem_of_getElem? hk))
    have hG : w.grownBy (sortWorld (encR vs) w g 0 nn d' os) (some g) := grownBy_R d'
    refine ⟨rfl, d'.toList.map (encR vs), d'.toList.map (lisR ls), ⟨?_, by simp, ?_, ?_⟩, ?_, ?_, hG⟩
    · have := owns_R (enc := encR vs) (n := nn) (os := os) d'.toList hg hh (by rw [hdl]; exact hnn) hm hc
      unfold Rg
      rw [List.length_map, hdl]
      rw [hdl, Array.toArray_toList] at this
      exact this
    · intro i u l hu hli
      rw [List.getElem?_map] at hu hli
      cases hk : d'.toList[i]? with
      | none => rw [hk] at hu; simp at hu
      | some k =>
        rw [hk] at hu hli
        simp only [Option.map_some, Option.some.injEq] at hu hli
        subst hu; subst hli
        exact hkeep _ hG k (hdm i k hk)
    · intro i j u z hij hu hz
      rw [List.getElem?_map] at hu hz
      cases hk : d'.toList[i]? with
      | none => rw [hk] at hu; simp at hu
      | some a =>
        cases hk2 : d'.toList[j]? with
        | none => rw [hk2] at hz; simp at hz
        | some b =>
          rw [hk] at hu
          rw [hk2] at hz
          simp only [Option.map_some, Option.some.injEq] at hu hz
          subst hu; subst hz
          have hab : a ≠ b := by
            obtain ⟨q1, rfl⟩ := List.getElem?_eq_some_iff.1 hk
            obtain ⟨q2, rfl⟩ := List.getElem?_eq_some_iff.1 hk2
            exact List.pairwise_iff_getElem.1 hdn i j q1 q2 hij
          exact h.apart' hab (encR_get (hdm i a hk)) (encR_get (hdm j b hk2))
    · have e1 : (List.range vs.length).map (lisR ls) = ls := by
        apply List.ext_getElem?
        intro i
        rw [List.getElem?_map]
        by_cases hi : i < vs.length
        · rw [List.getElem?_range hi, Option.map_some, lisR_get (by omega)]
        · rw [List.getElem?_eq_none (by simp; omega), List.getElem?_eq_none (by omega)]; rfl
      have := hp3.map (lisR ls)
      rwa [e1] at this
    · rw [List.map_map, List.pairwise_map, List.pairwise_iff_getElem]
      intro i j hi hj hij
      have := hs i j (Nat.zero_le _) hij (by omega)
      rw [lt_R] at this
      simp only [Array.length_toList] at hi hj
      simp [hi, hj] at this
      simp
      omega

end Go.Proofs.Ytbgnieajeipllaa
