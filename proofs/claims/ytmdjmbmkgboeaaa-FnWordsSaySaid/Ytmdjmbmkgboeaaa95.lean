/-
  Lists that are unsaid: the program's answer.
-/
import Derived.Test.Ytmdjmbmkgboeaaa94
import Derived.Test.Ytmdjmbmkgboeaaa9E
namespace Go.Proofs.Ytmdjmbmkgboeaaa
open Go.RowKit Go.Shelf
set_option linter.unusedVariables false
set_option linter.unusedSimpArgs false
set_option maxRecDepth 100000

attribute [local go_sem] Oper.semAt_some

/-- An append at a step of a region that draws its order. -/
theorem step_appS {w : World} {ops : Array Oper} {o : Oper} {a : Act} {K : Act → World → Prop} {Q : Exit → Act → World → Prop} {E : Prop} (hgd : o.guard = none) (s x : Operand)
    (ho : o.op = .call { callee := .builtin .append, args := #[s, x], argTypes := #[24, 24] })
    (B : Nat) (v : Value) (xs ys : List Int) (ad : Addr) (m c : Nat) (hs : a.eval s = v) (hx : a.eval x = .slice (some ad) m c) (hv : Rd w B v xs) (hm : ys.length = m)
    (hc : ∀ j (h : j < ys.length), w.cell? (ad.add j) = some (.int .i64 ys[j])) (hlen : xs.length + ys.length ≤ 17179869184) (hB : B ≤ w.heap.size)
    (h : ∀ v' w', Rd w' B v' (xs ++ ys) → w.grownBy w' v.ownBlock → Below B w w' → K (a.put o.dst v') w') :
    if Region.wanted o (yielded ops a.tmps) = true then Oper.wp Try.prog o a w K Q else E := by
  have hw : Region.wanted o (yielded ops a.tmps) = true := by simp [Region.wanted, hgd]
  rw [if_pos hw]
  obtain ⟨i0, hi, hz0, hz1, hz2⟩ := info_parts info3
  subst hm
  obtain ⟨v', w', hr, h2, h3, _⟩ := run_append_own (P := Try.prog) w B 24 o.type 3 i0 (.int .i64 0) 1 8 Try.underlying24 hi hz0 hz1 hz2 rfl (by decide) v xs.length _ hv ad ys.length c (ys.map (Value.int .i64)) (by simp) (fun j q hj => by
    have hj' : j < ys.length := by have := (List.getElem?_eq_some_iff.1 hj).1; simpa using this
    rw [hc j hj', ← hj]
    simp [hj']) (ints_oneCell _ _) (by unfold maxLen; omega) (by omega) hB
  unfold Oper.wp execOp
  simp only [ho, resolve, invoke, builtin, Sem.run_bind, Sem.run_pure, Result.andThen_ok, List.map_toArray, List.map_cons, List.map_nil, hs, hx, hr]
  refine h v' w' ?_ h3 ((Below.refl _ _).grown h3 hB (fun k hk => (hv.lt k hk).1))
  unfold Rd
  rw [List.length_append, List.map_append]
  exact h2

theorem Rd.cell0 {w : World} {B g n cap : Nat} {xs : List Int} (h : Rd w B (.slice (some ⟨g, 0, none⟩) n cap) xs) : ∀ j (hj : j < xs.length), w.cell? ((⟨g, 0, none⟩ : Addr).add j) = some (.int .i64 xs[j]) := by
  intro j hj
  have e : (⟨g, 0, none⟩ : Addr).add j = ⟨g, j, none⟩ := by unfold Addr.add; split <;> simp_all
  rw [e]
  exact h.at.2.2.2.2.1 j hj

theorem Rd.lenN {w : World} {B : Nat} {v : Value} {xs : List Int} (h : Rd w B v xs) : ∃ a n cap, v = .slice a n cap := by
  obtain ⟨a, cap, e⟩ := h.sl.len
  exact ⟨a, _, cap, e⟩

theorem unsF_len9 {S : List (Nat × Int)} (h : ∀ p ∈ S, p.1 ≤ 9) : (unsF S).length ≤ 9 * S.length := by
  rw [unsF_len]
  exact toT_le9 S h

set_option maxHeartbeats 4000000 in
theorem unsay_loop (B M g : Nat) (a : Option Addr) (cap : Nat) (xs : List Int) (w : World) (h : Rd w B (.slice a (M + M) cap) xs) (hM : M ≤ 200) (hl : xs.length = M + M) (hq : toSay xs = true)
    (hseq : ∀ (L : Nat) (W : World), L + 2 < W.heap.size → C2 (L + 1) (.slice a (M + M) cap) W →
      SeqStopsK Fence.wide 4 Try.prog 96 #[.pointer (some ⟨L + 1, 0, none⟩), .pointer (some ⟨L + 1 + 1, 0, none⟩)] (fun x : Fin M => #[.slice (some ⟨g, x.1 + x.1, none⟩) 2 2]) (Kc L (L + 1) (.slice a (M + M) cap))
        (fun ys => ys = List.finRange M) (fun pre => ∃ k, k ≤ M ∧ pre = (List.finRange M).take k) M W)
    (P : Fin M → Nat × Int) (hP : ∀ k : Fin M, g < w.heap.size ∧ w.cell? ⟨g, k.1 + k.1, none⟩ = some (.int .i64 ((P k).1 : Int)) ∧ w.cell? ⟨g, k.1 + k.1 + 1, none⟩ = some (.int .i64 (P k).2) ∧ 1 ≤ (P k).1 ∧ (P k).1 ≤ 9)
    (hPp : (List.finRange M).map P = prs xs) :
    Calls Try.prog 12 #[.slice a (M + M) cap] w fun e w' => ∃ u, e = .returned (.tuple #[u, .bool (OK_UnsayWord xs)]) ∧ Rd w' w.heap.size u (LF_UnsayWord xs) ∧ Below w.heap.size w w' := by
  have HI := Lib.hid (fun w' (h : Sl w' (.slice a (M + M) cap) xs) => isToSay_any _ xs w' h (by omega))
  rw [hq] at HI
  have HV := Lib.hid h.sl
  have hmod : ((M : Int) + (M : Int)) % 2 = 0 := by omega
  have HP := Lib.hid hP
  have hg : gdW xs = true := by
    unfold toSay at hq
    simp only [Bool.and_eq_true] at hq
    exact hq.1
  have HUn := Lib.hid (uns_iff hg (by omega : xs.length % 2 = 0))
  have HPp := Lib.hid hPp
  have HXl := Lib.hid (show xs.length ≤ 2000000 by omega)
  clear hP hPp hg
  refine (callsIn_wide (n := 5)).1 ?_
  refine callsIn_of_wp_marks Try.func12 rfl trivial ?_ rfl
  simp only [Try.ntmps12, List.size_toArray, List.length_cons, List.length_nil, Nat.reduceAdd, Nat.reduceSub, Array.replicate_succ, Array.replicate_zero, List.push_toArray, List.append_toArray, List.nil_append, List.cons_append]
  gi_wp2_with (first
    | (refine ⟨trivial, ?_⟩; gi_at_call 55; refine (callsIn_wide.2 (HI.out _ HV.out)).mono ?_; rintro e w1 ⟨rfl, hb⟩; have HB1 := Lib.hid hb; clear hb)
    | (refine ⟨trivial, ?_⟩; gi_at_call 59; refine (chunk_in _ _ _ _ _).mono ?_; rintro e w2 ⟨rfl, rfl⟩))
  obtain ⟨L, hL⟩ : ∃ L, L = w1.heap.size := ⟨_, rfl⟩
  have HLw := Lib.hid (show w.heap.size ≤ L by rw [hL]; exact HB1.out.size)
  have bO := Boxed.new w1 24 (.slice none 0 0)
  have bS := Boxed.new (w1.alloc (.cells #[.slice none 0 0] 24)) 24 (.slice a (M + M) cap)
  have bN := Boxed.new ((w1.alloc (.cells #[.slice none 0 0] 24)).alloc (.cells #[.slice a (M + M) cap] 24)) 3 (.int .i64 2)
  have hB3 : Below w.heap.size w (((w1.alloc (.cells #[.slice none 0 0] 24)).alloc (.cells #[.slice a (M + M) cap] 24)).alloc (.cells #[.int .i64 2] 3)) := (((HB1.out.alloc HB1.out.size _).alloc (by have := HB1.out.size; simp; omega) _).alloc (by have := HB1.out.size; simp; omega) _)
  rw [World.size_alloc] at bS
  rw [World.size_alloc, World.size_alloc] at bN
  rw [← hL] at bO bS bN ⊢
  have bO3 := (bO.alloc (.cells #[.slice a (M + M) cap] 24)).alloc (.cells #[.int .i64 2] 3)
  have bC3 : C2 (L + 1) (.slice a (M + M) cap) (((w1.alloc (.cells #[.slice none 0 0] 24)).alloc (.cells #[.slice a (M + M) cap] 24)).alloc (.cells #[.int .i64 2] 3)) := ⟨(bS.alloc _).cell, bN.cell⟩
  have hs3 : (((w1.alloc (.cells #[.slice none 0 0] 24)).alloc (.cells #[.slice a (M + M) cap] 24)).alloc (.cells #[.int .i64 2] 3)).heap.size = L + 3 := by rw [hL]; simp
  obtain ⟨W3, hW3⟩ : ∃ W3, (((w1.alloc (.cells #[.slice none 0 0] 24)).alloc (.cells #[.slice a (M + M) cap] 24)).alloc (.cells #[.int .i64 2] 3)) = W3 := ⟨_, rfl⟩
  rw [hW3] at hB3 bO3 bC3 hs3 ⊢
  clear hW3 bO bS bN hL
  have HS3 := Lib.hid hs3
  have HB3 := Lib.hid hB3
  refine wpIn_rangeFunc_ownG rfl (by omega) (gf := 96) (lb := #[.pointer (some ⟨L + 1, 0, none⟩), .pointer (some ⟨L + 1 + 1, 0, none⟩)]) rfl trivial (enters_of Try.func96 (by kernel_rfl) rfl)
    (hseq L W3 (by omega) bC3) kc_t (kc_b (by omega)) (Below.refl _ _) (fun _ => rfl)
    (fun pre W => (∃ u, Boxed W L 24 u ∧ Rd W (L + 3) u (unsF (pre.map P)) ∧ True) ∧ C2 (L + 1) (.slice a (M + M) cap) W ∧ Below w.heap.size W3 W)
    (fun _ _ _ => False)
    (OwnFrom.and (Own.from (holdsRow_own (L + 3) L 24 3 1 (fun pre : List (Fin M) => (unsF (pre.map P)).length) (fun pre => (unsF (pre.map P)).map (Value.int .i64)) (fun _ _ => True)) _)
      (OwnFrom.and (Own.from (fun s A B row hs hg hr => C2.kept hs hg hr) _) (ownFrom_below (by have := HLw.out; omega) (by have := HLw.out; omega))))
    (fun _ _ _ _ _ hs _ _ => hs)
    ⟨⟨_, bO3, Rd.nil _ _, trivial⟩, bC3, Below.refl _ _⟩
    (fun x => { tmps := #[.slice a (M + M) cap, undef, .slice none 0 0, .bool false, .pointer (some ⟨L, 0, none⟩), .slice (some ⟨g, x.1 + x.1, none⟩) 2 2, undef, undef, .slice a (M + M) cap, .bool true, .bool false, .bool false, .slice a (M + M) cap, .int .i64 ((M : Int) + (M : Int)), .int .i64 0, .bool false, .bool false, .slice a (M + M) cap, .func (.func 96) #[] #[.pointer (some ⟨L + 1, 0, none⟩), .pointer (some ⟨L + 1 + 1, 0, none⟩)], .slice (some ⟨g, x.1 + x.1, none⟩) 2 2, undef, undef, undef, undef, undef, undef, undef, undef, undef, undef, undef, undef, undef, undef, undef, undef, undef, undef, undef, undef, undef, undef, undef, undef], defers := [] }) ?assign ?body ?done ?stop
  case assign =>
    intro l x W K hK
    gi_wp2
    exact hK
  case body =>
    rintro l pre x W ⟨⟨u, hbx, hrow, _⟩, hC, hB⟩ hlt
    obtain ⟨hgw, hp0, hp1, ht1, ht9⟩ := HP.out x
    have hcL := hbx.cell
    have hc3 := ((HB3.out.trans hB).cell (p := ⟨g, x.1 + x.1, none⟩) hgw).trans hp0
    have hc6 := ((HB3.out.trans hB).cell (p := ⟨g, x.1 + x.1 + 1, none⟩) hgw).trans hp1
    obtain ⟨⟨t, x2⟩, hpx⟩ : ∃ p, P x = p := ⟨_, rfl⟩
    have HNx := Lib.hid (show unsF (pre.map P) ++ List.replicate t x2 = unsF ((pre ++ [x]).map P) by rw [List.map_append, unsF_app, List.map_singleton, hpx]; simp [unsF])
    have HLen := Lib.hid (show (unsF (pre.map P)).length + (List.replicate t x2).length ≤ 17179869184 by
      have h5 := unsF_len9 (S := pre.map P) (fun p hp => by obtain ⟨k, _, rfl⟩ := List.mem_map.1 hp; exact (HP.out k).2.2.2.2)
      rw [hpx] at ht9
      rw [List.length_map] at h5
      rw [List.length_replicate]
      simp only at ht9
      omega)
    rw [hpx] at hc3 hc6 ht1 ht9
    simp only at hc3 hc6 ht1 ht9
    obtain ⟨i2, hi2⟩ : ∃ i2, x.1 + x.1 = i2 := ⟨_, rfl⟩
    rw [hi2] at hc3 hc6 ⊢
    have HT1 := Lib.hid ht1
    have HT40 := Lib.hid (show t ≤ 40 by omega)
    have HU := Lib.hid (show Rd W (L + 3) u (unsF (pre.map P)) from hrow)
    have HBx := Lib.hid hbx
    have HC := Lib.hid hC
    have HB := Lib.hid hB
    have HL3 := Lib.hid (show L + 3 ≤ W.heap.size by have := hB.size; omega)
    have HLW := Lib.hid (show L < W.heap.size from hbx.lt)
    clear hgw hp0 hp1 hrow hbx hC hB ht1 ht9
    rw [hs3]
    clear hs3 hB3 bO3 bC3
    gi_wp2
    refine region_round l _ (by kernel_rfl) (by rintro ⟨a, w, hh⟩; exact hh) (by kernel_rfl) ?_
    refine wpAny_take (i := 1) (v := .slice (some ⟨g, i2, none⟩) 2 2) rfl (by kernel_rfl) (by kernel_rfl) (by kernel_rfl) (fun _ _ _ h => h) (Or.inl ⟨by rfl, by intro w; go_simp⟩) ?_
    refine wpAny_take (i := 4) (v := .slice (some ⟨g, i2, none⟩) 2 2) rfl (by kernel_rfl) (by kernel_rfl) (by kernel_rfl) (fun _ _ _ h => h) (Or.inl ⟨by rfl, by intro w; go_simp⟩) ?_
    refine wpAny_take (i := 2) (v := .pointer (some ⟨g, i2, none⟩)) rfl (by kernel_rfl) (by kernel_rfl) (by kernel_rfl) (fun _ _ _ h => h) (Or.inl ⟨by rfl, by intro w; go_simp⟩) ?_
    refine wpAny_take (i := 5) (v := .pointer (some ⟨g, i2 + 1, none⟩)) rfl (by kernel_rfl) (by kernel_rfl) (by kernel_rfl) (fun _ _ _ h => h) (Or.inl ⟨by rfl, by intro w; go_simp⟩) ?_
    refine wpAny_ready (rs := [0, 3, 6]) (by kernel_rfl) (by simp) ?_
    refine AllReady.cons rfl (fun K hK => ?_) ?_
    · go_simp
      refine hK _ _ ?_
      clear hK K
      refine wpAny_ready (rs := [3, 6]) (by kernel_rfl) (by simp) ?_
      refine AllReady.cons rfl (fun K hK => ?_) ?_
      · go_simp
        refine hK _ _ ?_
        clear hK K
        refine wpAny_ready (rs := [6]) (by kernel_rfl) (by simp) ?_
        refine AllReady.cons rfl (fun K hK => ?_) ?_
        · go_simp
          refine hK _ _ ?_
          clear hK K
          refine wpAny_take (i := 7) (v := .agg #[.int .i64 (t : Int), .int .i64 x2]) rfl (by kernel_rfl) (by kernel_rfl) (by kernel_rfl) (fun _ _ _ h => h) (Or.inl ⟨by rfl, by intro w; go_simp⟩) ?_
          refine wpAny_ready (rs := [8]) (by kernel_rfl) (by simp) ?_
          refine AllReady.cons rfl (fun K hK => ?_) ?_
          · go_simp
            go_at_call 60
            refine (list_any t x2 W.drew HT40.out).mono ?_
            rintro e W5 ⟨u5, rfl, hr5, hb5⟩
            obtain ⟨g5, cap5, rfl, _, _, hr5⟩ := hr5.shapeAt (List.length_replicate ..) HT1.out
            have HB5 := Lib.hid (below_drewS hb5)
            have HR5 := Lib.hid hr5
            have HU5 := Lib.hid (HU.out.keep HB5.out)
            have HS5 := Lib.hid HB5.out.size
            have hc5 : W5.cell? ⟨L, 0, none⟩ = some u := (HB5.out.cell (p := ⟨L, 0, none⟩) HLW.out).trans hcL
            clear hr5 hb5
            try go_simp
            refine hK _ _ ?_
            clear hK K
            refine wpAny_ready (rs := [9]) (by kernel_rfl) (by simp) ?_
            refine AllReady.cons rfl (fun K hK => ?_) ?_
            · refine step_appS rfl (.tmp 20) (.tmp 28) rfl (L + 3) u (unsF (pre.map P)) (List.replicate t x2) ⟨g5, 0, none⟩ t cap5 rfl rfl HU5.out (List.length_replicate ..) (HR5.out.cell0) HLen.out (Nat.le_trans HL3.out HS5.out) ?_
              intro u6 W6 hr6 hg6 hb6
              obtain ⟨a6, n6, c6, rfl⟩ := hr6.lenN
              have HE := Lib.hid (body_end HBx.out HC.out HL3.out HU5.out HB5.out hr6 hg6)
              have hc6 := HE.out.1.cell
              have hf6 := HE.out.1.frozen
              clear hr6 hg6 hb6
              try go_simp
              refine hK _ _ ?_
              clear hK K
              refine wpAny_ready (rs := [10]) (by kernel_rfl) (by simp) ?_
              refine AllReady.cons rfl (fun K hK => ?_) ?_
              · go_simp
                refine hK _ _ ?_
                clear hK K
                refine wpAny_done (by kernel_rfl) ?_ _
                exact ⟨HE.out.2.2.2.2.1, ⟨HE.out.2.2.2.2.2, fun _ => HE.out.2.2.2.1⟩, ⟨_, HE.out.2.1, by have h5 := HE.out.2.2.1; rw [HNx.out] at h5; exact h5, trivial⟩, HE.out.2.2.2.1, HB.out.trans (HE.out.2.2.2.2.2.mono HLw.out)⟩
              exact AllReady.nil
            exact AllReady.nil
          exact AllReady.nil
        exact AllReady.nil
      refine AllReady.cons rfl (fun K hK => ?_) ?_
      · go_simp
        refine hK _ _ ?_
        clear hK K
        refine wpAny_ready (rs := [3]) (by kernel_rfl) (by simp) ?_
        refine AllReady.cons rfl (fun K hK => ?_) ?_
        · go_simp
          refine hK _ _ ?_
          clear hK K
          refine wpAny_take (i := 7) (v := .agg #[.int .i64 (t : Int), .int .i64 x2]) rfl (by kernel_rfl) (by kernel_rfl) (by kernel_rfl) (fun _ _ _ h => h) (Or.inl ⟨by rfl, by intro w; go_simp⟩) ?_
          refine wpAny_ready (rs := [8]) (by kernel_rfl) (by simp) ?_
          refine AllReady.cons rfl (fun K hK => ?_) ?_
          · go_simp
            go_at_call 60
            refine (list_any t x2 W.drew HT40.out).mono ?_
            rintro e W5 ⟨u5, rfl, hr5, hb5⟩
            obtain ⟨g5, cap5, rfl, _, _, hr5⟩ := hr5.shapeAt (List.length_replicate ..) HT1.out
            have HB5 := Lib.hid (below_drewS hb5)
            have HR5 := Lib.hid hr5
            have HU5 := Lib.hid (HU.out.keep HB5.out)
            have HS5 := Lib.hid HB5.out.size
            have hc5 : W5.cell? ⟨L, 0, none⟩ = some u := (HB5.out.cell (p := ⟨L, 0, none⟩) HLW.out).trans hcL
            clear hr5 hb5
            try go_simp
            refine hK _ _ ?_
            clear hK K
            refine wpAny_ready (rs := [9]) (by kernel_rfl) (by simp) ?_
            refine AllReady.cons rfl (fun K hK => ?_) ?_
            · refine step_appS rfl (.tmp 20) (.tmp 28) rfl (L + 3) u (unsF (pre.map P)) (List.replicate t x2) ⟨g5, 0, none⟩ t cap5 rfl rfl HU5.out (List.length_replicate ..) (HR5.out.cell0) HLen.out (Nat.le_trans HL3.out HS5.out) ?_
              intro u6 W6 hr6 hg6 hb6
              obtain ⟨a6, n6, c6, rfl⟩ := hr6.lenN
              have HE := Lib.hid (body_end HBx.out HC.out HL3.out HU5.out HB5.out hr6 hg6)
              have hc6 := HE.out.1.cell
              have hf6 := HE.out.1.frozen
              clear hr6 hg6 hb6
              try go_simp
              refine hK _ _ ?_
              clear hK K
              refine wpAny_ready (rs := [10]) (by kernel_rfl) (by simp) ?_
              refine AllReady.cons rfl (fun K hK => ?_) ?_
              · go_simp
                refine hK _ _ ?_
                clear hK K
                refine wpAny_done (by kernel_rfl) ?_ _
                exact ⟨HE.out.2.2.2.2.1, ⟨HE.out.2.2.2.2.2, fun _ => HE.out.2.2.2.1⟩, ⟨_, HE.out.2.1, by have h5 := HE.out.2.2.1; rw [HNx.out] at h5; exact h5, trivial⟩, HE.out.2.2.2.1, HB.out.trans (HE.out.2.2.2.2.2.mono HLw.out)⟩
              exact AllReady.nil
            exact AllReady.nil
          exact AllReady.nil
        exact AllReady.nil
      exact AllReady.nil
    refine AllReady.cons rfl (fun K hK => ?_) ?_
    · go_simp
      refine hK _ _ ?_
      clear hK K
      refine wpAny_ready (rs := [0, 6]) (by kernel_rfl) (by simp) ?_
      refine AllReady.cons rfl (fun K hK => ?_) ?_
      · go_simp
        refine hK _ _ ?_
        clear hK K
        refine wpAny_ready (rs := [6]) (by kernel_rfl) (by simp) ?_
        refine AllReady.cons rfl (fun K hK => ?_) ?_
        · go_simp
          refine hK _ _ ?_
          clear hK K
          refine wpAny_take (i := 7) (v := .agg #[.int .i64 (t : Int), .int .i64 x2]) rfl (by kernel_rfl) (by kernel_rfl) (by kernel_rfl) (fun _ _ _ h => h) (Or.inl ⟨by rfl, by intro w; go_simp⟩) ?_
          refine wpAny_ready (rs := [8]) (by kernel_rfl) (by simp) ?_
          refine AllReady.cons rfl (fun K hK => ?_) ?_
          · go_simp
            go_at_call 60
            refine (list_any t x2 W.drew HT40.out).mono ?_
            rintro e W5 ⟨u5, rfl, hr5, hb5⟩
            obtain ⟨g5, cap5, rfl, _, _, hr5⟩ := hr5.shapeAt (List.length_replicate ..) HT1.out
            have HB5 := Lib.hid (below_drewS hb5)
            have HR5 := Lib.hid hr5
            have HU5 := Lib.hid (HU.out.keep HB5.out)
            have HS5 := Lib.hid HB5.out.size
            have hc5 : W5.cell? ⟨L, 0, none⟩ = some u := (HB5.out.cell (p := ⟨L, 0, none⟩) HLW.out).trans hcL
            clear hr5 hb5
            try go_simp
            refine hK _ _ ?_
            clear hK K
            refine wpAny_ready (rs := [9]) (by kernel_rfl) (by simp) ?_
            refine AllReady.cons rfl (fun K hK => ?_) ?_
            · refine step_appS rfl (.tmp 20) (.tmp 28) rfl (L + 3) u (unsF (pre.map P)) (List.replicate t x2) ⟨g5, 0, none⟩ t cap5 rfl rfl HU5.out (List.length_replicate ..) (HR5.out.cell0) HLen.out (Nat.le_trans HL3.out HS5.out) ?_
              intro u6 W6 hr6 hg6 hb6
              obtain ⟨a6, n6, c6, rfl⟩ := hr6.lenN
              have HE := Lib.hid (body_end HBx.out HC.out HL3.out HU5.out HB5.out hr6 hg6)
              have hc6 := HE.out.1.cell
              have hf6 := HE.out.1.frozen
              clear hr6 hg6 hb6
              try go_simp
              refine hK _ _ ?_
              clear hK K
              refine wpAny_ready (rs := [10]) (by kernel_rfl) (by simp) ?_
              refine AllReady.cons rfl (fun K hK => ?_) ?_
              · go_simp
                refine hK _ _ ?_
                clear hK K
                refine wpAny_done (by kernel_rfl) ?_ _
                exact ⟨HE.out.2.2.2.2.1, ⟨HE.out.2.2.2.2.2, fun _ => HE.out.2.2.2.1⟩, ⟨_, HE.out.2.1, by have h5 := HE.out.2.2.1; rw [HNx.out] at h5; exact h5, trivial⟩, HE.out.2.2.2.1, HB.out.trans (HE.out.2.2.2.2.2.mono HLw.out)⟩
              exact AllReady.nil
            exact AllReady.nil
          exact AllReady.nil
        exact AllReady.nil
      refine AllReady.cons rfl (fun K hK => ?_) ?_
      · go_simp
        refine hK _ _ ?_
        clear hK K
        refine wpAny_take (i := 7) (v := .agg #[.int .i64 (t : Int), .int .i64 x2]) rfl (by kernel_rfl) (by kernel_rfl) (by kernel_rfl) (fun _ _ _ h => h) (Or.inl ⟨by rfl, by intro w; go_simp⟩) ?_
        refine wpAny_ready (rs := [0, 8]) (by kernel_rfl) (by simp) ?_
        refine AllReady.cons rfl (fun K hK => ?_) ?_
        · go_simp
          refine hK _ _ ?_
          clear hK K
          refine wpAny_ready (rs := [8]) (by kernel_rfl) (by simp) ?_
          refine AllReady.cons rfl (fun K hK => ?_) ?_
          · go_simp
            go_at_call 60
            refine (list_any t x2 W.drew HT40.out).mono ?_
            rintro e W5 ⟨u5, rfl, hr5, hb5⟩
            obtain ⟨g5, cap5, rfl, _, _, hr5⟩ := hr5.shapeAt (List.length_replicate ..) HT1.out
            have HB5 := Lib.hid (below_drewS hb5)
            have HR5 := Lib.hid hr5
            have HU5 := Lib.hid (HU.out.keep HB5.out)
            have HS5 := Lib.hid HB5.out.size
            have hc5 : W5.cell? ⟨L, 0, none⟩ = some u := (HB5.out.cell (p := ⟨L, 0, none⟩) HLW.out).trans hcL
            clear hr5 hb5
            try go_simp
            refine hK _ _ ?_
            clear hK K
            refine wpAny_ready (rs := [9]) (by kernel_rfl) (by simp) ?_
            refine AllReady.cons rfl (fun K hK => ?_) ?_
            · refine step_appS rfl (.tmp 20) (.tmp 28) rfl (L + 3) u (unsF (pre.map P)) (List.replicate t x2) ⟨g5, 0, none⟩ t cap5 rfl rfl HU5.out (List.length_replicate ..) (HR5.out.cell0) HLen.out (Nat.le_trans HL3.out HS5.out) ?_
              intro u6 W6 hr6 hg6 hb6
              obtain ⟨a6, n6, c6, rfl⟩ := hr6.lenN
              have HE := Lib.hid (body_end HBx.out HC.out HL3.out HU5.out HB5.out hr6 hg6)
              have hc6 := HE.out.1.cell
              have hf6 := HE.out.1.frozen
              clear hr6 hg6 hb6
              try go_simp
              refine hK _ _ ?_
              clear hK K
              refine wpAny_ready (rs := [10]) (by kernel_rfl) (by simp) ?_
              refine AllReady.cons rfl (fun K hK => ?_) ?_
              · go_simp
                refine hK _ _ ?_
                clear hK K
                refine wpAny_done (by kernel_rfl) ?_ _
                exact ⟨HE.out.2.2.2.2.1, ⟨HE.out.2.2.2.2.2, fun _ => HE.out.2.2.2.1⟩, ⟨_, HE.out.2.1, by have h5 := HE.out.2.2.1; rw [HNx.out] at h5; exact h5, trivial⟩, HE.out.2.2.2.1, HB.out.trans (HE.out.2.2.2.2.2.mono HLw.out)⟩
              exact AllReady.nil
            exact AllReady.nil
          exact AllReady.nil
        refine AllReady.cons rfl (fun K hK => ?_) ?_
        · go_simp
          go_at_call 60
          refine (list_any t x2 W.drew HT40.out).mono ?_
          rintro e W5 ⟨u5, rfl, hr5, hb5⟩
          obtain ⟨g5, cap5, rfl, _, _, hr5⟩ := hr5.shapeAt (List.length_replicate ..) HT1.out
          have HB5 := Lib.hid (below_drewS hb5)
          have HR5 := Lib.hid hr5
          have HU5 := Lib.hid (HU.out.keep HB5.out)
          have HS5 := Lib.hid HB5.out.size
          have hc5 : W5.cell? ⟨L, 0, none⟩ = some u := (HB5.out.cell (p := ⟨L, 0, none⟩) HLW.out).trans hcL
          clear hr5 hb5
          try go_simp
          refine hK _ _ ?_
          clear hK K
          refine wpAny_ready (rs := [0]) (by kernel_rfl) (by simp) ?_
          refine AllReady.cons rfl (fun K hK => ?_) ?_
          · go_simp
            refine hK _ _ ?_
            clear hK K
            refine wpAny_ready (rs := [9]) (by kernel_rfl) (by simp) ?_
            refine AllReady.cons rfl (fun K hK => ?_) ?_
            · refine step_appS rfl (.tmp 20) (.tmp 28) rfl (L + 3) u (unsF (pre.map P)) (List.replicate t x2) ⟨g5, 0, none⟩ t cap5 rfl rfl HU5.out (List.length_replicate ..) (HR5.out.cell0) HLen.out (Nat.le_trans HL3.out HS5.out) ?_
              intro u6 W6 hr6 hg6 hb6
              obtain ⟨a6, n6, c6, rfl⟩ := hr6.lenN
              have HE := Lib.hid (body_end HBx.out HC.out HL3.out HU5.out HB5.out hr6 hg6)
              have hc6 := HE.out.1.cell
              have hf6 := HE.out.1.frozen
              clear hr6 hg6 hb6
              try go_simp
              refine hK _ _ ?_
              clear hK K
              refine wpAny_ready (rs := [10]) (by kernel_rfl) (by simp) ?_
              refine AllReady.cons rfl (fun K hK => ?_) ?_
              · go_simp
                refine hK _ _ ?_
                clear hK K
                refine wpAny_done (by kernel_rfl) ?_ _
                exact ⟨HE.out.2.2.2.2.1, ⟨HE.out.2.2.2.2.2, fun _ => HE.out.2.2.2.1⟩, ⟨_, HE.out.2.1, by have h5 := HE.out.2.2.1; rw [HNx.out] at h5; exact h5, trivial⟩, HE.out.2.2.2.1, HB.out.trans (HE.out.2.2.2.2.2.mono HLw.out)⟩
              exact AllReady.nil
            exact AllReady.nil
          exact AllReady.nil
        exact AllReady.nil
      exact AllReady.nil
    refine AllReady.cons rfl (fun K hK => ?_) ?_
    · go_simp
      refine hK _ _ ?_
      clear hK K
      refine wpAny_ready (rs := [0, 3]) (by kernel_rfl) (by simp) ?_
      refine AllReady.cons rfl (fun K hK => ?_) ?_
      · go_simp
        refine hK _ _ ?_
        clear hK K
        refine wpAny_ready (rs := [3]) (by kernel_rfl) (by simp) ?_
        refine AllReady.cons rfl (fun K hK => ?_) ?_
        · go_simp
          refine hK _ _ ?_
          clear hK K
          refine wpAny_take (i := 7) (v := .agg #[.int .i64 (t : Int), .int .i64 x2]) rfl (by kernel_rfl) (by kernel_rfl) (by kernel_rfl) (fun _ _ _ h => h) (Or.inl ⟨by rfl, by intro w; go_simp⟩) ?_
          refine wpAny_ready (rs := [8]) (by kernel_rfl) (by simp) ?_
          refine AllReady.cons rfl (fun K hK => ?_) ?_
          · go_simp
            go_at_call 60
            refine (list_any t x2 W.drew HT40.out).mono ?_
            rintro e W5 ⟨u5, rfl, hr5, hb5⟩
            obtain ⟨g5, cap5, rfl, _, _, hr5⟩ := hr5.shapeAt (List.length_replicate ..) HT1.out
            have HB5 := Lib.hid (below_drewS hb5)
            have HR5 := Lib.hid hr5
            have HU5 := Lib.hid (HU.out.keep HB5.out)
            have HS5 := Lib.hid HB5.out.size
            have hc5 : W5.cell? ⟨L, 0, none⟩ = some u := (HB5.out.cell (p := ⟨L, 0, none⟩) HLW.out).trans hcL
            clear hr5 hb5
            try go_simp
            refine hK _ _ ?_
            clear hK K
            refine wpAny_ready (rs := [9]) (by kernel_rfl) (by simp) ?_
            refine AllReady.cons rfl (fun K hK => ?_) ?_
            · refine step_appS rfl (.tmp 20) (.tmp 28) rfl (L + 3) u (unsF (pre.map P)) (List.replicate t x2) ⟨g5, 0, none⟩ t cap5 rfl rfl HU5.out (List.length_replicate ..) (HR5.out.cell0) HLen.out (Nat.le_trans HL3.out HS5.out) ?_
              intro u6 W6 hr6 hg6 hb6
              obtain ⟨a6, n6, c6, rfl⟩ := hr6.lenN
              have HE := Lib.hid (body_end HBx.out HC.out HL3.out HU5.out HB5.out hr6 hg6)
              have hc6 := HE.out.1.cell
              have hf6 := HE.out.1.frozen
              clear hr6 hg6 hb6
              try go_simp
              refine hK _ _ ?_
              clear hK K
              refine wpAny_ready (rs := [10]) (by kernel_rfl) (by simp) ?_
              refine AllReady.cons rfl (fun K hK => ?_) ?_
              · go_simp
                refine hK _ _ ?_
                clear hK K
                refine wpAny_done (by kernel_rfl) ?_ _
                exact ⟨HE.out.2.2.2.2.1, ⟨HE.out.2.2.2.2.2, fun _ => HE.out.2.2.2.1⟩, ⟨_, HE.out.2.1, by have h5 := HE.out.2.2.1; rw [HNx.out] at h5; exact h5, trivial⟩, HE.out.2.2.2.1, HB.out.trans (HE.out.2.2.2.2.2.mono HLw.out)⟩
              exact AllReady.nil
            exact AllReady.nil
          exact AllReady.nil
        exact AllReady.nil
      refine AllReady.cons rfl (fun K hK => ?_) ?_
      · go_simp
        refine hK _ _ ?_
        clear hK K
        refine wpAny_take (i := 7) (v := .agg #[.int .i64 (t : Int), .int .i64 x2]) rfl (by kernel_rfl) (by kernel_rfl) (by kernel_rfl) (fun _ _ _ h => h) (Or.inl ⟨by rfl, by intro w; go_simp⟩) ?_
        refine wpAny_ready (rs := [0, 8]) (by kernel_rfl) (by simp) ?_
        refine AllReady.cons rfl (fun K hK => ?_) ?_
        · go_simp
          refine hK _ _ ?_
          clear hK K
          refine wpAny_ready (rs := [8]) (by kernel_rfl) (by simp) ?_
          refine AllReady.cons rfl (fun K hK => ?_) ?_
          · go_simp
            go_at_call 60
            refine (list_any t x2 W.drew HT40.out).mono ?_
            rintro e W5 ⟨u5, rfl, hr5, hb5⟩
            obtain ⟨g5, cap5, rfl, _, _, hr5⟩ := hr5.shapeAt (List.length_replicate ..) HT1.out
            have HB5 := Lib.hid (below_drewS hb5)
            have HR5 := Lib.hid hr5
            have HU5 := Lib.hid (HU.out.keep HB5.out)
            have HS5 := Lib.hid HB5.out.size
            have hc5 : W5.cell? ⟨L, 0, none⟩ = some u := (HB5.out.cell (p := ⟨L, 0, none⟩) HLW.out).trans hcL
            clear hr5 hb5
            try go_simp
            refine hK _ _ ?_
            clear hK K
            refine wpAny_ready (rs := [9]) (by kernel_rfl) (by simp) ?_
            refine AllReady.cons rfl (fun K hK => ?_) ?_
            · refine step_appS rfl (.tmp 20) (.tmp 28) rfl (L + 3) u (unsF (pre.map P)) (List.replicate t x2) ⟨g5, 0, none⟩ t cap5 rfl rfl HU5.out (List.length_replicate ..) (HR5.out.cell0) HLen.out (Nat.le_trans HL3.out HS5.out) ?_
              intro u6 W6 hr6 hg6 hb6
              obtain ⟨a6, n6, c6, rfl⟩ := hr6.lenN
              have HE := Lib.hid (body_end HBx.out HC.out HL3.out HU5.out HB5.out hr6 hg6)
              have hc6 := HE.out.1.cell
              have hf6 := HE.out.1.frozen
              clear hr6 hg6 hb6
              try go_simp
              refine hK _ _ ?_
              clear hK K
              refine wpAny_ready (rs := [10]) (by kernel_rfl) (by simp) ?_
              refine AllReady.cons rfl (fun K hK => ?_) ?_
              · go_simp
                refine hK _ _ ?_
                clear hK K
                refine wpAny_done (by kernel_rfl) ?_ _
                exact ⟨HE.out.2.2.2.2.1, ⟨HE.out.2.2.2.2.2, fun _ => HE.out.2.2.2.1⟩, ⟨_, HE.out.2.1, by have h5 := HE.out.2.2.1; rw [HNx.out] at h5; exact h5, trivial⟩, HE.out.2.2.2.1, HB.out.trans (HE.out.2.2.2.2.2.mono HLw.out)⟩
              exact AllReady.nil
            exact AllReady.nil
          exact AllReady.nil
        refine AllReady.cons rfl (fun K hK => ?_) ?_
        · go_simp
          go_at_call 60
          refine (list_any t x2 W.drew HT40.out).mono ?_
          rintro e W5 ⟨u5, rfl, hr5, hb5⟩
          obtain ⟨g5, cap5, rfl, _, _, hr5⟩ := hr5.shapeAt (List.length_replicate ..) HT1.out
          have HB5 := Lib.hid (below_drewS hb5)
          have HR5 := Lib.hid hr5
          have HU5 := Lib.hid (HU.out.keep HB5.out)
          have HS5 := Lib.hid HB5.out.size
          have hc5 : W5.cell? ⟨L, 0, none⟩ = some u := (HB5.out.cell (p := ⟨L, 0, none⟩) HLW.out).trans hcL
          clear hr5 hb5
          try go_simp
          refine hK _ _ ?_
          clear hK K
          refine wpAny_ready (rs := [0]) (by kernel_rfl) (by simp) ?_
          refine AllReady.cons rfl (fun K hK => ?_) ?_
          · go_simp
            refine hK _ _ ?_
            clear hK K
            refine wpAny_ready (rs := [9]) (by kernel_rfl) (by simp) ?_
            refine AllReady.cons rfl (fun K hK => ?_) ?_
            · refine step_appS rfl (.tmp 20) (.tmp 28) rfl (L + 3) u (unsF (pre.map P)) (List.replicate t x2) ⟨g5, 0, none⟩ t cap5 rfl rfl HU5.out (List.length_replicate ..) (HR5.out.cell0) HLen.out (Nat.le_trans HL3.out HS5.out) ?_
              intro u6 W6 hr6 hg6 hb6
              obtain ⟨a6, n6, c6, rfl⟩ := hr6.lenN
              have HE := Lib.hid (body_end HBx.out HC.out HL3.out HU5.out HB5.out hr6 hg6)
              have hc6 := HE.out.1.cell
              have hf6 := HE.out.1.frozen
              clear hr6 hg6 hb6
              try go_simp
              refine hK _ _ ?_
              clear hK K
              refine wpAny_ready (rs := [10]) (by kernel_rfl) (by simp) ?_
              refine AllReady.cons rfl (fun K hK => ?_) ?_
              · go_simp
                refine hK _ _ ?_
                clear hK K
                refine wpAny_done (by kernel_rfl) ?_ _
                exact ⟨HE.out.2.2.2.2.1, ⟨HE.out.2.2.2.2.2, fun _ => HE.out.2.2.2.1⟩, ⟨_, HE.out.2.1, by have h5 := HE.out.2.2.1; rw [HNx.out] at h5; exact h5, trivial⟩, HE.out.2.2.2.1, HB.out.trans (HE.out.2.2.2.2.2.mono HLw.out)⟩
              exact AllReady.nil
            exact AllReady.nil
          exact AllReady.nil
        exact AllReady.nil
      exact AllReady.nil
    exact AllReady.nil
  case done =>
    rintro D zs W hD rfl ⟨⟨u, hbx, hrow, _⟩, hC, hB⟩ hK
    have hcL := hbx.cell
    rw [HPp.out] at hrow
    have HLW := Lib.hid (show L < W.heap.size from hbx.lt)
    have HU := Lib.hid (show Rd W (L + 3) u (unsF (prs xs)) from hrow)
    have HWB := Lib.hid (HB3.out.trans hB)
    have HV2 := Lib.hid (HV.out.keep HWB.out)
    have HDW := Lib.hid (show D < W.heap.size from (Array.getElem?_eq_some_iff.1 hK).1)
    have HD := Lib.hid (show L + 3 ≤ D by omega)
    have HYl := Lib.hid (show (unsF (prs xs)).length ≤ 2000000 by
      have h5 := unsF_len9 (S := prs xs) (fun p hp => by rw [← HPp.out] at hp; obtain ⟨k, _, rfl⟩ := List.mem_map.1 hp; exact (HP.out k).2.2.2.2)
      have h6 := prs_len xs
      omega)
    have HYs := Lib.hid (show (unsF (prs xs)).length ≤ 1048576 by
      have h5 := unsF_len9 (S := prs xs) (fun p hp => by rw [← HPp.out] at hp; obtain ⟨k, _, rfl⟩ := List.mem_map.1 hp; exact (HP.out k).2.2.2.2)
      have h6 := prs_len xs
      omega)
    have HSay := Lib.hid (say_sl u (unsF (prs xs)) W HU.out.sl HYl.out)
    have HKd := Lib.hid hK
    obtain ⟨au, nu, cu, rfl⟩ := HU.out.lenN
    clear hrow hC hB hs3 hB3 bO3 bC3 hD hK h
    have HOK := Lib.hid (show OK_SayWord (unsF (prs xs)) = okS (unsF (prs xs)) from rfl)
    rw [HOK.out] at HSay
    cases hok : okS (unsF (prs xs)) with
    | false =>
      obtain ⟨e1, e2⟩ := Uns_no (ws := xs) (fun c => by have := (HUn.out.2 c).1; rw [hok] at this; cases this)
      have E1 := Lib.hid e1
      have E2 := Lib.hid e2
      rw [hok] at HSay
      clear e1 e2 hok
      gi_wp2_with (refine ⟨trivial, ?_⟩; gi_at_call 9; refine (callsIn_wide.2 HSay.out).mono ?_; rintro e W4 ⟨u2, rfl, hr2, hb4⟩; have HR2 := Lib.hid hr2; have HB4 := Lib.hid hb4; clear hr2 hb4; obtain ⟨a2, n2, c2, rfl⟩ := HR2.out.lenN)
      refine ⟨trivial, ?_⟩
      gi_wp2
      have hK4 := (HB4.out.block D HDW.out).trans HKd.out
      refine ⟨by simp, .inl ⟨_, _, rfl, run_takeDeferred hK4, ?_⟩⟩
      exact ⟨_, results_tmp2 rfl _ _ _, _, by rw [E1.out]; rfl, by rw [E2.out]; exact Rd.nil _ _, (HWB.out.trans (HB4.out.mono HWB.out.size)).trans (belowK_b (w := w) (Nat.le_refl _) _ D _ _ (by have := HD.out; have := HLw.out; omega) hK4 rfl rfl)⟩
    | true =>
      have HLF := Lib.hid (show LF_SayWord (unsF (prs xs)) = sayL (unsF (prs xs)) from if_pos hok)
      rw [hok, HLF.out] at HSay
      obtain ⟨ss, hss⟩ : ∃ ss, ss = sayL (unsF (prs xs)) := ⟨_, rfl⟩
      rw [← hss] at HSay HUn
      have HSl := Lib.hid (show ss.length ≤ 2000000 by
        have h5 := LF_SayWord_len (unsF (prs xs)) (by have := HYs.out; omega)
        rw [HLF.out, ← hss] at h5
        exact h5)
      have HLs := Lib.hid (show L + 3 ≤ W.heap.size by have := HD.out; have := HDW.out; omega)
      by_cases hx : ss = xs
      · obtain ⟨e1, e2⟩ := Uns_yes (ws := xs) (HUn.out.1 ⟨hok, hx⟩)
        have E1 := Lib.hid e1
        have E2 := Lib.hid e2
        have HEq := Lib.hid (fun u2 W4 (h : Sl W4 u2 ss) (h2 : Sl W4 (.slice a (M + M) cap) xs) => equal_any u2 (.slice a (M + M) cap) ss xs W4 h h2 HSl.out HXl.out)
        rw [decide_eq_true hx] at HEq
        clear e1 e2 hok hx hss
        gi_wp2_with (first
          | (refine ⟨trivial, ?_⟩; gi_at_call 9; refine (callsIn_wide.2 HSay.out).mono ?_; rintro e W4 ⟨u2, rfl, hr2, hb4⟩; have HR2 := Lib.hid hr2; have HB4 := Lib.hid hb4; have hc4 : W4.cell? ⟨L, 0, none⟩ = some (.slice au nu cu) := (HB4.out.cell (p := ⟨L, 0, none⟩) HLW.out).trans hcL; have HV4 := Lib.hid (HV2.out.keep HB4.out); clear hr2 hb4; obtain ⟨a2, n2, c2, rfl⟩ := HR2.out.lenN)
          | (refine ⟨trivial, ?_⟩; gi_at_call 61; refine (callsIn_wide.2 (HEq.out _ _ HR2.out.sl HV4.out)).mono ?_; rintro e W5 ⟨rfl, hb5⟩; have HB5 := Lib.hid (Below.step HB4.out HB4.out.size hb5); have hc5 : W5.cell? ⟨L, 0, none⟩ = some (.slice au nu cu) := (HB5.out.cell (p := ⟨L, 0, none⟩) HLW.out).trans hcL; clear hb5))
        have hK5 := (HB5.out.block D HDW.out).trans HKd.out
        refine ⟨by simp, .inl ⟨_, _, rfl, run_takeDeferred hK5, ?_⟩⟩
        exact ⟨_, results_tmp2 rfl _ _ _, _, by rw [E1.out]; rfl, by rw [E2.out]; exact ownsRow_putObj ((HU.out.mono (by have := HLw.out; omega)).keep HB5.out) _ hK5 rfl, (HWB.out.trans (HB5.out.mono HWB.out.size)).trans (belowK_b (w := w) (Nat.le_refl _) _ D _ _ (by have := HD.out; have := HLw.out; omega) hK5 rfl rfl)⟩
      · obtain ⟨e1, e2⟩ := Uns_no (ws := xs) (fun c => hx (HUn.out.2 c).2)
        have E1 := Lib.hid e1
        have E2 := Lib.hid e2
        have HEq := Lib.hid (fun u2 W4 (h : Sl W4 u2 ss) (h2 : Sl W4 (.slice a (M + M) cap) xs) => equal_any u2 (.slice a (M + M) cap) ss xs W4 h h2 HSl.out HXl.out)
        rw [decide_eq_false hx] at HEq
        clear e1 e2 hok hx hss
        gi_wp2_with (first
          | (refine ⟨trivial, ?_⟩; gi_at_call 9; refine (callsIn_wide.2 HSay.out).mono ?_; rintro e W4 ⟨u2, rfl, hr2, hb4⟩; have HR2 := Lib.hid hr2; have HB4 := Lib.hid hb4; have HV4 := Lib.hid (HV2.out.keep HB4.out); clear hr2 hb4; obtain ⟨a2, n2, c2, rfl⟩ := HR2.out.lenN)
          | (refine ⟨trivial, ?_⟩; gi_at_call 61; refine (callsIn_wide.2 (HEq.out _ _ HR2.out.sl HV4.out)).mono ?_; rintro e W5 ⟨rfl, hb5⟩; have HB5 := Lib.hid (Below.step HB4.out HB4.out.size hb5); clear hb5))
        have hK5 := (HB5.out.block D HDW.out).trans HKd.out
        refine ⟨by simp, .inl ⟨_, _, rfl, run_takeDeferred hK5, ?_⟩⟩
        exact ⟨_, results_tmp2 rfl _ _ _, _, by rw [E1.out]; rfl, by rw [E2.out]; exact Rd.nil _ _, (HWB.out.trans (HB5.out.mono HWB.out.size)).trans (belowK_b (w := w) (Nat.le_refl _) _ D _ _ (by have := HD.out; have := HLw.out; omega) hK5 rfl rfl)⟩
  case stop =>
    rintro D c pre W _ _ h _
    exact h.elim

end Go.Proofs.Ytmdjmbmkgboeaaa
