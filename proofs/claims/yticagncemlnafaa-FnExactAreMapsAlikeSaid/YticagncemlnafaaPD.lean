/-
  The program: sets put in order; ends; depths.
-/
import Derived.Test.YticagncemlnafaaPK
import Derived.Test.YticagncemlnafaaPQ
namespace Go.Proofs.Yticagncemlnafaa
open Go.RowKit
set_option linter.unusedVariables false
set_option linter.unusedSimpArgs false
set_option maxRecDepth 100000

theorem len64_zero (w : World) : Calls Try.prog 123 #[.int .u64 0] w fun e w' => (∃ L, e = .returned (.int .i64 L)) ∧ w = w' := by
  go_enter Try.func123, Try.ntmps123
  go_wp2
  go_ret
  exact ⟨⟨_, rfl⟩, rfl⟩

theorem len_zero (w : World) : Calls Try.prog 108 #[.int .u64 0] w fun e w' => (∃ L, e = .returned (.int .i64 L)) ∧ w = w' := by
  go_enter Try.func108, Try.ntmps108
  go_wp2_with (go_at_call 123; refine (len64_zero _).mono ?_; rintro e w' ⟨⟨L, rfl⟩, rfl⟩)
  go_ret
  exact ⟨⟨_, rfl⟩, rfl⟩

theorem insertion_nil (w : World) : Calls Try.prog 126 #[.slice none 0 0, .int .i64 0, .int .i64 0] w fun e w' => e = .returned (.tuple #[]) ∧ w = w' := by
  go_enter Try.func126, Try.ntmps126
  go_wp2
  refine wp_loop_rounds 1 ?_
  rw [rounds_succ]
  go_wp2
  go_end0
  exact ⟨rfl, rfl⟩

theorem pdq_nil (L : Int) (w : World) : Calls Try.prog 112 #[.slice none 0 0, .int .i64 0, .int .i64 0, .int .i64 L] w fun e w' => e = .returned (.tuple #[]) ∧ w = w' := by
  go_enter Try.func112, Try.ntmps112
  go_wp2
  refine wp_loop_rounds 1 ?_
  rw [rounds_succ]
  go_wp2_with (go_at_call 126; refine (insertion_nil _).mono ?_; rintro e w' ⟨rfl, rfl⟩)
  refine bodyPost_ret (results_none rfl _ _ _) rfl ?_
  exact ⟨rfl, rfl⟩

theorem sort_nil (w : World) : Calls Try.prog 106 #[.slice none 0 0] w fun e w' => e = .returned (.tuple #[]) ∧ w = w' := by
  go_enter Try.func106, Try.ntmps106
  go_wp2_with (first | (go_at_call 108; refine (len_zero _).mono ?_; rintro e w' ⟨⟨L, rfl⟩, rfl⟩) | (go_at_call 112; refine (pdq_nil _ _).mono ?_; rintro e w' ⟨rfl, rfl⟩))
  go_end0
  exact ⟨rfl, rfl⟩

theorem sortAny (v : Value) (xs : List Int) (B : Nat) (w : World) (h : Rd w B v xs) (hB : B ≤ w.heap.size) (hl : xs.length ≤ 2000000) :
    Calls Try.prog 106 #[v] w fun e w' => e = .returned (.tuple #[]) ∧ Rd w' B v (srt xs) ∧ Below B w w' := by
  rcases h.cases with ⟨rfl, rfl⟩ | ⟨g, cap, rfl, hg, _⟩
  · refine (sort_nil w).mono ?_
    rintro e w' ⟨rfl, rfl⟩
    exact ⟨rfl, by rw [show srt [] = [] from by simp [srt]]; exact Rd.nil _ _, Below.refl _ _⟩
  · refine (sort_any _ _ _ _ _ _ h hl).mono ?_
    rintro e w' ⟨rfl, hr, hg2⟩
    exact ⟨rfl, hr, (Below.refl _ _).grown hg2 hB (fun k hk => by cases hk; exact hg)⟩

/-- The numbers of a set in order. -/
def inOrder (n : Nat) (s : Nat → Bool) : List Nat := (List.range n).filter s
theorem inOrder_len (n : Nat) (s : Nat → Bool) : (inOrder n s).length ≤ n := cnt_le n s

theorem inOrder_srt {n : Nat} {s : Nat → Bool} {ns : List Nat} (hn : ns.Nodup) (hm : ∀ x, x ∈ ns ↔ x < n ∧ s x = true) : srt (nts ns) = nts (inOrder n s) := by
  refine (srt_unique ?_ ?_).symm
  · have hp : (inOrder n s).Perm ns := (List.perm_ext_iff_of_nodup (List.Pairwise.filter _ List.nodup_range) hn).2 fun x => by
      rw [hm x]; simp [inOrder]
    exact hp.map _
  · unfold nts
    rw [List.pairwise_map]
    refine (List.Pairwise.filter _ (List.pairwise_lt_range (n := n))).imp ?_
    intro a b hab
    omega

theorem rd_not_set {w : World} {B n b : Nat} {v : Value} {xs : List Int} {s : Nat → Bool} (h : Rd w B v xs) (hs : St w n b s) : some b ≠ v.ownBlock := by
  refine row_not_set (e := 3) (B := B) (xs := xs.map (Value.int .i64)) ?_ hs
  unfold Rg
  rw [List.length_map]
  exact h

theorem rd_not_iter {w : World} {B n b r : Nat} {v : Value} {xs : List Int} {s l : Nat → Bool} (h : Rd w B v xs) (hs : Ran w n b r s l) : v.ownBlock ≠ some r := by
  intro hc
  obtain ⟨D, left, c, ⟨es, clock, since, seen, c0, _, _, _, _, hr, _⟩, _⟩ := hs
  rcases h.2 with ⟨rfl, _⟩ | ⟨g, cap, cur, rfl, _, hg, _⟩
  · cases hc
  · simp only [Value.ownBlock, Option.some.injEq] at hc
    subst hc
    rw [hr] at hg
    cases hg

theorem inOrder_step {n x : Nat} {s l : Nat → Bool} {ns : List Nat} (hn : ns.Nodup) (hm : ∀ x, x ∈ ns ↔ x < n ∧ s x = true ∧ l x = false) (hx : x < n) (hs : s x = true) (hl : l x = true) :
    (ns ++ [x]).Nodup ∧ (∀ y, y ∈ ns ++ [x] ↔ y < n ∧ s y = true ∧ adj l x false y = false) ∧ (ns ++ [x]).length ≤ n := by
  have h0 : x ∉ ns := fun h => by have := ((hm x).1 h).2.2; rw [hl] at this; cases this
  have h1 : (ns ++ [x]).Nodup := List.nodup_append.2 ⟨hn, by simp, fun a ha b hb => by simp at hb; subst hb; exact fun e => h0 (e ▸ ha)⟩
  have h2 : ∀ y, y ∈ ns ++ [x] ↔ y < n ∧ s y = true ∧ adj l x false y = false := fun y => by
    rw [List.mem_append, hm y, List.mem_singleton]
    unfold adj
    by_cases e : y = x
    · subst e; simp [hx, hs]
    · simp [e]
  refine ⟨h1, h2, ?_⟩
  have := h1.length_le_of_subset (l₂ := List.range n) (fun y hy => List.mem_range.2 ((h2 y).1 hy).1)
  rw [List.length_range] at this
  exact this

theorem sorted_any (n b : Nat) (s : Nat → Bool) (w : World) (h : St w n b s) (h1 : n ≤ 60) :
    Calls Try.prog 96 #[.map (some b)] w fun e w' => ∃ u, e = .returned u ∧ Rd w' w.heap.size u (nts (inOrder n s)) ∧ Below w.heap.size w w' := by
  have H := Lib.hid h
  have hbl := h.lt
  clear h
  go_enter Try.func96, Try.ntmps96
  go_wp2_with (at_range; refine wpList_rangeS rfl _ rfl n b _ rfl H.out ?_; intro w2 hr2 hg2 hz2)
  have HR2 := Lib.hid hr2
  have HB2 := Lib.hid ((Below.refl w.heap.size w).grown hg2 (Nat.le_refl _) (fun q hq => by cases hq))
  clear hr2 hg2 hz2
  go_frame
  go_loopw [3, 4] (fun u _ wr => ∃ (l : Nat → Bool) (ns : List Nat), Ran wr n b w.heap.size s l ∧ Rd wr w.heap.size u (nts ns) ∧ ns.Nodup ∧ (∀ x, x ∈ ns ↔ x < n ∧ s x = true ∧ l x = false) ∧ ns.length ≤ n ∧ Below w.heap.size w wr) (fun _ _ wr => wr.rangeLeft b w.heap.size)
  case atStart => exact ⟨s, [], HR2.out, Rd.nil _ _, List.nodup_nil, fun x => by simp, Nat.zero_le _, HB2.out⟩
  case round =>
    obtain ⟨l, ns, hr, hd, hn, hm, hl, hb⟩ := hrel
    have HR := Lib.hid hr
    have HD := Lib.hid hd
    have HN := Lib.hid hn
    have HM := Lib.hid hm
    have HL := Lib.hid hl
    have HB := Lib.hid hb
    clear hr hd hn hm hl hb
    go_wp2_with (at_next; refine wpList_nextS rfl _ rfl n b w.heap.size s l rfl HR.out ?_ ?_)
    · intro hl0
      have HS := Lib.hid (inOrder_srt HN.out (s := s) (n := n) (fun x => by rw [HM.out x]; exact ⟨fun h => ⟨h.1, h.2.1⟩, fun h => ⟨h.1, h.2, hl0 x h.1⟩⟩))
      go_wp2_with fail
      refine (sortAny _ _ _ _ HD.out HB.out.size (by rw [nts_len]; have := HL.out; omega)).mono ?_
      rintro e w3 ⟨rfl, hr3, hb3⟩
      rw [HS.out] at hr3
      have HR3 := Lib.hid hr3
      have HB3 := Lib.hid (HB.out.trans hb3)
      clear hr3 hb3
      go_wp2
      go_ret
      exact ⟨_, rfl, HR3.out, HB3.out⟩
    · intro x w3 hx hlx hsx hr3 hlt3 hg3 hz3 hen
      have HR3 := Lib.hid hr3
      have HB3 := Lib.hid (HB.out.grown hg3 HB.out.size (fun q hq => by cases hq; exact Nat.le_refl _))
      have HD3 := Lib.hid (HD.out.grown hg3 (.inr (rd_not_iter HD.out HR.out)))
      have HS := Lib.hid (inOrder_step HN.out HM.out hx hsx hlx)
      have HM3 := Lib.hid hlt3
      have HDa := Lib.hid (HD3.out.alloc (.cells #[.int .i64 (x : Int)] 3))
      have HRa := Lib.hid (HR3.out.alloc (.cells #[.int .i64 (x : Int)] 3))
      clear hr3 hg3 hlt3 hz3
      go_wp2_with (at_builtin; refine wpList_appR rfl _ _ rfl w.heap.size w.heap.size _ _ (nts ns) [(x : Int)] rfl rfl (HD3.out.alloc _) (Rd.litB _ _ _ HB3.out.size) (by rw [nts_len]; have := HL.out; simp; omega) (by have := HB3.out.size; simp; omega) ?_; intro v1 w4 hr4 hg4 hb4)
      have HK := Lib.hid (HRa.out.kept hg4 (rd_not_set HDa.out HRa.out.st) (fun e => rd_not_iter HDa.out HRa.out e.symm))
      have HE := Lib.hid ((HR3.out.kept (World.grownBy_alloc w3 (.cells #[.int .i64 (x : Int)] 3) none) (by simp) (by simp)).2)
      have HD4 := Lib.hid hr4
      have HB4 := Lib.hid ((HB3.out.alloc HB3.out.size _).trans hb4)
      clear hr4 hg4 hb4
      go_roundw
      case rel => exact ⟨_, ns ++ [x], HK.out.1, by rw [nts_snoc]; exact HD4.out, HS.out.1, HS.out.2.1, HS.out.2.2, HB4.out⟩
      case measure => rw [HK.out.2, HE.out]; exact HM3.out

theorem ends_step (f : Nat → Nat) (k : Nat) : adj (fun y => !(List.range k).any fun x => f x == y) (f k) false = fun y => !(List.range (k + 1)).any fun x => f x == y := by
  funext y
  unfold adj
  rw [List.range_succ, List.any_append]
  by_cases e : y = f k
  · subst e; simp
  · have e' : ¬ f k = y := fun h => e h.symm
    simp [e, e']

theorem ends_any (g n cap : Nat) (f : Nat → Nat) (w : World) (h : Mp w g n f) :
    Calls Try.prog 78 #[.slice (some ⟨g, 0, none⟩) n cap] w fun e w' => ∃ u, e = .returned u ∧ Rd w' w.heap.size u (nts (inOrder n fun y => !img f n 1 y)) ∧ Below w.heap.size w w' := by
  have H := Lib.hid h
  have h0 := h.n0
  have h1 := h.n1
  clear h
  go_enter Try.func78, Try.ntmps78
  go_wp2_with fail
  refine (numbers_any g n cap f _ H.out).mono ?_
  rintro e w1 ⟨b, rfl, hCb, hs, hb⟩
  have HS1 := Lib.hid hs
  have HB1 := Lib.hid hb
  clear hs hb
  go_wp2
  go_loopw [10] (fun i wr => ∃ k : Nat, k ≤ n ∧ i = .int .i64 k ∧ St wr n b (fun y => !(List.range k).any fun x => f x == y) ∧ Below w.heap.size w wr) (fun i _ => n - (intOf i).toNat)
  case atStart => exact ⟨0, Nat.zero_le _, rfl, HS1.out.congr (fun x hx => by rw [img_zero hx]; simp), HB1.out⟩
  case round =>
    obtain ⟨k, hk, rfl, hs, hb⟩ := hrel
    have HS := Lib.hid hs
    have HB := Lib.hid hb
    clear hs hb
    by_cases hlt : k < n
    · have hcell := (H.out.keep HB.out).cell k hlt
      have hfk := H.out.into k hlt
      go_wp2_with (at_delete; refine wpList_delS rfl _ _ rfl n b _ (f k) rfl rfl HS.out hfk h1 ?_; intro w2 hs2 hg2)
      have HS2 := Lib.hid (ends_step f k ▸ hs2)
      have HB2 := Lib.hid (HB.out.grown hg2 HB.out.size (fun q hq => by cases hq; exact hCb))
      clear hs2 hg2
      go_wp2
      go_roundw
      case rel => exact ⟨k + 1, by omega, by go_num, HS2.out, HB2.out⟩
      case measure => simp [intOf]; omega
    · obtain rfl : k = n := by omega
      go_wp2_with fail
      refine (sorted_any k b _ _ HS.out h1).mono ?_
      rintro e w2 ⟨u, rfl, hr, hb⟩
      have HR := Lib.hid (hr.mono HB.out.size)
      have HB2 := Lib.hid (Below.step HB.out HB.out.size hb)
      clear hr hb
      go_wp2
      go_ret
      exact ⟨_, rfl, HR.out, HB2.out⟩

/-- The program's depths. -/
theorem depths_any (g n cap : Nat) (f : Nat → Nat) (w : World) (h : Mp w g n f) :
    Calls Try.prog 70 #[.slice (some ⟨g, 0, none⟩) n cap] w fun e w' => ∃ g2 c2, e = .returned (.slice (some ⟨g2, 0, none⟩) n c2) ∧ Rd w' w.heap.size (.slice (some ⟨g2, 0, none⟩) n c2) (lst n (dep f n)) ∧ Below w.heap.size w w' := by
  have H := Lib.hid h
  have h0 := h.n0
  have h1 := h.n1
  clear h
  go_enter Try.func70, Try.ntmps70
  go_wp2_with (at_make; refine wpList_mkM rfl _ _ _ Try.underlying22 rfl .i64 .i64 _ _ n rfl rfl rfl rfl (by omega) ?_; intro w1 hr1 hg1 hb1)
  have HR1 := Lib.hid hr1
  have HB1 := Lib.hid hb1
  clear hr1 hg1 hb1
  refine (onCycles_any g n cap f _ (H.out.keep HB1.out)).mono ?_
  rintro e w2 ⟨b, rfl, hCb, hs, hb⟩
  have HS := Lib.hid hs
  have HR2 := Lib.hid (HR1.out.keep hb)
  have HB2 := Lib.hid (Below.step HB1.out HB1.out.size hb)
  have hgb : w.heap.size < b := by have := (HR1.out.lt w.heap.size rfl).2; omega
  clear hs hb hCb
  go_wp2
  go_loopw [14] (fun i wr => ∃ k : Nat, k ≤ n ∧ i = .int .i64 k ∧ St wr n b (cyc f n) ∧ Rd wr w.heap.size (.slice (some ⟨w.heap.size, 0, none⟩) n n) (lst n (fun x => if x < k then dep f n x else 0)) ∧ Below w.heap.size w wr) (fun i _ => n - (intOf i).toNat)
  case atStart => exact ⟨0, Nat.zero_le _, rfl, HS.out, by rw [← lst_none]; exact HR2.out, HB2.out⟩
  case round =>
    obtain ⟨k, hk, rfl, hs, hr, hb⟩ := hrel
    have HSk := Lib.hid hs
    have HRk := Lib.hid hr
    have HBk := Lib.hid hb
    clear hs hr hb
    by_cases hlt : k < n
    · have HD := Lib.hid (dep_spec (f := f) hlt)
      obtain ⟨d, hd⟩ : ∃ d, d = dep f n k := ⟨_, rfl⟩
      have HE := Lib.hid hd
      rw [← hd] at HD
      have hdn := HD.out.1
      clear hd
      go_wp2
      go_loopw [6] (fun y wr => ∃ (j : Nat), j ≤ d ∧ y = .int .i64 ((it f j k : Nat) : Int) ∧ St wr n b (cyc f n) ∧ Rd wr w.heap.size (.slice (some ⟨w.heap.size, 0, none⟩) n n) (lst n (fun x => if x = k then j else if x < k then dep f n x else 0)) ∧ Below w.heap.size w wr) (fun y wr => d - (match wr.cell? ⟨w.heap.size, k, none⟩ with | some (.int _ j) => j.toNat | _ => 0))
      case atStart => exact ⟨0, Nat.zero_le _, rfl, HSk.out, by rw [lst_congr (G := fun x => if x < k then dep f n x else 0) (fun x _ => by by_cases e : x = k <;> simp [e])]; exact HRk.out, HBk.out⟩
      case round =>
        obtain ⟨j, hj, rfl, hs, hr, hb⟩ := hrel
        have HSj := Lib.hid hs
        have HRj := Lib.hid hr
        have HBj := Lib.hid hb
        clear hs hr hb
        have hy := it_lt H.out.into j hlt
        obtain ⟨y, hyy⟩ : ∃ y, y = it f j k := ⟨_, rfl⟩
        have HY := Lib.hid hyy
        rw [← hyy] at hy ⊢
        clear hyy
        by_cases hjd : j < d
        · have hc := HD.out.2.2 j hjd
          rw [← HY.out] at hc
          obtain ⟨hcs, hfs⟩ := HRj.out.at.2.2.2.2
          have hd : wr.cell? ⟨w.heap.size, k, none⟩ = some (.int .i64 (j : Int)) := by rw [hcs k (by rw [lst_len]; omega), lst_at]; simp
          have hf := hfs k
          have ej : ((j + 1 : Nat) : Int) = (j : Int) + 1 := by omega
          have h1s := HRj.out.setL k (j + 1)
          rw [ej] at h1s
          have HS1 := Lib.hid h1s
          have HBs := Lib.hid (HBj.out.setCell (p := ⟨w.heap.size, k, none⟩) (Nat.le_refl _) (.int .i64 ((j : Int) + 1)))
          have HSs := Lib.hid (HSj.out.kept HS1.out.2 (fun e => by cases e; exact absurd hgb (Nat.lt_irrefl _)))
          have hcell2 := (H.out.keep HBs.out).cell y hy
          have hcp : (wr.setCell ⟨w.heap.size, k, none⟩ (.int .i64 ((j : Int) + 1))).cell? ⟨w.heap.size, k, none⟩ = some (.int .i64 ((j : Int) + 1)) := by
            rw [HS1.out.1.at.2.2.2.2.1 k (by rw [lst_len]; omega), lst_at]; simp
          have HCP := Lib.hid hcp
          have HCJ := Lib.hid hd
          have HLs := Lib.hid (lst_congr (n := n) (F := fun x => if x = k then j + 1 else if x = k then j else if x < k then dep f n x else 0) (G := fun x => if x = k then j + 1 else if x < k then dep f n x else 0) (fun x _ => by by_cases e : x = k <;> simp [e]))
          clear hcs hfs hcp h1s ej
          go_wp2_with (at_lookup; refine wpList_lookS rfl _ _ rfl n b _ y rfl rfl HSj.out hy h1 ?_; rw [hc])
          go_roundw
          case rel => exact ⟨j + 1, by omega, by rw [HY.out]; rfl, HSs.out, by rw [← HLs.out]; exact HS1.out.1, HBs.out⟩
          case measure => rw [HCP.out, HCJ.out]; simp; omega
        · obtain rfl : j = d := by omega
          have hc := HD.out.2.1
          rw [← HY.out] at hc
          have HLs := Lib.hid (lst_congr (n := n) (F := fun x => if x = k then j else if x < k then dep f n x else 0) (G := fun x => if x < k + 1 then dep f n x else 0) (fun x _ => by
            by_cases e : x = k
            · subst e; simp [HE.out]
            · have : (x < k + 1) = (x < k) := by apply propext; omega
              simp only [e, if_false, this]))
          go_wp2_with (at_lookup; refine wpList_lookS rfl _ _ rfl n b _ y rfl rfl HSj.out hy h1 ?_; rw [hc])
          go_roundw
          case rel => exact ⟨k + 1, by omega, by go_num, HSj.out, by rw [← HLs.out]; exact HRj.out, HBj.out⟩
          case measure => simp [intOf]; omega
    · obtain rfl : k = n := by omega
      go_wp2
      go_ret
      exact ⟨_, _, rfl, by rw [← lst_full k (dep f k)]; exact HRk.out, HBk.out⟩

end Go.Proofs.Yticagncemlnafaa
