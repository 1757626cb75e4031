/-
  slices.Repeat of a list of one number (as XRP, over the texts of chapter 5).
-/
import Derived.Test.YtnggfcopndcppaaTE
import Derived.Test.YtnggfcopndcppaaS2
import Derived.Laws.CopyOwn
namespace Go.Proofs.Ytnggfcopndcppaa
open Go.RowKit
set_option linter.unusedVariables false
set_option linter.unusedSimpArgs false

theorem sizeInt : (Try.prog.info? 3).map (·.size) = some 1 := by kernel_rfl

theorem mul_one_c (c : Nat) (hc : c ≤ 40) (w : World) : Calls Try.prog 102 #[.int .u64 1, .int .u64 (c : Int)] w fun e w' => e = .returned (.tuple #[.int .u64 0, .int .u64 (c : Int)]) ∧ w = w' := by
  have h1 : 1 * c / 18446744073709551616 = 0 := by omega
  have h2 : 1 * c % 18446744073709551616 = c := by omega
  refine (Try.bits_Mul 1 c (by decide) (by omega) w).mono ?_
  rintro e w' ⟨rfl, rfl⟩
  rw [h1, h2]
  exact ⟨rfl, rfl⟩

/-- A row made with room for just what it holds. -/
theorem Rd.row {w : World} {B g n : Nat} {xs : List Int} (h : Rd w B (.slice (some ⟨g, 0, none⟩) n n) xs) : w.heap[g]? = some (.cells (xs.map (Value.int .i64)).toArray 3 (0, 0)) := by
  obtain ⟨rfl, _⟩ := h.at
  rcases h.2 with ⟨h1, _⟩ | ⟨g', cap', cur, hv, hg, hh, hn, hm, hc, ht⟩
  · simp at h1
  · simp only [Value.slice.injEq, Option.some.injEq, Addr.mk.injEq, and_true, true_and] at hv
    obtain ⟨rfl, rfl⟩ := hv
    rw [hh]
    congr 2
    apply Array.ext'
    rw [← ht]
    simp at hc ht ⊢
    rw [List.take_of_length_le (by simp [hc])]

theorem rd_row {w : World} {B g n : Nat} {xs : List Int} (hB : B ≤ g) (hn : xs.length = n) (hm : n ≤ 1000000) (h : w.heap[g]? = some (.cells (xs.map (Value.int .i64)).toArray 3 (0, 0))) : Rd w B (.slice (some ⟨g, 0, none⟩) n n) xs := by
  subst hn
  refine ⟨by simp, .inr ⟨g, xs.length, _, rfl, hB, h, Nat.le_refl _, by unfold maxLen; omega, by simp, ?_⟩⟩
  rw [Nat.mul_one, List.take_of_length_le (by simp)]

theorem splice_rep (k m c : Nat) (d : Int) (h : k + m ≤ c) :
    splice ((List.replicate k d ++ List.replicate (c - k) (0 : Int)).map (Value.int .i64)) k (List.replicate m (Value.int .i64 d)) = (List.replicate (k + m) d ++ List.replicate (c - (k + m)) (0 : Int)).map (Value.int .i64) := by
  unfold splice
  simp only [List.map_append, List.map_replicate, List.length_replicate]
  rw [List.take_append_of_le_length (by simp), List.take_of_length_le (by simp), List.drop_append, List.drop_eq_nil_of_le (by simp), List.nil_append, List.drop_replicate, List.length_replicate, ← List.append_assoc, List.replicate_append_replicate]
  congr 2
  omega

set_option maxHeartbeats 1000000 in
theorem repeat_any (g0 cap0 c B : Nat) (d : Int) (w : World) (h : Rd w B (.slice (some ⟨g0, 0, none⟩) 1 cap0) [d]) (hc : c ≤ 40) :
    Calls Try.prog 81 #[.slice (some ⟨g0, 0, none⟩) 1 cap0, .int .i64 (c : Int)] w fun e w' => ∃ u, e = .returned u ∧ Rd w' w.heap.size u (List.replicate c d) ∧ Below w.heap.size w w' := by
  have H := Lib.hid h
  have hd : w.cell? ⟨g0, 0, none⟩ = some (.int .i64 d) := h.at.2.2.2.2.1 0 (by simp)
  have hg0 := h.at.2.2.1
  clear h
  by_cases hc0 : c = 0
  · have hc1 : c ≤ 0 := by omega
    have HC0 := Lib.hid hc0
    have hmin : Nat.min 1 c = 0 := by rw [hc0]; rfl
    have HMin := Lib.hid hmin
    clear hc0 hmin
    go_enter Try.func81, Try.ntmps81
    go_wp2_with fail
    refine (mul_one_c c hc _).mono ?_
    rintro e w1 ⟨rfl, rfl⟩
    go_wp2_with (first | (at_make; refine wpList_mkR rfl _ _ rfl .i64 .i64 _ _ c rfl rfl rfl rfl (by omega) ?_; intro w1 hr1 hg1 hb1; have R1 := Lib.hid hr1; have B1 := Lib.hid hb1; clear hr1 hg1 hb1) | (with_reducible refine wpList_copy_nothing rfl (.tmp 31) (.tmp 32) 24 24 rfl 3 Try.underlying24 sizeInt _ _ _ _ _ _ rfl rfl HMin.out ?_))
    refine wp_loop_rounds 1 ?_
    rw [rounds_succ]
    go_wp2
    go_ret
    have R2 := R1.out
    exact ⟨_, rfl, by rw [HC0.out] at R2 ⊢; exact R2, B1.out⟩
  · have hc1 : 1 ≤ c := by omega
    clear hc0
    go_enter Try.func81, Try.ntmps81
    go_wp2_with fail
    refine (mul_one_c c hc _).mono ?_
    rintro e w1 ⟨rfl, rfl⟩
    go_wp2_with (first | (at_make; refine wpList_mkR rfl _ _ rfl .i64 .i64 _ _ c rfl rfl rfl rfl (by omega) ?_; intro w1 hr1 hg1 hb1; have ROW1 := Lib.hid hr1.row; have H1 := Lib.hid (H.out.keep hb1); have B1 := Lib.hid hb1; clear hr1 hg1 hb1) | (with_reducible refine wpList_copy_splice rfl (.tmp 31) (.tmp 32) 24 24 rfl 3 Try.underlying24 sizeInt _ _ _ _ _ _ rfl rfl w.heap.size 0 _ 3 ROW1.out [.int .i64 d] ?n1 ?p1 ?f1 ?o1 w.heap.size w B1.out (Nat.le_refl _) ?_))
    case n1 => show 1 = Nat.min 1 c; rw [show Nat.min 1 c = 1 from Nat.min_eq_left hc1]
    case p1 =>
      intro j v hj
      match j, hj with
      | 0, hj => simp at hj; subst hj; exact H1.out.at.2.2.2.2.1 0 (by simp)
    case f1 => simp; try omega
    case o1 => intro v hv; simp at hv; subst hv; rfl
    · intro w2 hrow2 hb2
      have ROW2 := Lib.hid (show w2.heap[w.heap.size]? = some (.cells ((List.replicate 1 d ++ List.replicate (c - 1) (0 : Int)).map (Value.int .i64)).toArray 3 (0, 0)) by
        have h2 := hrow2.out
        rw [h2]
        congr 3
        obtain ⟨c', rfl⟩ : ∃ c', c = c' + 1 := ⟨c - 1, by omega⟩
        simp [splice, List.replicate_succ])
      have B2 := Lib.hid hb2
      clear hrow2 hb2
      go_wp2
      go_loopw [8] (fun n wr => ∃ k : Nat, 1 ≤ k ∧ k ≤ c ∧ n = .int .i64 (k : Int) ∧ wr.heap[w.heap.size]? = some (.cells ((List.replicate k d ++ List.replicate (c - k) (0 : Int)).map (Value.int .i64)).toArray 3 (0, 0)) ∧ Below w.heap.size w wr) (fun n _ => c - (intOf n).toNat)
      case atStart => exact ⟨1, by omega, hc1, rfl, ROW2.out, B2.out⟩
      case round =>
        obtain ⟨k, k1, k2, rfl, hrow, hb⟩ := hrel
        have ROW := Lib.hid hrow
        have HB := Lib.hid hb
        clear hrow hb
        by_cases hlt : k < c
        · obtain ⟨m, hm⟩ : ∃ m, m = Nat.min k (c - k) := ⟨_, rfl⟩
          have hm1 : m ≤ k := by rw [hm]; exact Nat.min_le_left _ _
          have hm2 : m ≤ c - k := by rw [hm]; exact Nat.min_le_right _ _
          have hm3 : 1 ≤ m := by rw [hm]; exact Nat.le_min.2 ⟨k1, by omega⟩
          have s1 := Lib.hid (show (List.replicate m (Value.int .i64 d)).length = Nat.min k (c - k) by rw [List.length_replicate, hm])
          have s2 := Lib.hid (show 0 < (List.replicate m (Value.int .i64 d)).length → ∃ ad, some (⟨w.heap.size, 0, none⟩ : Addr) = some ad ∧ ∀ j v, (List.replicate m (Value.int .i64 d))[j]? = some v → wr.drew.cell? (ad.add j) = some v by
            refine fun _ => ⟨⟨w.heap.size, 0, none⟩, rfl, ?_⟩
            intro j v hj
            have hjm : j < m := by have := (List.getElem?_eq_some_iff.1 hj).1; simpa using this
            rw [List.getElem?_replicate, if_pos hjm] at hj
            rw [addr_add, Nat.zero_add]
            show wr.cell? _ = _
            rw [cell_of_row wr w.heap.size j _ 3 (0, 0) ROW.out, ← hj]
            rw [List.getElem?_toArray, List.getElem?_map, List.getElem?_append_left (by simp; omega), List.getElem?_replicate, if_pos (by omega)]
            rfl)
          have s3 := Lib.hid (show k + (List.replicate m (Value.int .i64 d)).length ≤ ((List.replicate k d ++ List.replicate (c - k) (0 : Int)).map (Value.int .i64)).length by simp; omega)
          have s4 := Lib.hid (show ∀ v ∈ List.replicate m (Value.int .i64 d), v.oneCell' = true by intro v hv; rw [(List.mem_replicate.1 hv).2]; rfl)
          have s5 := Lib.hid (show Below w.heap.size w wr.drew from HB.out.drew)
          have s6 := Lib.hid (show wr.drew.heap[w.heap.size]? = some (.cells ((List.replicate k d ++ List.replicate (c - k) (0 : Int)).map (Value.int .i64)).toArray 3 (0, 0)) from ROW.out)
          have HM := Lib.hid hm
          have hck : ¬ c = k := by omega
          clear hm
          have hwr : IntKind.i64.wrap ((k : Int) + (m : Int)) = (k : Int) + (m : Int) := IntWalk.i64_in _ (by omega)
          go_wp2
          go_region_law (refine step_copy_splice rfl (.tmp 41) (.tmp 44) 24 24 rfl 3 Try.underlying24 sizeInt (some ⟨w.heap.size, k, none⟩) (some ⟨w.heap.size, 0, none⟩) (c - k) (c - k) k c (by simp [Act.eval, Act.put]) (by simp [Act.eval, Act.put]) w.heap.size k _ 3 s6.out (List.replicate m (.int .i64 d)) s1.out (fun h => ⟨rfl, s2.out h⟩) s3.out s4.out w.heap.size w s5.out (Nat.le_refl _) ?_; intro w5 hrow5 hb5; have ROW5 := Lib.hid hrow5.out; have HB5 := Lib.hid hb5; clear hrow5 hb5)
          clear hwr
          go_simp
          go_wp2
          go_roundw
          case rel =>
            refine ⟨k + m, by omega, by omega, by go_num, ?_, HB5.out⟩
            rw [ROW5.out, splice_rep k m c d (by omega)]
          case measure => simp [intOf]; omega
        · obtain rfl : k = c := by omega
          go_wp2
          go_ret
          have h3 := ROW.out
          rw [Nat.sub_self, List.replicate_zero, List.append_nil] at h3
          exact ⟨_, rfl, rd_row (Nat.le_refl _) (by simp) (by omega) h3, HB.out⟩

end Go.Proofs.Ytnggfcopndcppaa
