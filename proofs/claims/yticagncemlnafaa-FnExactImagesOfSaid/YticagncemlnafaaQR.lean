/-
  Names of the numbers of a map: each once.
-/
import Derived.Test.YticagncemlnafaaQC
namespace Go.Proofs.Yticagncemlnafaa
open Go.RowKit
set_option linter.unusedVariables false
set_option linter.unusedSimpArgs false
set_option maxRecDepth 100000

/-- Each number is led to. -/
def onto (q : Nat → Nat) (n : Nat) : Bool := decide (inOrder n (fun y => !img q n 1 y) = [])
theorem onto_iff {q : Nat → Nat} {n : Nat} : onto q n = true ↔ ∀ y, y < n → ∃ x, x < n ∧ q x = y := by
  unfold onto inOrder
  rw [decide_eq_true_iff, List.filter_eq_nil_iff]
  simp only [List.mem_range, Bool.not_eq_true', Bool.not_eq_false]
  constructor
  · intro h y hy; exact img_iff.1 (h y hy)
  · intro h y hy; exact img_iff.2 (h y hy)

theorem onto_nodup {q : Nat → Nat} {n : Nat} (hq : Into q n) : onto q n = decide ((List.range n).map q).Nodup := by
  rw [Bool.eq_iff_iff, onto_iff, decide_eq_true_iff]
  constructor
  · intro h
    unfold List.Nodup
    rw [List.pairwise_map]
    refine (List.pairwise_lt_range (n := n)).imp_of_mem ?_
    intro i j hi hj hij e
    rw [List.mem_range] at hi hj
    have h1 : (List.range n) ⊆ ((List.range n).filter (adj (fun _ => true) j false)).map q := by
      intro y hy
      obtain ⟨x, hx, he⟩ := h y (List.mem_range.1 hy)
      rw [List.mem_map]
      by_cases e2 : x = j
      · subst e2
        exact ⟨i, List.mem_filter.2 ⟨List.mem_range.2 hi, by simp [adj]; omega⟩, by rw [e, he]⟩
      · exact ⟨x, List.mem_filter.2 ⟨List.mem_range.2 hx, by simp [adj, e2]⟩, he⟩
    have h2 := List.nodup_range.length_le_of_subset h1
    rw [List.length_range, List.length_map] at h2
    have h3 := cnt_del (fun _ => true) j n hj
    have h4 : cnt n (fun _ => true) ≤ n := cnt_le n _
    unfold cnt at h3 h4
    simp only [if_true] at h3
    omega
  · intro h y hy
    by_cases hc : ∃ x, x < n ∧ q x = y
    · exact hc
    · exfalso
      have h1 : (y :: (List.range n).map q).Nodup := by
        rw [List.nodup_cons]
        refine ⟨fun hm => ?_, h⟩
        obtain ⟨x, hx, he⟩ := List.mem_map.1 hm
        exact hc ⟨x, List.mem_range.1 hx, he⟩
      have h2 := h1.length_le_of_subset (l₂ := List.range n) (fun z hz => by
        rcases List.mem_cons.1 hz with rfl | hz
        · exact List.mem_range.2 hy
        · obtain ⟨x, hx, rfl⟩ := List.mem_map.1 hz
          exact List.mem_range.2 (hq x (List.mem_range.1 hx)))
      simp at h2
      omega

theorem Rd.take' {w : World} {B g n cap : Nat} {xs : List Int} (h : Rd w B (.slice (some ⟨g, 0, none⟩) n cap) xs) (k : Nat) (hk : k ≤ xs.length) : Rd w B (.slice (some ⟨g, 0, none⟩) k cap) (xs.take k) := by
  obtain ⟨rfl, _⟩ := h.at
  rcases h.2 with ⟨h1, _⟩ | ⟨g', cap', cur, hv, hg, hh, hn, hm, hc, ht⟩
  · simp at h1
  · simp only [Value.slice.injEq, Option.some.injEq, Addr.mk.injEq, and_true, true_and] at hv
    obtain ⟨rfl, rfl⟩ := hv
    have hkl : (xs.take k).length = k := by simp; omega
    refine ⟨by simp, .inr ⟨g, cap, cur, by rw [hkl], hg, hh, by omega, hm, hc, ?_⟩⟩
    rw [hkl, Nat.mul_one, List.map_take]
    rw [Nat.mul_one] at ht
    rw [← ht, List.take_take, Nat.min_eq_left hk]

theorem take_nodup (xs : List Int) (k : Nat) (h : k < xs.length) (h0 : (xs.take k).Nodup) : (xs.take (k + 1)).Nodup ↔ xs[k] ∉ xs.take k := by
  rw [take_snoc' xs k h, List.nodup_append]
  constructor
  · rintro ⟨_, _, h3⟩ hm; exact h3 _ hm _ (by simp) rfl
  · intro hn; exact ⟨h0, by simp, fun a ha b hb => by simp at hb; subst hb; exact fun e => hn (e ▸ ha)⟩

/-- A list has each of the first n numbers once. -/
def namesB (n : Nat) (ys : List Int) : Bool := decide (ys.length = n) && (allIn 0 ((n : Int) - 1) ys && decide ys.Nodup)

theorem mpNames_any (u : Value) (ys : List Int) (n : Nat) (B : Nat) (w : World) (h : Rd w B u ys) (hl : ys.length ≤ 2000000) (hn : 1 ≤ n) (hn2 : n ≤ 60) :
    Calls Try.prog 87 #[u, .int .i64 (n : Int)] w fun e w' => e = .returned (.bool (namesB n ys)) ∧ w = w' := by
  have H := Lib.hid h
  by_cases he : ys.length = n
  · rcases h.cases with ⟨_, hx⟩ | ⟨g, cap, rfl, _, _, hcap, _, hc, _⟩
    · rw [hx] at he; simp at he; omega
    have HC := Lib.hid hc
    have hne : ((n : Int) != (n : Int)) = false := bne_no rfl
    cases q : allIn 0 ((n : Int) - 1) ys
    · have HD := Lib.hid (show namesB n ys = false by unfold namesB; rw [q, Bool.false_and, Bool.and_false])
      rw [he] at H ⊢
      clear h hc
      go_enter Try.func87, Try.ntmps87
      go_wp2_with (go_at_call 93; refine (l1All_any _ ys _ _ _ _ H.out hl).mono ?_; rw [q]; rintro e w1 ⟨rfl, rfl⟩)
      go_ret
      exact ⟨ret_bool HD.out.symm, rfl⟩
    · have HD := Lib.hid (show namesB n ys = decide ys.Nodup by unfold namesB; rw [q, decide_eq_true he]; rfl)
      have HE := Lib.hid he
      rw [he] at H hcap ⊢
      clear h hc
      go_enter Try.func87, Try.ntmps87
      go_wp2_with (go_at_call 93; refine (l1All_any _ ys _ _ _ _ H.out hl).mono ?_; rw [q]; rintro e w1 ⟨rfl, rfl⟩)
      go_loop [20] (fun i => ∃ k : Nat, k ≤ n ∧ i = .int .i64 k ∧ (ys.take k).Nodup) (fun i => n - (intOf i).toNat)
      case atStart => exact ⟨0, Nat.zero_le _, rfl, List.nodup_nil⟩
      case round =>
        obtain ⟨k, hk, rfl, hp⟩ := hrel
        have HP := Lib.hid hp
        clear hp
        by_cases hlt : k < n
        · have hky : k < ys.length := by omega
          have hcell := HC.out k hky
          have HT := Lib.hid (H.out.take' k (by omega))
          have HTN := Lib.hid (take_nodup ys k hky HP.out)
          have hkc : k ≤ cap := by omega
          have HTL := Lib.hid (show (ys.take k).length ≤ 2000000 by rw [List.length_take]; omega)
          cases hq : decide (ys[k] ∈ ys.take k)
          · have HN := Lib.hid (HTN.out.2 (of_decide_eq_false hq))
            go_wp2_with (go_at_call 73; refine (l1Has_any _ (ys.take k) _ _ _ HT.out HTL.out).mono ?_; rw [hq]; rintro e w1 ⟨rfl, rfl⟩)
            go_round
            case rel => exact ⟨k + 1, by omega, by go_num, HN.out⟩
            case measure => simp [intOf]; omega
          · have HN := Lib.hid (show decide ys.Nodup = false from decide_eq_false (fun hd => HTN.out.1 (hd.sublist (List.take_sublist _ _)) (of_decide_eq_true hq)))
            go_wp2_with (go_at_call 73; refine (l1Has_any _ (ys.take k) _ _ _ HT.out HTL.out).mono ?_; rw [hq]; rintro e w1 ⟨rfl, rfl⟩)
            go_ret
            exact ⟨ret_bool (by rw [HD.out, HN.out]), rfl⟩
        · obtain rfl : k = n := by omega
          have HN := Lib.hid (show decide ys.Nodup = true from decide_eq_true (by have := HP.out; rw [List.take_of_length_le (by omega)] at this; exact this))
          go_wp2
          go_ret
          exact ⟨ret_bool (by rw [HD.out, HN.out]), rfl⟩
  · have HD := Lib.hid (show namesB n ys = false by unfold namesB; rw [decide_eq_false he]; rfl)
    obtain ⟨a, cap, rfl⟩ := h.sl.len
    have hne : ((ys.length : Int) != (n : Int)) = true := bne_yes (by omega)
    clear h he
    go_enter Try.func87, Try.ntmps87
    go_wp2
    go_ret
    exact ⟨ret_bool HD.out.symm, rfl⟩

theorem eachOnce_any (u : Value) (ys : List Int) (B : Nat) (w : World) (h : Rd w B u ys) (hl : ys.length ≤ 2000000) :
    Calls Try.prog 88 #[u] w fun e w' => e = .returned (.bool (goodM ys && onto (fnO ys) ys.length)) ∧ Below w.heap.size w w' := by
  have H := Lib.hid h
  cases q1 : goodM ys
  · clear h
    go_enter Try.func88, Try.ntmps88
    go_wp2_with (go_at_call 21; refine (IsMap_any _ ys _ _ H.out hl).mono ?_; rw [q1]; rintro e w1 ⟨rfl, rfl⟩)
    go_ret
    exact ⟨rfl, Below.refl _ _⟩
  · obtain ⟨g, n, cap, f, rfl, hm, hn, hf, hxs, _⟩ := h.good q1
    have HM := Lib.hid hm
    have n1 := hm.n1
    rw [← hf, ← hn]
    have HL := Lib.hid (show (nts (inOrder n fun y => !img f n 1 y)).length = (inOrder n fun y => !img f n 1 y).length from nts_len _)
    have hle := inOrder_len n (fun y => !img f n 1 y)
    obtain ⟨es, hes⟩ : ∃ es, es = inOrder n (fun y => !img f n 1 y) := ⟨_, rfl⟩
    have HO := Lib.hid (show onto f n = decide (es = []) by unfold onto; rw [← hes])
    rw [← hes] at HL hle
    have HES := Lib.hid hes
    clear h hm hn hf hxs hes
    by_cases he : es = []
    · have hz : es.length = 0 := by rw [he]; rfl
      have hbq : ((es.length : Int) == 0) = true := beq_yes (by omega)
      have HD := Lib.hid (show onto f n = true by rw [HO.out]; exact decide_eq_true he)
      clear he hz
      go_enter Try.func88, Try.ntmps88
      go_wp2_with (first | (go_at_call 21; refine (IsMap_any _ ys _ _ H.out hl).mono ?_; rw [q1]; rintro e w1 ⟨rfl, rfl⟩) | (go_at_call 78; refine (ends_any g n cap f _ HM.out).mono ?_; rw [← HES.out]; rintro e w1 ⟨u, rfl, hr, hb⟩; obtain ⟨a2, c2, rfl⟩ := hr.sl.len; rw [HL.out]; have HB := Lib.hid hb; clear hr hb))
      go_ret
      exact ⟨ret_bool (by rw [HD.out]; rfl), HB.out⟩
    · have hz : es.length ≠ 0 := fun h => he (List.eq_nil_of_length_eq_zero h)
      have hbq : ((es.length : Int) == 0) = false := beq_no (by omega)
      have HD := Lib.hid (show onto f n = false by rw [HO.out]; exact decide_eq_false he)
      clear he hz
      go_enter Try.func88, Try.ntmps88
      go_wp2_with (first | (go_at_call 21; refine (IsMap_any _ ys _ _ H.out hl).mono ?_; rw [q1]; rintro e w1 ⟨rfl, rfl⟩) | (go_at_call 78; refine (ends_any g n cap f _ HM.out).mono ?_; rw [← HES.out]; rintro e w1 ⟨u, rfl, hr, hb⟩; obtain ⟨a2, c2, rfl⟩ := hr.sl.len; rw [HL.out]; have HB := Lib.hid hb; clear hr hb))
      go_ret
      exact ⟨ret_bool (by rw [HD.out]; rfl), HB.out⟩

theorem namesB_eq {n : Nat} {ys : List Int} (h0 : 1 ≤ n) (h1 : n ≤ 60) (he : ys.length = n) : namesB n ys = (goodM ys && onto (fnO ys) ys.length) := by
  unfold namesB
  rw [decide_eq_true he, Bool.true_and]
  cases q : goodM ys
  · rw [goodM_at (by omega) (by omega), he] at q
    rw [q]; rfl
  · have q2 := q
    rw [goodM_at (by omega) (by omega), he] at q2
    obtain ⟨hc, _, _, hI⟩ := good_can q
    rw [q2, onto_nodup hI]
    congr 1
    rw [decide_eq_decide]
    conv => lhs; rw [hc]
    unfold lst
    rw [show ((List.range ys.length).map fun (x : Nat) => ((fnO ys x : Nat) : Int)) = ((List.range ys.length).map (fnO ys)).map (fun (x : Nat) => (x : Int)) by rw [List.map_map]; rfl]
    unfold List.Nodup
    rw [List.pairwise_map (f := fun (x : Nat) => (x : Int))]
    constructor
    · exact fun h => h.imp (fun hab e => hab (by omega))
    · exact fun h => h.imp (fun hab e => hab (by omega))

end Go.Proofs.Yticagncemlnafaa
