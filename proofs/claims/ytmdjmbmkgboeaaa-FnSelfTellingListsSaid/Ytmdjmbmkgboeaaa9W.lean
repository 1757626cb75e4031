/-
  Lists that tell themselves: the program's search walked (written by wip/tools/gen_9w.py).
-/
import Derived.Test.Ytmdjmbmkgboeaaa9V
namespace Go.Proofs.Ytmdjmbmkgboeaaa
open Go.RowKit
set_option linter.unusedVariables false
set_option linter.unusedSimpArgs false
set_option maxRecDepth 100000

theorem grown_far {w w1 w2 : World} {row row2 : Option Nat} (h : w.grownBy w1 row) (h2 : w1.grownBy w2 row2) (hf : ∀ k, row2 = some k → w.heap.size ≤ k) : w.grownBy w2 row :=
  ⟨h2.os.trans h.os, h2.tape.trans h.tape, h2.output.trans h.output, Nat.le_trans h.size h2.size, fun k hk hne => (h2.block k (Nat.lt_of_lt_of_le hk h.size) (fun e => by have := hf k e.symm; omega)).trans (h.block k hk hne)⟩

theorem LLi.outer {w : World} {B : Nat} {v : Value} {vs : List Value} {ls : List (List Int)} (h : LLi w B v vs ls) : ∀ k, v.ownBlock = some k → B ≤ k ∧ k < w.heap.size := h.row.lt
theorem LLi.inner {w : World} {B : Nat} {v : Value} {vs : List Value} {ls : List (List Int)} (h : LLi w B v vs ls) {i : Nat} {u : Value} (hi : vs[i]? = some u) : ∀ k, u.ownBlock = some k → B ≤ k ∧ k < w.heap.size := by
  obtain ⟨l, _, hr⟩ := h.rd hi
  exact hr.lt
/-- Rows that lie from some block on are left alone by what is written below it, or in a later block. -/
theorem LLi.away {w w' : World} {C : Nat} {v : Value} {vs : List Value} {ls : List (List Int)} {row : Option Nat} (h : LLi w C v vs ls) (hg : w.grownBy w' row) (hr : ∀ k, row = some k → k < C ∨ w.heap.size ≤ k) : LLi w' C v vs ls := by
  refine h.grown hg ?_ (fun i u hi => ?_)
  · cases hq : v.ownBlock with
    | none => exact .inl rfl
    | some k =>
      right
      intro e
      have h1 := h.outer k hq
      have h2 := hr k e.symm
      omega
  · cases hq : u.ownBlock with
    | none => exact .inl rfl
    | some k =>
      right
      intro e
      have h1 := h.inner hi k hq
      have h2 := hr k e.symm
      omega

theorem step_keep {w wr wa w1 w2 : World} {B C g K cap : Nat} {v o : Value} {vs : List Value} {ls : List (List Int)} {xs : List Int} {d : Int} (hC : C = w.heap.size) (hlen : xs.length = K)
    (hv : ∀ k, v.ownBlock = some k → k < C) (G0 : w.grownBy wr v.ownBlock) (GA : wr.grownBy wa none) (HLL : LLi wr C o vs ls) (G1 : wa.grownBy w1 v.ownBlock)
    (hd : v = .slice (some ⟨g, 0, none⟩) K cap ∨ (wa.heap.size ≤ g ∧ wa.grownBy w1 none)) (R1 : Rd w1 B v xs) (G2 : w1.grownBy w2 (some g)) (R2 : Rd w2 B (.slice (some ⟨g, 0, none⟩) (K + 1) cap) (xs ++ [d])) :
    LLi w2 C o vs ls ∧ w.grownBy w2 v.ownBlock ∧ Rd w2 B v xs := by
  have L1 : LLi w1 C o vs ls := (HLL.away GA (fun k e => by cases e)).away G1 (fun k e => .inl (hv k e))
  have G01 : w.grownBy w1 v.ownBlock := grown_trans (grown_trans G0 (grown_any GA _)) G1
  rcases hd with rfl | ⟨h1, h2⟩
  · refine ⟨L1.away G2 (fun k e => .inl (hv k e)), grown_trans G01 G2, ?_⟩
    have hr2 := R2.take K (by rw [List.length_append, hlen]; omega)
    rw [List.take_left' hlen] at hr2
    exact hr2
  · have hsz : w.heap.size ≤ wa.heap.size := Nat.le_trans G0.size GA.size
    have LA : LLi wa C o vs ls := HLL.away GA (fun k e => by cases e)
    refine ⟨?_, grown_far G01 G2 (fun k e => by cases e; omega), ?_⟩
    · -- the rows lie before the new block
      refine L1.grown G2 ?_ (fun i u hi => ?_)
      · cases hq : o.ownBlock with
        | none => exact .inl rfl
        | some k => right; intro e; cases e; have := (LA.outer _ hq).2; omega
      · cases hq : u.ownBlock with
        | none => exact .inl rfl
        | some k => right; intro e; cases e; have := (LA.inner hi _ hq).2; omega
    · refine R1.grown G2 ?_
      cases hq : v.ownBlock with
      | none => exact .inl rfl
      | some k => right; intro e; cases e; have := hv _ hq; omega

theorem last_keep {w w2 w3 : World} {B C D : Nat} {v o o' u : Value} {vs us : List Value} {ls ms : List (List Int)} {xs : List Int} (hC : C = w.heap.size) (hv : ∀ k, v.ownBlock = some k → k < C) (hCD : C ≤ D)
    (L : LLi w2 C o vs ls) (L2 : LLi w2 D u us ms) (hU : Und D o vs) (G : w.grownBy w2 v.ownBlock) (R : Rd w2 B v xs) (hr : Rg 24 w3 C o' (vs ++ us)) (hg : w2.grownBy w3 o.ownBlock) :
    LLi w3 C o' (vs ++ us) (ls ++ ms) ∧ w.grownBy w3 v.ownBlock ∧ Rd w3 B v xs := by
  refine ⟨L.append L2 hCD hU hr hg, grown_far G hg (fun k e => by have := (L.outer k e).1; omega), R.grown hg ?_⟩
  cases hq : v.ownBlock with
  | none => exact .inl rfl
  | some k =>
    right
    intro e
    have h1 := hv k hq
    have h2 := (L.outer k e.symm).1
    omega

theorem fm_len_mem {α β : Type} (F : α → List β) : ∀ (l : List α) (d : α), d ∈ l → (F d).length ≤ (l.flatMap F).length
  | [], d, h => by cases h
  | e :: l, d, h => by
    rw [List.flatMap_cons, List.length_append]
    rcases List.mem_cons.1 h with rfl | h
    · omega
    · have := fm_len_mem F l d h; omega
theorem fm_len_pre {β : Type} (F : Nat → List β) {j m : Nat} (h : j ≤ m) : ((List.range j).flatMap F).length ≤ ((List.range m).flatMap F).length := by
  induction m with
  | zero => obtain rfl : j = 0 := by omega
            exact Nat.le_refl _
  | succ m ih =>
    by_cases e : j = m + 1
    · rw [e]; exact Nat.le_refl _
    · have := ih (by omega)
      rw [List.range_succ, List.flatMap_append, List.length_append]
      omega
theorem fm_succ {β : Type} (F : Nat → List β) (j : Nat) : (List.range (j + 1)).flatMap F = (List.range j).flatMap F ++ F j := by
  rw [List.range_succ, List.flatMap_append]
  simp

theorem leaf_is {n : Nat} {xs : List Int} (hn1 : 1 ≤ n) (hn10 : n ≤ 10) (hl : xs.length = n) : decide (TelR xs) = true := decide_eq_true ⟨by omega, by omega⟩

theorem stb_zero (n : Nat) (hn1 : 1 ≤ n) (hn10 : n ≤ 10) (xs : List Int) (left : Nat) (v : Value) (B : Nat) (w : World) (h : Rd w B v xs) (hB : B ≤ w.heap.size) (hl : xs.length + 0 = n) :
    Calls Try.prog 68 #[v, .int .i64 (n : Int), .int .i64 (left : Int)] w fun e w' => ∃ u vs, e = .returned u ∧ LLi w' w.heap.size u vs (pS n 0 xs left) ∧ w.grownBy w' v.ownBlock ∧ Rd w' B v xs := by
  have H := Lib.hid h
  have hl' : xs.length = n := hl
  have HI := Lib.hid (fun w' (h : Sl w' v xs) => is_sl v xs w' h (by omega))
  have HT := Lib.hid (leaf_is hn1 hn10 hl')
  have HC := Lib.hid (fun w' (h : Rd w' B v xs) => clone_rd v xs w' B h (by omega))
  obtain ⟨a, cap, rfl⟩ := h.sl.len
  unfold VAL_IsSelfTelling at HI
  rw [HT.out, Bool.true_and] at HI
  rw [hl'] at HI HC H ⊢
  clear h hl hl'
  cases hs : selB xs with
  | true =>
    have HP := Lib.hid (show pS n 0 xs left = [xs] from if_pos hs)
    rw [HP.out]
    rw [hs] at HI
    clear hs
    go_enter Try.func68, Try.ntmps68
    go_wp2_with (first | (go_at_call 24; refine (HI.out _ H.out.sl).mono ?_; rintro e w1 ⟨rfl, hb⟩; have HB := Lib.hid hb; have H1 := Lib.hid (H.out.keep hb); clear hb) | (go_at_call 65; refine (HC.out _ H1.out).mono ?_; rintro e w2 ⟨u, rfl, hr, hb⟩; have R1 := Lib.hid (hr.mono HB.out.size); have H2 := Lib.hid (H1.out.keep hb); have B1 := Lib.hid (Below.step HB.out HB.out.size hb); obtain ⟨au, cu, rfl⟩ := hr.sl.len; clear hr hb))
    go_ret
    exact ⟨_, [_], rfl, LLi.one _ _ _ _ R1.out B1.out.size, grown_of_below (Below.step B1.out B1.out.size (alloc_below w2 _)) _, H2.out.alloc _⟩
  | false =>
    have HP := Lib.hid (show pS n 0 xs left = [] from if_neg (by rw [hs]; simp))
    rw [HP.out]
    rw [hs] at HI
    clear hs
    go_enter Try.func68, Try.ntmps68
    go_wp2_with (go_at_call 24; refine (HI.out _ H.out.sl).mono ?_; rintro e w1 ⟨rfl, hb⟩; have HB := Lib.hid hb; have H1 := Lib.hid (H.out.keep hb); clear hb)
    go_ret
    exact ⟨_, [], rfl, LLi.nil _ _, grown_of_below HB.out _, H1.out⟩


theorem stb_succ (n r : Nat) (hn1 : 1 ≤ n) (hn10 : n ≤ 10)
    (ih : ∀ (xs : List Int) (left : Nat) (v : Value) (B : Nat) (w : World), Rd w B v xs → B ≤ w.heap.size → xs.length + r = n → left ≤ n → (pS n r xs left).length ≤ 1000 →
      Calls Try.prog 68 #[v, .int .i64 (n : Int), .int .i64 (left : Int)] w fun e w' => ∃ u vs, e = .returned u ∧ LLi w' w.heap.size u vs (pS n r xs left) ∧ w.grownBy w' v.ownBlock ∧ Rd w' B v xs)
    (xs : List Int) (left : Nat) (v : Value) (B : Nat) (w : World) (h : Rd w B v xs) (hB : B ≤ w.heap.size) (hl : xs.length + (r + 1) = n) (hleft : left ≤ n) (hfew : (pS n (r + 1) xs left).length ≤ 1000) :
    Calls Try.prog 68 #[v, .int .i64 (n : Int), .int .i64 (left : Int)] w fun e w' => ∃ u vs, e = .returned u ∧ LLi w' w.heap.size u vs (pS n (r + 1) xs left) ∧ w.grownBy w' v.ownBlock ∧ Rd w' B v xs := by
  have H := Lib.hid h
  have HBw := Lib.hid hB
  have IH := Lib.hid ih
  have HVB := Lib.hid (show ∀ k, v.ownBlock = some k → k < w.heap.size from fun k hk => (h.lt k hk).2)
  obtain ⟨F, hF⟩ : ∃ F : Nat → List (List Int), F = fun d => pS n r (xs ++ [((d : Nat) : Int)]) (left - d * xs.length) := ⟨_, rfl⟩
  have HFE := Lib.hid (fun d => congrFun hF d)
  have HTot := Lib.hid (show pS n (r + 1) xs left = (List.range (pMost n left xs.length + 1)).flatMap F by rw [hF]; rfl)
  rw [HTot.out] at hfew
  have HFL := Lib.hid (fun d (hd : d ≤ pMost n left xs.length) => Nat.le_trans (fm_len_mem F (List.range (pMost n left xs.length + 1)) d (List.mem_range.2 (by omega))) hfew)
  have HPR := Lib.hid (fun j (hj : j ≤ pMost n left xs.length + 1) => Nat.le_trans (fm_len_pre F hj) hfew)
  obtain ⟨a, cap0, rfl⟩ := h.sl.len
  obtain ⟨K, hK⟩ : ∃ K, xs.length = K := ⟨_, rfl⟩
  have HK := Lib.hid hK
  rw [hK] at H HVB HFE HTot HFL HPR ⊢
  have HRL := Lib.hid (show K + (r + 1) = n by rw [← hK]; exact hl)
  have hKn : K < n := by have := HRL.out; omega
  have hJ : ∀ d, d ≤ pMost n left K → 0 ≤ (d : Int) * (K : Int) ∧ (d : Int) * (K : Int) ≤ 100 ∧ (left : Int) - (d : Int) * (K : Int) = ((left - d * K : Nat) : Int) ∧ left - d * K ≤ n := by
    intro d hd
    have e : (d : Int) * (K : Int) = ((d * K : Nat) : Int) := by push_cast; rfl
    have h1 : d * K ≤ left := by
      unfold pMost at hd
      by_cases h0 : K = 0
      · rw [h0]; omega
      · rw [if_neg h0] at hd
        exact (Nat.le_div_iff_mul_le (by omega)).1 hd
    rw [e]
    omega
  have HJ := Lib.hid hJ
  have hMn : pMost n left K ≤ 10 := by
    unfold pMost
    split
    · omega
    · exact Nat.le_trans (Nat.div_le_self _ _) (by omega)
  have hne : ((K : Int) == (n : Int)) = false := beq_no (by omega)
  clear h hB ih hF hfew hJ hK hl
  by_cases hK0 : K = 0
  · have HMn := Lib.hid (show pMost n left K = n from if_pos hK0)
    rw [HMn.out] at HTot HFL HPR HJ hMn
    obtain ⟨M, hM⟩ : ∃ M, M = n := ⟨_, rfl⟩
    have hk0 : ¬ (0 : Int) < (K : Int) := by omega
    rw [← hM] at HTot HFL HPR HJ hMn
    have HMM := Lib.hid hM
    clear hM hK0 HMn
    go_enter Try.func68, Try.ntmps68
    go_wp2_with fail
    obtain rfl := HMM.out
    go_loopw [11, 35] (fun o i wr => ∃ (j : Nat) (vs : List Value), j ≤ M + 1 ∧ i = .int .i64 (j : Int) ∧ LLi wr w.heap.size o vs ((List.range j).flatMap F) ∧ w.grownBy wr (Value.slice a K cap0).ownBlock ∧ Rd wr B (.slice a K cap0) xs) (fun _ i _ => M + 1 - (intOf i).toNat)
    case atStart => exact ⟨0, [], Nat.zero_le _, rfl, LLi.nil _ _, World.grownBy.refl _ _, H.out⟩
    case round =>
      obtain ⟨j, vs, hj, rfl, hll, hg0, hr0⟩ := hrel
      have HLL := Lib.hid hll
      have HG0 := Lib.hid hg0
      have HR0 := Lib.hid hr0
      clear hll hg0 hr0
      by_cases hlt : j ≤ M
      · have hlt2 : (j : Int) < (M : Int) + 1 := by omega
        obtain ⟨p1, p2, p3, p4⟩ := HJ.out j hlt
        have HSub := Lib.hid p3
        have HFl := Lib.hid (HFL.out j hlt)
        have HPre := Lib.hid (HPR.out j hj)
        have HFs := Lib.hid (fm_succ F j)
        have HFe := Lib.hid (HFE.out j)
        have HVl := Lib.hid (show vs.length ≤ 1000 by rw [HLL.out.len]; exact HPre.out)
        have HSZ := Lib.hid (show w.heap.size ≤ wr.heap.size from HG0.out.size)
        clear p3
        go_wp2_with (first
          | (go_at_call 68; rw [HSub.out]; refine (IH.out (xs ++ [(j : Int)]) (left - j * K) (.slice (some ⟨g1, 0, none⟩) (K + 1) cap1) B w1 RA.out SB.out (by have h5 := HRL.out; rw [List.length_append, HK.out, List.length_singleton]; omega) p4 (by rw [← HFe.out]; exact HFl.out)).mono ?_; rw [← HFe.out]; rintro e w2 ⟨u2, vs2, rfl, hl2, hg2, hr2⟩; obtain ⟨q1, q2, q3⟩ := step_keep rfl HK.out HVB.out HG0.out (grown_allocV wr _ none) HLL.out GG1.out DD1.out RB.out hg2 hr2; have L2 := Lib.hid q1; have G2 := Lib.hid q2; have R2 := Lib.hid q3; have M2 := Lib.hid hl2; have SZ2 := Lib.hid (show w.heap.size ≤ w2.heap.size from q2.size); have UU := Lib.hid (Und.mono HLL.out.und SZ1.out); obtain ⟨a2, c2, hu2⟩ := hl2.lenY9; subst hu2; clear q1 q2 q3 hl2 hg2 hr2)
          | (at_builtin; refine wpList_appB rfl (.tmp 39) (.tmp 41) rfl B wr.heap.size (.slice a K cap0) xs (j : Int) rfl rfl (HR0.out.alloc _) (by simp [go_sem]) (by have := HK.out; omega) (by simp; have := HSZ.out; have := HBw.out; omega) ?_; rw [HK.out]; intro g1 cap1 w1 hra hrb hg1 hd1; have RA := Lib.hid hra; have RB := Lib.hid hrb; have GG1 := Lib.hid hg1; have DD1 := Lib.hid hd1; have SB := Lib.hid (show B ≤ w1.heap.size by have h1 := hg1.size; simp at h1; have := HSZ.out; have := HBw.out; omega); have SZ1 := Lib.hid (show wr.heap.size ≤ w1.heap.size by have h1 := hg1.size; simp at h1; omega); clear hra hrb hg1 hd1)
          | (at_builtin; refine wpList_appG rfl (.tmp 38) (.tmp 49) 31 24 (.slice none 0 0) 24 Try.underlying31 infoL (by omega) rfl rfl w.heap.size _ _ _ vs vs2 rfl rfl L2.out.row M2.out.row (fun q hq => M2.out.one' hq) (by have h1 := HVl.out; have h2 := HFl.out; rw [M2.out.len]; omega) SZ2.out ?_; intro v4 w4 hr4 hg4 hb4; obtain ⟨q1, q2, q3⟩ := last_keep rfl HVB.out (Nat.le_trans HSZ.out SZ1.out) L2.out M2.out UU.out G2.out R2.out hr4 hg4; rw [← HFs.out] at q1; have L4 := Lib.hid q1; have G4 := Lib.hid q2; have R4 := Lib.hid q3; clear q1 q2 q3 hr4 hg4 hb4))
        go_roundw
        case rel => exact ⟨j + 1, _, by omega, by go_num, L4.out, G4.out, R4.out⟩
        case measure => simp [intOf]; omega
      · obtain rfl : j = M + 1 := by omega
        have hlt2 : ¬ ((M + 1 : Nat) : Int) < (M : Int) + 1 := by omega
        go_wp2
        go_ret
        exact ⟨_, rfl, ⟨vs, by rw [HTot.out]; exact HLL.out⟩, HG0.out, HR0.out⟩
  · have HMn := Lib.hid (show pMost n left K = left / K from if_neg hK0)
    rw [HMn.out] at HTot HFL HPR HJ hMn
    obtain ⟨M, hM⟩ : ∃ M, M = left / K := ⟨_, rfl⟩
    have hk0 : (0 : Int) < (K : Int) := by omega
    have hkz : ((K : Int) == 0) = false := beq_no (by omega)
    have hkz2 : ¬ (K : Int) = 0 := by omega
    have hq1 : (left : Int).tdiv (K : Int) = (M : Int) := by rw [hM]; exact quoN_pos left K
    have hq2 : (left : Int) / (K : Int) = (M : Int) := by rw [hM]; rfl
    rw [← hM] at HTot HFL HPR HJ hMn
    clear hM hK0 HMn
    go_enter Try.func68, Try.ntmps68
    go_wp2_with fail
    rw [show decide (0 < K) = true from decide_eq_true (by omega)]
    go_loopw [11, 35] (fun o i wr => ∃ (j : Nat) (vs : List Value), j ≤ M + 1 ∧ i = .int .i64 (j : Int) ∧ LLi wr w.heap.size o vs ((List.range j).flatMap F) ∧ w.grownBy wr (Value.slice a K cap0).ownBlock ∧ Rd wr B (.slice a K cap0) xs) (fun _ i _ => M + 1 - (intOf i).toNat)
    case atStart => exact ⟨0, [], Nat.zero_le _, rfl, LLi.nil _ _, World.grownBy.refl _ _, H.out⟩
    case round =>
      obtain ⟨j, vs, hj, rfl, hll, hg0, hr0⟩ := hrel
      have HLL := Lib.hid hll
      have HG0 := Lib.hid hg0
      have HR0 := Lib.hid hr0
      clear hll hg0 hr0
      by_cases hlt : j ≤ M
      · have hlt2 : (j : Int) < (M : Int) + 1 := by omega
        obtain ⟨p1, p2, p3, p4⟩ := HJ.out j hlt
        have HSub := Lib.hid p3
        have HFl := Lib.hid (HFL.out j hlt)
        have HPre := Lib.hid (HPR.out j hj)
        have HFs := Lib.hid (fm_succ F j)
        have HFe := Lib.hid (HFE.out j)
        have HVl := Lib.hid (show vs.length ≤ 1000 by rw [HLL.out.len]; exact HPre.out)
        have HSZ := Lib.hid (show w.heap.size ≤ wr.heap.size from HG0.out.size)
        clear p3
        go_wp2_with (first
          | (go_at_call 68; rw [HSub.out]; refine (IH.out (xs ++ [(j : Int)]) (left - j * K) (.slice (some ⟨g1, 0, none⟩) (K + 1) cap1) B w1 RA.out SB.out (by have h5 := HRL.out; rw [List.length_append, HK.out, List.length_singleton]; omega) p4 (by rw [← HFe.out]; exact HFl.out)).mono ?_; rw [← HFe.out]; rintro e w2 ⟨u2, vs2, rfl, hl2, hg2, hr2⟩; obtain ⟨q1, q2, q3⟩ := step_keep rfl HK.out HVB.out HG0.out (grown_allocV wr _ none) HLL.out GG1.out DD1.out RB.out hg2 hr2; have L2 := Lib.hid q1; have G2 := Lib.hid q2; have R2 := Lib.hid q3; have M2 := Lib.hid hl2; have SZ2 := Lib.hid (show w.heap.size ≤ w2.heap.size from q2.size); have UU := Lib.hid (Und.mono HLL.out.und SZ1.out); obtain ⟨a2, c2, hu2⟩ := hl2.lenY9; subst hu2; clear q1 q2 q3 hl2 hg2 hr2)
          | (at_builtin; refine wpList_appB rfl (.tmp 39) (.tmp 41) rfl B wr.heap.size (.slice a K cap0) xs (j : Int) rfl rfl (HR0.out.alloc _) (by simp [go_sem]) (by have := HK.out; omega) (by simp; have := HSZ.out; have := HBw.out; omega) ?_; rw [HK.out]; intro g1 cap1 w1 hra hrb hg1 hd1; have RA := Lib.hid hra; have RB := Lib.hid hrb; have GG1 := Lib.hid hg1; have DD1 := Lib.hid hd1; have SB := Lib.hid (show B ≤ w1.heap.size by have h1 := hg1.size; simp at h1; have := HSZ.out; have := HBw.out; omega); have SZ1 := Lib.hid (show wr.heap.size ≤ w1.heap.size by have h1 := hg1.size; simp at h1; omega); clear hra hrb hg1 hd1)
          | (at_builtin; refine wpList_appG rfl (.tmp 38) (.tmp 49) 31 24 (.slice none 0 0) 24 Try.underlying31 infoL (by omega) rfl rfl w.heap.size _ _ _ vs vs2 rfl rfl L2.out.row M2.out.row (fun q hq => M2.out.one' hq) (by have h1 := HVl.out; have h2 := HFl.out; rw [M2.out.len]; omega) SZ2.out ?_; intro v4 w4 hr4 hg4 hb4; obtain ⟨q1, q2, q3⟩ := last_keep rfl HVB.out (Nat.le_trans HSZ.out SZ1.out) L2.out M2.out UU.out G2.out R2.out hr4 hg4; rw [← HFs.out] at q1; have L4 := Lib.hid q1; have G4 := Lib.hid q2; have R4 := Lib.hid q3; clear q1 q2 q3 hr4 hg4 hb4))
        go_roundw
        case rel => exact ⟨j + 1, _, by omega, by go_num, L4.out, G4.out, R4.out⟩
        case measure => simp [intOf]; omega
      · obtain rfl : j = M + 1 := by omega
        have hlt2 : ¬ ((M + 1 : Nat) : Int) < (M : Int) + 1 := by omega
        go_wp2
        go_ret
        exact ⟨_, rfl, ⟨vs, by rw [HTot.out]; exact HLL.out⟩, HG0.out, HR0.out⟩

theorem stb_any (n : Nat) (hn1 : 1 ≤ n) (hn10 : n ≤ 10) : ∀ (r : Nat) (xs : List Int) (left : Nat) (v : Value) (B : Nat) (w : World), Rd w B v xs → B ≤ w.heap.size → xs.length + r = n → left ≤ n → (pS n r xs left).length ≤ 1000 →
      Calls Try.prog 68 #[v, .int .i64 (n : Int), .int .i64 (left : Int)] w fun e w' => ∃ u vs, e = .returned u ∧ LLi w' w.heap.size u vs (pS n r xs left) ∧ w.grownBy w' v.ownBlock ∧ Rd w' B v xs
  | 0, xs, left, v, B, w, h, hB, hl, _, _ => stb_zero n hn1 hn10 xs left v B w h hB hl
  | r + 1, xs, left, v, B, w, h, hB, hl, h2, h3 => stb_succ n r hn1 hn10 (fun xs left v B w => stb_any n hn1 hn10 r xs left v B w) xs left v B w h hB hl h2 h3

end Go.Proofs.Ytmdjmbmkgboeaaa
