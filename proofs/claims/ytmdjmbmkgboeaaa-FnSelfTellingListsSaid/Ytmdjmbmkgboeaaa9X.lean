/-
  Lists that tell themselves: the model's search, the answers (written by wip/tools/gen_9x.py).
-/
import Derived.Test.Ytmdjmbmkgboeaaa9W
import Derived.Test.YtmdjmbmkgboeaaaR
namespace Go.Proofs.Ytmdjmbmkgboeaaa
open Go.RowKit
set_option linter.unusedVariables false
set_option linter.unusedSimpArgs false
set_option maxRecDepth 100000

theorem Rd.lenK {w : World} {B n : Nat} {v : Value} {xs : List Int} (h : Rd w B v xs) (hn : xs.length = n) : ∃ a cap, v = .slice a n cap := by
  subst hn; exact h.sl.len

/-- Rows that lie before a block are left alone by what is written from it on. -/
theorem LLi.apartRow {w w' : World} {C D : Nat} {v : Value} {vs : List Value} {ls : List (List Int)} {row : Option Nat} (h : LLi w C v vs ls) (hg : w.grownBy w' row) (hu : Und D v vs) (hr : ∀ k, row = some k → D ≤ k) : LLi w' C v vs ls := by
  refine h.grown hg ?_ (fun i u hi => ?_)
  · cases hq : v.ownBlock with
    | none => exact .inl rfl
    | some k => right; intro e; have h1 := hu.1 k hq; have h2 := hr k e.symm; omega
  · cases hq : u.ownBlock with
    | none => exact .inl rfl
    | some k => right; intro e; have h1 := hu.2 i u hi k hq; have h2 := hr k e.symm; omega

/-- Numbers of 0 .. 10. -/
def Sm (xs : List Int) : Prop := ∀ x ∈ xs, 0 ≤ x ∧ x ≤ 10
theorem Sm.snoc {xs : List Int} (h : Sm xs) {d : Nat} (hd : d ≤ 10) : Sm (xs ++ [(d : Int)]) := fun x hx => by
  rcases List.mem_append.1 hx with hx | hx
  · exact h x hx
  · simp at hx; omega

theorem teSelf_big (n r : Nat) (hn10 : n ≤ 10) (xs : List Int) (v : Value) (B : Nat) (w : World) (h : Rd w B v xs) (hl : xs.length ≤ 10) (hs : Sm xs) (hb : (n : Int) < xs.sum) :
    Calls Try.prog 69 #[v, .int .i64 (n : Int)] w fun e w' => ∃ u vs, e = .returned u ∧ LLi w' w.heap.size u vs (mS n r xs) ∧ Below w.heap.size w w' := by
  have H := Lib.hid h
  have HS := Lib.hid (fun w' (h : Rd w' B v xs) => dgSum_any v xs B w' h (fun x hx => ⟨(hs x hx).1, by have := (hs x hx).2; omega⟩) (by omega))
  have HM := Lib.hid (show mS n r xs = [] by cases r with | zero => exact if_pos hb | succ r => exact if_pos hb)
  obtain ⟨q, hq⟩ : ∃ q, q = xs.sum := ⟨_, rfl⟩
  rw [← hq] at HS hb
  rw [HM.out]
  obtain ⟨a, cap, rfl⟩ := h.sl.len
  clear h hs hq hl
  go_enter Try.func69, Try.ntmps69
  go_wp2_with (go_at_call 100; refine (HS.out _ H.out).mono ?_; rintro e w1 ⟨rfl, rfl⟩)
  go_ret
  exact ⟨_, [], rfl, LLi.nil _ _, Below.refl _ _⟩

theorem teSelf_zero (n : Nat) (hn1 : 1 ≤ n) (hn10 : n ≤ 10) (xs : List Int) (v : Value) (B : Nat) (w : World) (h : Rd w B v xs) (hl : xs.length = n) (hs : Sm xs) (hb : ¬ (n : Int) < xs.sum) :
    Calls Try.prog 69 #[v, .int .i64 (n : Int)] w fun e w' => ∃ u vs, e = .returned u ∧ LLi w' w.heap.size u vs (mS n 0 xs) ∧ Below w.heap.size w w' := by
  have H := Lib.hid h
  have HS := Lib.hid (fun w' (h : Rd w' B v xs) => dgSum_any v xs B w' h (fun x hx => ⟨(hs x hx).1, by have := (hs x hx).2; omega⟩) (by omega))
  have HT := Lib.hid (fun w' (h : Sl w' v xs) => teCounts_any v xs w' h (by omega) (by omega))
  have HE := Lib.hid (fun w' u (h : Sl w' u (cnL xs.length xs)) (h2 : Sl w' v xs) => l1Same_any u v (cnL xs.length xs) xs w' h h2 (by rw [cnL_len]; omega) (by omega))
  have HC := Lib.hid (fun w' (h : Rd w' B v xs) => l1Own_any v xs w' B h (by omega))
  have HQ := Lib.hid (show decide (cnL xs.length xs = xs) = selB xs from rfl)
  rw [HQ.out] at HE
  have HM := Lib.hid (show mS n 0 xs = if selB xs = true then [xs] else [] from if_neg hb)
  rw [HM.out]
  obtain ⟨q, hq⟩ : ∃ q, q = xs.sum := ⟨_, rfl⟩
  rw [← hq] at HS hb
  obtain ⟨X, hX⟩ : ∃ X, X = cnL xs.length xs := ⟨_, rfl⟩
  rw [← hX] at HT HE
  obtain ⟨a, cap, rfl⟩ := h.sl.len
  rw [hl] at HS HT HE HC H ⊢
  have heq : ((n : Int) == (n : Int)) = true := beq_yes rfl
  clear h hs hq hl hX HQ
  cases hse : selB xs with
  | true =>
    rw [hse] at HE
    rw [if_pos rfl]
    clear hse
    go_enter Try.func69, Try.ntmps69
    go_wp2_with (first | (go_at_call 100; refine (HS.out _ H.out).mono ?_; rintro e w1 ⟨rfl, rfl⟩) | (go_at_call 71; refine (HT.out _ H.out.sl).mono ?_; rintro e w1 ⟨u, rfl, hr, hb⟩; have HR := Lib.hid hr; have HB := Lib.hid hb; have H1 := Lib.hid (H.out.keep hb); clear hr hb) | (go_at_call 70; refine (HE.out _ _ HR.out.sl H1.out.sl).mono ?_; rintro e w2 ⟨rfl, hb⟩; have HB2 := Lib.hid (Below.step HB.out HB.out.size hb); have H2 := Lib.hid (H1.out.keep hb); clear hb) | (go_at_call 90; refine (HC.out _ H2.out).mono ?_; rintro e w3 ⟨u3, rfl, hr, hb⟩; have R3 := Lib.hid (hr.mono HB2.out.size); have B3 := Lib.hid (Below.step HB2.out HB2.out.size hb); obtain ⟨au, cu, rfl⟩ := hr.sl.len; clear hr hb))
    go_ret
    exact ⟨_, [_], rfl, LLi.one _ _ _ _ R3.out B3.out.size, Below.step B3.out B3.out.size (alloc_below w3 _)⟩
  | false =>
    rw [hse] at HE
    rw [if_neg (by simp)]
    clear hse
    go_enter Try.func69, Try.ntmps69
    go_wp2_with (first | (go_at_call 100; refine (HS.out _ H.out).mono ?_; rintro e w1 ⟨rfl, rfl⟩) | (go_at_call 71; refine (HT.out _ H.out.sl).mono ?_; rintro e w1 ⟨u, rfl, hr, hb⟩; have HR := Lib.hid hr; have HB := Lib.hid hb; have H1 := Lib.hid (H.out.keep hb); clear hr hb) | (go_at_call 70; refine (HE.out _ _ HR.out.sl H1.out.sl).mono ?_; rintro e w2 ⟨rfl, hb⟩; have HB2 := Lib.hid (Below.step HB.out HB.out.size hb); clear hb))
    go_ret
    exact ⟨_, [], rfl, LLi.nil _ _, HB2.out⟩

theorem teSelf_succ (n r : Nat) (hn1 : 1 ≤ n) (hn10 : n ≤ 10)
    (ih : ∀ (xs : List Int) (v : Value) (B : Nat) (w : World), Rd w B v xs → xs.length + r = n → Sm xs → (mS n r xs).length ≤ 1000 →
      Calls Try.prog 69 #[v, .int .i64 (n : Int)] w fun e w' => ∃ u vs, e = .returned u ∧ LLi w' w.heap.size u vs (mS n r xs) ∧ Below w.heap.size w w')
    (xs : List Int) (v : Value) (B : Nat) (w : World) (h : Rd w B v xs) (hl : xs.length + (r + 1) = n) (hs : Sm xs) (hb : ¬ (n : Int) < xs.sum) (hfew : (mS n (r + 1) xs).length ≤ 1000) :
    Calls Try.prog 69 #[v, .int .i64 (n : Int)] w fun e w' => ∃ u vs, e = .returned u ∧ LLi w' w.heap.size u vs (mS n (r + 1) xs) ∧ Below w.heap.size w w' := by
  have H := Lib.hid h
  have IH := Lib.hid ih
  have HSm := Lib.hid hs
  have HS := Lib.hid (fun w' (h : Rd w' B v xs) => dgSum_any v xs B w' h (fun x hx => ⟨(hs x hx).1, by have := (hs x hx).2; omega⟩) (by omega))
  have HC := Lib.hid (fun w' (h : Rd w' B v xs) => l1Own_any v xs w' B h (by omega))
  obtain ⟨F, hF⟩ : ∃ F : Nat → List (List Int), F = fun d => mS n r (xs ++ [((d : Nat) : Int)]) := ⟨_, rfl⟩
  have HFE := Lib.hid (fun d => congrFun hF d)
  have HTot := Lib.hid (show mS n (r + 1) xs = (List.range n).flatMap F by rw [hF]; exact if_neg hb)
  rw [HTot.out] at hfew
  have HFL := Lib.hid (fun d (hd : d < n) => Nat.le_trans (fm_len_mem F (List.range n) d (List.mem_range.2 hd)) hfew)
  have HPR := Lib.hid (fun j (hj : j ≤ n) => Nat.le_trans (fm_len_pre F hj) hfew)
  obtain ⟨q, hq⟩ : ∃ q, q = xs.sum := ⟨_, rfl⟩
  rw [← hq] at HS hb
  obtain ⟨a, cap0, rfl⟩ := h.sl.len
  obtain ⟨K, hK⟩ : ∃ K, xs.length = K := ⟨_, rfl⟩
  have HK := Lib.hid hK
  rw [hK] at H HS HC ⊢
  have HRL := Lib.hid (show K + (r + 1) = n by rw [← hK]; exact hl)
  have hKn : K < n := by have := HRL.out; omega
  have hne : ((K : Int) == (n : Int)) = false := beq_no (by omega)
  clear h ih hF hfew hK hl hs hq
  go_enter Try.func69, Try.ntmps69
  go_wp2_with (go_at_call 100; refine (HS.out _ H.out).mono ?_; rintro e w1 ⟨rfl, rfl⟩)
  go_loopw [6, 7] (fun o i wr => ∃ (j : Nat) (vs : List Value), j ≤ n ∧ i = .int .i64 (j : Int) ∧ LLi wr w.heap.size o vs ((List.range j).flatMap F) ∧ Below w.heap.size w wr) (fun _ i _ => n - (intOf i).toNat)
  case atStart => exact ⟨0, [], Nat.zero_le _, rfl, LLi.nil _ _, Below.refl _ _⟩
  case round =>
    obtain ⟨j, vs, hj, rfl, hll, hbl⟩ := hrel
    have HLL := Lib.hid hll
    have HB0 := Lib.hid hbl
    have HR0 := Lib.hid (H.out.keep hbl)
    clear hll hbl
    by_cases hlt : j < n
    · have hlt2 : (j : Int) < (n : Int) := by omega
      have HFl := Lib.hid (HFL.out j hlt)
      have HPre := Lib.hid (HPR.out j hj)
      have HFs := Lib.hid (fm_succ F j)
      have HFe := Lib.hid (HFE.out j)
      have HVl := Lib.hid (show vs.length ≤ 1000 by rw [HLL.out.len]; exact HPre.out)
      go_wp2_with (first
        | (go_at_call 90; refine (HC.out _ HR0.out).mono ?_; rintro e w1 ⟨u1, rfl, hr1, hb1⟩; have R1 := Lib.hid hr1; have B1 := Lib.hid (Below.step HB0.out HB0.out.size hb1); have L1 := Lib.hid (HLL.out.keep hb1); have OLD := Lib.hid hb1.size; have UW := Lib.hid (Und.mono HLL.out.und (Nat.le_refl _)); clear hr1 hb1)
        | (go_at_call 69; refine (IH.out (xs ++ [(j : Int)]) _ wr.heap.size w2 R2.out (by have h5 := HRL.out; rw [List.length_append, HK.out, List.length_singleton]; omega) (HSm.out.snoc (by omega)) (by rw [← HFe.out]; exact HFl.out)).mono ?_; rw [← HFe.out]; rintro e w3 ⟨u3, vs3, rfl, hl3, hb3⟩; have L3 := Lib.hid (L2.out.keep hb3); have M3 := Lib.hid hl3; have B3 := Lib.hid (Below.step B2.out B2.out.size hb3); have UU := Lib.hid L2.out.und; have SZ := Lib.hid B2.out.size; obtain ⟨a3, c3, hu3⟩ := hl3.lenY9; subst hu3; clear hl3 hb3)
        | (at_builtin; refine wpList_appG rfl (.tmp 29) (.tmp 36) 31 24 (.slice none 0 0) 24 Try.underlying31 infoL (by omega) rfl rfl w.heap.size _ _ _ vs vs3 rfl rfl L3.out.row M3.out.row (fun q hq => M3.out.one' hq) (by have h1 := HVl.out; have h2 := HFl.out; rw [M3.out.len]; omega) B3.out.size ?_; intro v4 w4 hr4 hg4 hb4; have q1 := L3.out.append M3.out SZ.out UU.out hr4 hg4; rw [← HFs.out] at q1; have L4 := Lib.hid q1; have B4 := Lib.hid (B3.out.trans hb4); clear q1 hr4 hg4 hb4)
        | (at_builtin; refine wpList_appR rfl (.tmp 31) (.tmp 33) rfl wr.heap.size wr.heap.size _ _ xs [(j : Int)] rfl rfl (R1.out.alloc _) (Rd.litB _ _ _ OLD.out) (by have := HK.out; simp; omega) (by simp; exact Nat.le_trans OLD.out (by omega)) ?_; intro v2 w2 hr2 hg2 hb2; have R2 := Lib.hid hr2; have B2 := Lib.hid ((B1.out.alloc B1.out.size _).trans (hb2.mono HB0.out.size)); have L2 := Lib.hid ((L1.out.alloc _).apartRow hg2 UW.out (fun k hk => (R1.out.lt k hk).1)); obtain ⟨a2, c2, hu2⟩ := hr2.lenK (n := K + 1) (by rw [List.length_append, HK.out, List.length_singleton]); subst hu2; clear hr2 hg2 hb2))
      go_roundw
      case rel => exact ⟨j + 1, _, by omega, by go_num, L4.out, B4.out⟩
      case measure => simp [intOf]; omega
    · obtain rfl : j = n := by omega
      have hlt2 : ¬ (j : Int) < (j : Int) := by omega
      go_wp2
      go_ret
      exact ⟨_, rfl, ⟨vs, by rw [HTot.out]; exact HLL.out⟩, HB0.out⟩

theorem teSelf_any (n : Nat) (hn1 : 1 ≤ n) (hn10 : n ≤ 10) : ∀ (r : Nat) (xs : List Int) (v : Value) (B : Nat) (w : World), Rd w B v xs → xs.length + r = n → Sm xs → (mS n r xs).length ≤ 1000 →
      Calls Try.prog 69 #[v, .int .i64 (n : Int)] w fun e w' => ∃ u vs, e = .returned u ∧ LLi w' w.heap.size u vs (mS n r xs) ∧ Below w.heap.size w w'
  | 0, xs, v, B, w, h, hl, hs, _ => by
    by_cases hb : (n : Int) < xs.sum
    · exact teSelf_big n 0 hn10 xs v B w h (by omega) hs hb
    · exact teSelf_zero n hn1 hn10 xs v B w h hl hs hb
  | r + 1, xs, v, B, w, h, hl, hs, hf => by
    by_cases hb : (n : Int) < xs.sum
    · exact teSelf_big n (r + 1) hn10 xs v B w h (by omega) hs hb
    · exact teSelf_succ n r hn1 hn10 (fun xs v B w => teSelf_any n hn1 hn10 r xs v B w) xs v B w h hl hs hb hf

end Go.Proofs.Ytmdjmbmkgboeaaa
