/-
  Joint text of 5A 5F 5L 5D 5E 5S 5T (written by wip/tools/merge.py).
-/
import Derived.Test.YtnggfcopndcppaaTI
import Derived.Test.YtnggfcopndcppaaTQ
import Derived.Test.YtnggfcopndcppaaNY
import Derived.Test.Ytnggfcopndcppaa0D
import Derived.Test.Ytnggfcopndcppaa0B
import Derived.Test.Ytnggfcopndcppaa0H
import Derived.Test.Ytnggfcopndcppaa0J
import Derived.Test.YtnggfcopndcppaaTG
/- from X5A -/
namespace Go.Proofs.Ytnggfcopndcppaa
set_option linter.unusedVariables false
set_option linter.unusedSimpArgs false

/-- What comes into a place. -/
def crA (C : List Int) (k : Nat) : Int := if k = 0 then 0 else C.getD (k - 1) 0
theorem place_at (b : Int) : ∀ (ss : List Int) (c : Int) (k : Nat), k < ss.length → ss.getD k 0 + (if k = 0 then c else (cyA b ss c).getD (k - 1) 0) = (dgA b ss c).getD k 0 + b * (cyA b ss c).getD k 0
  | [], c, k, h => by simp at h
  | s :: ss, c, 0, h => by
    have := Int.mul_ediv_add_emod (s + c) b
    simp only [cyA, dgA, List.getD_cons_zero, if_pos]
    omega
  | s :: ss, c, k + 1, h => by
    have ih := place_at b ss ((s + c) / b) k (by simpa using h)
    simp only [cyA, dgA, List.getD_cons_succ]
    rw [if_neg (by omega)]
    cases k with
    | zero => simpa using ih
    | succ k => simpa using ih
theorem co_last (b : Int) : ∀ (ss : List Int) (c : Int), coA b ss c = if ss.length = 0 then c else (cyA b ss c).getD (ss.length - 1) 0
  | [], c => rfl
  | s :: ss, c => by
    rw [coA, co_last b ss]
    cases ss with
    | nil => simp [cyA]
    | cons t ss => simp [cyA]
theorem cy_none {b : Int} : ∀ (ss : List Int), (∀ x ∈ cyA b ss 0, x = 0) → dgA b ss 0 = ss.map (· % b) ∧ ∀ s ∈ ss, s / b = 0
  | [], _ => ⟨rfl, fun s hs => by simp at hs⟩
  | s :: ss, h => by
    have h0 : (s + 0) / b = 0 := h _ (by simp [cyA])
    have h1 : ∀ x ∈ cyA b ss 0, x = 0 := fun x hx => h x (by rw [cyA, h0]; simp [hx])
    obtain ⟨i1, i2⟩ := cy_none ss h1
    rw [dgA, h0, i1]
    refine ⟨by simp, fun t ht => ?_⟩
    rcases List.mem_cons.1 ht with rfl | ht
    · rw [Int.add_zero] at h0; exact h0
    · exact i2 t ht
theorem smA_rev (xs : List Int) : smA 1 1 xs.reverse = smA 1 1 xs := by
  apply List.ext_getElem
  · simp [smA]
  · intro k h1 h2
    simp [smA]
    omega
theorem smA_sym (xs : List Int) : (smA 1 1 xs).reverse = smA 1 1 xs := by
  apply List.ext_getElem
  · simp [smA]
  · intro k h1 h2
    have hk : k < xs.length := by simp [smA] at h2; exact h2
    simp only [smA, List.getElem_reverse, List.getElem_zipWith, List.length_zipWith, List.length_reverse, Nat.min_self]
    simp only [show xs.length - 1 - (xs.length - 1 - k) = k by omega]
    omega
theorem sum_zero : ∀ (xs : List Int), (∀ x ∈ xs, 0 ≤ x) → (0 ≤ xs.sum ∧ (xs.sum = 0 → ∀ x ∈ xs, x = 0))
  | [], _ => ⟨by simp, fun _ x hx => by simp at hx⟩
  | x :: xs, h => by
    obtain ⟨i1, i2⟩ := sum_zero xs (fun y hy => h y (by simp [hy]))
    have h0 := h x (by simp)
    rw [List.sum_cons]
    refine ⟨by omega, fun h2 y hy => ?_⟩
    rcases List.mem_cons.1 hy with rfl | hy
    · omega
    · exact i2 (by omega) y hy
theorem getD_memA {xs : List Int} {k : Nat} (h : k < xs.length) : xs.getD k 0 ∈ xs := by
  rw [List.getD_eq_getElem?_getD, List.getElem?_eq_getElem h]
  exact List.getElem_mem h
theorem getD_someA {xs : List Int} {k : Nat} (h : k < xs.length) : xs[k]? = some (xs.getD k 0) := by
  rw [List.getD_eq_getElem?_getD, List.getElem?_eq_getElem h]
  rfl

/-- What the law asks of digits xs to the base b: the carries C, the sum Z, what goes over. -/
structure AddF (b : Int) (xs C Z : List Int) (over : Nat) : Prop where
  clen : C.length = xs.length
  cin : ∀ c ∈ C, 0 ≤ c ∧ c ≤ 1
  none : ncB b xs = decide (C.sum = 0)
  last : C.getD (xs.length - 1) 0 = (over : Int)
  ov : over ≤ 1
  zlen : Z.length = xs.length + over
  zin : ∀ z ∈ Z, 0 ≤ z ∧ z ≤ b - 1
  head : over = 1 → Z.getD 0 0 = 1
  place : ∀ i, i < xs.length → xs.getD i 0 + xs.reverse.getD i 0 + crA C (xs.length - 1 - i) = Z.getD (over + i) 0 + b * C.getD (xs.length - 1 - i) 0
  sym : ncB b xs = true → palB Z = true
theorem add_facts {b : Int} {xs : List Int} (h : Dg b xs) : ∃ over, AddF b xs (cyA b (smA 1 1 xs) 0) (rvA b xs) over := by
  have hb := h.b2
  have hl := h.l1
  have hco := h.co
  have hin : ∀ c ∈ cyA b (smA 1 1 xs) 0, 0 ≤ c ∧ c ≤ 1 := cyA_all b h.b2 _ 0 (smA_pos b xs h.all) (by omega) (by omega)
  have hcl := co_last b (smA 1 1 xs) 0
  rw [smA_len, if_neg (by omega)] at hcl
  have hz : rvA b xs = (if (coA b (smA 1 1 xs) 0).toNat = 1 then [coA b (smA 1 1 xs) 0] else []) ++ (dgA b (smA 1 1 xs) 0).reverse := by
    unfold rvA
    by_cases h0 : 0 < coA b (smA 1 1 xs) 0
    · rw [if_pos h0, if_pos (by omega)]
    · rw [if_neg h0, if_neg (by omega)]
  refine ⟨(coA b (smA 1 1 xs) 0).toNat, by rw [cyA_len, smA_len], hin, ?_, by rw [← hcl]; omega, by omega, ?_, ?_, ?_, ?_, ?_⟩
  · by_cases hs : (cyA b (smA 1 1 xs) 0).sum = 0
    · rw [decide_eq_true hs]
      refine (allIn_iff _ _ _).2 (fun x hx => ?_)
      have := (sum_zero _ (fun y hy => (hin y hy).1)).2 hs x hx
      omega
    · rw [decide_eq_false hs]
      refine Bool.eq_false_iff.2 (fun hc => hs ?_)
      have hc2 := (allIn_iff _ _ _).1 hc
      have : ∀ (ys : List Int), (∀ y ∈ ys, 0 ≤ y ∧ y ≤ 0) → ys.sum = 0 := by
        intro ys
        induction ys with
        | nil => intro _; rfl
        | cons y ys ih =>
          intro hy
          rw [List.sum_cons, ih (fun z hz => hy z (by simp [hz]))]
          have := hy y (by simp)
          omega
      exact this _ hc2
  · rw [rvA_len']
    by_cases h0 : 0 < coA b (smA 1 1 xs) 0
    · rw [if_pos h0]; omega
    · rw [if_neg h0]; omega
  · intro z hz2
    unfold rvA at hz2
    rcases List.mem_append.1 hz2 with hx | hx
    · split at hx
      · simp at hx; omega
      · simp at hx
    · exact dgA_all b h.b2 _ 0 z (List.mem_reverse.1 hx)
  · intro h1
    unfold rvA
    rw [if_pos (by omega)]
    show coA b (smA 1 1 xs) 0 = 1
    omega
  · intro i hi
    have hp := place_at b (smA 1 1 xs) 0 (xs.length - 1 - i) (by rw [smA_len]; omega)
    have e1 : (smA 1 1 xs).getD (xs.length - 1 - i) 0 = xs.getD i 0 + xs.reverse.getD i 0 := by
      have hk : xs.length - 1 - i < (smA 1 1 xs).length := by rw [smA_len]; omega
      rw [List.getD_eq_getElem?_getD, List.getElem?_eq_getElem hk, Option.getD_some, smA_at 1 1 xs _ (by omega)]
      rw [List.getD_eq_getElem?_getD, List.getElem?_eq_getElem hi, List.getD_eq_getElem?_getD, List.getElem?_eq_getElem (by simpa using hi)]
      simp only [Option.getD_some, List.getElem_reverse, show xs.length - 1 - (xs.length - 1 - i) = i by omega]
      omega
    have e2 : (rvA b xs).getD ((coA b (smA 1 1 xs) 0).toNat + i) 0 = (dgA b (smA 1 1 xs) 0).getD (xs.length - 1 - i) 0 := by
      have hdl : (dgA b (smA 1 1 xs) 0).length = xs.length := by rw [dgA_len, smA_len]
      have e3 : (dgA b (smA 1 1 xs) 0).reverse.getD i 0 = (dgA b (smA 1 1 xs) 0).getD (xs.length - 1 - i) 0 := by
        rw [List.getD_eq_getElem?_getD, List.getD_eq_getElem?_getD, List.getElem?_reverse (by omega), hdl]
      rw [← e3, hz]
      by_cases h1 : (coA b (smA 1 1 xs) 0).toNat = 1
      · rw [if_pos h1, h1, List.getD_eq_getElem?_getD, List.getElem?_append_right (by simp)]
        rw [List.getD_eq_getElem?_getD]
        simp
      · rw [if_neg h1, show (coA b (smA 1 1 xs) 0).toNat = 0 by omega, Nat.zero_add]
        rfl
    rw [e1] at hp
    rw [e2, ← hp]
    rfl
  · intro hn
    have hn2 : ∀ x ∈ cyA b (smA 1 1 xs) 0, x = 0 := fun x hx => by
      have := (allIn_iff _ _ _).1 hn x hx
      omega
    obtain ⟨d1, d2⟩ := cy_none _ hn2
    have hc0 : coA b (smA 1 1 xs) 0 = 0 := by
      rw [hcl]
      exact hn2 _ (getD_memA (by rw [cyA_len, smA_len]; omega))
    have hd : dgA b (smA 1 1 xs) 0 = smA 1 1 xs := by
      rw [d1]
      have e : (smA 1 1 xs).map (· % b) = (smA 1 1 xs).map id := List.map_congr_left (fun s hs => by rw [Int.emod_def, d2 s hs]; simp)
      rw [e, List.map_id]
    have : rvA b xs = smA 1 1 xs := by
      unfold rvA
      rw [hc0, if_neg (by omega), hd, smA_sym]
      rfl
    rw [this]
    exact decide_eq_true (smA_sym xs).symm
/-- From behind the same. -/
theorem rvA_rev (b : Int) (xs : List Int) : rvA b xs.reverse = rvA b xs := by unfold rvA; rw [smA_rev]
theorem okR_rev {b : Int} {xs : List Int} (h : okR b xs = true) (hl : 0 < xs.reverse.headD 0) : okR b xs.reverse = true := by
  simp only [okR, areD, Bool.and_eq_true, decide_eq_true_eq] at h ⊢
  refine ⟨⟨h.1.1, by rw [List.length_reverse]; exact h.1.2⟩, ⟨by rw [List.length_reverse]; exact h.2.1.1, ?_⟩, ?_⟩
  · rw [decide_eq_true (show xs.reverse.headD 0 ≠ 0 by omega)]; simp
  · exact (allIn_iff _ _ _).2 (fun x hx => (allIn_iff _ _ _).1 h.2.2 x (List.mem_reverse.1 hx))
theorem headD_getD (xs : List Int) : xs.headD 0 = xs.getD 0 0 := by cases xs <;> rfl
/-- A sum's digits are digits. -/
theorem okR_sum {b : Int} {xs : List Int} (h : okR b xs = true) (hl : (rvA b xs).length ≤ 40) : okR b (rvA b xs) = true := by
  have hd := okR_dg h
  obtain ⟨over, hf⟩ := add_facts hd
  have h2 := hf.zlen
  have hl1 := hd.l1
  have hin : allIn 0 (b - 1) (rvA b xs) = true := (allIn_iff _ _ _).2 hf.zin
  have hne : (rvA b xs).length ≠ 0 := by omega
  simp only [okR, areD, Bool.and_eq_true, decide_eq_true_eq] at h ⊢
  refine ⟨⟨h.1.1, hl⟩, ⟨hne, ?_⟩, hin⟩
  by_cases h1 : (rvA b xs).length = 1
  · rw [decide_eq_true h1]; rfl
  · have hov := hf.ov
    have : (rvA b xs).headD 0 ≠ 0 := by
      rw [headD_getD]
      by_cases ho : over = 1
      · rw [hf.head ho]; omega
      · have hp := hf.place 0 (by omega)
        have hlast := hf.last
        rw [show xs.length - 1 - 0 = xs.length - 1 by omega, hlast, show over = 0 by omega] at hp
        have hx0 : xs.getD 0 0 ≠ 0 := by
          have := h.2.1.2
          rw [decide_eq_false (show ¬ xs.length = 1 by omega)] at this
          simp only [Bool.false_or, decide_eq_true_eq] at this
          rw [← headD_getD]; exact this
        have g1 := (hd.all _ (getD_memA (show 0 < xs.length by omega))).1
        have g2 := (hd.all _ (List.mem_reverse.1 (getD_memA (show 0 < xs.reverse.length by rw [List.length_reverse]; omega)))).1
        have g3 : 0 ≤ crA (cyA b (smA 1 1 xs) 0) (xs.length - 1) := by
          unfold crA
          split
          · omega
          · exact (hf.cin _ (getD_memA (by rw [hf.clen]; omega))).1
        simp only [Nat.zero_add, Int.natCast_zero, Int.mul_zero, Int.add_zero] at hp
        have hp2 : xs.getD 0 0 + xs.reverse.getD 0 0 + crA (cyA b (smA 1 1 xs) 0) (xs.length - 1) = (rvA b xs).getD 0 0 := by
          simpa using hp
        omega
    rw [decide_eq_true this]; simp
end Go.Proofs.Ytnggfcopndcppaa

/- from X5F -/
namespace Go.Proofs.Ytnggfcopndcppaa
set_option linter.unusedVariables false
set_option linter.unusedSimpArgs false

/-- A list is another one, or comes before it at some place. -/
inductive LLe : List Int → List Int → Prop
  | same (xs : List Int) : LLe xs xs
  | less (a b : Int) (p q r : List Int) (h : a < b) (hl : q.length = r.length) : LLe (p ++ a :: q) (p ++ b :: r)
theorem LLe.cons (x : Int) {ys xs : List Int} (h : LLe ys xs) : LLe (x :: ys) (x :: xs) := by
  cases h with
  | same => exact .same _
  | less a b p q r h hl => exact .less a b (x :: p) q r h hl
theorem LLe.snoc (y : Int) {ys xs : List Int} (h : LLe ys xs) : LLe (ys ++ [y]) (xs ++ [y]) := by
  cases h with
  | same => exact .same _
  | less a b p q r h hl => rw [List.append_assoc, List.append_assoc]; exact .less a b p (q ++ [y]) (r ++ [y]) h (by simp [hl])
theorem LLe_len {ys xs : List Int} (h : LLe ys xs) : ys.length = xs.length := by
  cases h with
  | same => rfl
  | less a b p q r h hl => simp [hl]

theorem peel : ∀ (w : Nat) (xs : List Int), xs.length = w + 2 → ∃ x mid y, xs = x :: (mid ++ [y]) ∧ mid.length = w := by
  intro w xs h
  match xs, h with
  | x :: t, h =>
    have ht : t ≠ [] := by intro hc; rw [hc] at h; simp at h
    refine ⟨x, t.dropLast, t.getLast ht, by rw [List.dropLast_concat_getLast ht], ?_⟩
    rw [List.length_dropLast]; simp at h; omega
theorem smA_wrap (x y : Int) (mid : List Int) : smA 1 1 (x :: (mid ++ [y])) = (x + y) :: (smA 1 1 mid ++ [x + y]) := by
  unfold smA
  rw [List.reverse_cons, List.reverse_append]
  simp only [List.reverse_cons, List.reverse_nil, List.nil_append, List.cons_append, List.zipWith_cons_cons]
  rw [List.zipWith_append (by simp)]
  simp
  omega

/-- Digits' own sums of pairs are found, counted, and the first digits with these sums don't come behind. -/
theorem pairs_of {b : Int} (hb : 2 ≤ b) : ∀ (w : Nat) (xs : List Int) (least : Int), xs.length = w → (∀ x ∈ xs, 0 ≤ x ∧ x ≤ b - 1) → 0 ≤ least → (0 < w → least ≤ xs.getD 0 0) →
    ∃ H, RH b w H ∧ fl w H = smA 1 1 xs ∧ 1 ≤ cntH b w least H ∧ LLe (fstH b w least H) xs := by
  intro w
  induction w using Nat.strongRecOn with
  | ind w ih =>
    intro xs least hl hx h0 h1
    match w, hl with
    | 0, hl =>
      rw [List.eq_nil_of_length_eq_zero hl]
      exact ⟨[], ⟨rfl, fun s hs => by simp at hs⟩, rfl, by simp [cntH], .same _⟩
    | 1, hl =>
      obtain ⟨x, rfl⟩ : ∃ x, xs = [x] := List.length_eq_one_iff.1 hl
      have h2 := hx x (by simp)
      have h3 : least ≤ x := h1 (by omega)
      refine ⟨[x + x], ⟨rfl, fun s hs => by simp at hs; omega⟩, ?_, ?_, ?_⟩
      · simp [fl, smA]
      · simp only [cntH]
        rw [if_pos (by omega)]
        omega
      · simp only [fstH]
        rw [show (x + x) / 2 = x by omega]
        exact .same _
    | w + 2, hl =>
      obtain ⟨x, mid, y, rfl, hm⟩ := peel w xs hl
      have hxx := hx x (by simp)
      have hyy := hx y (by simp)
      have h3 : least ≤ x := h1 (by omega)
      obtain ⟨H, hr, hf, hc, hle⟩ := ih w (by omega) mid 0 hm (fun z hz => hx z (by simp [hz])) (by omega) (fun hw => by
        exact (hx _ (List.mem_cons_of_mem _ (List.mem_append_left _ (getD_memA (xs := mid) (k := 0) (by omega))))).1)
      refine ⟨(x + y) :: H, hr.cons (by omega) (by omega), ?_, ?_, ?_⟩
      · rw [fl_step, hf, smA_wrap]
      · have hp : 1 ≤ prW b least (x + y) := by
          unfold prW
          rw [if_pos (by omega)]
          omega
        simp only [cntH]
        have := Int.mul_le_mul hp hc (by omega) (by omega)
        omega
      · simp only [fstH]
        by_cases he : max least (x + y - (b - 1)) = x
        · rw [he, show x + y - x = y by omega]
          exact (hle.snoc y).cons x
        · exact .less _ _ [] _ _ (by omega) (by have := LLe_len hle; simp [this])

/-- A list of sums that has digits: the first of these. -/
theorem fst_of {b : Int} (hb : 2 ≤ b) : ∀ (w : Nat) (least : Int) (H : List Int), RH b w H → 0 ≤ least → least ≤ 1 → ¬ cntH b w least H = 0 →
    (fstH b w least H).length = w ∧ (∀ x ∈ fstH b w least H, 0 ≤ x ∧ x ≤ b - 1) ∧ (0 < w → least ≤ (fstH b w least H).getD 0 0) ∧ smA 1 1 (fstH b w least H) = fl w H := by
  intro w
  induction w using Nat.strongRecOn with
  | ind w ih =>
    intro least H h h0 h01 hc
    match w, H, h, hc with
    | 0, H, h, hc => exact ⟨rfl, fun x hx => by simp [fstH] at hx, fun h => absurd h (by omega), rfl⟩
    | 1, [], h, hc => have := h.len; simp at this
    | 1, s :: H, h, hc =>
      have h1 := h.len
      simp at h1
      subst h1
      have h2 := h.all s (by simp)
      simp only [cntH] at hc
      have h3 : s % 2 = 0 ∧ least ≤ s / 2 := by
        by_cases h4 : s % 2 = 0 ∧ least ≤ s / 2
        · exact h4
        · rw [if_neg h4] at hc; exact absurd rfl hc
      refine ⟨rfl, fun x hx => ?_, fun _ => by simpa [fstH] using h3.2, ?_⟩
      · simp [fstH] at hx; omega
      · simp [fstH, smA, fl]; omega
    | w + 2, [], h, hc => have := h.len; simp at this; omega
    | w + 2, s :: H, h, hc =>
      have hs := h.all s (by simp)
      simp only [cntH] at hc
      have hp : ¬ prW b least s = 0 := fun hz => hc (by rw [hz, Int.zero_mul])
      have hn : ¬ cntH b w 0 H = 0 := fun hz => hc (by rw [hz, Int.mul_zero])
      have hle : max least (s - (b - 1)) ≤ min (b - 1) s := by
        unfold prW at hp
        by_cases hq : max least (s - (b - 1)) ≤ min (b - 1) s
        · exact hq
        · rw [if_neg hq] at hp; exact absurd rfl hp
      obtain ⟨i1, i2, i3, i4⟩ := ih w (by omega) 0 H h.tail (by omega) (by omega) hn
      simp only [fstH]
      refine ⟨by simp [i1], fun x hx => ?_, fun _ => by simp only [List.getD_cons_zero]; omega, ?_⟩
      · rcases List.mem_cons.1 hx with rfl | hx
        · omega
        · rcases List.mem_append.1 hx with hx | hx
          · exact i2 x hx
          · rw [List.mem_singleton.1 hx]; omega
      · rw [smA_wrap, fl_step, i4]
        have e : max least (s - (b - 1)) + (s - max least (s - (b - 1))) = s := by omega
        rw [e]

/-- A sum's value is that of the sums of its places. -/
theorem vD_rvA {b : Int} {xs : List Int} (h : Dg b xs) : vD b (rvA b xs) = vs b (smA 1 1 xs) := by
  have h1 := vs_co b h.b2 (smA 1 1 xs) 0
  have hc := h.co
  unfold vD rvA
  rw [List.reverse_append, List.reverse_reverse]
  by_cases h0 : 0 < coA b (smA 1 1 xs) 0
  · rw [if_pos h0, List.reverse_singleton, vs_snoc, dgA_len]
    omega
  · rw [if_neg h0, List.reverse_nil, List.append_nil]
    have : coA b (smA 1 1 xs) 0 = 0 := by omega
    rw [this, Int.zero_mul] at h1
    omega

/-- A sum has a source; the first one is shorter than the digits, or does not come behind them. -/
theorem source_of {b : Int} {xs : List Int} (h : Dg b xs) (hx0 : xs.getD 0 0 ≠ 0) :
    1 ≤ cntS b (rvA b xs) ∧ ((fstS b (rvA b xs)).length < xs.length ∨ LLe (fstS b (rvA b xs)) xs) := by
  have hb := h.b2
  have hl := h.l1
  have h00 := h.all _ (getD_memA (show 0 < xs.length by omega))
  obtain ⟨H, hr, hf, hc, hle⟩ := pairs_of hb xs.length xs 1 rfl h.all (by omega) (fun _ => by omega)
  have hv : vlH b xs.length H = vD b (rvA b xs) := by rw [vD_rvA h, ← hf, vs_fl _ _ hr]
  have hs := solF_complete hb _ H hr
  rw [hv] at hs
  have hsv : srcV b xs.length (vD b (rvA b xs)) 1 = (cntH b xs.length 1 H, fstH b xs.length 1 H) := by
    unfold srcV
    rw [hs]
    show (if cntH b xs.length 1 H = 0 then _ else _) = _
    rw [if_neg (by omega)]
  have hW : sW b xs.length (vD b (rvA b xs)) = cntH b xs.length 1 H := by
    unfold sW
    rw [if_neg (by omega), hsv]
  obtain ⟨over, hA⟩ := add_facts h
  have hz := hA.zlen
  have ho := hA.ov
  unfold cntS fstS
  by_cases h1 : over = 1
  · have e1 : (rvA b xs).length - 1 = xs.length := by omega
    rw [e1, hW]
    have h2 : 0 ≤ sW b (rvA b xs).length (vD b (rvA b xs)) := by
      unfold sW
      split
      · omega
      · exact srcV_nn _ _ _ _
    refine ⟨by omega, .inr ?_⟩
    rw [if_neg (by omega), hsv]
    exact hle
  · have e1 : (rvA b xs).length = xs.length := by omega
    rw [e1, hW]
    have h2 : 0 ≤ sW b (xs.length - 1) (vD b (rvA b xs)) := by
      unfold sW
      split
      · omega
      · exact srcV_nn _ _ _ _
    refine ⟨by omega, ?_⟩
    by_cases h3 : sW b (xs.length - 1) (vD b (rvA b xs)) = 0
    · rw [if_pos h3, hsv]
      exact .inr hle
    · rw [if_neg h3]
      left
      unfold sW at h3
      by_cases h4 : xs.length - 1 = 0
      · rw [if_pos h4] at h3; exact absurd rfl h3
      · rw [if_neg h4] at h3
        unfold srcV at h3 ⊢
        have hvn : 0 ≤ vD b (rvA b xs) := by rw [← hv]; exact (vlH_bd hb _ _ hr).1
        cases hq : solF b (xs.length - 1) (vD b (rvA b xs)) with
        | none => rw [hq] at h3; exact absurd rfl h3
        | some K =>
          rw [hq] at h3
          have hK := solF_sound hb _ _ K hvn hq
          simp only at h3 ⊢
          by_cases h5 : cntH b (xs.length - 1) 1 K = 0
          · rw [if_pos h5] at h3; exact absurd rfl h3
          · rw [if_neg h5]
            have := (fst_of hb _ 1 K hK.1 (by omega) (by omega) h5).1
            show (fstH b (xs.length - 1) 1 K).length < _
            omega

/-- Digits of the same value, no 0 in front but for one alone. -/
theorem digits_same {b : Int} {xs F : List Int} {W : Nat} (hx : okR b xs = true) (hF : Dg b F) (hW : F.length = W) (hl : W = xs.length ∨ W + 1 = xs.length) (hv : vs b (smA 1 1 F) = vD b xs) : rvA b F = xs := by
  have hd := okR_dg hx
  have hb := hd.b2
  have h1 := vs_co b hb (smA 1 1 F) 0
  have hdl : (dgA b (smA 1 1 F) 0).length = W := by rw [dgA_len, smA_len, hW]
  rw [smA_len, hW, hv, Int.add_zero] at h1
  have hda := dgA_all b hb (smA 1 1 F) 0
  rcases hl with hl | hl
  · have := vs_inj b hb (dgA b (smA 1 1 F) 0) xs.reverse (coA b (smA 1 1 F) 0) 0 (by rw [hdl, List.length_reverse, hl]) hda (fun y hy => hd.all y (List.mem_reverse.1 hy)) (by
      rw [hdl, ← h1, Int.zero_mul, Int.add_zero]; rfl)
    unfold rvA
    rw [this.2, if_neg (by omega), this.1, List.reverse_reverse]
    rfl
  · cases xs with
    | nil => simp at hl
    | cons x t =>
      have ht : t.length = W := by simpa using hl.symm
      have := vs_inj b hb (dgA b (smA 1 1 F) 0) t.reverse (coA b (smA 1 1 F) 0) x (by rw [hdl, List.length_reverse, ht]) hda (fun y hy => hd.all y (by simp [List.mem_reverse.1 hy])) (by
        rw [hdl, ← h1, List.length_reverse, ht]
        unfold vD
        rw [List.reverse_cons, vs_snoc, List.length_reverse, ht])
      have hx0 : 0 < x := by
        have h2 := hd.all x (by simp)
        have h3 := hF.l1
        simp only [okR, areD, Bool.and_eq_true, decide_eq_true_eq] at hx
        have := hx.2.1.2
        rw [decide_eq_false (show ¬ (x :: t).length = 1 by rw [List.length_cons]; omega)] at this
        rw [Bool.false_or] at this
        have h9 : (x :: t).headD 0 ≠ 0 := by simpa only [decide_eq_true_eq] using this
        have h10 : x ≠ 0 := h9
        omega
      unfold rvA
      rw [this.2, if_pos hx0, this.1, List.reverse_reverse]
      rfl

/-- The first source is digits, and its sum is what was asked. -/
theorem first_of {b : Int} {xs : List Int} (h : okR b xs = true) (h12 : xs.length ≤ 12) (hc : 0 < cntS b xs) : okR b (fstS b xs) = true ∧ rvA b (fstS b xs) = xs := by
  have hd := okR_dg h
  have hb := hd.b2
  have hvn : 0 ≤ vD b xs := (vs_bd b hb xs.reverse (fun x hx => hd.all x (List.mem_reverse.1 hx))).1
  have key : ∀ W, (W = xs.length ∨ W + 1 = xs.length) → sW b W (vD b xs) ≠ 0 → okR b (srcV b W (vD b xs) 1).2 = true ∧ rvA b (srcV b W (vD b xs) 1).2 = xs := by
    intro W hW hs
    unfold sW at hs
    by_cases h0 : W = 0
    · rw [if_pos h0] at hs; exact absurd rfl hs
    rw [if_neg h0] at hs
    unfold srcV at hs ⊢
    cases hq : solF b W (vD b xs) with
    | none => rw [hq] at hs; exact absurd rfl hs
    | some K =>
      rw [hq] at hs
      have hK := solF_sound hb _ _ K hvn hq
      simp only at hs ⊢
      by_cases h5 : cntH b W 1 K = 0
      · rw [if_pos h5] at hs; exact absurd rfl hs
      · rw [if_neg h5]
        obtain ⟨f1, f2, f3, f4⟩ := fst_of hb _ 1 K hK.1 (by omega) (by omega) h5
        have f3' := f3 (by omega)
        show okR b (fstH b W 1 K) = true ∧ rvA b (fstH b W 1 K) = xs
        have hdF : Dg b (fstH b W 1 K) := ⟨hb, hd.b16, by omega, by omega, f2⟩
        refine ⟨?_, digits_same h hdF f1 hW (by rw [f4, vs_fl _ _ hK.1, hK.2])⟩
        simp only [okR, areD, Bool.and_eq_true, decide_eq_true_eq]
        refine ⟨⟨⟨hb, hd.b16⟩, by omega⟩, ⟨by omega, ?_⟩, (allIn_iff _ _ _).2 f2⟩
        rw [decide_eq_true (show (fstH b W 1 K).headD 0 ≠ 0 by rw [headD_getD]; omega), Bool.or_true]
  unfold fstS
  unfold cntS at hc
  have hl := hd.l1
  by_cases h3 : sW b (xs.length - 1) (vD b xs) = 0
  · rw [if_pos h3]
    exact key _ (.inl rfl) (by omega)
  · rw [if_neg h3]
    exact key _ (.inr (by omega)) h3
end Go.Proofs.Ytnggfcopndcppaa

/- from X5L -/
namespace Go.Proofs.Ytnggfcopndcppaa
open Go.RowKit
set_option linter.unusedVariables false
set_option linter.unusedSimpArgs false
set_option maxRecDepth 100000

theorem qSame_dec (v u : Value) (xs ys : List Int) (w : World) (hv : Sl w v xs) (hu : Sl w u ys) (hl : xs.length ≤ 2000000) (hl2 : ys.length ≤ 2000000) :
    Calls Try.prog 16 #[v, u] w fun e w' => e = .returned (.bool (decide (xs = ys))) ∧ Below w.heap.size w w' := by
  obtain ⟨a, cap, rfl, hx⟩ := hv
  obtain ⟨c, cap2, rfl, hy⟩ := hu
  have HX := Lib.hid hx
  have HY := Lib.hid hy
  clear hx hy
  by_cases hlen : xs.length = ys.length
  · obtain ⟨n, hn⟩ : ∃ n, xs.length = n := ⟨_, rfl⟩
    have HN := Lib.hid hn
    have HN2 := Lib.hid (hlen.symm.trans hn)
    rw [HN2.out, hn]
    rw [hn] at hl
    clear hn hlen hl2
    go_enter Try.func16, Try.ntmps16
    go_wp2
    go_loopw [13] (fun i wr => ∃ k : Nat, k ≤ n ∧ i = .int .i64 k ∧ Hid (xs.take k = ys.take k) ∧ Below w.heap.size w wr) (fun i _ => n - (intOf i).toNat)
    case atStart => exact ⟨0, Nat.zero_le _, rfl, Lib.hid (by simp), Below.refl _ _⟩
    case round =>
      obtain ⟨k, hk, rfl, HT, hb⟩ := hrel
      have HB := Lib.hid hb
      clear hb
      by_cases hlt : k < n
      · have hlx : k < xs.length := by rw [HN.out]; exact hlt
        have hly : k < ys.length := by rw [HN2.out]; exact hlt
        rcases HX.out with hx | ⟨b, off, rfl, hbl, hc⟩
        · rw [hx] at hlx; simp at hlx
        rcases HY.out with hy | ⟨b2, off2, rfl, hbl2, hc2⟩
        · rw [hy] at hly; simp at hly
        have hcell : wr.cell? ⟨b, off + k, none⟩ = some (.int .i64 xs[k]) := (HB.out.cell (p := ⟨b, off + k, none⟩) hbl).trans (hc k hlx)
        have hcell2 : wr.cell? ⟨b2, off2 + k, none⟩ = some (.int .i64 ys[k]) := (HB.out.cell (p := ⟨b2, off2 + k, none⟩) hbl2).trans (hc2 k hly)
        obtain ⟨x, hx⟩ : ∃ x, x = xs[k] := ⟨_, rfl⟩
        obtain ⟨y, hy⟩ : ∃ y, y = ys[k] := ⟨_, rfl⟩
        rw [← hx] at hcell
        rw [← hy] at hcell2
        by_cases hxy : x = y
        · subst hxy
          have HT2 := Lib.hid (take_eq_snoc hlx hly HT.out (by rw [← hx, ← hy]))
          clear hc hc2 hx hy hlx hly
          go_wp2
          go_region
          all_goals
            go_wp2
            go_roundw
            case rel => exact ⟨k + 1, by omega, by go_num, HT2, HB.out.drew⟩
            case measure => simp [intOf]; omega
        · have HD := Lib.hid (show decide (xs = ys) = false from decide_eq_false (fun e => hxy (by subst e; rw [hx, hy])))
          have hne : (x == y) = false := beq_no hxy
          have hne2 : (x != y) = true := by rw [bne, hne]; rfl
          clear hc hc2 hx hy hlx hly
          go_wp2
          go_region
          all_goals
            go_wp2
            go_ret
            exact ⟨by rw [HD.out]; rfl, HB.out.drew⟩
      · obtain rfl : k = n := by omega
        have HD := Lib.hid (show decide (xs = ys) = true from decide_eq_true (by
          have h5 := HT.out
          rw [List.take_of_length_le (by rw [HN.out]; exact Nat.le_refl _), List.take_of_length_le (by rw [HN2.out]; exact Nat.le_refl _)] at h5
          exact h5))
        go_wp2
        go_ret
        exact ⟨by rw [HD.out]; rfl, HB.out⟩
  · have HD := Lib.hid (show decide (xs = ys) = false from decide_eq_false (fun e => hlen (by rw [e])))
    rw [HD.out]
    obtain ⟨n, hn⟩ : ∃ n, xs.length = n := ⟨_, rfl⟩
    obtain ⟨m, hm⟩ : ∃ m, ys.length = m := ⟨_, rfl⟩
    rw [hn, hm] at hlen ⊢
    have hne : ((n : Int) == (m : Int)) = false := beq_no (by omega)
    have hne2 : ((n : Int) != (m : Int)) = true := by rw [bne, hne]; rfl
    clear hn hm
    go_enter Try.func16, Try.ntmps16
    go_wp2
    go_ret
    exact ⟨rfl, Below.refl _ _⟩

theorem qSum_any (v : Value) (xs : List Int) (w : World) (hv : Sl w v xs) (hl : xs.length ≤ 100) (hx9 : ∀ x ∈ xs, 0 ≤ x ∧ x ≤ 10) :
    Calls Try.prog 17 #[v] w fun e w' => e = .returned (.int .i64 xs.sum) ∧ Below w.heap.size w w' := by
  obtain ⟨a, cap, rfl, hx⟩ := hv
  have HX := Lib.hid hx
  have HS := Lib.hid (show ∀ k, 0 ≤ (xs.take k).sum ∧ (xs.take k).sum ≤ 10 * k from fun k => by
    induction k with
    | zero => simp
    | succ k ih =>
      by_cases hk : k < xs.length
      · rw [take_snoc' xs k hk, List.sum_append]
        have := hx9 _ (List.getElem_mem hk)
        simp
        omega
      · rw [List.take_of_length_le (by omega)] at ih ⊢
        omega)
  have H9 := Lib.hid hx9
  obtain ⟨n, hn⟩ : ∃ n, xs.length = n := ⟨_, rfl⟩
  have HN := Lib.hid hn
  rw [hn] at hl ⊢
  clear hx hn hx9
  go_enter Try.func17, Try.ntmps17
  go_wp2
  go_loopw [3, 8] (fun t i wr => ∃ k : Nat, ∃ T : Int, k ≤ n ∧ i = .int .i64 k ∧ t = .int .i64 T ∧ Hid (T = (xs.take k).sum) ∧ 0 ≤ T ∧ T ≤ 10 * k ∧ Below w.heap.size w wr) (fun _ i _ => n - (intOf i).toNat)
  case atStart => exact ⟨0, 0, Nat.zero_le _, rfl, rfl, Lib.hid (by simp), by omega, by omega, Below.refl _ _⟩
  case round =>
    obtain ⟨k, T, hk, rfl, rfl, HT, t0, t1, hb⟩ := hrel
    have HB := Lib.hid hb
    clear hb
    by_cases hlt : k < n
    · have hlx : k < xs.length := by rw [HN.out]; exact hlt
      rcases HX.out with hx | ⟨b, off, rfl, hbl, hc⟩
      · rw [hx] at hlx; simp at hlx
      have hcell : wr.cell? ⟨b, off + k, none⟩ = some (.int .i64 xs[k]) := (HB.out.cell (p := ⟨b, off + k, none⟩) hbl).trans (hc k hlx)
      obtain ⟨x0, x1⟩ := H9.out _ (List.getElem_mem hlx)
      have hsn := take_snoc' xs k hlx
      obtain ⟨x, hx⟩ : ∃ x, x = xs[k] := ⟨_, rfl⟩
      rw [← hx] at hcell x0 x1 hsn
      have HS2 := Lib.hid (show T + x = (xs.take (k + 1)).sum by rw [hsn, List.sum_append, ← HT.out]; simp)
      clear hc hx hlx hsn
      go_wp2
      go_roundw
      case rel => exact ⟨k + 1, T + x, by omega, by go_num, by go_num, HS2, by omega, by omega, HB.out⟩
      case measure => simp [intOf]; omega
    · obtain rfl : k = n := by omega
      have HE := Lib.hid (show T = xs.sum by have h5 := HT.out; rw [List.take_of_length_le (by rw [HN.out]; exact Nat.le_refl _)] at h5; exact h5)
      go_wp2
      go_ret
      exact ⟨by rw [HE.out]; rfl, HB.out⟩
theorem rd_liesB {w : World} {B : Nat} {v : Value} {xs : List Int} (hr : Rd w B v xs) : ∃ a cap, v = .slice a xs.length cap ∧ xs.length ≤ cap ∧ (xs.length = 0 ∨ ∃ g, a = some ⟨g, 0, none⟩ ∧ g < w.heap.size ∧ ∀ (j : Nat) x, xs[j]? = some x → w.cell? ⟨g, j, none⟩ = some (.int .i64 x)) := by
  rcases hr.cases with ⟨rfl, rfl⟩ | ⟨g, cap, rfl, _⟩
  · exact ⟨none, 0, rfl, Nat.le_refl _, .inl rfl⟩
  · refine ⟨_, _, rfl, hr.at.2.2.2.1, .inr ⟨g, rfl, hr.at.2.2.1, fun j x hx => ?_⟩⟩
    obtain ⟨h1, h2⟩ := List.getElem?_eq_some_iff.1 hx
    rw [hr.at.2.2.2.2.1 j h1, h2]

/-- A list backwards, in a list of its own. -/
theorem qBack_any (v : Value) (xs : List Int) (B : Nat) (w : World) (h : Rd w B v xs) (hl : xs.length ≤ 1000) :
    Calls Try.prog 18 #[v] w fun e w' => ∃ u, e = .returned u ∧ Rd w' w.heap.size u xs.reverse ∧ Below w.heap.size w w' := by
  obtain ⟨a, cap, rfl, hcap, hlies⟩ := rd_liesB h
  obtain ⟨N, hN⟩ : ∃ N, N = xs.length := ⟨_, rfl⟩
  have HN := Lib.hid hN
  have HLI := Lib.hid hlies
  rw [← hN] at hcap hl ⊢
  clear hN hlies h
  go_enter Try.func18, Try.ntmps18
  go_wp2
  go_loopw [3, 4] (fun o i wr => ∃ k : Nat, k ≤ N ∧ i = .int .i64 ((k : Int) - 1) ∧ Rd wr w.heap.size o (xs.drop k).reverse ∧ Below w.heap.size w wr) (fun _ i _ => (intOf i + 1).toNat)
  case atStart => exact ⟨N, Nat.le_refl _, by go_num, by rw [HN.out, List.drop_length]; exact Rd.nil _ _, Below.refl _ _⟩
  case round =>
    obtain ⟨k, hk, rfl, hr, hb⟩ := hrel
    have HR := Lib.hid hr
    have HB := Lib.hid hb
    clear hr hb
    by_cases h0 : k = 0
    · subst h0
      go_wp2
      go_ret
      exact ⟨_, rfl, HR.out, HB.out⟩
    · have hk1 : k - 1 < xs.length := by have := HN.out; omega
      have hge : (0 : Int) ≤ (k : Int) - 1 := by omega
      rcases HLI.out with hz | ⟨g, rfl, hg, hc⟩
      · exfalso; omega
      have z0 := (HB.out.cell (p := ⟨g, k - 1, none⟩) hg).trans (hc (k - 1) _ (List.getElem?_eq_getElem hk1))
      have HD := Lib.hid (show (xs.drop (k - 1)).reverse = (xs.drop k).reverse ++ [xs[k - 1]] by
        rw [List.drop_eq_getElem_cons hk1, List.reverse_cons, show k - 1 + 1 = k by omega])
      obtain ⟨x, hx⟩ : ∃ x, x = xs[k - 1] := ⟨_, rfl⟩
      rw [← hx] at z0 HD
      obtain ⟨j, hj⟩ : ∃ j, k = j + 1 := ⟨k - 1, by omega⟩
      subst hj
      rw [Nat.add_sub_cancel] at z0 HD
      have hji : ((j + 1 : Nat) : Int) - 1 = (j : Int) := by omega
      rw [hji]
      have HLR := Lib.hid (show ((xs.drop (j + 1)).reverse).length ≤ 1000 by rw [List.length_reverse, List.length_drop]; have := HN.out; omega)
      clear hc hx hk1 hge h0
      go_wp2_with (at_builtin; refine wpList_appR rfl _ _ rfl w.heap.size w.heap.size _ _ (xs.drop (j + 1)).reverse [x] rfl rfl (HR.out.alloc _) (Rd.litB _ _ _ HB.out.size) (by have := HLR.out; rw [List.length_singleton]; omega) (by have := HB.out.size; simp; omega) ?_; intro v1 w4 hr4 hg4 hb4; have HR4 := Lib.hid hr4; have HB4 := Lib.hid ((HB.out.alloc HB.out.size _).grown hg4 (by have := HB.out.size; simp; omega) (fun k e => (HR.out.lt k e).1)); clear hr4 hg4 hb4)
      go_roundw
      case rel => exact ⟨j, by omega, by go_num, by rw [HD.out]; exact HR4.out, HB4.out⟩
      case measure => simp [intOf]

end Go.Proofs.Ytnggfcopndcppaa

/- from X5D -/
namespace Go.Proofs.Ytnggfcopndcppaa
open Go.RowKit
set_option linter.unusedVariables false
set_option linter.unusedSimpArgs false
set_option maxRecDepth 100000

theorem grown_ownA {w a c : World} {row : Option Nat} {r : Option Nat} (h : w.grownBy a row) (hg : a.grownBy c r) (hr : ∀ k, r = some k → w.heap.size ≤ k) : w.grownBy c row :=
  ⟨hg.os.trans h.os, hg.tape.trans h.tape, hg.output.trans h.output, Nat.le_trans h.size hg.size, fun k hk hne => (hg.block k (Nat.lt_of_lt_of_le hk h.size) (fun e => by have := hr k e.symm; omega)).trans (h.block k hk hne)⟩
theorem Cu.grown {w w' : World} {g K : Nat} {v : Value} {xs : List Int} {r : Option Nat} (h : Cu w g v xs K) (hg : w.grownBy w' r) (hr : ∀ k, r = some k → g < k) : Cu w' g v xs K :=
  h.keep ((Below.refl _ _).grown hg (Nat.succ_le_of_lt h.lt) (fun k e => hr k e))
/-- What has been drawn so far: a list of its own, the cursor, all else as it was. -/
structure Sd (w wr : World) (g : Nat) (cv : Value) (xs : List Int) (K : Nat) (o : Value) (ls : List Int) : Prop where
  row : Rd wr w.heap.size o ls
  cur : Cu wr g cv xs K
  gr : w.grownBy wr (some g)
  lt : g < w.heap.size
theorem Sd.far {w wr : World} {g : Nat} {cv : Value} {xs : List Int} {K : Nat} {o : Value} {ls : List Int} (h : Sd w wr g cv xs K o ls) : o.ownBlock = none ∨ o.ownBlock ≠ some g := by
  cases e : o.ownBlock with
  | none => exact .inl rfl
  | some k =>
    have := (h.row.lt k e).1
    have := h.lt
    exact .inr (fun c => by simp at c; omega)
theorem Sd.pick {w wr w2 : World} {g : Nat} {cv : Value} {xs : List Int} {K K2 : Nat} {o : Value} {ls : List Int} (h : Sd w wr g cv xs K o ls) (hc : Cu w2 g cv xs K2) (hg : wr.grownBy w2 (some g)) : Sd w w2 g cv xs K2 o ls :=
  ⟨h.row.grown hg h.far, hc, grown_trans h.gr hg, h.lt⟩
theorem Sd.append {w wr w2 : World} {g : Nat} {cv : Value} {xs : List Int} {K : Nat} {o o2 : Value} {ls l2 : List Int} (h : Sd w wr g cv xs K o ls) (hr : Rd w2 w.heap.size o2 l2) (hg : wr.grownBy w2 o.ownBlock) : Sd w w2 g cv xs K o2 l2 :=
  ⟨hr, h.cur.grown hg (fun k e => by have := (h.row.lt k e).1; have := h.lt; omega), grown_ownA h.gr hg (fun k e => (h.row.lt k e).1), h.lt⟩
theorem Sd.alloc {w wr : World} {g : Nat} {cv : Value} {xs : List Int} {K : Nat} {o : Value} {ls : List Int} (h : Sd w wr g cv xs K o ls) (q : Obj) : Sd w (wr.alloc q) g cv xs K o ls :=
  ⟨h.row.alloc q, h.cur.alloc q, grown_trans h.gr (grown_alloc wr q _), h.lt⟩
theorem Sd.mono {w wr : World} {g : Nat} {cv : Value} {xs : List Int} {K K2 : Nat} {o : Value} {ls : List Int} (h : Sd w wr g cv xs K o ls) (hK : K ≤ K2) : Sd w wr g cv xs K2 o ls := ⟨h.row, h.cur.mono hK, h.gr, h.lt⟩
theorem Sd.size {w wr : World} {g : Nat} {cv : Value} {xs : List Int} {K : Nat} {o : Value} {ls : List Int} (h : Sd w wr g cv xs K o ls) : w.heap.size ≤ wr.heap.size := h.gr.size
theorem Sd.below {w wr : World} {g : Nat} {cv : Value} {xs : List Int} {K : Nat} {o : Value} {ls : List Int} {B : Nat} (h : Sd w wr g cv xs K o ls) (hB : B ≤ w.heap.size) (hg : B ≤ g) : Below B w wr := grown_below h.gr hB hg

theorem l1MostD (a b : Int) (w : World) : Calls Try.prog 88 #[.int .i64 a, .int .i64 b] w fun e w' => e = .returned (.int .i64 (max a b)) ∧ w = w' := by
  by_cases h : b < a
  · have hm := Lib.hid (show max a b = a by omega)
    go_enter Try.func88, Try.ntmps88
    go_wp2
    go_ret
    exact ⟨by rw [hm.out]; rfl, rfl⟩
  · have hm := Lib.hid (show max a b = b by omega)
    go_enter Try.func88, Try.ntmps88
    go_wp2
    go_ret
    exact ⟨by rw [hm.out]; rfl, rfl⟩

theorem grown_belowA {w w' : World} {row : Option Nat} (h : Below w.heap.size w w') : w.grownBy w' row := ⟨h.os, h.tape, h.output, h.size, fun k hk _ => h.block k hk⟩
theorem Sd.made {w wr w2 : World} {g : Nat} {cv : Value} {xs : List Int} {K : Nat} {o o2 : Value} {ls l2 : List Int} {gm : Nat} (h : Sd w wr g cv xs K o ls) (hb : Below wr.heap.size wr w2) (hg : wr.heap.size ≤ gm) (hr : Rd w2 gm o2 l2) : Sd w w2 g cv xs K o2 l2 :=
  ⟨hr.mono (Nat.le_trans h.size hg), h.cur.grown (grown_belowA (row := none) hb) (fun k e => by cases e), grown_trans h.gr (grown_belowA hb), h.lt⟩

def lenD : Value → Nat
  | .slice _ n _ => n
  | _ => 0

set_option maxHeartbeats 4000000 in
/-- Digits, mostly, and their base. -/
theorem drawn_digits (g : Nat) (v : Value) (xs : List Int) (K : Nat) (m : Int) (w : World) (h : Cu w g v xs K) (hK : K ≤ 1000) (hm0 : 0 ≤ m) (hm : m ≤ 20) :
    Calls Try.prog 42 #[.pointer (some ⟨g, 0, none⟩), .int .i64 m] w fun e w' => ∃ u ls z, e = .returned (.tuple #[u, .int .i64 z]) ∧ ls.length ≤ 41 ∧ Sd w w' g v xs (K + 200) u ls := by
  have HP := Lib.hid (fun w' K' n (h : Cu w' g v xs K') (hK' : K' ≤ 5000) (h0 : 0 ≤ n) (h1 : n ≤ 100) => pick_any g v xs K' n w' h (by omega) h0 (by omega))
  have HBa := Lib.hid (baseM g v xs K w h (by omega))
  have HS0 := Lib.hid (show Sd w w g v xs K (.slice none 0 0) [] from ⟨Rd.nil _ _, h, World.grownBy.refl _ _, h.lt⟩)
  clear h
  go_enter Try.func42, Try.ntmps42
  go_wp2_with fail
  refine HBa.out.mono ?_
  rintro e w1 ⟨z, rfl, z0, z1, hc, hg⟩
  have HS1 := Lib.hid (HS0.out.pick hc hg)
  clear hc hg
  go_wp2_with (go_at_call 88; refine (l1MostD _ _ _).mono ?_; rintro e w2 ⟨rfl, rfl⟩)
  refine (HP.out _ _ _ HS1.out.cur (by omega) (by omega) (by omega)).mono ?_
  rintro e w3 ⟨d, rfl, d0, d1, hc, hg⟩
  have HS3 := Lib.hid (HS1.out.pick hc hg)
  clear hc hg
  have HS4 := Lib.hid (show Sd w (w3.alloc (.cells #[.int .i64 (1 + d)] 3)) g v xs (K + 4) (.slice (some ⟨w3.heap.size, 0, none⟩) 1 1) [1 + d] from
    ⟨Rd.litB _ _ _ HS3.out.size, HS3.out.cur.alloc _, (HS3.out.alloc _).gr, HS3.out.lt⟩)
  go_wp2_with fail
  refine (HP.out _ _ m HS4.out.cur (by omega) hm0 (by omega)).mono ?_
  rintro e w5 ⟨k0, rfl, k00, k01, hc, hg⟩
  have HS5 := Lib.hid (HS4.out.pick hc hg)
  clear hc hg
  obtain ⟨o5, ho5⟩ : ∃ o5, o5 = Value.slice (some ⟨w3.heap.size, 0, none⟩) 1 1 := ⟨_, rfl⟩
  rw [← ho5] at HS5 ⊢
  clear ho5
  go_wp2
  go_loopw [7, 8] (fun o i wr => ∃ (k : Nat) (ls : List Int), ls.length + k ≤ 21 ∧ 1 ≤ ls.length ∧ i = .int .i64 (k : Int) ∧ Sd w wr g v xs (K + 10 + 2 * ls.length) o ls) (fun _ i _ => (intOf i).toNat)
  case atStart => exact ⟨k0.toNat, [1 + d], by simp; omega, by simp, by rw [show ((k0.toNat : Nat) : Int) = k0 by omega], HS5.out.mono (by simp)⟩
  case round =>
    obtain ⟨k, ls, hkl, hl1, rfl, hs⟩ := hrel
    have HS := Lib.hid hs
    clear hs
    by_cases hk : k = 0
    · subst hk
      go_wp2_with fail
      refine (HP.out _ _ 16 HS.out.cur (by omega) (by omega) (by omega)).mono ?_
      rintro e w6 ⟨q, rfl, q0, q1, hc, hg⟩
      have HS6 := Lib.hid (HS.out.pick hc hg)
      clear hc hg
      obtain ⟨L, hL⟩ : ∃ L, L = ls.length := ⟨_, rfl⟩
      have HL := Lib.hid hL
      obtain ⟨g6, c6, hv6⟩ : ∃ g6 c6, u7 = .slice (some ⟨g6, 0, none⟩) L c6 := by
        rcases HS6.out.row.cases with ⟨h1, h2⟩ | ⟨gg, cap, h1, _⟩
        · exfalso; rw [h2] at hl1; simp at hl1
        · exact ⟨gg, cap, by rw [h1, hL]⟩
      subst hv6
      rw [← hL] at HS6 hl1 hkl
      clear hL
      have HAT := Lib.hid HS6.out.row.at
      by_cases c0 : q = 0
      · subst c0
        clear q0 q1
        go_wp2_with fail
        refine (HP.out _ _ (L : Int) HS6.out.cur (by omega) (by omega) (by omega)).mono ?_
        rintro e w7 ⟨x, rfl, x0, x1, hc, hg⟩
        have HS7 := Lib.hid (HS6.out.pick hc hg)
        clear hc hg
        obtain ⟨X, rfl⟩ : ∃ X : Nat, x = (X : Int) := ⟨x.toNat, by omega⟩
        have hXL : (X : Int) < (L : Int) := by omega
        clear x0 x1
        go_wp2_with fail
        refine (among_at g v xs _ [-1, 0, z, 4611686018427387904] _ HS7.out.cur (by omega) (by simp) (by simp) rfl rfl rfl).mono ?_
        rintro e w8 ⟨y, rfl, hc, hg⟩
        have HS8 := Lib.hid (HS7.out.pick hc hg)
        clear hc hg
        have hc8 := Lib.hid (HS8.out.row.at.2.2.2.2.1 X (by have := HL.out; omega))
        have HS9 := Lib.hid (HS8.out.append (HS8.out.row.set X y).1 (HS8.out.row.set X y).2)
        have z8 := hc8.out
        have z9 := HS8.out.row.at.2.2.2.2.2 X
        go_wp2
        go_ret2
        exact ⟨_, _, _, rfl, by rw [List.length_set]; have := HL.out; omega, HS9.out.mono (by omega)⟩
      by_cases c1 : q = 1
      · subst c1
        clear q0 q1
        go_wp2_with fail
        refine (amongM g v xs _ [0, 1, 2] _ HS6.out.cur (by omega) (by simp) (by simp)).mono ?_
        rintro e w7 ⟨y, rfl, hy, hc, hg⟩
        have HS7 := Lib.hid (HS6.out.pick hc hg)
        clear hc hg
        obtain ⟨Y, rfl, hY⟩ : ∃ Y : Nat, y = (Y : Int) ∧ Y ≤ 2 := by simp at hy; exact ⟨y.toNat, by omega, by omega⟩
        clear hy
        go_wp2_with (refine upon_mkI Y (by omega) ?_; intro gm wm hge hlt hr hbx; have HS8 := Lib.hid (HS7.out.made hbx hge hr); clear hr hbx hge hlt)
        go_ret2
        exact ⟨_, _, _, rfl, by rw [List.length_replicate]; omega, HS8.out.mono (by omega)⟩
      by_cases c2 : q = 2
      · subst c2
        clear q0 q1
        go_wp2_with fail
        refine (HP.out _ _ 2 HS6.out.cur (by omega) (by omega) (by omega)).mono ?_
        rintro e w7 ⟨y, rfl, y0, y1, hc, hg⟩
        have HS7 := Lib.hid (HS6.out.pick hc hg)
        clear hc hg
        obtain ⟨Y, hy, hY, hY2⟩ : ∃ Y : Nat, 40 + y = (Y : Int) ∧ 40 ≤ Y ∧ Y ≤ 41 := ⟨(40 + y).toNat, by omega, by omega, by omega⟩
        have HY := Lib.hid hy
        clear hy
        go_wp2_with (rw [HY.out]; refine upon_mkI Y (by omega) ?_; intro gm wm hge hlt hr hbx; have HS8 := Lib.hid (HS7.out.made hbx hge hr); have z8 := HS8.out.row.at.2.2.2.2.1 0 (by rw [List.length_replicate]; omega); have z9 := HS8.out.row.at.2.2.2.2.2 0; have HS9 := Lib.hid (HS8.out.append (HS8.out.row.set 0 1).1 (HS8.out.row.set 0 1).2); clear hr hbx hge hlt)
        go_ret2
        exact ⟨_, _, _, rfl, by rw [List.length_set, List.length_replicate]; omega, HS9.out.mono (by omega)⟩
      · go_wp2
        go_ret2
        exact ⟨_, _, _, rfl, by have := HL.out; omega, HS6.out.mono (by omega)⟩
    · have hk0 : (0 : Int) < (k : Int) := by omega
      go_wp2_with (go_at_call 88; refine (l1MostD _ _ _).mono ?_; rintro e w6 ⟨rfl, rfl⟩)
      refine (HP.out _ _ _ HS.out.cur (by omega) (by omega) (by omega)).mono ?_
      rintro e w7 ⟨y, rfl, y0, y1, hc, hg⟩
      have HS7 := Lib.hid (HS.out.pick hc hg)
      clear hc hg
      go_wp2_with (at_builtin; refine wpList_appR rfl _ _ rfl w.heap.size w.heap.size _ _ ls [y] rfl rfl (HS7.out.row.alloc _) (Rd.litB _ _ _ HS7.out.size) (by simp; omega) (by have := HS7.out.size; simp; omega) ?_; intro v1 w4 hr4 hg4 hb4; have HS8 := Lib.hid ((HS7.out.alloc _).append hr4 hg4); clear hr4 hg4 hb4)
      go_roundw
      case rel => exact ⟨k - 1, _, by simp; omega, by simp, by go_num, HS8.out.mono (by simp; omega)⟩
      case measure => simp [intOf]; omega

end Go.Proofs.Ytnggfcopndcppaa

/- from X5E -/
namespace Go.Proofs.Ytnggfcopndcppaa
open Go.RowKit
set_option linter.unusedVariables false
set_option linter.unusedSimpArgs false
set_option maxRecDepth 100000

theorem draw_AddReversed (v : Value) (xs : List Int) (w : World) (h : Sb w v xs) (hs : xs.length ≤ 1048576) :
    Calls Try.prog 7 #[v] w fun e w' => ∃ u ls z, e = .returned (.tuple #[u, .int .i64 z]) ∧ ls.length ≤ 41 ∧ Rd w' w.heap.size u ls ∧ Below w.heap.size w w' := by
  have HC := Lib.hid (Cu.start h hs)
  obtain ⟨a, cap, rfl⟩ := h.len
  have HB := Lib.hid (alloc_below w (.cells #[.slice a xs.length cap, .int .i64 0, .int .u64 0] 53))
  clear h
  go_enter Try.func7, Try.ntmps7
  go_wp2_with fail
  refine (drawn_digits w.heap.size _ xs 0 9 _ HC.out (by omega) (by omega) (by omega)).mono ?_
  rintro e w1 ⟨u, ls, z, rfl, hl, hd⟩
  have HD := Lib.hid hd
  have HL := Lib.hid hl
  clear hd hl
  go_wp2
  go_ret2
  exact ⟨_, _, _, rfl, HL.out, HD.out.row.mono (by simp), HB.out.trans (HD.out.below (by simp) (Nat.le_refl _))⟩

set_option maxHeartbeats 2000000 in
theorem added_any (g : Nat) (v : Value) (xs : List Int) (K : Nat) (w : World) (h : Cu w g v xs K) (hK : K ≤ 1000) :
    Calls Try.prog 57 #[.pointer (some ⟨g, 0, none⟩)] w fun e w' => ∃ u ls z, e = .returned (.tuple #[u, .int .i64 z]) ∧ ls.length ≤ 41 ∧ Sd w w' g v xs (K + 210) u ls := by
  have HDD := Lib.hid (drawn_digits g v xs K 7 w h hK (by omega) (by omega))
  clear h
  go_enter Try.func57, Try.ntmps57
  go_wp2_with fail
  refine HDD.out.mono ?_
  rintro e w1 ⟨u, ls, z, rfl, hl, hd⟩
  have HD := Lib.hid hd
  have HL := Lib.hid hl
  have HG := Lib.hid (rvGood_any u ls z w.heap.size w1 hd.row (by omega))
  clear hd hl
  rcases okR_cases z ls with ⟨ho, hdg⟩ | ho
  · have HDG := Lib.hid hdg
    rw [ho] at HG
    have HO := Lib.hid (one_any g v xs (K + 200) 2 w1 HD.out.cur (by omega) (by omega) (by omega))
    clear ho hdg
    go_wp2_with fail
    refine HG.out.mono ?_
    rintro e w2 ⟨rfl, rfl⟩
    go_wp2_with fail
    refine HO.out.mono ?_
    rintro e w3 ⟨q, rfl, hc, hgr⟩
    have HD3 := Lib.hid (HD.out.pick hc hgr)
    clear hc hgr
    cases q
    · go_wp2
      go_ret2
      exact ⟨_, _, _, rfl, HL.out, HD3.out.mono (by omega)⟩
    · have HA := Lib.hid (rvAdd_any u ls z w.heap.size w3 HD3.out.row HDG.out)
      go_wp2_with fail
      refine HA.out.mono ?_
      rintro e w4 ⟨u1, u2, rfl, hr1, hr2, hb⟩
      have HD4 := Lib.hid (HD3.out.made hb (Nat.le_refl _) hr1)
      have HD5 := Lib.hid (show Sd w w4 g v xs (K + 200 + 2) u ls from ⟨HD3.out.row.keep hb, HD4.out.cur, HD4.out.gr, HD4.out.lt⟩)
      obtain ⟨a1, c1, rfl⟩ := hr1.sl.len
      obtain ⟨N, hN⟩ : ∃ N, N = (rvA z ls).length := ⟨_, rfl⟩
      have HN := Lib.hid hN
      rw [← hN] at HD4 ⊢
      clear hr1 hr2 hb hN
      by_cases hle : N ≤ 40
      · have hle2 : (N : Int) ≤ 40 := by omega
        go_wp2
        go_ret2
        exact ⟨_, _, _, rfl, by have := HN.out; omega, HD4.out.mono (by omega)⟩
      · have hle2 : ¬ (N : Int) ≤ 40 := by omega
        go_wp2
        go_ret2
        exact ⟨_, _, _, rfl, HL.out, HD5.out.mono (by omega)⟩
  · rw [ho] at HG
    clear ho
    go_wp2_with fail
    refine HG.out.mono ?_
    rintro e w2 ⟨rfl, rfl⟩
    go_wp2
    go_ret2
    exact ⟨_, _, _, rfl, HL.out, HD.out.mono (by omega)⟩

theorem draw_IsSymmetric (v : Value) (xs : List Int) (w : World) (h : Sb w v xs) (hs : xs.length ≤ 1048576) :
    Calls Try.prog 20 #[v] w fun e w' => ∃ u ls z, e = .returned (.tuple #[u, .int .i64 z]) ∧ ls.length ≤ 41 ∧ Rd w' w.heap.size u ls ∧ Below w.heap.size w w' := by
  have HC := Lib.hid (Cu.start h hs)
  obtain ⟨a, cap, rfl⟩ := h.len
  have HB := Lib.hid (alloc_below w (.cells #[.slice a xs.length cap, .int .i64 0, .int .u64 0] 53))
  clear h
  go_enter Try.func20, Try.ntmps20
  go_wp2_with fail
  refine (added_any w.heap.size _ xs 0 _ HC.out (by omega)).mono ?_
  rintro e w1 ⟨u, ls, z, rfl, hl, hd⟩
  have HD := Lib.hid hd
  have HL := Lib.hid hl
  clear hd hl
  go_wp2
  go_ret2
  exact ⟨_, _, _, rfl, HL.out, HD.out.row.mono (by simp), HB.out.trans (HD.out.below (by simp) (Nat.le_refl _))⟩

end Go.Proofs.Ytnggfcopndcppaa

/- from X5S -/
namespace Go.Proofs.Ytnggfcopndcppaa
open Go.RowKit
set_option linter.unusedVariables false
set_option linter.unusedSimpArgs false
set_option maxRecDepth 100000

theorem LLe.next {ys xs : List Int} (h : LLe ys xs) (k : Nat) (hx : k < xs.length) (hy : k < ys.length) (he : ∀ j, j < k → xs.getD j 0 = ys.getD j 0) : ys.getD k 0 ≤ xs.getD k 0 := by
  cases h with
  | same => exact Int.le_refl _
  | less a b p q r h hl =>
    rcases Nat.lt_trichotomy k p.length with hk | hk | hk
    · simp only [List.getD_eq_getElem?_getD]
      rw [List.getElem?_append_left hk, List.getElem?_append_left hk]
      exact Int.le_refl _
    · subst hk
      simp only [List.getD_eq_getElem?_getD]
      simp
      omega
    · have := he p.length hk
      simp only [List.getD_eq_getElem?_getD] at this
      simp at this
      omega

theorem qLess_not (v u : Value) (xs ys : List Int) (w : World) (hv : Sl w v xs) (hu : Sl w u ys) (hle : LLe ys xs) (hlen : ys.length = xs.length) (hl : xs.length ≤ 100) :
    Calls Try.prog 41 #[v, u] w fun e w' => e = .returned (.bool false) ∧ Below w.heap.size w w' := by
  obtain ⟨a, cap, rfl, hx⟩ := hv
  obtain ⟨c, cap2, rfl, hy⟩ := hu
  have HX := Lib.hid hx
  have HY := Lib.hid hy
  have HLE := Lib.hid hle
  clear hx hy hle
  obtain ⟨n, hn⟩ : ∃ n, xs.length = n := ⟨_, rfl⟩
  have HN := Lib.hid hn
  have HN2 := Lib.hid (hlen.trans hn)
  rw [HN2.out, hn]
  rw [hn] at hl
  clear hn hlen
  go_enter Try.func41, Try.ntmps41
  go_wp2
  go_loopw [8] (fun i wr => ∃ k : Nat, k ≤ n ∧ i = .int .i64 k ∧ Hid (∀ j, j < k → xs.getD j 0 = ys.getD j 0) ∧ Below w.heap.size w wr) (fun i _ => n - (intOf i).toNat)
  case atStart => exact ⟨0, Nat.zero_le _, rfl, Lib.hid (fun j hj => absurd hj (by omega)), Below.refl _ _⟩
  case round =>
    obtain ⟨k, hk, rfl, HT, hb⟩ := hrel
    have HB := Lib.hid hb
    clear hb
    by_cases hlt : k < n
    · have hlx : k < xs.length := by rw [HN.out]; exact hlt
      have hly : k < ys.length := by rw [HN2.out]; exact hlt
      have hnx := HLE.out.next k hlx hly HT.out
      have ex : xs.getD k 0 = xs[k] := by rw [List.getD_eq_getElem?_getD, List.getElem?_eq_getElem hlx]; rfl
      have ey : ys.getD k 0 = ys[k] := by rw [List.getD_eq_getElem?_getD, List.getElem?_eq_getElem hly]; rfl
      have hst : xs[k] = ys[k] → ∀ j, j < k + 1 → xs.getD j 0 = ys.getD j 0 := fun e j hj => by
        by_cases hjk : j = k
        · subst hjk; rw [ex, ey, e]
        · exact HT.out j (by omega)
      rw [ex, ey] at hnx
      rcases HX.out with hx | ⟨b, off, rfl, hbl, hc⟩
      · rw [hx] at hlx; simp at hlx
      rcases HY.out with hy | ⟨b2, off2, rfl, hbl2, hc2⟩
      · rw [hy] at hly; simp at hly
      have hcell : wr.cell? ⟨b, off + k, none⟩ = some (.int .i64 xs[k]) := (HB.out.cell (p := ⟨b, off + k, none⟩) hbl).trans (hc k hlx)
      have hcell2 : wr.cell? ⟨b2, off2 + k, none⟩ = some (.int .i64 ys[k]) := (HB.out.cell (p := ⟨b2, off2 + k, none⟩) hbl2).trans (hc2 k hly)
      obtain ⟨x, hx⟩ : ∃ x, x = xs[k] := ⟨_, rfl⟩
      obtain ⟨y, hy⟩ : ∃ y, y = ys[k] := ⟨_, rfl⟩
      rw [← hx] at hcell
      rw [← hy] at hcell2
      rw [← hx, ← hy] at hnx hst
      by_cases hxy : x = y
      · have HT2 := Lib.hid (hst hxy)
        subst hxy
        clear hc hc2 hx hy hlx hly ex ey hst hnx
        go_wp2
        go_region
        all_goals
          go_wp2
          go_roundw
          case rel => exact ⟨k + 1, by omega, by go_num, HT2, HB.out.drew⟩
          case measure => simp [intOf]; omega
      · have hne : (x == y) = false := beq_no hxy
        have hne2 : (x != y) = true := by rw [bne, hne]; rfl
        have hnl : decide (x < y) = false := decide_eq_false (by omega)
        clear hc hc2 hx hy hlx hly ex ey hst hnx
        go_wp2
        go_region
        all_goals
          go_wp2
          go_region
          all_goals
            go_wp2
            go_ret
            exact ⟨by first | rfl | (rw [hnl]; rfl), HB.out.drew.drew⟩
    · obtain rfl : k = n := by omega
      go_wp2
      go_ret
      exact ⟨rfl, HB.out⟩

theorem draw_CountSources (v : Value) (xs : List Int) (w : World) (h : Sb w v xs) (hs : xs.length ≤ 1048576) :
    Calls Try.prog 36 #[v] w fun e w' => ∃ u ls z, e = .returned (.tuple #[u, .int .i64 z]) ∧ ls.length ≤ 41 ∧ Rd w' w.heap.size u ls ∧ Below w.heap.size w w' := by
  have HD := Lib.hid (draw_IsSymmetric v xs w h hs)
  clear h
  go_enter Try.func36, Try.ntmps36
  go_wp2_with fail
  refine HD.out.mono ?_
  rintro e w1 ⟨u, ls, z, rfl, hl, hr, hb⟩
  have R := Lib.hid hr
  have B := Lib.hid hb
  clear hr hb
  go_wp2
  go_ret2
  exact ⟨_, _, _, rfl, hl, R.out, B.out⟩
end Go.Proofs.Ytnggfcopndcppaa

/- from X5T -/
namespace Go.Proofs.Ytnggfcopndcppaa
open Go.RowKit
set_option linter.unusedVariables false
set_option linter.unusedSimpArgs false
set_option maxRecDepth 100000

theorem slice_some' {w : World} {B : Nat} {v : Value} {xs : List Int} (h : Rd w B v xs) (h0 : 0 < xs.length) : ∃ g cap, v = .slice (some ⟨g, 0, none⟩) xs.length cap ∧ xs.length ≤ cap ∧ g < w.heap.size ∧ ∀ j, j < xs.length → w.cell? ⟨g, j, none⟩ = some (.int .i64 (xs.getD j 0)) := by
  obtain ⟨a, cap, rfl, hc, hl⟩ := rd_liesB h
  rcases hl with hl | ⟨g, rfl, hg, hl⟩
  · omega
  · exact ⟨g, cap, rfl, hc, hg, fun j hj => hl j _ (getD_someA hj)⟩

theorem slice_cell' {w : World} {B g cap n : Nat} {xs : List Int} (h : Rd w B (.slice (some ⟨g, 0, none⟩) n cap) xs) {j : Nat} (hj : j < xs.length) : w.cell? ⟨g, j, none⟩ = some (.int .i64 (xs.getD j 0)) := by
  rw [h.at.2.2.2.2.1 j hj, List.getD_eq_getElem?_getD, List.getElem?_eq_getElem hj]
  rfl

set_option maxHeartbeats 20000000 in
theorem law_SourcesOfSums {W : World} (v0 : Value) (xs0 : List Int) (hs0 : Sb W v0 xs0) (v1 : Value) (xs1 : List Int) (hs1 : Sb W v1 xs1) :
    Calls Try.prog 5 #[v0, v1] W fun e w' => e = .returned (.bool true) ∧ Below W.heap.size W w' := by
  obtain ⟨a0, k0, rfl⟩ := hs0.len
  obtain ⟨a1, k1, rfl⟩ := hs1.len
  have HS0 := Lib.hid hs0
  have HS1 := Lib.hid hs1
  have HB := Lib.hid (big_any a0 a1 xs0.length xs1.length k0 k1 W)
  clear hs0 hs1
  by_cases hbig : 1048576 < xs0.length ∨ 1048576 < xs0.length + xs1.length
  · rw [decide_eq_true hbig] at HB
    go_enter Try.func5, Try.ntmps5
    go_wp2_with (go_at_call 6; refine HB.out.mono ?_; rintro e w ⟨rfl, rfl⟩)
    go_ret
    exact ⟨rfl, Below.refl _ _⟩
  rw [decide_eq_false hbig] at HB
  have hl0 : xs0.length ≤ 1048576 := by omega
  have hl1 : xs1.length ≤ 1048576 := by omega
  have HL1 := Lib.hid hl1
  clear hbig
  go_enter Try.func5, Try.ntmps5
  go_wp2_with fail
  refine HB.out.mono ?_
  rintro e w ⟨rfl, rfl⟩
  go_wp2_with fail
  refine (draw_CountSources _ xs0 _ HS0.out hl0).mono ?_
  rintro e w1 ⟨u, ls, z, rfl, hll, hr, hb⟩
  have BE1 := Lib.hid hb
  have R0 := Lib.hid hr
  have HLL := Lib.hid hll
  clear hb hr hl0 hl1 hll
  have HI1 := Lib.hid (fun w h => impl_CountSources u ls z W.heap.size w h (by have := HLL.out; omega))
  have HT1 := Lib.hid (fun w h => spec_CountSources u ls z W.heap.size w h (by have := HLL.out; omega))
  have HI2 := Lib.hid (fun w h => impl_FirstSource u ls z W.heap.size w h (by have := HLL.out; omega))
  have HT2 := Lib.hid (fun w h => spec_FirstSource u ls z W.heap.size w h (by have := HLL.out; omega))
  have HFL := Lib.hid (LF_FirstSource_len ls z (by have := HLL.out; omega))
  simp only [VAL_CountSources, OK_FirstSource] at HI1 HT1 HI2 HT2
  rcases Bool.eq_false_or_eq_true (askS ls z) with ho | ho
  · skip
    have hok : okR z ls = true ∧ ls.length ≤ 12 := by simpa [askS] using ho
    have hdg := okR_dg hok.1
    have HCB := Lib.hid (cnt_nn hdg.b2 hdg.b16 hok.2)
    have eC : cntQ ls z = cntS z ls := if_pos ho
    rw [ho, eC] at HI1 HT1
    rw [ho, Bool.true_and] at HI2 HT2
    have HFO := Lib.hid (fun h => first_of hok.1 hok.2 h)
    by_cases hc : 0 < cntS z ls
    · have eF : LF_FirstSource ls z = fstS z ls := by unfold LF_FirstSource; rw [ho, decide_eq_true hc]; rfl
      obtain ⟨hf1, hf2⟩ := HFO.out hc
      have HF1 := Lib.hid hf1
      have HF2 := Lib.hid hf2
      rw [decide_eq_true hc, eF] at HI2 HT2
      rw [eF] at HFL
      obtain ⟨F, hF⟩ : ∃ F, F = fstS z ls := ⟨_, rfl⟩
      obtain ⟨cn, hcq⟩ : ∃ cn, cn = cntS z ls := ⟨_, rfl⟩
      rw [← hF] at HI2 HT2 HFL HF1 HF2
      rw [← hcq] at HI1 HT1 hc HCB
      have hcb := HCB.out
      have h12 := hok.2
      clear ho eC eF hF hcq hf1 hf2 hok hdg
      go_wp2_with fail
      refine (HI1.out _ (R0.out)).mono ?_
      rintro e w2 ⟨rfl, hb⟩
      have R1 := Lib.hid (R0.out.keep hb)
      have BE2 := Lib.hid (BE1.out.trans (hb.mono BE1.out.size))
      clear hb
      go_wp2_with fail
      refine (HT1.out _ (R1.out)).mono ?_
      rintro e w3 ⟨rfl, hb⟩
      have R2 := Lib.hid (R1.out.keep hb)
      have BE3 := Lib.hid (BE2.out.trans (hb.mono BE2.out.size))
      clear hb
      go_wp2_with fail
      refine (HI2.out _ (R2.out)).mono ?_
      rintro e w4 ⟨uF, rfl, hr, hb⟩
      have R3 := Lib.hid (R2.out.keep hb)
      have BE4 := Lib.hid (BE3.out.trans (hb.mono BE3.out.size))
      have R4 := Lib.hid hr
      clear hr hb
      go_wp2_with fail
      refine (HT2.out _ (R3.out)).mono ?_
      rintro e w5 ⟨uX, rfl, hr, hb⟩
      have R5 := Lib.hid (R3.out.keep hb)
      have R6 := Lib.hid (R4.out.keep hb)
      have BE5 := Lib.hid (BE4.out.trans (hb.mono BE4.out.size))
      have R7 := Lib.hid hr
      clear hr hb
      go_wp2_with fail
      refine (qSame_any _ _ F _ R6.out.sl R7.out.sl (by have := HFL.out; omega)).mono ?_
      rintro e w6 ⟨rfl, hb⟩
      have R8 := Lib.hid (R5.out.keep hb)
      have R9 := Lib.hid (R6.out.keep hb)
      have R10 := Lib.hid (R7.out.keep hb)
      have BE6 := Lib.hid (BE5.out.trans (hb.mono BE5.out.size))
      clear hb
      have HIA := Lib.hid (impl_AddReversed uF F z _ _ R9.out (by have := HFL.out; have := (okR_dg HF1.out).l40; omega))
      have eA : okA z F = true := okA_yes HF1.out (by rw [HF2.out]; omega)
      have eS : LF_AddReversed F z = ls := by rw [show LF_AddReversed F z = rvA z F from if_pos eA, HF2.out]
      simp only [OK_AddReversed] at HIA
      rw [eA, eS] at HIA
      clear eA eS
      go_wp2_with fail
      refine (HIA.out).mono ?_
      rintro e w7 ⟨uS, rfl, hr, hb⟩
      have R11 := Lib.hid (R8.out.keep hb)
      have R12 := Lib.hid (R9.out.keep hb)
      have BE7 := Lib.hid (BE6.out.trans (hb.mono BE6.out.size))
      have R13 := Lib.hid hr
      clear hr hb
      go_wp2_with fail
      refine (qSame_any _ _ ls _ R13.out.sl R11.out.sl (by have := HLL.out; omega)).mono ?_
      rintro e w8 ⟨rfl, hb⟩
      have R14 := Lib.hid (R11.out.keep hb)
      have R15 := Lib.hid (R12.out.keep hb)
      have R16 := Lib.hid (R13.out.keep hb)
      have BE8 := Lib.hid (BE7.out.trans (hb.mono BE7.out.size))
      clear hb
      as_aux_lemma =>
        go_wp2_with fail
        refine (draw_AddReversed _ xs1 _ (HS1.out.keep BE8.out) HL1.out).mono ?_
        rintro e y1 ⟨q, ms, b2, rfl, hml, hr, hb⟩
        have BE9 := Lib.hid (BE8.out.trans (hb.mono BE8.out.size))
        have RQ := Lib.hid hr
        have HML := Lib.hid hml
        clear hb hr hml
        rcases okR_cases b2 ms with ⟨ho, hdg⟩ | ho
        · skip
          have hd1 := hdg.l1
          obtain ⟨gQ, cQ, hQe, hcQ, hgQ, hzQ⟩ := slice_some' RQ.out hd1
          subst hQe
          have hq0 := hzQ 0 hd1
          clear hzQ
          have HIA := Lib.hid (fun w h => impl_AddReversed (.slice (some ⟨gQ, 0, none⟩) ms.length cQ) ms b2 W.heap.size w h (by have := HML.out; omega))
          simp only [OK_AddReversed] at HIA
          by_cases hA : (rvA b2 ms).length ≤ 40
          · skip
            have eA : okA b2 ms = true := okA_yes ho hA
            have eS : LF_AddReversed ms b2 = rvA b2 ms := if_pos eA
            rw [eS, eA] at HIA
            have HSO := Lib.hid (fun h => source_of hdg h)
            have HRO := Lib.hid (okR_sum ho hA)
            obtain ⟨Z, hZ⟩ : ∃ Z, Z = rvA b2 ms := ⟨_, rfl⟩
            rw [← hZ] at HIA HSO HRO hA
            clear hZ eA eS ho
            obtain ⟨NM, hNM⟩ : ∃ NM, NM = ms.length := ⟨_, rfl⟩
            have HNM := Lib.hid hNM
            have HDG := Lib.hid hdg
            rw [← hNM] at HIA hcQ hd1 ⊢
            have RQ2 := Lib.hid (show Rd _ _ (.slice (some ⟨gQ, 0, none⟩) NM cQ) ms from by have h := RQ.out; rw [← hNM] at h; exact h)
            clear hNM hdg
            go_wp2_with fail
            refine (HIA.out _ ((RQ2.out).mono BE8.out.size)).mono ?_
            rintro e w10 ⟨uS, rfl, hr, hb⟩
            have R17 := Lib.hid (RQ2.out.keep hb)
            have BE10 := Lib.hid (BE9.out.trans (hb.mono BE9.out.size))
            have R18 := Lib.hid hr
            clear hr hb
            obtain ⟨aS, cS, hSe⟩ := R18.out.sl.len
            subst hSe
            obtain ⟨NZ, hNZ⟩ : ∃ NZ, NZ = Z.length := ⟨_, rfl⟩
            have HNZ := Lib.hid hNZ
            rw [← hNZ]
            rw [← hNZ] at hA
            by_cases h12 : NZ ≤ 12
            · skip
              have hz12 : (NZ : Int) ≤ 12 := by omega
              have hc0 := slice_cell' R17.out (show 0 < ms.length by rw [← HNM.out]; exact hd1)
              obtain ⟨x0, hx0⟩ : ∃ x0, x0 = ms.getD 0 0 := ⟨_, rfl⟩
              rw [← hx0] at hc0 HSO
              clear hq0 hx0
              have hNMi : (0 : Int) < (NM : Int) := by omega
              by_cases hx : x0 = 0
              · subst hx
                go_wp2
                go_ret
                exact ⟨rfl, BE10.out⟩
              · have hne : (x0 == 0) = false := beq_no hx
                obtain ⟨hcn, hso⟩ := HSO.out hx
                have HSO2 := Lib.hid hso
                have hask : askS Z b2 = true := askS_yes HRO.out (by rw [← hNZ]; exact h12)
                have hlt : 0 < cntS b2 Z := by omega
                have HCB := Lib.hid (cnt_nn HDG.out.b2 HDG.out.b16 (show Z.length ≤ 12 by rw [← hNZ]; exact h12))
                have HLN := Lib.hid (show (LF_FirstSource Z b2).length ≤ 2000000 from LF_FirstSource_len Z b2 (by rw [← hNZ]; omega))
                have eF : LF_FirstSource Z b2 = fstS b2 Z := by unfold LF_FirstSource; rw [hask, decide_eq_true hlt]; rfl
                have eC : cntQ Z b2 = cntS b2 Z := if_pos hask
                have HI1 := Lib.hid (fun w h => impl_CountSources (.slice aS NZ cS) Z b2 W.heap.size w h (by rw [← hNZ]; omega))
                have HI2 := Lib.hid (fun w h => impl_FirstSource (.slice aS NZ cS) Z b2 W.heap.size w h (by rw [← hNZ]; omega))
                simp only [VAL_CountSources, OK_FirstSource] at HI1 HI2
                rw [hask, eC] at HI1
                rw [hask, decide_eq_true hlt, eF] at HI2
                rw [eF] at HLN
                obtain ⟨F, hF⟩ : ∃ F, F = fstS b2 Z := ⟨_, rfl⟩
                obtain ⟨cn, hcq⟩ : ∃ cn, cn = cntS b2 Z := ⟨_, rfl⟩
                rw [← hF] at HI2 HSO2 HLN
                rw [← hcq] at HI1 hcn HCB
                clear hask hlt eF eC hF hcq hso
                have hcb := HCB.out
                have RS2 := Lib.hid (show Rd _ _ (.slice aS NZ cS) Z from by have h := R18.out; rw [← hNZ] at h; exact h)
                clear hNZ
                go_wp2_with fail
                refine (HI1.out _ (RS2.out.mono (by first | exact BE9.out.size | omega))).mono ?_
                rintro e w11 ⟨rfl, hb⟩
                have R19 := Lib.hid (R17.out.keep hb)
                have R20 := Lib.hid (RS2.out.keep hb)
                have BE11 := Lib.hid (BE10.out.trans (hb.mono BE10.out.size))
                clear hb
                go_wp2_with fail
                refine (HI2.out _ (R20.out.mono (by first | exact BE9.out.size | omega))).mono ?_
                rintro e w12 ⟨uF, rfl, hr, hb⟩
                have R21 := Lib.hid (R19.out.keep hb)
                have R22 := Lib.hid (R20.out.keep hb)
                have BE12 := Lib.hid (BE11.out.trans (hb.mono BE11.out.size))
                have R23 := Lib.hid hr
                clear hr hb
                obtain ⟨aF, cF, hFe⟩ := R23.out.sl.len
                subst hFe
                obtain ⟨NF, hNF⟩ : ∃ NF, NF = F.length := ⟨_, rfl⟩
                have HNF := Lib.hid hNF
                rw [← hNF]
                by_cases hle : NF < NM
                · have hle2 : (NF : Int) < (NM : Int) := by omega
                  clear hNF
                  go_wp2
                  go_ret
                  exact ⟨rfl, BE12.out⟩
                · have hLL : LLe F ms := HSO2.out.resolve_left (by rw [← hNF, ← HNM.out]; exact hle)
                  have hlen : NF = NM := by rw [hNF, HNM.out]; exact LLe_len hLL
                  subst hlen
                  have hnl : ¬ (NF : Int) < (NF : Int) := by omega
                  have HQL := Lib.hid (fun w (h1 : Sl w (.slice (some ⟨gQ, 0, none⟩) NF cQ) ms) (h2 : Sl w (.slice aF NF cF) F) => qLess_not (.slice (some ⟨gQ, 0, none⟩) NF cQ) (.slice aF NF cF) ms F w h1 h2 hLL (by rw [← hNF, ← HNM.out]) (by have := HML.out; omega))
                  have RF2 := Lib.hid (show Sl _ (.slice aF NF cF) F from by have h := R23.out.sl; rw [← hNF] at h; exact h)
                  clear hNF hLL
                  go_wp2_with fail
                  refine (HQL.out _ R21.out.sl RF2.out).mono ?_
                  rintro e w13 ⟨rfl, hb⟩
                  have R24 := Lib.hid (R21.out.keep hb)
                  have R25 := Lib.hid (R22.out.keep hb)
                  have R26 := Lib.hid (R23.out.keep hb)
                  have BE13 := Lib.hid (BE12.out.trans (hb.mono BE12.out.size))
                  clear hb
                  go_wp2
                  go_ret
                  exact ⟨rfl, BE13.out⟩
            · have hz12 : (12 : Int) < (NZ : Int) := by omega
              go_wp2
              go_ret
              exact ⟨rfl, BE10.out⟩
          · rw [show okA b2 ms = false from okA_long (by omega)] at HIA
            go_wp2_with fail
            refine (HIA.out _ ((RQ.out).mono BE8.out.size)).mono ?_
            rintro e w10 ⟨uS, rfl, hr, hb⟩
            have R17 := Lib.hid (RQ.out.keep hb)
            have BE10 := Lib.hid (BE9.out.trans (hb.mono BE9.out.size))
            have R18 := Lib.hid hr
            clear hr hb
            go_wp2
            go_ret
            exact ⟨rfl, BE10.out⟩
        · have HIA := Lib.hid (fun w h => impl_AddReversed q ms b2 W.heap.size w h (by have := HML.out; omega))
          simp only [OK_AddReversed] at HIA
          rw [show okA b2 ms = false from okA_no ho] at HIA
          go_wp2_with fail
          refine (HIA.out _ ((RQ.out).mono BE8.out.size)).mono ?_
          rintro e w10 ⟨uS, rfl, hr, hb⟩
          have R17 := Lib.hid (RQ.out.keep hb)
          have BE10 := Lib.hid (BE9.out.trans (hb.mono BE9.out.size))
          have R18 := Lib.hid hr
          clear hr hb
          go_wp2
          go_ret
          exact ⟨rfl, BE10.out⟩
    · have eF : LF_FirstSource ls z = [] := by unfold LF_FirstSource; rw [ho, decide_eq_false hc]; rfl
      have hc0 : cntS z ls = 0 := by have := HCB.out; omega
      rw [decide_eq_false hc, eF] at HI2 HT2
      rw [eF] at HFL
      rw [hc0] at HI1 HT1
      clear ho eC eF hok hdg hc hc0 HFO HCB
      go_wp2_with fail
      refine (HI1.out _ (R0.out)).mono ?_
      rintro e w2 ⟨rfl, hb⟩
      have R1 := Lib.hid (R0.out.keep hb)
      have BE2 := Lib.hid (BE1.out.trans (hb.mono BE1.out.size))
      clear hb
      go_wp2_with fail
      refine (HT1.out _ (R1.out)).mono ?_
      rintro e w3 ⟨rfl, hb⟩
      have R2 := Lib.hid (R1.out.keep hb)
      have BE3 := Lib.hid (BE2.out.trans (hb.mono BE2.out.size))
      clear hb
      go_wp2_with fail
      refine (HI2.out _ (R2.out)).mono ?_
      rintro e w4 ⟨uF, rfl, hr, hb⟩
      have R3 := Lib.hid (R2.out.keep hb)
      have BE4 := Lib.hid (BE3.out.trans (hb.mono BE3.out.size))
      have R4 := Lib.hid hr
      clear hr hb
      go_wp2_with fail
      refine (HT2.out _ (R3.out)).mono ?_
      rintro e w5 ⟨uX, rfl, hr, hb⟩
      have R5 := Lib.hid (R3.out.keep hb)
      have R6 := Lib.hid (R4.out.keep hb)
      have BE5 := Lib.hid (BE4.out.trans (hb.mono BE4.out.size))
      have R7 := Lib.hid hr
      clear hr hb
      go_wp2_with fail
      refine (qSame_any _ _ [] _ R6.out.sl R7.out.sl (by have := HFL.out; omega)).mono ?_
      rintro e w6 ⟨rfl, hb⟩
      have R8 := Lib.hid (R5.out.keep hb)
      have R9 := Lib.hid (R6.out.keep hb)
      have R10 := Lib.hid (R7.out.keep hb)
      have BE6 := Lib.hid (BE5.out.trans (hb.mono BE5.out.size))
      clear hb
      as_aux_lemma =>
        go_wp2_with fail
        refine (draw_AddReversed _ xs1 _ (HS1.out.keep BE6.out) HL1.out).mono ?_
        rintro e y1 ⟨q, ms, b2, rfl, hml, hr, hb⟩
        have BE7 := Lib.hid (BE6.out.trans (hb.mono BE6.out.size))
        have RQ := Lib.hid hr
        have HML := Lib.hid hml
        clear hb hr hml
        rcases okR_cases b2 ms with ⟨ho, hdg⟩ | ho
        · skip
          have hd1 := hdg.l1
          obtain ⟨gQ, cQ, hQe, hcQ, hgQ, hzQ⟩ := slice_some' RQ.out hd1
          subst hQe
          have hq0 := hzQ 0 hd1
          clear hzQ
          have HIA := Lib.hid (fun w h => impl_AddReversed (.slice (some ⟨gQ, 0, none⟩) ms.length cQ) ms b2 W.heap.size w h (by have := HML.out; omega))
          simp only [OK_AddReversed] at HIA
          by_cases hA : (rvA b2 ms).length ≤ 40
          · skip
            have eA : okA b2 ms = true := okA_yes ho hA
            have eS : LF_AddReversed ms b2 = rvA b2 ms := if_pos eA
            rw [eS, eA] at HIA
            have HSO := Lib.hid (fun h => source_of hdg h)
            have HRO := Lib.hid (okR_sum ho hA)
            obtain ⟨Z, hZ⟩ : ∃ Z, Z = rvA b2 ms := ⟨_, rfl⟩
            rw [← hZ] at HIA HSO HRO hA
            clear hZ eA eS ho
            obtain ⟨NM, hNM⟩ : ∃ NM, NM = ms.length := ⟨_, rfl⟩
            have HNM := Lib.hid hNM
            have HDG := Lib.hid hdg
            rw [← hNM] at HIA hcQ hd1 ⊢
            have RQ2 := Lib.hid (show Rd _ _ (.slice (some ⟨gQ, 0, none⟩) NM cQ) ms from by have h := RQ.out; rw [← hNM] at h; exact h)
            clear hNM hdg
            go_wp2_with fail
            refine (HIA.out _ ((RQ2.out).mono BE6.out.size)).mono ?_
            rintro e w8 ⟨uS, rfl, hr, hb⟩
            have R11 := Lib.hid (RQ2.out.keep hb)
            have BE8 := Lib.hid (BE7.out.trans (hb.mono BE7.out.size))
            have R12 := Lib.hid hr
            clear hr hb
            obtain ⟨aS, cS, hSe⟩ := R12.out.sl.len
            subst hSe
            obtain ⟨NZ, hNZ⟩ : ∃ NZ, NZ = Z.length := ⟨_, rfl⟩
            have HNZ := Lib.hid hNZ
            rw [← hNZ]
            rw [← hNZ] at hA
            by_cases h12 : NZ ≤ 12
            · skip
              have hz12 : (NZ : Int) ≤ 12 := by omega
              have hc0 := slice_cell' R11.out (show 0 < ms.length by rw [← HNM.out]; exact hd1)
              obtain ⟨x0, hx0⟩ : ∃ x0, x0 = ms.getD 0 0 := ⟨_, rfl⟩
              rw [← hx0] at hc0 HSO
              clear hq0 hx0
              have hNMi : (0 : Int) < (NM : Int) := by omega
              by_cases hx : x0 = 0
              · subst hx
                go_wp2
                go_ret
                exact ⟨rfl, BE8.out⟩
              · have hne : (x0 == 0) = false := beq_no hx
                obtain ⟨hcn, hso⟩ := HSO.out hx
                have HSO2 := Lib.hid hso
                have hask : askS Z b2 = true := askS_yes HRO.out (by rw [← hNZ]; exact h12)
                have hlt : 0 < cntS b2 Z := by omega
                have HCB := Lib.hid (cnt_nn HDG.out.b2 HDG.out.b16 (show Z.length ≤ 12 by rw [← hNZ]; exact h12))
                have HLN := Lib.hid (show (LF_FirstSource Z b2).length ≤ 2000000 from LF_FirstSource_len Z b2 (by rw [← hNZ]; omega))
                have eF : LF_FirstSource Z b2 = fstS b2 Z := by unfold LF_FirstSource; rw [hask, decide_eq_true hlt]; rfl
                have eC : cntQ Z b2 = cntS b2 Z := if_pos hask
                have HI1 := Lib.hid (fun w h => impl_CountSources (.slice aS NZ cS) Z b2 W.heap.size w h (by rw [← hNZ]; omega))
                have HI2 := Lib.hid (fun w h => impl_FirstSource (.slice aS NZ cS) Z b2 W.heap.size w h (by rw [← hNZ]; omega))
                simp only [VAL_CountSources, OK_FirstSource] at HI1 HI2
                rw [hask, eC] at HI1
                rw [hask, decide_eq_true hlt, eF] at HI2
                rw [eF] at HLN
                obtain ⟨F, hF⟩ : ∃ F, F = fstS b2 Z := ⟨_, rfl⟩
                obtain ⟨cn, hcq⟩ : ∃ cn, cn = cntS b2 Z := ⟨_, rfl⟩
                rw [← hF] at HI2 HSO2 HLN
                rw [← hcq] at HI1 hcn HCB
                clear hask hlt eF eC hF hcq hso
                have hcb := HCB.out
                have RS2 := Lib.hid (show Rd _ _ (.slice aS NZ cS) Z from by have h := R12.out; rw [← hNZ] at h; exact h)
                clear hNZ
                go_wp2_with fail
                refine (HI1.out _ (RS2.out.mono (by first | exact BE7.out.size | omega))).mono ?_
                rintro e w9 ⟨rfl, hb⟩
                have R13 := Lib.hid (R11.out.keep hb)
                have R14 := Lib.hid (RS2.out.keep hb)
                have BE9 := Lib.hid (BE8.out.trans (hb.mono BE8.out.size))
                clear hb
                go_wp2_with fail
                refine (HI2.out _ (R14.out.mono (by first | exact BE7.out.size | omega))).mono ?_
                rintro e w10 ⟨uF, rfl, hr, hb⟩
                have R15 := Lib.hid (R13.out.keep hb)
                have R16 := Lib.hid (R14.out.keep hb)
                have BE10 := Lib.hid (BE9.out.trans (hb.mono BE9.out.size))
                have R17 := Lib.hid hr
                clear hr hb
                obtain ⟨aF, cF, hFe⟩ := R17.out.sl.len
                subst hFe
                obtain ⟨NF, hNF⟩ : ∃ NF, NF = F.length := ⟨_, rfl⟩
                have HNF := Lib.hid hNF
                rw [← hNF]
                by_cases hle : NF < NM
                · have hle2 : (NF : Int) < (NM : Int) := by omega
                  clear hNF
                  go_wp2
                  go_ret
                  exact ⟨rfl, BE10.out⟩
                · have hLL : LLe F ms := HSO2.out.resolve_left (by rw [← hNF, ← HNM.out]; exact hle)
                  have hlen : NF = NM := by rw [hNF, HNM.out]; exact LLe_len hLL
                  subst hlen
                  have hnl : ¬ (NF : Int) < (NF : Int) := by omega
                  have HQL := Lib.hid (fun w (h1 : Sl w (.slice (some ⟨gQ, 0, none⟩) NF cQ) ms) (h2 : Sl w (.slice aF NF cF) F) => qLess_not (.slice (some ⟨gQ, 0, none⟩) NF cQ) (.slice aF NF cF) ms F w h1 h2 hLL (by rw [← hNF, ← HNM.out]) (by have := HML.out; omega))
                  have RF2 := Lib.hid (show Sl _ (.slice aF NF cF) F from by have h := R17.out.sl; rw [← hNF] at h; exact h)
                  clear hNF hLL
                  go_wp2_with fail
                  refine (HQL.out _ R15.out.sl RF2.out).mono ?_
                  rintro e w11 ⟨rfl, hb⟩
                  have R18 := Lib.hid (R15.out.keep hb)
                  have R19 := Lib.hid (R16.out.keep hb)
                  have R20 := Lib.hid (R17.out.keep hb)
                  have BE11 := Lib.hid (BE10.out.trans (hb.mono BE10.out.size))
                  clear hb
                  go_wp2
                  go_ret
                  exact ⟨rfl, BE11.out⟩
            · have hz12 : (12 : Int) < (NZ : Int) := by omega
              go_wp2
              go_ret
              exact ⟨rfl, BE8.out⟩
          · rw [show okA b2 ms = false from okA_long (by omega)] at HIA
            go_wp2_with fail
            refine (HIA.out _ ((RQ.out).mono BE6.out.size)).mono ?_
            rintro e w8 ⟨uS, rfl, hr, hb⟩
            have R11 := Lib.hid (RQ.out.keep hb)
            have BE8 := Lib.hid (BE7.out.trans (hb.mono BE7.out.size))
            have R12 := Lib.hid hr
            clear hr hb
            go_wp2
            go_ret
            exact ⟨rfl, BE8.out⟩
        · have HIA := Lib.hid (fun w h => impl_AddReversed q ms b2 W.heap.size w h (by have := HML.out; omega))
          simp only [OK_AddReversed] at HIA
          rw [show okA b2 ms = false from okA_no ho] at HIA
          go_wp2_with fail
          refine (HIA.out _ ((RQ.out).mono BE6.out.size)).mono ?_
          rintro e w8 ⟨uS, rfl, hr, hb⟩
          have R11 := Lib.hid (RQ.out.keep hb)
          have BE8 := Lib.hid (BE7.out.trans (hb.mono BE7.out.size))
          have R12 := Lib.hid hr
          clear hr hb
          go_wp2
          go_ret
          exact ⟨rfl, BE8.out⟩
  · skip
    have eC : cntQ ls z = 0 := by unfold cntQ; rw [ho]; rfl
    have eF : LF_FirstSource ls z = [] := by unfold LF_FirstSource; rw [ho, Bool.false_and]; rfl
    rw [ho, eC] at HI1 HT1
    rw [ho, Bool.false_and, eF] at HI2 HT2
    rw [eF] at HFL
    clear ho eC eF
    go_wp2_with fail
    refine (HI1.out _ (R0.out)).mono ?_
    rintro e w2 ⟨rfl, hb⟩
    have R1 := Lib.hid (R0.out.keep hb)
    have BE2 := Lib.hid (BE1.out.trans (hb.mono BE1.out.size))
    clear hb
    go_wp2_with fail
    refine (HT1.out _ (R1.out)).mono ?_
    rintro e w3 ⟨rfl, hb⟩
    have R2 := Lib.hid (R1.out.keep hb)
    have BE3 := Lib.hid (BE2.out.trans (hb.mono BE2.out.size))
    clear hb
    go_wp2_with fail
    refine (HI2.out _ (R2.out)).mono ?_
    rintro e w4 ⟨uF, rfl, hr, hb⟩
    have R3 := Lib.hid (R2.out.keep hb)
    have BE4 := Lib.hid (BE3.out.trans (hb.mono BE3.out.size))
    have R4 := Lib.hid hr
    clear hr hb
    go_wp2_with fail
    refine (HT2.out _ (R3.out)).mono ?_
    rintro e w5 ⟨uX, rfl, hr, hb⟩
    have R5 := Lib.hid (R3.out.keep hb)
    have R6 := Lib.hid (R4.out.keep hb)
    have BE5 := Lib.hid (BE4.out.trans (hb.mono BE4.out.size))
    have R7 := Lib.hid hr
    clear hr hb
    go_wp2_with fail
    refine (qSame_any _ _ [] _ R6.out.sl R7.out.sl (by have := HFL.out; omega)).mono ?_
    rintro e w6 ⟨rfl, hb⟩
    have R8 := Lib.hid (R5.out.keep hb)
    have R9 := Lib.hid (R6.out.keep hb)
    have R10 := Lib.hid (R7.out.keep hb)
    have BE6 := Lib.hid (BE5.out.trans (hb.mono BE5.out.size))
    clear hb
    as_aux_lemma =>
      go_wp2_with fail
      refine (draw_AddReversed _ xs1 _ (HS1.out.keep BE6.out) HL1.out).mono ?_
      rintro e y1 ⟨q, ms, b2, rfl, hml, hr, hb⟩
      have BE7 := Lib.hid (BE6.out.trans (hb.mono BE6.out.size))
      have RQ := Lib.hid hr
      have HML := Lib.hid hml
      clear hb hr hml
      rcases okR_cases b2 ms with ⟨ho, hdg⟩ | ho
      · skip
        have hd1 := hdg.l1
        obtain ⟨gQ, cQ, hQe, hcQ, hgQ, hzQ⟩ := slice_some' RQ.out hd1
        subst hQe
        have hq0 := hzQ 0 hd1
        clear hzQ
        have HIA := Lib.hid (fun w h => impl_AddReversed (.slice (some ⟨gQ, 0, none⟩) ms.length cQ) ms b2 W.heap.size w h (by have := HML.out; omega))
        simp only [OK_AddReversed] at HIA
        by_cases hA : (rvA b2 ms).length ≤ 40
        · skip
          have eA : okA b2 ms = true := okA_yes ho hA
          have eS : LF_AddReversed ms b2 = rvA b2 ms := if_pos eA
          rw [eS, eA] at HIA
          have HSO := Lib.hid (fun h => source_of hdg h)
          have HRO := Lib.hid (okR_sum ho hA)
          obtain ⟨Z, hZ⟩ : ∃ Z, Z = rvA b2 ms := ⟨_, rfl⟩
          rw [← hZ] at HIA HSO HRO hA
          clear hZ eA eS ho
          obtain ⟨NM, hNM⟩ : ∃ NM, NM = ms.length := ⟨_, rfl⟩
          have HNM := Lib.hid hNM
          have HDG := Lib.hid hdg
          rw [← hNM] at HIA hcQ hd1 ⊢
          have RQ2 := Lib.hid (show Rd _ _ (.slice (some ⟨gQ, 0, none⟩) NM cQ) ms from by have h := RQ.out; rw [← hNM] at h; exact h)
          clear hNM hdg
          go_wp2_with fail
          refine (HIA.out _ ((RQ2.out).mono BE6.out.size)).mono ?_
          rintro e w8 ⟨uS, rfl, hr, hb⟩
          have R11 := Lib.hid (RQ2.out.keep hb)
          have BE8 := Lib.hid (BE7.out.trans (hb.mono BE7.out.size))
          have R12 := Lib.hid hr
          clear hr hb
          obtain ⟨aS, cS, hSe⟩ := R12.out.sl.len
          subst hSe
          obtain ⟨NZ, hNZ⟩ : ∃ NZ, NZ = Z.length := ⟨_, rfl⟩
          have HNZ := Lib.hid hNZ
          rw [← hNZ]
          rw [← hNZ] at hA
          by_cases h12 : NZ ≤ 12
          · skip
            have hz12 : (NZ : Int) ≤ 12 := by omega
            have hc0 := slice_cell' R11.out (show 0 < ms.length by rw [← HNM.out]; exact hd1)
            obtain ⟨x0, hx0⟩ : ∃ x0, x0 = ms.getD 0 0 := ⟨_, rfl⟩
            rw [← hx0] at hc0 HSO
            clear hq0 hx0
            have hNMi : (0 : Int) < (NM : Int) := by omega
            by_cases hx : x0 = 0
            · subst hx
              go_wp2
              go_ret
              exact ⟨rfl, BE8.out⟩
            · have hne : (x0 == 0) = false := beq_no hx
              obtain ⟨hcn, hso⟩ := HSO.out hx
              have HSO2 := Lib.hid hso
              have hask : askS Z b2 = true := askS_yes HRO.out (by rw [← hNZ]; exact h12)
              have hlt : 0 < cntS b2 Z := by omega
              have HCB := Lib.hid (cnt_nn HDG.out.b2 HDG.out.b16 (show Z.length ≤ 12 by rw [← hNZ]; exact h12))
              have HLN := Lib.hid (show (LF_FirstSource Z b2).length ≤ 2000000 from LF_FirstSource_len Z b2 (by rw [← hNZ]; omega))
              have eF : LF_FirstSource Z b2 = fstS b2 Z := by unfold LF_FirstSource; rw [hask, decide_eq_true hlt]; rfl
              have eC : cntQ Z b2 = cntS b2 Z := if_pos hask
              have HI1 := Lib.hid (fun w h => impl_CountSources (.slice aS NZ cS) Z b2 W.heap.size w h (by rw [← hNZ]; omega))
              have HI2 := Lib.hid (fun w h => impl_FirstSource (.slice aS NZ cS) Z b2 W.heap.size w h (by rw [← hNZ]; omega))
              simp only [VAL_CountSources, OK_FirstSource] at HI1 HI2
              rw [hask, eC] at HI1
              rw [hask, decide_eq_true hlt, eF] at HI2
              rw [eF] at HLN
              obtain ⟨F, hF⟩ : ∃ F, F = fstS b2 Z := ⟨_, rfl⟩
              obtain ⟨cn, hcq⟩ : ∃ cn, cn = cntS b2 Z := ⟨_, rfl⟩
              rw [← hF] at HI2 HSO2 HLN
              rw [← hcq] at HI1 hcn HCB
              clear hask hlt eF eC hF hcq hso
              have hcb := HCB.out
              have RS2 := Lib.hid (show Rd _ _ (.slice aS NZ cS) Z from by have h := R12.out; rw [← hNZ] at h; exact h)
              clear hNZ
              go_wp2_with fail
              refine (HI1.out _ (RS2.out.mono (by first | exact BE7.out.size | omega))).mono ?_
              rintro e w9 ⟨rfl, hb⟩
              have R13 := Lib.hid (R11.out.keep hb)
              have R14 := Lib.hid (RS2.out.keep hb)
              have BE9 := Lib.hid (BE8.out.trans (hb.mono BE8.out.size))
              clear hb
              go_wp2_with fail
              refine (HI2.out _ (R14.out.mono (by first | exact BE7.out.size | omega))).mono ?_
              rintro e w10 ⟨uF, rfl, hr, hb⟩
              have R15 := Lib.hid (R13.out.keep hb)
              have R16 := Lib.hid (R14.out.keep hb)
              have BE10 := Lib.hid (BE9.out.trans (hb.mono BE9.out.size))
              have R17 := Lib.hid hr
              clear hr hb
              obtain ⟨aF, cF, hFe⟩ := R17.out.sl.len
              subst hFe
              obtain ⟨NF, hNF⟩ : ∃ NF, NF = F.length := ⟨_, rfl⟩
              have HNF := Lib.hid hNF
              rw [← hNF]
              by_cases hle : NF < NM
              · have hle2 : (NF : Int) < (NM : Int) := by omega
                clear hNF
                go_wp2
                go_ret
                exact ⟨rfl, BE10.out⟩
              · have hLL : LLe F ms := HSO2.out.resolve_left (by rw [← hNF, ← HNM.out]; exact hle)
                have hlen : NF = NM := by rw [hNF, HNM.out]; exact LLe_len hLL
                subst hlen
                have hnl : ¬ (NF : Int) < (NF : Int) := by omega
                have HQL := Lib.hid (fun w (h1 : Sl w (.slice (some ⟨gQ, 0, none⟩) NF cQ) ms) (h2 : Sl w (.slice aF NF cF) F) => qLess_not (.slice (some ⟨gQ, 0, none⟩) NF cQ) (.slice aF NF cF) ms F w h1 h2 hLL (by rw [← hNF, ← HNM.out]) (by have := HML.out; omega))
                have RF2 := Lib.hid (show Sl _ (.slice aF NF cF) F from by have h := R17.out.sl; rw [← hNF] at h; exact h)
                clear hNF hLL
                go_wp2_with fail
                refine (HQL.out _ R15.out.sl RF2.out).mono ?_
                rintro e w11 ⟨rfl, hb⟩
                have R18 := Lib.hid (R15.out.keep hb)
                have R19 := Lib.hid (R16.out.keep hb)
                have R20 := Lib.hid (R17.out.keep hb)
                have BE11 := Lib.hid (BE10.out.trans (hb.mono BE10.out.size))
                clear hb
                go_wp2
                go_ret
                exact ⟨rfl, BE11.out⟩
          · have hz12 : (12 : Int) < (NZ : Int) := by omega
            go_wp2
            go_ret
            exact ⟨rfl, BE8.out⟩
        · rw [show okA b2 ms = false from okA_long (by omega)] at HIA
          go_wp2_with fail
          refine (HIA.out _ ((RQ.out).mono BE6.out.size)).mono ?_
          rintro e w8 ⟨uS, rfl, hr, hb⟩
          have R11 := Lib.hid (RQ.out.keep hb)
          have BE8 := Lib.hid (BE7.out.trans (hb.mono BE7.out.size))
          have R12 := Lib.hid hr
          clear hr hb
          go_wp2
          go_ret
          exact ⟨rfl, BE8.out⟩
      · have HIA := Lib.hid (fun w h => impl_AddReversed q ms b2 W.heap.size w h (by have := HML.out; omega))
        simp only [OK_AddReversed] at HIA
        rw [show okA b2 ms = false from okA_no ho] at HIA
        go_wp2_with fail
        refine (HIA.out _ ((RQ.out).mono BE6.out.size)).mono ?_
        rintro e w8 ⟨uS, rfl, hr, hb⟩
        have R11 := Lib.hid (RQ.out.keep hb)
        have BE8 := Lib.hid (BE7.out.trans (hb.mono BE7.out.size))
        have R12 := Lib.hid hr
        clear hr hb
        go_wp2
        go_ret
        exact ⟨rfl, BE8.out⟩

end Go.Proofs.Ytnggfcopndcppaa
