/-
  Sums with the same backwards, plain: place by place, symmetric without carries, the same from behind.
-/
import Derived.Test.YtnggfcopndcppaaTI
import Derived.Test.YtnggfcopndcppaaTQ
namespace Go.Proofs.Ytnggfcopndcppaa
set_option linter.unusedVariables false
set_option linter.unusedSimpArgs false

/-- What comes into a place. -/
def crA (C : List Int) (k : Nat) : Int := if k = 0 then 0 else C.getD (k - 1) 0
theorem place_at (b : Int) : ∀ (ss : List Int) (c : Int) (k : Nat), k < ss.length → ss.getD k 0 + (if k = 0 then c else (cyA b ss c).getD (k - 1) 0) = (dgA b ss c).getD k 0 + b * (cyA b ss c).getD k 0
  | [], c, k, h => by simp at h
  | s :: ss, c, 0, h => by
    have := Int.mul_ediv_add_emod (s + c) b
    simp only [cyA, dgA, List.getD_cons_zero, if_pos]
    omega
  | s :: ss, c, k + 1, h => by
    have ih := place_at b ss ((s + c) / b) k (by simpa using h)
    simp only [cyA, dgA, List.getD_cons_succ]
    rw [if_neg (by omega)]
    cases k with
    | zero => simpa using ih
    | succ k => simpa using ih
theorem co_last (b : Int) : ∀ (ss : List Int) (c : Int), coA b ss c = if ss.length = 0 then c else (cyA b ss c).getD (ss.length - 1) 0
  | [], c => rfl
  | s :: ss, c => by
    rw [coA, co_last b ss]
    cases ss with
    | nil => simp [cyA]
    | cons t ss => simp [cyA]
theorem cy_none {b : Int} : ∀ (ss : List Int), (∀ x ∈ cyA b ss 0, x = 0) → dgA b ss 0 = ss.map (· % b) ∧ ∀ s ∈ ss, s / b = 0
  | [], _ => ⟨rfl, fun s hs => by simp at hs⟩
  | s :: ss, h => by
    have h0 : (s + 0) / b = 0 := h _ (by simp [cyA])
    have h1 : ∀ x ∈ cyA b ss 0, x = 0 := fun x hx => h x (by rw [cyA, h0]; simp [hx])
    obtain ⟨i1, i2⟩ := cy_none ss h1
    rw [dgA, h0, i1]
    refine ⟨by simp, fun t ht => ?_⟩
    rcases List.mem_cons.1 ht with rfl | ht
    · rw [Int.add_zero] at h0; exact h0
    · exact i2 t ht
theorem smA_rev (xs : List Int) : smA 1 1 xs.reverse = smA 1 1 xs := by
  apply List.ext_getElem
  · simp [smA]
  · intro k h1 h2
    simp [smA]
    omega
theorem smA_sym (xs : List Int) : (smA 1 1 xs).reverse = smA 1 1 xs := by
  apply List.ext_getElem
  · simp [smA]
  · intro k h1 h2
    have hk : k < xs.length := by simp [smA] at h2; exact h2
    simp only [smA, List.getElem_reverse, List.getElem_zipWith, List.length_zipWith, List.length_reverse, Nat.min_self]
    simp only [show xs.length - 1 - (xs.length - 1 - k) = k by omega]
    omega
theorem sum_zero : ∀ (xs : List Int), (∀ x ∈ xs, 0 ≤ x) → (0 ≤ xs.sum ∧ (xs.sum = 0 → ∀ x ∈ xs, x = 0))
  | [], _ => ⟨by simp, fun _ x hx => by simp at hx⟩
  | x :: xs, h => by
    obtain ⟨i1, i2⟩ := sum_zero xs (fun y hy => h y (by simp [hy]))
    have h0 := h x (by simp)
    rw [List.sum_cons]
    refine ⟨by omega, fun h2 y hy => ?_⟩
    rcases List.mem_cons.1 hy with rfl | hy
    · omega
    · exact i2 (by omega) y hy
theorem getD_memA {xs : List Int} {k : Nat} (h : k < xs.length) : xs.getD k 0 ∈ xs := by
  rw [List.getD_eq_getElem?_getD, List.getElem?_eq_getElem h]
  exact List.getElem_mem h
theorem getD_someA {xs : List Int} {k : Nat} (h : k < xs.length) : xs[k]? = some (xs.getD k 0) := by
  rw [List.getD_eq_getElem?_getD, List.getElem?_eq_getElem h]
  rfl

/-- What the law asks of digits xs to the base b: the carries C, the sum Z, what goes over. -/
structure AddF (b : Int) (xs C Z : List Int) (over : Nat) : Prop where
  clen : C.length = xs.length
  cin : ∀ c ∈ C, 0 ≤ c ∧ c ≤ 1
  none : ncB b xs = decide (C.sum = 0)
  last : C.getD (xs.length - 1) 0 = (over : Int)
  ov : over ≤ 1
  zlen : Z.length = xs.length + over
  zin : ∀ z ∈ Z, 0 ≤ z ∧ z ≤ b - 1
  head : over = 1 → Z.getD 0 0 = 1
  place : ∀ i, i < xs.length → xs.getD i 0 + xs.reverse.getD i 0 + crA C (xs.length - 1 - i) = Z.getD (over + i) 0 + b * C.getD (xs.length - 1 - i) 0
  sym : ncB b xs = true → palB Z = true
theorem add_facts {b : Int} {xs : List Int} (h : Dg b xs) : ∃ over, AddF b xs (cyA b (smA 1 1 xs) 0) (rvA b xs) over := by
  have hb := h.b2
  have hl := h.l1
  have hco := h.co
  have hin : ∀ c ∈ cyA b (smA 1 1 xs) 0, 0 ≤ c ∧ c ≤ 1 := cyA_all b h.b2 _ 0 (smA_pos b xs h.all) (by omega) (by omega)
  have hcl := co_last b (smA 1 1 xs) 0
  rw [smA_len, if_neg (by omega)] at hcl
  have hz : rvA b xs = (if (coA b (smA 1 1 xs) 0).toNat = 1 then [coA b (smA 1 1 xs) 0] else []) ++ (dgA b (smA 1 1 xs) 0).reverse := by
    unfold rvA
    by_cases h0 : 0 < coA b (smA 1 1 xs) 0
    · rw [if_pos h0, if_pos (by omega)]
    · rw [if_neg h0, if_neg (by omega)]
  refine ⟨(coA b (smA 1 1 xs) 0).toNat, by rw [cyA_len, smA_len], hin, ?_, by rw [← hcl]; omega, by omega, ?_, ?_, ?_, ?_, ?_⟩
  · by_cases hs : (cyA b (smA 1 1 xs) 0).sum = 0
    · rw [decide_eq_true hs]
      refine (allIn_iff _ _ _).2 (fun x hx => ?_)
      have := (sum_zero _ (fun y hy => (hin y hy).1)).2 hs x hx
      omega
    · rw [decide_eq_false hs]
      refine Bool.eq_false_iff.2 (fun hc => hs ?_)
      have hc2 := (allIn_iff _ _ _).1 hc
      have : ∀ (ys : List Int), (∀ y ∈ ys, 0 ≤ y ∧ y ≤ 0) → ys.sum = 0 := by
        intro ys
        induction ys with
        | nil => intro _; rfl
        | cons y ys ih =>
          intro hy
          rw [List.sum_cons, ih (fun z hz => hy z (by simp [hz]))]
          have := hy y (by simp)
          omega
      exact this _ hc2
  · rw [rvA_len']
    by_cases h0 : 0 < coA b (smA 1 1 xs) 0
    · rw [if_pos h0]; omega
    · rw [if_neg h0]; omega
  · intro z hz2
    unfold rvA at hz2
    rcases List.mem_append.1 hz2 with hx | hx
    · split at hx
      · simp at hx; omega
      · simp at hx
    · exact dgA_all b h.b2 _ 0 z (List.mem_reverse.1 hx)
  · intro h1
    unfold rvA
    rw [if_pos (by omega)]
    show coA b (smA 1 1 xs) 0 = 1
    omega
  · intro i hi
    have hp := place_at b (smA 1 1 xs) 0 (xs.length - 1 - i) (by rw [smA_len]; omega)
    have e1 : (smA 1 1 xs).getD (xs.length - 1 - i) 0 = xs.getD i 0 + xs.reverse.getD i 0 := by
      have hk : xs.length - 1 - i < (smA 1 1 xs).length := by rw [smA_len]; omega
      rw [List.getD_eq_getElem?_getD, List.getElem?_eq_getElem hk, Option.getD_some, smA_at 1 1 xs _ (by omega)]
      rw [List.getD_eq_getElem?_getD, List.getElem?_eq_getElem hi, List.getD_eq_getElem?_getD, List.getElem?_eq_getElem (by simpa using hi)]
      simp only [Option.getD_some, List.getElem_reverse, show xs.length - 1 - (xs.length - 1 - i) = i by omega]
      omega
    have e2 : (rvA b xs).getD ((coA b (smA 1 1 xs) 0).toNat + i) 0 = (dgA b (smA 1 1 xs) 0).getD (xs.length - 1 - i) 0 := by
      have hdl : (dgA b (smA 1 1 xs) 0).length = xs.length := by rw [dgA_len, smA_len]
      have e3 : (dgA b (smA 1 1 xs) 0).reverse.getD i 0 = (dgA b (smA 1 1 xs) 0).getD (xs.length - 1 - i) 0 := by
        rw [List.getD_eq_getElem?_getD, List.getD_eq_getElem?_getD, List.getElem?_reverse (by omega), hdl]
      rw [← e3, hz]
      by_cases h1 : (coA b (smA 1 1 xs) 0).toNat = 1
      · rw [if_pos h1, h1, List.getD_eq_getElem?_getD, List.getElem?_append_right (by simp)]
        rw [List.getD_eq_getElem?_getD]
        simp
      · rw [if_neg h1, show (coA b (smA 1 1 xs) 0).toNat = 0 by omega, Nat.zero_add]
        rfl
    rw [e1] at hp
    rw [e2, ← hp]
    rfl
  · intro hn
    have hn2 : ∀ x ∈ cyA b (smA 1 1 xs) 0, x = 0 := fun x hx => by
      have := (allIn_iff _ _ _).1 hn x hx
      omega
    obtain ⟨d1, d2⟩ := cy_none _ hn2
    have hc0 : coA b (smA 1 1 xs) 0 = 0 := by
      rw [hcl]
      exact hn2 _ (getD_memA (by rw [cyA_len, smA_len]; omega))
    have hd : dgA b (smA 1 1 xs) 0 = smA 1 1 xs := by
      rw [d1]
      have e : (smA 1 1 xs).map (· % b) = (smA 1 1 xs).map id := List.map_congr_left (fun s hs => by rw [Int.emod_def, d2 s hs]; simp)
      rw [e, List.map_id]
    have : rvA b xs = smA 1 1 xs := by
      unfold rvA
      rw [hc0, if_neg (by omega), hd, smA_sym]
      rfl
    rw [this]
    exact decide_eq_true (smA_sym xs).symm
/-- From behind the same. -/
theorem rvA_rev (b : Int) (xs : List Int) : rvA b xs.reverse = rvA b xs := by unfold rvA; rw [smA_rev]
theorem okR_rev {b : Int} {xs : List Int} (h : okR b xs = true) (hl : 0 < xs.reverse.headD 0) : okR b xs.reverse = true := by
  simp only [okR, areD, Bool.and_eq_true, decide_eq_true_eq] at h ⊢
  refine ⟨⟨h.1.1, by rw [List.length_reverse]; exact h.1.2⟩, ⟨by rw [List.length_reverse]; exact h.2.1.1, ?_⟩, ?_⟩
  · rw [decide_eq_true (show xs.reverse.headD 0 ≠ 0 by omega)]; simp
  · exact (allIn_iff _ _ _).2 (fun x hx => (allIn_iff _ _ _).1 h.2.2 x (List.mem_reverse.1 hx))
theorem headD_getD (xs : List Int) : xs.headD 0 = xs.getD 0 0 := by cases xs <;> rfl
/-- A sum's digits are digits. -/
theorem okR_sum {b : Int} {xs : List Int} (h : okR b xs = true) (hl : (rvA b xs).length ≤ 40) : okR b (rvA b xs) = true := by
  have hd := okR_dg h
  obtain ⟨over, hf⟩ := add_facts hd
  have h2 := hf.zlen
  have hl1 := hd.l1
  have hin : allIn 0 (b - 1) (rvA b xs) = true := (allIn_iff _ _ _).2 hf.zin
  have hne : (rvA b xs).length ≠ 0 := by omega
  simp only [okR, areD, Bool.and_eq_true, decide_eq_true_eq] at h ⊢
  refine ⟨⟨h.1.1, hl⟩, ⟨hne, ?_⟩, hin⟩
  by_cases h1 : (rvA b xs).length = 1
  · rw [decide_eq_true h1]; rfl
  · have hov := hf.ov
    have : (rvA b xs).headD 0 ≠ 0 := by
      rw [headD_getD]
      by_cases ho : over = 1
      · rw [hf.head ho]; omega
      · have hp := hf.place 0 (by omega)
        have hlast := hf.last
        rw [show xs.length - 1 - 0 = xs.length - 1 by omega, hlast, show over = 0 by omega] at hp
        have hx0 : xs.getD 0 0 ≠ 0 := by
          have := h.2.1.2
          rw [decide_eq_false (show ¬ xs.length = 1 by omega)] at this
          simp only [Bool.false_or, decide_eq_true_eq] at this
          rw [← headD_getD]; exact this
        have g1 := (hd.all _ (getD_memA (show 0 < xs.length by omega))).1
        have g2 := (hd.all _ (List.mem_reverse.1 (getD_memA (show 0 < xs.reverse.length by rw [List.length_reverse]; omega)))).1
        have g3 : 0 ≤ crA (cyA b (smA 1 1 xs) 0) (xs.length - 1) := by
          unfold crA
          split
          · omega
          · exact (hf.cin _ (getD_memA (by rw [hf.clen]; omega))).1
        simp only [Nat.zero_add, Int.natCast_zero, Int.mul_zero, Int.add_zero] at hp
        have hp2 : xs.getD 0 0 + xs.reverse.getD 0 0 + crA (cyA b (smA 1 1 xs) 0) (xs.length - 1) = (rvA b xs).getD 0 0 := by
          simpa using hp
        omega
    rw [decide_eq_true this]; simp
end Go.Proofs.Ytnggfcopndcppaa
