/-
  Sums of pairs chosen by their carries: plain mathematics of the model's search.
-/
import Derived.Test.YtnggfcopndcppaaTD
namespace Go.Proofs.Ytnggfcopndcppaa
set_option linter.unusedVariables false
set_option linter.unusedSimpArgs false

/-- The value of digits or sums, the least place first. -/
def vs (b : Int) : List Int → Int
  | [] => 0
  | x :: xs => x + b * vs b xs

theorem vs_snoc (b s : Int) : ∀ xs : List Int, vs b (xs ++ [s]) = vs b xs + s * b ^ xs.length
  | [] => by simp [vs]
  | x :: xs => by
    rw [List.cons_append, vs, vs_snoc b s xs, vs, List.length_cons, Int.pow_succ]
    grind

theorem vs_co (b : Int) (hb : 2 ≤ b) : ∀ (ss : List Int) (c : Int), vs b ss + c = vs b (dgA b ss c) + coA b ss c * b ^ ss.length
  | [], c => by simp [vs, dgA, coA]
  | s :: ss, c => by
    have h := vs_co b hb ss ((s + c) / b)
    have h2 := Int.mul_ediv_add_emod (s + c) b
    rw [vs, dgA, vs, coA, List.length_cons, Int.pow_succ]
    obtain ⟨q, hq⟩ : ∃ q, q = (s + c) / b := ⟨_, rfl⟩
    obtain ⟨m, hm⟩ : ∃ m, m = (s + c) % b := ⟨_, rfl⟩
    rw [← hq] at h h2 ⊢
    rw [← hm] at h2 ⊢
    grind

theorem vs_bd (b : Int) (hb : 2 ≤ b) : ∀ xs : List Int, (∀ x ∈ xs, 0 ≤ x ∧ x ≤ b - 1) → 0 ≤ vs b xs ∧ vs b xs ≤ b ^ xs.length - 1
  | [], _ => by simp [vs]
  | x :: xs, h => by
    have h1 := vs_bd b hb xs (fun y hy => h y (by simp [hy]))
    have h2 := h x (by simp)
    rw [vs, List.length_cons, Int.pow_succ]
    have a1 : 0 ≤ b * vs b xs := Int.mul_nonneg (by omega) h1.1
    have a2 : b * vs b xs ≤ b * (b ^ xs.length - 1) := Int.mul_le_mul_of_nonneg_left h1.2 (by omega)
    have a3 : b * (b ^ xs.length - 1) = b ^ xs.length * b - b := by grind
    omega

/-- Digits tell their value. -/
theorem vs_inj (b : Int) (hb : 2 ≤ b) : ∀ (xs ys : List Int) (a c : Int), xs.length = ys.length → (∀ x ∈ xs, 0 ≤ x ∧ x ≤ b - 1) → (∀ y ∈ ys, 0 ≤ y ∧ y ≤ b - 1) → vs b xs + a * b ^ xs.length = vs b ys + c * b ^ ys.length → xs = ys ∧ a = c
  | [], [], a, c, _, _, _, h => by simpa [vs] using h
  | [], y :: ys, _, _, h, _, _, _ => by simp at h
  | x :: xs, [], _, _, h, _, _, _ => by simp at h
  | x :: xs, y :: ys, a, c, hl, hx, hy, h => by
    have h1 := hx x (by simp)
    have h2 := hy y (by simp)
    rw [vs, vs, List.length_cons, List.length_cons, Int.pow_succ, Int.pow_succ] at h
    have e1 : x + b * (vs b xs + a * b ^ xs.length) = y + b * (vs b ys + c * b ^ ys.length) := by grind
    have hm : x = y := by
      have := congrArg (· % b) e1
      simp only [Int.add_mul_emod_self_left] at this
      rwa [Int.emod_eq_of_lt h1.1 (by omega), Int.emod_eq_of_lt h2.1 (by omega)] at this
    subst hm
    have e2 : vs b xs + a * b ^ xs.length = vs b ys + c * b ^ ys.length := Int.eq_of_mul_eq_mul_left (show b ≠ 0 by omega) (by omega)
    obtain ⟨e3, e4⟩ := vs_inj b hb xs ys a c (by simpa using hl) (fun z hz => hx z (by simp [hz])) (fun z hz => hy z (by simp [hz])) e2
    exact ⟨by rw [e3], e4⟩

/-- All sums of pairs, place by place (from either side). -/
def fl (w : Nat) (H : List Int) : List Int := (List.range w).map fun j => H.getD (min j (w - 1 - j)) 0
theorem fl_len (w : Nat) (H : List Int) : (fl w H).length = w := by simp [fl]
theorem fl_at (w : Nat) (H : List Int) (j : Nat) (h : j < (fl w H).length) : (fl w H)[j] = H.getD (min j (w - 1 - j)) 0 := by simp [fl]

theorem fl_step (w : Nat) (s : Int) (H : List Int) : fl (w + 2) (s :: H) = s :: (fl w H ++ [s]) := by
  apply List.ext_getElem
  · simp [fl_len]
  · intro j h1 h2
    rw [fl_at]
    rw [fl_len] at h1
    by_cases h0 : j = 0
    · subst h0; simp
    · obtain ⟨i, rfl⟩ : ∃ i, j = i + 1 := ⟨j - 1, by omega⟩
      by_cases hi : i < w
      · rw [List.getElem_cons_succ, List.getElem_append_left (by rw [fl_len]; exact hi), fl_at]
        have : min (i + 1) (w + 2 - 1 - (i + 1)) = min i (w - 1 - i) + 1 := by omega
        rw [this, List.getD_cons_succ]
      · obtain rfl : i = w := by omega
        have : min (i + 1) (i + 2 - 1 - (i + 1)) = 0 := by omega
        rw [this, List.getElem_cons_succ, List.getElem_append_right (by rw [fl_len]; omega)]
        simp [fl_len]

theorem vs_fl {b : Int} : ∀ (w : Nat) (H : List Int), RH b w H → vs b (fl w H) = vlH b w H := by
  intro w
  induction w using Nat.strongRecOn with
  | ind w ih =>
    intro H h
    match w, H, h with
    | 0, H, h => simp [fl, vs, vlH]
    | 1, [], h => have := h.len; simp at this
    | 1, s :: H, h => simp [fl, vs, vlH]
    | w + 2, [], h => have := h.len; simp at this; omega
    | w + 2, s :: H, h =>
      rw [fl_step, vs, vs_snoc, ih w (by omega) H h.tail, fl_len]
      show _ = s * (b ^ (w + 1) + 1) + b * vlH b w H
      rw [Int.pow_succ]; grind

theorem fl_all {b : Int} {w : Nat} {H : List Int} (h : ∀ s ∈ H, 0 ≤ s ∧ s ≤ 2 * b - 2) (hb : 2 ≤ b) : ∀ s ∈ fl w H, 0 ≤ s ∧ s ≤ 2 * b - 2 := by
  intro s hs
  unfold fl at hs
  rw [List.mem_map] at hs
  obtain ⟨j, _, rfl⟩ := hs
  by_cases hj : min j (w - 1 - j) < H.length
  · rw [List.getD_eq_getElem?_getD, List.getElem?_eq_getElem hj]; exact h _ (List.getElem_mem hj)
  · rw [List.getD_eq_getElem?_getD, List.getElem?_eq_none (by omega)]; simp; omega

/-- A bit of a number. -/
def bt (n j : Nat) : Int := ((n / 2 ^ j % 2 : Nat) : Int)
theorem bt_01 (n j : Nat) : 0 ≤ bt n j ∧ bt n j ≤ 1 := by unfold bt; omega
theorem bt_zero (c n : Nat) (h : c ≤ 1) : bt (c + 2 * n) 0 = (c : Int) := by unfold bt; simp; omega
theorem bt_succ (c n j : Nat) (h : c ≤ 1) : bt (c + 2 * n) (j + 1) = bt n j := by
  unfold bt
  rw [Nat.pow_succ', ← Nat.div_div_eq_div_mul, show (c + 2 * n) / 2 = n by omega]

theorem bt_make (c : Nat → Int) : ∀ (h : Nat) (o : Nat), (∀ j, 0 ≤ c j ∧ c j ≤ 1) → ∃ n, n < 2 ^ h ∧ ∀ j, j < h → bt n j = c (o + j) := by
  intro h
  induction h with
  | zero => intro o hc; exact ⟨0, by simp, fun j hj => by omega⟩
  | succ h ih =>
    intro o hc
    obtain ⟨n, h1, h2⟩ := ih (o + 1) hc
    have h0 := hc o
    refine ⟨(c o).toNat + 2 * n, by rw [Nat.pow_succ]; omega, fun j hj => ?_⟩
    cases j with
    | zero => rw [bt_zero _ _ (by omega)]; simp; omega
    | succ j => rw [bt_succ _ _ _ (by omega), h2 j (by omega)]; congr 1; omega

theorem bt_inj : ∀ (h n m : Nat), n < 2 ^ h → m < 2 ^ h → (∀ j, j < h → bt n j = bt m j) → n = m := by
  intro h
  induction h with
  | zero => intro n m hn hm _; simp at hn hm; omega
  | succ h ih =>
    intro n m hn hm hj
    rw [Nat.pow_succ] at hn hm
    have h0 := hj 0 (by omega)
    have e1 : n = n % 2 + 2 * (n / 2) := by omega
    have e2 : m = m % 2 + 2 * (m / 2) := by omega
    have h1 := ih (n / 2) (m / 2) (by omega) (by omega) (fun j hj' => by
      have := hj (j + 1) (by omega)
      rw [e1, e2, bt_succ _ _ _ (by omega), bt_succ _ _ _ (by omega)] at this
      exact this)
    rw [e1, e2, bt_zero _ _ (by omega), bt_zero _ _ (by omega)] at h0
    omega

/-- The carry into a place on the right side. -/
def ci (n : Nat) : Nat → Int
  | 0 => 0
  | j + 1 => bt n j
theorem ci_01 (n j : Nat) : 0 ≤ ci n j ∧ ci n j ≤ 1 := by cases j with | zero => simp [ci] | succ j => exact bt_01 n j

/-- The sum of a pair that its carries ask for. -/
def hs (b : Int) (g : Nat → Int) (n j : Nat) : Int := g j + b * bt n j - ci n j
def hl (b : Int) (g : Nat → Int) (w n : Nat) : List Int := (List.range ((w + 1) / 2)).map (hs b g n)
theorem hl_len (b : Int) (g : Nat → Int) (w n : Nat) : (hl b g w n).length = (w + 1) / 2 := by simp [hl]
theorem hl_at (b : Int) (g : Nat → Int) (w n j : Nat) (h : j < (w + 1) / 2) : (hl b g w n).getD j 0 = hs b g n j := by simp [hl, h]

/-- The sums at all places. -/
def ff (b : Int) (g : Nat → Int) (w n : Nat) : List Int := fl w (hl b g w n)
theorem ff_len (b : Int) (g : Nat → Int) (w n : Nat) : (ff b g w n).length = w := fl_len _ _
theorem ff_at (b : Int) (g : Nat → Int) (w n j : Nat) (h : j < w) : (ff b g w n)[j]'(by rw [ff_len]; exact h) = hs b g n (min j (w - 1 - j)) := by
  unfold ff
  rw [fl_at, hl_at _ _ _ _ _ (by omega)]

/-- The carry into a place. -/
def cc (b : Int) (g : Nat → Int) (w n j : Nat) : Int := coA b ((ff b g w n).take j) 0
theorem cc_zero (b : Int) (g : Nat → Int) (w n : Nat) : cc b g w n 0 = 0 := by simp [cc, coA]
theorem take_snocI (xs : List Int) (k : Nat) (h : k < xs.length) : xs.take (k + 1) = xs.take k ++ [xs[k]] := by
  rw [List.take_add_one, List.getElem?_eq_getElem h]; simp
theorem cc_succ (b : Int) (g : Nat → Int) (w n j : Nat) (h : j < w) : cc b g w n (j + 1) = (hs b g n (min j (w - 1 - j)) + cc b g w n j) / b := by
  unfold cc
  rw [take_snocI _ j (by rw [ff_len]; exact h), coA_snoc, ff_at b g w n j h]

theorem quo_in {b x y : Int} (hb : 2 ≤ b) (h0 : 0 ≤ x) (h1 : x ≤ b - 1) : (x + b * y) / b = y ∧ (x + b * y) % b = x := by
  constructor
  · rw [Int.add_mul_ediv_left _ _ (by omega), Int.ediv_eq_zero_of_lt h0 (by omega)]; omega
  · rw [Int.add_mul_emod_self_left, Int.emod_eq_of_lt h0 (by omega)]

/-- On the right side the carries are those chosen. -/
theorem cc_right {b : Int} {g : Nat → Int} (hb : 2 ≤ b) (w n : Nat) (hg : ∀ j, 0 ≤ g j ∧ g j ≤ b - 1) : ∀ j, j ≤ (w + 1) / 2 → cc b g w n j = ci n j := by
  intro j
  induction j with
  | zero => intro _; exact cc_zero b g w n
  | succ j ih =>
    intro hj
    rw [cc_succ b g w n j (by omega), ih (by omega), show min j (w - 1 - j) = j by omega]
    unfold hs
    rw [show g j + b * bt n j - ci n j + ci n j = g j + b * bt n j by omega]
    exact (quo_in hb (hg j).1 (hg j).2).1

/-- What is asked at a place. -/
def okP (b : Int) (g : Nat → Int) (w n j : Nat) : Bool :=
  if j < (w + 1) / 2 then decide (0 ≤ hs b g n j) && decide (hs b g n j ≤ 2 * b - 2) else decide ((hs b g n (min j (w - 1 - j)) + cc b g w n j) % b = g j)
/-- All places up to j fit. -/
def okU (b : Int) (g : Nat → Int) (w n : Nat) : Nat → Bool
  | 0 => true
  | j + 1 => okU b g w n j && okP b g w n j
theorem okU_iff (b : Int) (g : Nat → Int) (w n : Nat) : ∀ j, okU b g w n j = true ↔ ∀ i, i < j → okP b g w n i = true
  | 0 => by simp [okU]
  | j + 1 => by
    rw [okU, Bool.and_eq_true, okU_iff b g w n j]
    constructor
    · rintro ⟨h1, h2⟩ i hi
      by_cases e : i = j
      · rw [e]; exact h2
      · exact h1 i (by omega)
    · intro h; exact ⟨fun i hi => h i (by omega), h j (by omega)⟩

/-- The number n tells carries that fit. -/
def fit (b : Int) (g : Nat → Int) (w : Nat) (over : Int) (n : Nat) : Bool := okU b g w n w && decide (cc b g w n w = over)

theorem dgA_take (b : Int) : ∀ (ss : List Int) (c : Int) (j : Nat) (h : j < ss.length), (dgA b ss c)[j]'(by rw [dgA_len]; exact h) = (ss[j] + coA b (ss.take j) c) % b
  | s :: ss, c, 0, h => by simp [dgA, coA]
  | s :: ss, c, j + 1, h => by
    have := dgA_take b ss ((s + c) / b) j (by simpa using h)
    simpa [dgA, coA] using this

/-- The digits of the goal, the least place first. -/
def gl (g : Nat → Int) (w : Nat) : List Int := (List.range w).map g
theorem gl_len (g : Nat → Int) (w : Nat) : (gl g w).length = w := by simp [gl]

theorem fit_digits {b : Int} {g : Nat → Int} {w n : Nat} (hb : 2 ≤ b) (hg : ∀ j, 0 ≤ g j ∧ g j ≤ b - 1) (h : okU b g w n w = true) : RH b w (hl b g w n) ∧ dgA b (ff b g w n) 0 = gl g w := by
  rw [okU_iff] at h
  refine ⟨⟨hl_len b g w n, fun s hs' => ?_⟩, ?_⟩
  · unfold hl at hs'
    rw [List.mem_map] at hs'
    obtain ⟨j, hj, rfl⟩ := hs'
    rw [List.mem_range] at hj
    have := h j (by omega)
    unfold okP at this
    rw [if_pos hj, Bool.and_eq_true, decide_eq_true_eq, decide_eq_true_eq] at this
    exact this
  · apply List.ext_getElem
    · rw [dgA_len, ff_len, gl_len]
    · intro j h1 h2
      rw [gl_len] at h2
      rw [dgA_take b _ 0 j (by rw [ff_len]; exact h2), ff_at b g w n j h2]
      show (hs b g n (min j (w - 1 - j)) + cc b g w n j) % b = _
      have hgl : (gl g w)[j]'(by rw [gl_len]; exact h2) = g j := by simp [gl]
      rw [hgl]
      by_cases hj : j < (w + 1) / 2
      · rw [cc_right hb w n hg j (by omega), show min j (w - 1 - j) = j by omega]
        unfold hs
        rw [show g j + b * bt n j - ci n j + ci n j = g j + b * bt n j by omega]
        exact (quo_in hb (hg j).1 (hg j).2).2
      · have := h j h2
        unfold okP at this
        rw [if_neg hj, decide_eq_true_eq] at this
        exact this

/-- The value of the goal. -/
def gv' (b : Int) (g : Nat → Int) (w : Nat) (over : Int) : Int := vs b (gl g w) + over * b ^ w

theorem fit_sound {b : Int} {g : Nat → Int} {w n : Nat} {over : Int} (hb : 2 ≤ b) (hg : ∀ j, 0 ≤ g j ∧ g j ≤ b - 1) (h : fit b g w over n = true) : RH b w (hl b g w n) ∧ vlH b w (hl b g w n) = gv' b g w over := by
  unfold fit at h
  rw [Bool.and_eq_true, decide_eq_true_eq] at h
  obtain ⟨h1, h2⟩ := fit_digits hb hg h.1
  refine ⟨h1, ?_⟩
  rw [← vs_fl w _ h1]
  have h3 := vs_co b hb (ff b g w n) 0
  rw [h2, ff_len] at h3
  have h4 : coA b (ff b g w n) 0 = over := by
    have := h.2
    unfold cc at this
    rwa [List.take_of_length_le (by rw [ff_len]; exact Nat.le_refl _)] at this
  rw [h4] at h3
  unfold gv'
  show vs b (ff b g w n) = _
  omega

theorem gl_all {b : Int} {g : Nat → Int} (hg : ∀ j, 0 ≤ g j ∧ g j ≤ b - 1) (w : Nat) : ∀ x ∈ gl g w, 0 ≤ x ∧ x ≤ b - 1 := by
  intro x hx
  unfold gl at hx
  rw [List.mem_map] at hx
  obtain ⟨j, _, rfl⟩ := hx
  exact hg j

theorem fit_complete {b : Int} {g : Nat → Int} {w : Nat} {over : Int} (hb : 2 ≤ b) (hg : ∀ j, 0 ≤ g j ∧ g j ≤ b - 1) (H : List Int) (hH : RH b w H) (hv : vlH b w H = gv' b g w over) :
    ∃ n, n < 2 ^ ((w + 1) / 2) ∧ hl b g w n = H ∧ fit b g w over n = true := by
  have hall := fl_all (w := w) hH.all hb
  obtain ⟨n, hn, hbt⟩ := bt_make (fun j => coA b ((fl w H).take (j + 1)) 0) ((w + 1) / 2) 0 (fun j => coA_pos b hb _ 0 (fun s hs' => hall s (List.mem_of_mem_take hs')) (by omega) (by omega))
  have hbt' : ∀ j, j < (w + 1) / 2 → bt n j = coA b ((fl w H).take (j + 1)) 0 := fun j hj => by rw [hbt j hj, Nat.zero_add]
  have hci : ∀ j, j ≤ (w + 1) / 2 → ci n j = coA b ((fl w H).take j) 0 := by
    intro j hj
    cases j with
    | zero => simp [ci, coA]
    | succ j => exact hbt' j (by omega)
  have h3 := vs_co b hb (fl w H) 0
  rw [vs_fl w H hH, hv, fl_len] at h3
  unfold gv' at h3
  have hd := vs_inj b hb (gl g w) (dgA b (fl w H) 0) over (coA b (fl w H) 0) (by rw [gl_len, dgA_len, fl_len]) (gl_all hg w) (dgA_all b hb _ _) (by rw [gl_len, dgA_len, fl_len]; omega)
  have hdig : ∀ j (h : j < w), ((fl w H)[j]'(by rw [fl_len]; exact h) + coA b ((fl w H).take j) 0) % b = g j := by
    intro j h
    rw [← dgA_take b (fl w H) 0 j (by rw [fl_len]; exact h)]
    have : (gl g w)[j]'(by rw [gl_len]; exact h) = g j := by simp [gl]
    rw [← this]
    simp only [hd.1]
  have hhl : hl b g w n = H := by
    apply List.ext_getElem
    · rw [hl_len, hH.len]
    · intro j h1 h2
      rw [hl_len] at h1
      have e1 : (hl b g w n)[j]'(by rw [hl_len]; exact h1) = hs b g n j := by simp [hl]
      rw [e1]
      have hjw : j < w := by omega
      have e2 : (fl w H)[j]'(by rw [fl_len]; exact hjw) = H[j] := by
        rw [fl_at, show min j (w - 1 - j) = j by omega, List.getD_eq_getElem?_getD, List.getElem?_eq_getElem h2]; rfl
      have h5 := hdig j hjw
      rw [e2] at h5
      unfold hs
      rw [hbt' j h1, hci j (by omega), take_snocI _ j (by rw [fl_len]; exact hjw), coA_snoc, e2]
      have h6 := Int.mul_ediv_add_emod (H[j] + coA b ((fl w H).take j) 0) b
      rw [h5] at h6
      omega
  refine ⟨n, hn, hhl, ?_⟩
  have hff : ff b g w n = fl w H := by unfold ff; rw [hhl]
  have hcc : ∀ j, cc b g w n j = coA b ((fl w H).take j) 0 := fun j => by unfold cc; rw [hff]
  unfold fit
  rw [Bool.and_eq_true, decide_eq_true_eq, okU_iff]
  refine ⟨fun j hj => ?_, ?_⟩
  · unfold okP
    split
    · next hj2 =>
      have e1 : (hl b g w n).getD j 0 = hs b g n j := hl_at b g w n j hj2
      rw [Bool.and_eq_true, decide_eq_true_eq, decide_eq_true_eq, ← e1, hhl, List.getD_eq_getElem?_getD, List.getElem?_eq_getElem (by rw [hH.len]; exact hj2)]
      exact hH.all _ (List.getElem_mem _)
    · rw [decide_eq_true_eq, hcc j, ← ff_at b g w n j hj, ← hdig j hj]
      simp only [hff]
  · rw [hcc w, List.take_of_length_le (by rw [fl_len]; exact Nat.le_refl _)]
    exact hd.2.symm

theorem fit_same {b : Int} {g : Nat → Int} {w n m : Nat} (hb : 2 ≤ b) (hn : n < 2 ^ ((w + 1) / 2)) (hm : m < 2 ^ ((w + 1) / 2)) (h : hl b g w n = hl b g w m) : n = m := by
  refine bt_inj _ n m hn hm ?_
  intro j
  induction j using Nat.strongRecOn with
  | ind j ih =>
    intro hj
    have e := congrArg (fun l => l.getD j 0) h
    simp only [hl_at b g w n j hj, hl_at b g w m j hj] at e
    have hc : ci n j = ci m j := by
      cases j with
      | zero => rfl
      | succ j => exact ih j (by omega) (by omega)
    unfold hs at e
    rw [hc] at e
    have h2 : b * bt n j = b * bt m j := by omega
    exact Int.eq_of_mul_eq_mul_left (by omega) h2

/-- The lists found among the numbers before k. -/
def outs (b : Int) (g : Nat → Int) (w : Nat) (over : Int) : Nat → List (List Int)
  | 0 => []
  | k + 1 => if fit b g w over k = true then outs b g w over k ++ [ff b g w k] else outs b g w over k

def ways (b : Int) (w : Nat) (v : Int) : List (List Int) := match solF b w v with
  | some H => [fl w H]
  | none => []

theorem outs_all {b : Int} {g : Nat → Int} {w : Nat} {over : Int} (hb : 2 ≤ b) (hg : ∀ j, 0 ≤ g j ∧ g j ≤ b - 1) (h0 : 0 ≤ gv' b g w over) : outs b g w over (2 ^ ((w + 1) / 2)) = ways b w (gv' b g w over) := by
  unfold ways
  cases hs : solF b w (gv' b g w over) with
  | none =>
    have hno : ∀ n, fit b g w over n = false := fun n => by
      cases hf : fit b g w over n with
      | false => rfl
      | true =>
        obtain ⟨h1, h2⟩ := fit_sound hb hg hf
        have := solF_complete hb w _ h1
        rw [h2, hs] at this; cases this
    have : ∀ k, outs b g w over k = [] := by
      intro k
      induction k with
      | zero => rfl
      | succ k ih => rw [outs, hno k]; simpa using ih
    exact this _
  | some H =>
    obtain ⟨h1, h2⟩ := solF_sound hb w _ H h0 hs
    obtain ⟨n0, hn0, hh, hf⟩ := fit_complete hb hg H h1 h2
    have huniq : ∀ n, n < 2 ^ ((w + 1) / 2) → fit b g w over n = true → n = n0 := fun n hn hfn => by
      obtain ⟨a1, a2⟩ := fit_sound hb hg hfn
      exact fit_same hb hn hn0 (by rw [hh]; exact vlH_inj hb w _ _ a1 h1 (by rw [a2, h2]))
    have : ∀ k, k ≤ 2 ^ ((w + 1) / 2) → outs b g w over k = if n0 < k then [fl w H] else [] := by
      intro k
      induction k with
      | zero => intro _; simp [outs]
      | succ k ih =>
        intro hk
        rw [outs, ih (by omega)]
        by_cases e : k = n0
        · subst e
          rw [if_pos hf, if_neg (Nat.lt_irrefl _), if_pos (Nat.lt_succ_self _)]
          unfold ff; rw [hh]; rfl
        · have hfk : ¬ fit b g w over k = true := fun hc => e (huniq k (by omega) hc)
          rw [if_neg hfk]
          by_cases hlt : n0 < k
          · rw [if_pos hlt, if_pos (by omega)]
          · rw [if_neg hlt, if_neg (by omega)]
    rw [this _ (Nat.le_refl _), if_pos hn0]

end Go.Proofs.Ytnggfcopndcppaa
