/-
  Words of digits, their values, gaps and what each gap is worth: plain mathematics.
-/
import Derived.Test.YtadjjmlneghklaaW2
namespace Go.Proofs.Ytadjjmlneghklaa
set_option linter.unusedVariables false
set_option linter.unusedSimpArgs false

/-- The digits of n at the last W places. -/
def wd (b : Int) : Nat → Int → List Int
  | 0, _ => []
  | W + 1, n => wd b W (n / b) ++ [n % b]
/-- The value of a word. -/
def vl (b : Int) (xs : List Int) : Int := xs.foldl (fun n d => n * b + d) 0

theorem wd_succ (b : Int) (W : Nat) (n : Int) : wd b (W + 1) n = wd b W (n / b) ++ [n % b] := rfl
theorem wd_len (b : Int) : ∀ (W : Nat) (n : Int), (wd b W n).length = W
  | 0, _ => rfl
  | W + 1, n => by rw [wd_succ, List.length_append, wd_len b W]; rfl
theorem vl_nil (b : Int) : vl b [] = 0 := rfl
theorem vl_snoc (b : Int) (xs : List Int) (d : Int) : vl b (xs ++ [d]) = vl b xs * b + d := by simp [vl]
theorem wd_all {b : Int} (hb : 2 ≤ b) : ∀ (W : Nat) (n : Int), ∀ x ∈ wd b W n, 0 ≤ x ∧ x ≤ b - 1
  | 0, _ => by simp [wd]
  | W + 1, n => by
    intro x hx
    rw [wd_succ, List.mem_append, List.mem_singleton] at hx
    rcases hx with hx | rfl
    · exact wd_all hb W _ x hx
    · have h1 := Int.emod_nonneg n (show b ≠ 0 by omega)
      have h2 := Int.emod_lt_of_pos n (show 0 < b by omega)
      omega
theorem vl_wd {b : Int} (hb : 2 ≤ b) : ∀ (W : Nat) (n : Int), 0 ≤ n → n < b ^ W → vl b (wd b W n) = n
  | 0, n, h0, h1 => by
    have : b ^ 0 = 1 := Int.pow_zero b
    show (0 : Int) = n
    omega
  | W + 1, n, h0, h1 => by
    rw [wd_succ, vl_snoc, vl_wd hb W (n / b) (Int.ediv_nonneg h0 (by omega)) (by rw [Int.pow_succ] at h1; exact Int.ediv_lt_of_lt_mul (by omega) h1)]
    have := Int.mul_ediv_add_emod n b
    rw [Int.mul_comm] at this
    exact this
theorem snoc_cases (xs : List Int) : xs = [] ∨ ∃ l a, xs = l ++ [a] := by
  by_cases h : xs = []
  · exact .inl h
  · exact .inr ⟨xs.dropLast, xs.getLast h, (List.dropLast_concat_getLast h).symm⟩
theorem vl_bd {b : Int} (hb : 2 ≤ b) : ∀ (k : Nat) (xs : List Int), xs.length = k → (∀ x ∈ xs, 0 ≤ x ∧ x ≤ b - 1) → 0 ≤ vl b xs ∧ vl b xs < b ^ k
  | 0, xs, hk, _ => by
    obtain rfl := List.eq_nil_of_length_eq_zero hk
    have : b ^ 0 = 1 := Int.pow_zero b
    rw [vl_nil]; omega
  | k + 1, xs, hk, h => by
    obtain rfl | ⟨l, a, rfl⟩ := snoc_cases xs
    · simp at hk
    · simp only [List.length_append, List.length_cons, List.length_nil] at hk
      obtain ⟨h1, h2⟩ := vl_bd hb k l (by omega) (fun x hx => h x (by simp [hx]))
      have h3 := h a (by simp)
      rw [vl_snoc, Int.pow_succ]
      have h4 : 0 ≤ vl b l * b := Int.mul_nonneg h1 (by omega)
      have h5 : (vl b l + 1) * b ≤ b ^ k * b := Int.mul_le_mul_of_nonneg_right (by omega) (by omega)
      rw [Int.add_mul] at h5
      omega
theorem wd_vl {b : Int} (hb : 2 ≤ b) : ∀ (k : Nat) (xs : List Int), xs.length = k → (∀ x ∈ xs, 0 ≤ x ∧ x ≤ b - 1) → wd b k (vl b xs) = xs
  | 0, xs, hk, _ => by obtain rfl := List.eq_nil_of_length_eq_zero hk; rfl
  | k + 1, xs, hk, h => by
    obtain rfl | ⟨l, a, rfl⟩ := snoc_cases xs
    · simp at hk
    · simp only [List.length_append, List.length_cons, List.length_nil] at hk
      have h3 := h a (by simp)
      have h6 := wd_vl hb k l (by omega) (fun x hx => h x (by simp [hx]))
      rw [vl_snoc, wd_succ]
      have e1 : (vl b l * b + a) / b = vl b l := by
        rw [Int.add_comm, Int.add_mul_ediv_right _ _ (by omega), Int.ediv_eq_zero_of_lt h3.1 (by omega), Int.zero_add]
      have e2 : (vl b l * b + a) % b = a := by
        rw [Int.add_comm, Int.add_mul_emod_self_right]
        exact Int.emod_eq_of_lt h3.1 (by omega)
      rw [e1, e2, h6]
theorem wd_inj {b : Int} (hb : 2 ≤ b) {W : Nat} {m n : Int} (hm : 0 ≤ m) (hm' : m < b ^ W) (hn : 0 ≤ n) (hn' : n < b ^ W) (h : wd b W m = wd b W n) : m = n := by
  rw [← vl_wd hb W m hm hm', h, vl_wd hb W n hn hn']

/-- A sum of products, place by place. -/
def dot : List Int → List Int → Int
  | x :: xs, u :: us => x * u + dot xs us
  | _, _ => 0
theorem dot_nil (us : List Int) : dot [] us = 0 := by cases us <;> rfl
theorem dot_snoc : ∀ (xs us : List Int) (k : Nat) (h : k < xs.length) (h2 : k < us.length), dot (xs.take (k + 1)) us = dot (xs.take k) us + xs[k] * us[k]
  | [], _, k, h, _ => by simp at h
  | _ :: _, [], k, _, h2 => by simp at h2
  | x :: xs, u :: us, 0, _, _ => by simp [dot, dot_nil]
  | x :: xs, u :: us, k + 1, h, h2 => by
    simp only [List.take_succ_cons, dot, List.getElem_cons_succ]
    rw [dot_snoc xs us k (by simpa using h) (by simpa using h2)]
    omega
theorem dot_bd {m : Int} (hm : 0 ≤ m) : ∀ (xs us : List Int), (∀ x ∈ xs, 0 ≤ x ∧ x ≤ m) → (∀ u ∈ us, 0 ≤ u) → 0 ≤ dot xs us ∧ dot xs us ≤ m * us.sum
  | [], us, _, hu => by
    rw [dot_nil]
    have : 0 ≤ us.sum := by
      induction us with
      | nil => simp
      | cons u us ih => have := ih (fun x hx => hu x (by simp [hx])); have := hu u (by simp); simp only [List.sum_cons]; omega
    exact ⟨Int.le_refl _, Int.mul_nonneg hm this⟩
  | x :: xs, [], _, _ => by simp [dot]
  | x :: xs, u :: us, hx, hu => by
    obtain ⟨h1, h2⟩ := dot_bd hm xs us (fun y hy => hx y (by simp [hy])) (fun y hy => hu y (by simp [hy]))
    have h3 := hx x (by simp)
    have h4 := hu u (by simp)
    have h5 := Int.mul_nonneg h3.1 h4
    have h6 := Int.mul_le_mul_of_nonneg_right h3.2 h4
    simp only [dot, List.sum_cons, Int.mul_add]
    omega

/-- What each gap is worth. -/
def ws (b : Int) (W : Nat) : List Int := (List.range (W / 2)).map fun i => b ^ (W - 1 - i) - b ^ i
theorem ws_len (b : Int) (W : Nat) : (ws b W).length = W / 2 := by simp [ws]
theorem ws_at (b : Int) (W i : Nat) (h : i < (ws b W).length) : (ws b W)[i] = b ^ (W - 1 - i) - b ^ i := by simp [ws]

/-- The value behind all words with given gaps. -/
def gv (b : Int) (W : Nat) (g : List Int) : Int := dot g (ws b W)
/-- The gaps of digits in order. -/
def gpU (up : List Int) : List Int := (List.range (up.length / 2)).map fun i => up.getD (up.length - 1 - i) 0 - up.getD i 0
theorem gpU_len (up : List Int) : (gpU up).length = up.length / 2 := by simp [gpU]
theorem gpU_at (up : List Int) (i : Nat) (h : i < (gpU up).length) : (gpU up)[i] = up.getD (up.length - 1 - i) 0 - up.getD i 0 := by simp [gpU]

/-- Each worth is greater than all behind it can make up for. -/
def SI (m : Int) : List Int → Bool
  | [] => true
  | u :: us => decide (0 ≤ u) && decide (m * us.sum < u) && SI m us
theorem ws_allB : (List.range 15).all (fun b => (List.range 9).all fun W => SI ((b : Int) + 1) (ws ((b : Int) + 2) W) && decide (((b : Int) + 1) * (ws ((b : Int) + 2) W).sum < ((b : Int) + 2) ^ W) && decide (((b : Int) + 2) ^ W ≤ 4294967296)) = true := by decide +kernel
theorem ws_all {b : Int} {W : Nat} (hb : 2 ≤ b) (hb' : b ≤ 16) (hW : W ≤ 8) : SI (b - 1) (ws b W) = true ∧ (b - 1) * (ws b W).sum < b ^ W ∧ b ^ W ≤ 4294967296 := by
  have h := ws_allB
  simp only [List.all_eq_true, List.mem_range] at h
  have h1 := h (b - 2).toNat (by omega) W (by omega)
  rw [show (((b - 2).toNat : Nat) : Int) + 1 = b - 1 by omega, show (((b - 2).toNat : Nat) : Int) + 2 = b by omega] at h1
  simp only [Bool.and_eq_true, decide_eq_true_eq] at h1
  exact ⟨h1.1.1, h1.1.2, h1.2⟩
theorem SI_pos {m : Int} : ∀ {us : List Int}, SI m us = true → ∀ u ∈ us, 0 ≤ u
  | [], _ => by simp
  | u :: us, h => by
    simp only [SI, Bool.and_eq_true, decide_eq_true_eq] at h
    intro x hx
    rcases List.mem_cons.1 hx with rfl | hx
    · exact h.1.1
    · exact SI_pos h.2 x hx
theorem gv_bd {b : Int} {W : Nat} (hb : 2 ≤ b) (hb' : b ≤ 16) (hW : W ≤ 8) {g : List Int} (hg : ∀ x ∈ g, 0 ≤ x ∧ x ≤ b - 1) : 0 ≤ gv b W g ∧ gv b W g < b ^ W := by
  obtain ⟨h1, h2, _⟩ := ws_all hb hb' hW
  obtain ⟨h3, h4⟩ := dot_bd (show 0 ≤ b - 1 by omega) g (ws b W) hg (SI_pos h1)
  unfold gv
  omega

/-- Which of two lists comes first: by the first place where they differ. -/
def lexB : List Int → List Int → Bool
  | x :: xs, y :: ys => decide (x < y) || (decide (x = y) && lexB xs ys)
  | _, _ => false
theorem dot_lex {m : Int} (hm : 0 ≤ m) : ∀ (xs ys us : List Int), xs.length = us.length → ys.length = us.length → (∀ x ∈ xs, 0 ≤ x ∧ x ≤ m) → (∀ y ∈ ys, 0 ≤ y ∧ y ≤ m) → SI m us = true → lexB xs ys = true → dot xs us < dot ys us
  | [], ys, us, h1, h2, _, _, _, hl => by cases ys <;> simp [lexB] at hl
  | x :: xs, [], us, _, _, _, _, _, hl => by simp [lexB] at hl
  | x :: xs, y :: ys, [], h1, _, _, _, _, _ => by simp at h1
  | x :: xs, y :: ys, u :: us, h1, h2, hx, hy, hs, hl => by
    simp only [SI, Bool.and_eq_true, decide_eq_true_eq] at hs
    simp only [lexB, Bool.or_eq_true, Bool.and_eq_true, decide_eq_true_eq] at hl
    simp only [dot]
    have hxb := dot_bd hm xs us (fun z hz => hx z (by simp [hz])) (SI_pos hs.2)
    have hyb := dot_bd hm ys us (fun z hz => hy z (by simp [hz])) (SI_pos hs.2)
    rcases hl with hl | ⟨rfl, hl⟩
    · have h3 : (x + 1) * u ≤ y * u := Int.mul_le_mul_of_nonneg_right (by omega) hs.1.1
      rw [Int.add_mul] at h3
      omega
    · have := dot_lex hm xs ys us (by simpa using h1) (by simpa using h2) (fun z hz => hx z (by simp [hz])) (fun z hz => hy z (by simp [hz])) hs.2 hl
      omega
theorem gv_lex {b : Int} {W : Nat} (hb : 2 ≤ b) (hb' : b ≤ 16) (hW : W ≤ 8) {g h : List Int} (hg : ∀ x ∈ g, 0 ≤ x ∧ x ≤ b - 1) (hh : ∀ x ∈ h, 0 ≤ x ∧ x ≤ b - 1) (lg : g.length = W / 2) (lh : h.length = W / 2) (hl : lexB g h = true) : gv b W g < gv b W h := by
  obtain ⟨h1, _, _⟩ := ws_all hb hb' hW
  exact dot_lex (show 0 ≤ b - 1 by omega) g h (ws b W) (by rw [lg, ws_len]) (by rw [lh, ws_len]) hg hh h1 hl

theorem len_cases {xs : List Int} {n : Nat} (h : xs.length = n + 1) : ∃ x ys, xs = x :: ys ∧ ys.length = n := by
  cases xs with
  | nil => simp at h
  | cons x ys => exact ⟨x, ys, rfl, by simpa using h⟩

/-- The digits backwards less the digits: by gaps. -/
theorem back_less (b : Int) (up : List Int) (h1 : up.length ≤ 8) : vl b up.reverse - vl b up = gv b up.length (gpU up) := by
  match up, h1 with
  | [], _ => rfl
  | [a0], _ => simp [vl, gv, dot, gpU, ws, List.range_succ]
  | [a0, a1], _ => simp [vl, gv, dot, gpU, ws, List.range_succ] <;> grind
  | [a0, a1, a2], _ => simp [vl, gv, dot, gpU, ws, List.range_succ] <;> grind
  | [a0, a1, a2, a3], _ => simp [vl, gv, dot, gpU, ws, List.range_succ] <;> grind
  | [a0, a1, a2, a3, a4], _ => simp [vl, gv, dot, gpU, ws, List.range_succ] <;> grind
  | [a0, a1, a2, a3, a4, a5], _ => simp [vl, gv, dot, gpU, ws, List.range_succ] <;> grind
  | [a0, a1, a2, a3, a4, a5, a6], _ => simp [vl, gv, dot, gpU, ws, List.range_succ] <;> grind
  | [a0, a1, a2, a3, a4, a5, a6, a7], _ => simp [vl, gv, dot, gpU, ws, List.range_succ] <;> grind
  | a0 :: a1 :: a2 :: a3 :: a4 :: a5 :: a6 :: a7 :: a8 :: l, h => simp at h

/-- Gaps: as many as half the places, in 0..b - 1, and they do not rise. -/
def gapsB (b : Int) : List Int → Bool
  | [] => true
  | x :: xs => decide (0 ≤ x) && decide (x ≤ b - 1) && decide (∀ y ∈ xs.head?, y ≤ x) && gapsB b xs
theorem gapsB_all {b : Int} : ∀ {g : List Int}, gapsB b g = true → ∀ x ∈ g, 0 ≤ x ∧ x ≤ b - 1
  | [], _ => by simp
  | x :: xs, h => by
    simp only [gapsB, Bool.and_eq_true, decide_eq_true_eq] at h
    intro y hy
    rcases List.mem_cons.1 hy with rfl | hy
    · exact h.1.1
    · exact gapsB_all h.2 y hy

end Go.Proofs.Ytadjjmlneghklaa
