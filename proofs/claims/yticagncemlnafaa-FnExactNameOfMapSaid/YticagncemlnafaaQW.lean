/-
  When a map is steady: the greatest depth, the least common multiple of the lengths of all cycles.
-/
import Derived.Test.YticagncemlnafaaQN
import Derived.Test.YticagncemlnafaaS3
namespace Go.Proofs.Yticagncemlnafaa
open Go.RowKit
set_option linter.unusedVariables false
set_option linter.unusedSimpArgs false
set_option maxRecDepth 100000

/-- The greatest depth of the first k numbers. -/
def mxD (f : Nat → Nat) (n : Nat) : Nat → Nat
  | 0 => 0
  | k + 1 => max (mxD f n k) (dep f n k)

theorem mxD_le (f : Nat → Nat) (n : Nat) : ∀ k, k ≤ n → mxD f n k ≤ n
  | 0, _ => Nat.zero_le _
  | k + 1, h => by
    have h1 := mxD_le f n k (by omega)
    have h2 := (dep_spec (f := f) (show k < n by omega)).1
    simp only [mxD]
    omega

theorem maxOf_dep (f : Nat → Nat) (n : Nat) : ∀ k, k + 1 ≤ n → Lib.maxOf ((lst n (dep f n)).take (k + 1)) = ((mxD f n (k + 1) : Nat) : Int)
  | 0, h => by
    rw [Lib.maxOf_one]
    simp [lst, List.getD_eq_getElem?_getD, mxD, List.getElem?_range (show 0 < n by omega)]
  | k + 1, h => by
    rw [Lib.maxOf_step _ _ (by omega) (by rw [lst_len]; omega), maxOf_dep f n k (by omega)]
    have : (lst n (dep f n)).getD (k + 1) 0 = ((dep f n (k + 1) : Nat) : Int) := by
      simp [lst, List.getD_eq_getElem?_getD, show k + 1 < n by omega]
    rw [this]
    show max ((mxD f n (k + 1) : Nat) : Int) ((dep f n (k + 1) : Nat) : Int) = ((max (mxD f n (k + 1)) (dep f n (k + 1)) : Nat) : Int)
    omega

theorem l1Most_any (a b : Nat) (w : World) (ha : a ≤ 1000) (hb : b ≤ 1000) : Calls Try.prog 97 #[.int .i64 (a : Int), .int .i64 (b : Int)] w fun e w' => e = .returned (.int .i64 ((max a b : Nat) : Int)) ∧ w = w' := by
  by_cases h : b < a
  · have HM := Lib.hid (show max a b = a by omega)
    have hc : ((b : Nat) : Int) < ((a : Nat) : Int) := by omega
    go_enter Try.func97, Try.ntmps97
    go_wp2
    go_ret
    exact ⟨by rw [HM.out]; rfl, rfl⟩
  · have HM := Lib.hid (show max a b = b by omega)
    have hc : ¬ ((b : Nat) : Int) < ((a : Nat) : Int) := by omega
    go_enter Try.func97, Try.ntmps97
    go_wp2
    go_ret
    exact ⟨by rw [HM.out]; rfl, rfl⟩

theorem mpDeepest_any (g n cap : Nat) (f : Nat → Nat) (w : World) (h : Mp w g n f) :
    Calls Try.prog 81 #[.slice (some ⟨g, 0, none⟩) n cap] w fun e w' => e = .returned (.int .i64 ((mxD f n n : Nat) : Int)) ∧ Below w.heap.size w w' := by
  have H := Lib.hid h
  have h0 := h.n0
  have h1 := h.n1
  clear h
  go_enter Try.func81, Try.ntmps81
  go_wp2_with fail
  refine (mpDepths_any g n cap f _ H.out).mono ?_
  rintro e w1 ⟨u, rfl, hr, hb⟩
  obtain ⟨gu, cu, rfl⟩ : ∃ gu cu, u = .slice (some ⟨gu, 0, none⟩) n cu := by
    rcases hr.cases with ⟨_, hx⟩ | ⟨gu, cu, hu, _⟩
    · have := congrArg List.length hx; rw [lst_len] at this; simp at this; omega
    · rw [lst_len] at hu; exact ⟨gu, cu, hu⟩
  have HR := Lib.hid hr
  have HB := Lib.hid hb
  clear hr hb
  go_wp2
  go_loop [3, 9] (fun m i => ∃ k : Nat, k ≤ n ∧ i = .int .i64 k ∧ m = .int .i64 ((mxD f n k : Nat) : Int)) (fun _ i => n - (intOf i).toNat)
  case atStart => exact ⟨0, Nat.zero_le _, rfl, rfl⟩
  case round =>
    obtain ⟨k, hk, rfl, rfl⟩ := hrel
    by_cases hlt : k < n
    · have hcell : w1.cell? ⟨gu, k, none⟩ = some (.int .i64 ((dep f n k : Nat) : Int)) := by rw [HR.out.at.2.2.2.2.1 k (by rw [lst_len]; exact hlt), lst_at]
      have hd := (dep_spec (f := f) hlt).1
      have hx := mxD_le f n k hk
      go_wp2_with (go_at_call 97; refine (l1Most_any (mxD f n k) (dep f n k) _ (by omega) (by omega)).mono ?_; rintro e w2 ⟨rfl, rfl⟩)
      go_round
      case rel => exact ⟨k + 1, by omega, by go_num, rfl⟩
      case measure => simp [intOf]; omega
    · obtain rfl : k = n := by omega
      go_wp2
      go_ret
      exact ⟨rfl, HB.out⟩

theorem mpGcd_any : ∀ (N b a : Nat) (w : World), b ≤ N → a ≤ 10000000000 → b ≤ 10000000000 →
    Calls Try.prog 80 #[.int .i64 (a : Int), .int .i64 (b : Int)] w fun e w' => e = .returned (.int .i64 ((Nat.gcd a b : Nat) : Int)) ∧ w = w' := by
  intro N
  induction N with
  | zero =>
    intro b a w hb ha hb2
    obtain rfl : b = 0 := by omega
    have HG := Lib.hid (Nat.gcd_zero_right a)
    go_enter Try.func80, Try.ntmps80
    go_wp2
    go_ret
    exact ⟨by rw [HG.out]; rfl, rfl⟩
  | succ N ih =>
    intro b a w hb ha hb2
    by_cases h0 : b = 0
    · have HG := Lib.hid (show Nat.gcd a b = a by rw [h0]; exact Nat.gcd_zero_right a)
      have hz : ((b : Int) == 0) = true := beq_yes (by omega)
      clear h0
      go_enter Try.func80, Try.ntmps80
      go_wp2
      go_ret
      exact ⟨by rw [HG.out]; rfl, rfl⟩
    · have hz : ((b : Int) == 0) = false := beq_no (by omega)
      have hlt := Nat.mod_lt a (show b > 0 by omega)
      have HG := Lib.hid (show Nat.gcd b (a % b) = Nat.gcd a b by rw [Nat.gcd_comm b, ← Nat.gcd_rec, Nat.gcd_comm])
      have IH := Lib.hid ih
      obtain ⟨r, hr⟩ : ∃ r, r = a % b := ⟨_, rfl⟩
      have HR := Lib.hid (show (a : Int) % (b : Int) = (r : Int) by omega)
      rw [← hr] at hlt HG
      clear hr ih h0
      go_enter Try.func80, Try.ntmps80
      go_wp2_with (go_at_call 80; rw [HR.out]; refine (IH.out r b _ (by omega) (by omega) (by omega)).mono ?_; rw [HG.out]; rintro e w2 ⟨rfl, rfl⟩)
      go_ret
      exact ⟨rfl, rfl⟩

theorem gcd_any (a b : Nat) (w : World) (ha : a ≤ 10000000000) (hb : b ≤ 10000000000) :
    Calls Try.prog 98 #[.int .i64 (a : Int), .int .i64 (b : Int)] w fun e w' => e = .returned (.int .i64 ((Nat.gcd a b : Nat) : Int)) ∧ Below w.heap.size w w' := by
  go_enter Try.func98, Try.ntmps98
  go_wp2
  go_loopw [0, 1] (fun x y wr => ∃ (c d : Nat), x = .int .i64 (c : Int) ∧ y = .int .i64 (d : Int) ∧ c ≤ 10000000000 ∧ d ≤ 10000000000 ∧ Nat.gcd c d = Nat.gcd a b ∧ Below w.heap.size w wr) (fun _ y _ => (intOf y).toNat)
  case atStart => exact ⟨a, b, rfl, rfl, ha, hb, rfl, Below.refl _ _⟩
  case round =>
    obtain ⟨c, d, rfl, rfl, hc, hd, hg, hb⟩ := hrel
    have HG := Lib.hid hg
    have HB := Lib.hid hb
    clear hg hb
    by_cases h0 : d = 0
    · have hz : ¬ (0 : Int) < (d : Int) := by omega
      have HE := Lib.hid (show c = Nat.gcd a b by rw [← HG.out, h0, Nat.gcd_zero_right])
      clear h0
      go_wp2
      go_ret
      exact ⟨by rw [← HE.out]; rfl, HB.out⟩
    · have hz : (0 : Int) < (d : Int) := by omega
      have hz2 : ((d : Int) == 0) = false := beq_no (by omega)
      have hlt := Nat.mod_lt c (show d > 0 by omega)
      have HG2 := Lib.hid (show Nat.gcd d (c % d) = Nat.gcd a b by rw [Nat.gcd_comm d, ← Nat.gcd_rec, Nat.gcd_comm, HG.out])
      obtain ⟨r, hr⟩ : ∃ r, r = c % d := ⟨_, rfl⟩
      have HR := Lib.hid (show (c : Int) % (d : Int) = (r : Int) by omega)
      rw [← hr] at hlt HG2
      clear hr h0
      go_wp2
      go_region
      all_goals
        go_wp2
        go_roundw
        case rel => exact ⟨d, r, rfl, by rw [HR.out], hd, by omega, HG2.out, HB.out.drew⟩
        case measure => simp [intOf, HR.out]; omega

/-- The least common multiple of the lengths, taken one after the other. -/
def lcStep (d : Nat) (l : List Nat) : Nat := d / Nat.gcd d l.length * l.length
def lcT (ls : List (List Nat)) : Nat := ls.foldl lcStep 1

theorem cube3 : ∀ n, n ≤ 60 → n ^ 3 ≤ 3 ^ n := by decide
theorem lcStep_le (d : Nat) (l : List Nat) : lcStep d l ≤ d * l.length := Nat.mul_le_mul_right _ (Nat.div_le_self _ _)

theorem lc_bd : ∀ (ls : List (List Nat)) (d : Nat), (∀ l ∈ ls, l.length ≤ 60) → (ls.foldl lcStep d) ^ 3 ≤ d ^ 3 * 3 ^ (ls.map List.length).sum
  | [], d, _ => by simp
  | l :: ls, d, h => by
    have h1 := lc_bd ls (lcStep d l) (fun m hm => h m (List.mem_cons_of_mem _ hm))
    have h2 := cube3 l.length (h l (by simp))
    have h3 : (lcStep d l) ^ 3 ≤ d ^ 3 * 3 ^ l.length := by
      have := Nat.pow_le_pow_left (lcStep_le d l) 3
      rw [Nat.mul_pow] at this
      exact Nat.le_trans this (Nat.mul_le_mul_left _ h2)
    rw [List.foldl_cons, List.map_cons, List.sum_cons, Nat.pow_add, ← Nat.mul_assoc]
    exact Nat.le_trans h1 (Nat.mul_le_mul_right _ h3)

theorem lcT_le {ls : List (List Nat)} (h : ∀ l ∈ ls, l.length ≤ 60) (hs : (ls.map List.length).sum ≤ 60) : lcT ls ≤ 3486784401 := by
  have h1 := lc_bd ls 1 h
  have h2 : 3 ^ (ls.map List.length).sum ≤ 3 ^ 60 := Nat.pow_le_pow_right (by omega) hs
  by_cases hc : 3486784402 ≤ lcT ls
  · exfalso
    have h3 := Nat.pow_le_pow_left hc 3
    have h4 : (3486784402 : Nat) ^ 3 > 3 ^ 60 := by decide
    have h5 : lcT ls ^ 3 ≤ 1 ^ 3 * 3 ^ (ls.map List.length).sum := h1
    omega
  · omega

theorem lcT_pos : ∀ (ls : List (List Nat)) (d : Nat), 1 ≤ d → (∀ l ∈ ls, 1 ≤ l.length) → 1 ≤ ls.foldl lcStep d
  | [], d, hd, _ => hd
  | l :: ls, d, hd, h => by
    rw [List.foldl_cons]
    refine lcT_pos ls _ ?_ (fun m hm => h m (List.mem_cons_of_mem _ hm))
    have h1 := h l (by simp)
    have h2 : 1 ≤ d / Nat.gcd d l.length := Nat.div_pos (Nat.gcd_le_left _ (by omega)) (Nat.gcd_pos_of_pos_left _ (by omega))
    unfold lcStep
    exact Nat.mul_pos h2 h1

theorem lcT_snoc (ls : List (List Nat)) (l : List Nat) : lcT (ls ++ [l]) = lcStep (lcT ls) l := by simp [lcT]

theorem lcm_wrap {a b q c : Nat} (h1 : c ≤ 3486784401) (h2 : c * b ≤ 3486784401 * 60) (h : (a : Int) / (q : Int) = (c : Int)) : wrap64 (wrap64 ((a : Int) / (q : Int)) * (b : Int)) = ((c * b : Nat) : Int) := by
  rw [h]
  have e1 : wrap64 (c : Int) = (c : Int) := by unfold wrap64; omega
  rw [e1]
  have e2 : (c : Int) * (b : Int) = ((c * b : Nat) : Int) := by push_cast; rfl
  rw [e2]
  unfold wrap64
  omega

theorem lcm_any (a b : Nat) (w : World) (ha : 1 ≤ a) (ha2 : a ≤ 3486784401) (hb : 1 ≤ b) (hb2 : b ≤ 60) :
    Calls Try.prog 82 #[.int .i64 (a : Int), .int .i64 (b : Int)] w fun e w' => e = .returned (.int .i64 ((a / Nat.gcd a b * b : Nat) : Int)) ∧ Below w.heap.size w w' := by
  have hg := Nat.gcd_pos_of_pos_left b (show 0 < a by omega)
  obtain ⟨q, hq⟩ : ∃ q, q = Nat.gcd a b := ⟨_, rfl⟩
  have HQ := Lib.hid hq
  rw [← hq] at hg ⊢
  have hz : ((q : Int) == 0) = false := beq_no (by omega)
  have hle : a / q ≤ 3486784401 := Nat.le_trans (Nat.div_le_self _ _) ha2
  obtain ⟨c, hc⟩ : ∃ c, c = a / q := ⟨_, rfl⟩
  have HC := Lib.hid (show (a : Int) / (q : Int) = (c : Int) by rw [hc]; exact (Int.natCast_ediv a q).symm)
  rw [← hc] at hle ⊢
  have hm : c * b ≤ 3486784401 * 60 := Nat.mul_le_mul hle hb2
  have HM := Lib.hid (show (c : Int) * (b : Int) = ((c * b : Nat) : Int) by push_cast; rfl)
  have hm2 : 0 ≤ (c : Int) * (b : Int) ∧ (c : Int) * (b : Int) ≤ 300000000000 := by rw [HM.out]; omega
  rw [← HC.out] at hm2
  obtain ⟨m0, m1⟩ := hm2
  clear hq hc
  go_enter Try.func82, Try.ntmps82
  go_wp2_with (go_at_call 98; refine (gcd_any a b _ (by omega) (by omega)).mono ?_; rw [← HQ.out]; rintro e w1 ⟨rfl, hb⟩; have HB := Lib.hid hb; clear hb)
  go_ret
  exact ⟨ret_int (lcm_wrap hle hm HC.out), HB.out⟩

end Go.Proofs.Yticagncemlnafaa
