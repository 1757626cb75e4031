/-
  Joint text of G2 3P 0J 3K 0L 3V 3C 3D 3E (written by wip/tools/merge.py).
-/
import Derived.Test.YtnniiobiedfmoaaJ
import Derived.Test.YtnniiobiedfmoaaK
import Derived.Test.YtnniiobiedfmoaaVB
import Derived.Test.YtnniiobiedfmoaaUH
import Derived.Test.YtnniiobiedfmoaaZ
import Derived.Test.Ytnniiobiedfmoaa0D
import Derived.Test.Ytnniiobiedfmoaa0B
import Derived.Test.Ytnniiobiedfmoaa0G
import Derived.Test.YtnniiobiedfmoaaV9
import Derived.Test.YtnniiobiedfmoaaFZ
import Derived.Test.YtnniiobiedfmoaaUF
import Derived.Test.YtnniiobiedfmoaaG
import Derived.Test.YtnniiobiedfmoaaU9
import Derived.Test.YtnniiobiedfmoaaUL
/- from XG2 -/
namespace Go.Proofs.Ytnniiobiedfmoaa
open Go.RowKit
set_option linter.unusedVariables false
set_option linter.unusedSimpArgs false


theorem tell_sortedUp (n b : Int) (w : World) :
    Calls Try.prog 53 #[.int .i64 n, .int .i64 b, .func (Fn.func 54) #[] #[]] w fun e w' => e = .returned (optRes (askF RSortedUp n b)) ∧ Below w.heap.size w w' := by
  by_cases hn : Num n
  · have a1 : decide (Num n) = true := decide_eq_true hn
    by_cases hB : Bas b
    · have a2 : decide (Bas b) = true := decide_eq_true hB
      have hR := Lib.hid (show askF RSortedUp n b = RSortedUp b n from if_pos ⟨hn, hB⟩)
      obtain ⟨n0, n1⟩ := hn
      obtain ⟨b0, b1⟩ := hB
      go_enter Try.func53, Try.ntmps53
      go_wp2_with (first | (go_at_call 47; refine (isNumber_any _ _).mono ?_; rintro e w1 ⟨rfl, rfl⟩) | (go_at_call 48; refine (isBase_any _ _).mono ?_; rintro e w1 ⟨rfl, rfl⟩) | (go_at_call 54; refine (sortedUp_any _ _ _ n0 n1 b0 b1).mono ?_; rintro e w1 ⟨rfl, hbl⟩; have HB := Lib.hid hbl; clear hbl))
      go_ret2
      exact ⟨by rw [hR.out]; rfl, HB.out⟩
    · have a2 : decide (Bas b) = false := decide_eq_false hB
      have hR := Lib.hid (show askF RSortedUp n b = none from if_neg (fun h => hB h.2))
      clear hn hB
      go_enter Try.func53, Try.ntmps53
      go_wp2_with (first | (go_at_call 47; refine (isNumber_any _ _).mono ?_; rintro e w1 ⟨rfl, rfl⟩) | (go_at_call 48; refine (isBase_any _ _).mono ?_; rintro e w1 ⟨rfl, rfl⟩))
      go_ret2
      exact ⟨by rw [hR.out]; rfl, Below.refl _ _⟩
  · have a1 : decide (Num n) = false := decide_eq_false hn
    have hR := Lib.hid (show askF RSortedUp n b = none from if_neg (fun h => hn h.1))
    clear hn
    go_enter Try.func53, Try.ntmps53
    go_wp2_with (first | (go_at_call 47; refine (isNumber_any _ _).mono ?_; rintro e w1 ⟨rfl, rfl⟩) | (go_at_call 48; refine (isBase_any _ _).mono ?_; rintro e w1 ⟨rfl, rfl⟩))
    go_ret2
    exact ⟨by rw [hR.out]; rfl, Below.refl _ _⟩

theorem impl_SortedUp (n b : Int) (w : World) :
    Calls Try.prog 18 #[.int .i64 n, .int .i64 b] w fun e w' => e = .returned (optRes (askF RSortedUp n b)) ∧ Below w.heap.size w w' := by
  go_enter Try.func18, Try.ntmps18
  go_wp2_with (go_at_call 53; refine (tell_sortedUp _ _ _).mono ?_; rintro e w1 ⟨rfl, hbl⟩; have HB := Lib.hid hbl; clear hbl)
  go_ret2
  exact ⟨rfl, HB.out⟩

theorem askL_cnt_len (n b : Int) : (askL LDigitCounts n b).length ≤ 2000000 := by
  unfold askL
  split
  · rename_i h; have := h.2.2; rw [LDigitCounts, cnt_len]; omega
  · simp

end Go.Proofs.Ytnniiobiedfmoaa

/- from X3P -/
namespace Go.Proofs.Ytnniiobiedfmoaa
set_option linter.unusedVariables false
set_option linter.unusedSimpArgs false

theorem it_outP (f : Nat → Nat) (k x : Nat) : it f (k + 1) x = f (it f k x) := rfl
theorem srt_permP (xs : List Int) : (srt xs).Perm xs := List.mergeSort_perm xs _
theorem fold_mem : ∀ (zs : List Int) (a : Int), zs.foldl min a = a ∨ zs.foldl min a ∈ zs
  | [], a => .inl rfl
  | z :: zs, a => by
    rcases fold_mem zs (min a z) with h | h
    · rw [List.foldl_cons, h]
      by_cases hm : a ≤ z
      · left; omega
      · right
        have : min a z = z := by omega
        rw [this]; simp
    · right
      rw [List.foldl_cons]
      simp [h]
theorem fold_le : ∀ (zs : List Int) (a : Int), zs.foldl min a ≤ a ∧ ∀ z ∈ zs, zs.foldl min a ≤ z
  | [], a => ⟨Int.le_refl _, fun z hz => by simp at hz⟩
  | y :: zs, a => by
    obtain ⟨h1, h2⟩ := fold_le zs (min a y)
    rw [List.foldl_cons]
    refine ⟨by omega, fun z hz => ?_⟩
    rcases List.mem_cons.1 hz with rfl | hz
    · omega
    · exact h2 z hz
theorem minOf_facts : ∀ (zs : List Int), zs ≠ [] → Lib.minOf zs ∈ zs ∧ ∀ z ∈ zs, Lib.minOf zs ≤ z
  | [], h => absurd rfl h
  | y :: ys, _ => by
    have e : Lib.minOf (y :: ys) = (y :: ys).foldl min y := rfl
    rw [e]
    refine ⟨?_, (fold_le (y :: ys) y).2⟩
    rcases fold_mem (y :: ys) y with h | h
    · rw [h]; simp
    · exact h

/-- What holds of a run of power sums: r numbers, t of them not on the cycle, e the cycle's least. -/
structure RunF (b p n r t : Nat) (e : Int) : Prop where
  len : r ≤ 1012502
  tail : t < r
  step : ∀ k, k < r → ps b p (it (ps b p) k n) = it (ps b p) (if k + 1 < r then k + 1 else t) n
  bd : ∀ k, it (ps b p) k n ≤ 1000000000000
  ends : ∃ i, t ≤ i ∧ i < r ∧ e = ((it (ps b p) i n : Nat) : Int)
  least : ∀ i, t ≤ i → i < r → e ≤ ((it (ps b p) i n : Nat) : Int)
  top : it (ps b p) t n ≤ gs b p

theorem drop_memR {f : Nat → Nat} {M x t : Nat} {z : Int} (hz : z ∈ (run f M x).drop t) : ∃ i, t ≤ i ∧ i < rl f M x ∧ z = ((it f i x : Nat) : Int) := by
  obtain ⟨j, hj, e⟩ := List.getElem_of_mem hz
  rw [List.getElem_drop] at e
  simp [run] at hj e
  exact ⟨t + j, by omega, by omega, e.symm⟩
theorem mem_dropR {f : Nat → Nat} {M x t i : Nat} (h1 : t ≤ i) (h2 : i < rl f M x) : ((it f i x : Nat) : Int) ∈ (run f M x).drop t := by
  rw [List.mem_iff_getElem]
  refine ⟨i - t, by simp [run]; omega, ?_⟩
  rw [List.getElem_drop]
  simp [run, show t + (i - t) = i by omega]

theorem psl_le (p M : Nat) : ∀ (xs : List Int), (∀ x ∈ xs, x ≤ (M : Int)) → psl p xs ≤ xs.length * M ^ p
  | [], _ => by simp [psl]
  | x :: xs, h => by
    have h1 := psl_le p M xs (fun y hy => h y (by simp [hy]))
    have h2 : x.toNat ^ p ≤ M ^ p := Nat.pow_le_pow_left (by have := h x (by simp); omega) p
    rw [psl_cons, List.length_cons, Nat.succ_mul]
    omega
theorem ps_len {b p m : Nat} (hb : 2 ≤ b) (hp : 1 ≤ p) : ps b p m ≤ (dgs (b : Int) (m : Int)).length * (b - 1) ^ p := by
  rw [← psl_dgs hb hp]
  refine psl_le p (b - 1) _ (fun x hx => ?_)
  have := (dgs_all (b : Int) (m : Int) (by omega) (by omega) x hx).2
  omega
/-- A number with at least so many digits falls. -/
theorem long_falls {b p m : Nat} (hb : 2 ≤ b) (hb' : b ≤ 16) (hp : 1 ≤ p) (hp' : p ≤ 8) (h : ff b p ≤ (dgs (b : Int) (m : Int)).length) : ps b p m < m := by
  have h1 := ps_len (m := m) hb hp
  obtain ⟨i, hi⟩ : ∃ i, (dgs (b : Int) (m : Int)).length = ff b p + i := ⟨(dgs (b : Int) (m : Int)).length - ff b p, by omega⟩
  have h2 := falls_on hb hb' hp hp' i
  have h3 := (ff_spec hb hb' hp hp').1
  rw [hi] at h1
  have h4 : b ^ (ff b p - 1 + i) ≤ m := by
    by_cases hlt : m < b ^ (ff b p - 1 + i)
    · have := dgs_lenb hb (by omega) hlt
      omega
    · omega
  omega
/-- The others have no greater sum than that. -/
theorem short_le {b p m : Nat} (hb : 2 ≤ b) (hp : 1 ≤ p) (h : (dgs (b : Int) (m : Int)).length < ff b p) : ps b p m ≤ gs b p := by
  have h1 := ps_len (m := m) hb hp
  have h2 : (dgs (b : Int) (m : Int)).length * (b - 1) ^ p ≤ (ff b p - 1) * (b - 1) ^ p := Nat.mul_le_mul_right _ (by omega)
  unfold gs
  omega

theorem run_facts {b p n : Nat} (hb : 2 ≤ b) (hb' : b ≤ 16) (hp : 1 ≤ p) (hp' : p ≤ 4) (hn : n ≤ 1000000000000) : RunF b p n (rl (ps b p) PM n) (tl (ps b p) PM n) (endOf (ps b p) PM n) := by
  obtain ⟨s1, s2, s3, s4, s5, s6⟩ := rl_spec (it_ps (p := p) hb hb' hp' hn)
  have hne : (run (ps b p) PM n).drop (tl (ps b p) PM n) ≠ [] := by
    intro h
    have := congrArg List.length h
    simp [run] at this
    omega
  obtain ⟨m1, m2⟩ := minOf_facts _ hne
  obtain ⟨i, i1, i2, i3⟩ := drop_memR m1
  refine ⟨by unfold PM at s2; exact s2, s3, fun k hk => ?_, it_ps_le hb hb' hp' hn, ⟨i, i1, i2, i3⟩, fun j j1 j2 => m2 _ (mem_dropR j1 j2), ?_⟩
  · rw [← it_outP (ps b p) k n]
    by_cases h : k + 1 < rl (ps b p) PM n
    · rw [if_pos h]
    · rw [if_neg h, s4, show k + 1 = rl (ps b p) PM n by omega]
  · obtain ⟨f, hf⟩ : ∃ f, f = ps b p := ⟨_, rfl⟩
    obtain ⟨r, hr⟩ : ∃ r, r = rl f PM n := ⟨_, rfl⟩
    obtain ⟨t, ht⟩ : ∃ t, t = tl f PM n := ⟨_, rfl⟩
    rw [← hf, ← ht] at s3 ⊢
    rw [← hf, ← ht, ← hr] at s4
    rw [← hr] at s3
    have per : ∀ (m i : Nat), t ≤ i → it f (i + m * (r - t)) n = it f i n := by
      intro m
      induction m with
      | zero => intro i hi; simp
      | succ m ih =>
        intro i hi
        have e : i + (m + 1) * (r - t) = (i + m * (r - t) - t) + r := by rw [Nat.succ_mul]; omega
        have e2 : i + m * (r - t) = (i + m * (r - t) - t) + t := by omega
        rw [e, it_add, ← s4, ← it_add, ← e2, ih i hi]
    -- were it greater, each number before it on the round were greater still
    by_cases hle : it f t n ≤ gs b p
    · exact hle
    · exfalso
      have back : ∀ k, k ≤ t + (r - t) * (t + (it f t n + 1)) → gs b p < it f (t + (r - t) * (t + (it f t n + 1)) - k) n ∧ it f t n + k ≤ it f (t + (r - t) * (t + (it f t n + 1)) - k) n := by
        intro k
        induction k with
        | zero =>
          intro _
          have := per (t + (it f t n + 1)) t (Nat.le_refl _)
          rw [Nat.mul_comm] at this
          rw [Nat.sub_zero, this]
          omega
        | succ k ih =>
          intro hk
          obtain ⟨g1, g2⟩ := ih (by omega)
          obtain ⟨q, hq⟩ : ∃ q, t + (r - t) * (t + (it f t n + 1)) - (k + 1) = q := ⟨_, rfl⟩
          have e : t + (r - t) * (t + (it f t n + 1)) - k = q + 1 := by omega
          rw [e, it_outP] at g1 g2
          rw [hq]
          have hl : ff b p ≤ (dgs (b : Int) ((it f q n : Nat) : Int)).length := by
            by_cases h : ff b p ≤ (dgs (b : Int) ((it f q n : Nat) : Int)).length
            · exact h
            · have := short_le (p := p) hb hp (show (dgs (b : Int) ((it f q n : Nat) : Int)).length < ff b p by omega)
              rw [← hf] at this
              omega
          have hfall := long_falls hb hb' hp (by omega) hl
          rw [← hf] at hfall
          omega
      have hbig : t + (it f t n + 1) ≤ (r - t) * (t + (it f t n + 1)) := Nat.le_mul_of_pos_left _ (by omega)
      obtain ⟨Z, hZ⟩ : ∃ Z, Z = (r - t) * (t + (it f t n + 1)) := ⟨_, rfl⟩
      rw [← hZ] at hbig back
      obtain ⟨c1, c2⟩ := back Z (by omega)
      rw [show t + Z - Z = t by omega] at c2
      omega

theorem ps_digit {b p q d : Nat} (hb : 2 ≤ b) (hp : 1 ≤ p) (hd : d < b) : ps b p (q * b + d) = d ^ p + ps b p q := by
  by_cases h0 : q * b + d = 0
  · have hd0 : d = 0 := by omega
    have hq0 : q = 0 := by
      rcases Nat.eq_zero_or_pos q with h | h
      · exact h
      · have := Nat.mul_le_mul h hb; omega
    subst hd0 hq0
    rw [Nat.zero_mul, ps_zero, Nat.zero_pow (by omega)]
  · rw [ps_step p hb (by omega)]
    have m : (q * b + d) % b = d := by rw [Nat.add_comm, Nat.add_mul_mod_self_right, Nat.mod_eq_of_lt hd]
    have dv : (q * b + d) / b = q := by rw [Nat.add_comm, Nat.add_mul_div_right _ _ (by omega), Nat.div_eq_of_lt hd, Nat.zero_add]
    rw [m, dv]
theorem ps_val {b p : Nat} (hb : 2 ≤ b) (hp : 1 ≤ p) : ∀ (xs : List Int) (a : Nat), (∀ x ∈ xs, 0 ≤ x ∧ x ≤ (b : Int) - 1) → ∃ v : Nat, val (b : Int) xs (a : Int) = (v : Int) ∧ ps b p v = ps b p a + psl p xs
  | [], a, _ => ⟨a, rfl, by simp [psl]⟩
  | x :: xs, a, h => by
    obtain ⟨h1, h2⟩ := h x (by simp)
    obtain ⟨d, rfl⟩ : ∃ d : Nat, x = (d : Int) := ⟨x.toNat, by omega⟩
    obtain ⟨v, e1, e2⟩ := ps_val hb hp xs (a * b + d) (fun y hy => h y (by simp [hy]))
    refine ⟨v, ?_, ?_⟩
    · rw [val, ← e1]
      simp
    · rw [e2, ps_digit hb hp (by omega), psl_cons, Int.toNat_natCast]
      omega
/-- Sorted digits have the same power sum. -/
theorem ps_sorted {b p n : Nat} {m : Int} (hb : 2 ≤ b) (hp : 1 ≤ p) (h : numF (b : Int) (srt (dgs (b : Int) (n : Int))) 0 = some m) : ∃ v : Nat, m = (v : Int) ∧ v ≤ 1000000000000 ∧ ps b p v = ps b p n := by
  have hd := dgs_all (b : Int) (n : Int) (by omega) (by omega)
  have ha : ∀ x ∈ srt (dgs (b : Int) (n : Int)), 0 ≤ x ∧ x ≤ (b : Int) - 1 := fun x hx => hd x (srt_mem.1 hx)
  rw [numF_val (b : Int) (by omega) _ 0 (fun x hx => (ha x hx).1) (by omega) (by omega)] at h
  obtain ⟨v, e1, e2⟩ := ps_val hb hp _ 0 ha
  rw [show ((0 : Nat) : Int) = 0 from rfl] at e1
  rw [e1] at h
  by_cases hv : (v : Int) ≤ 1000000000000
  · rw [if_pos hv] at h
    refine ⟨v, (Option.some.inj h).symm, by omega, ?_⟩
    rw [e2, ps_zero, Nat.zero_add, psl_perm p (srt_permP _), psl_dgs hb hp]
  · rw [if_neg hv] at h
    cases h

end Go.Proofs.Ytnniiobiedfmoaa

/- from X0J -/
namespace Go.Proofs.Ytnniiobiedfmoaa
open Go.RowKit
set_option linter.unusedVariables false
set_option linter.unusedSimpArgs false
set_option maxRecDepth 100000

/-- As among_lit, the block's number, the length and the cells told as the walk has them. -/
theorem among_at (g : Nat) (v : Value) (xs : List Int) (K : Nat) (ys : List Int) (w : World) (h : Cu w g v xs K) (hK : K ≤ 1000000) (h1 : 1 ≤ ys.length) (h2 : ys.length ≤ 1000)
    {s n : Nat} {cs : Array Value} (hs : s = w.heap.size) (hn : n = ys.length) (hcs : cs = (ys.map (Value.int .i64)).toArray) :
    Calls Try.prog 56 #[.pointer (some ⟨g, 0, none⟩), .slice (some ⟨s, 0, none⟩) n n] (w.alloc (.cells cs 3)) fun e w' => ∃ x : Int, e = .returned (.int .i64 x) ∧ Cu w' g v xs (K + 2) ∧ w.grownBy w' (some g) := by
  subst hs hn hcs
  exact among_lit g v xs K ys w h hK h1 h2

end Go.Proofs.Ytnniiobiedfmoaa

/- from X3K -/
namespace Go.Proofs.Ytnniiobiedfmoaa
open Go.RowKit
set_option linter.unusedVariables false
set_option linter.unusedSimpArgs false
set_option maxRecDepth 100000

theorem powered_any (g : Nat) (v : Value) (xs : List Int) (K : Nat) (w : World) (h : Cu w g v xs K) (hK : K ≤ 800) :
    Calls Try.prog 61 #[.pointer (some ⟨g, 0, none⟩)] w fun e w' => ∃ z y p : Int, e = .returned (.tuple #[.int .i64 z, .int .i64 y, .int .i64 p]) ∧ Cu w' g v xs (K + 36) ∧ w.grownBy w' (some g) := by
  have HN := Lib.hid (numberD_any g v xs K w h (by omega))
  clear h
  go_enter Try.func61, Try.ntmps61
  go_wp2_with fail
  refine HN.out.mono ?_
  rintro e w1 ⟨z, rfl, hc, hg⟩
  have C1 := Lib.hid hc
  have G1 := Lib.hid hg
  clear hc hg
  go_wp2_with fail
  refine (base_any g v xs _ _ C1.out (by omega)).mono ?_
  rintro e w2 ⟨y, rfl, hc, hg⟩
  have C2 := Lib.hid hc
  have G2 := Lib.hid (grown_trans G1.out hg)
  clear hc hg
  go_wp2_with fail
  refine (among_at g v xs _ [1, 2, 2, 3, 3, 4, 5, 8, 9, 0] _ C2.out (by omega) (by simp) (by simp) rfl rfl rfl).mono ?_
  rintro e w3 ⟨p, rfl, hc, hg⟩
  have C3 := Lib.hid hc
  have G3 := Lib.hid (grown_trans G2.out hg)
  clear hc hg
  go_wp2
  go_ret3
  exact ⟨_, _, _, rfl, C3.out, G3.out⟩

theorem draw_PowerSum (v : Value) (xs : List Int) (w : World) (h : Sb w v xs) (hs : xs.length ≤ 1048576) :
    Calls Try.prog 23 #[v] w fun e w' => ∃ z y p : Int, e = .returned (.tuple #[.int .i64 z, .int .i64 y, .int .i64 p]) ∧ Below w.heap.size w w' := by
  have HC := Lib.hid (Cu.start h hs)
  obtain ⟨a, cap, rfl⟩ := h.len
  have HB := Lib.hid (alloc_below w (.cells #[.slice a xs.length cap, .int .i64 0, .int .u64 0] 67))
  clear h
  go_enter Try.func23, Try.ntmps23
  go_wp2_with fail
  refine (powered_any w.heap.size _ xs _ _ HC.out (by omega)).mono ?_
  rintro e w1 ⟨z, y, p, rfl, hc, hg⟩
  have HB1 := Lib.hid (HB.out.trans (grown_below hg (by simp) (Nat.le_refl _)))
  clear hc hg
  go_wp2
  go_ret3
  exact ⟨_, _, _, rfl, HB1.out⟩

theorem draw_PowerRun (v : Value) (xs : List Int) (w : World) (h : Sb w v xs) (hs : xs.length ≤ 1048576) :
    Calls Try.prog 7 #[v] w fun e w' => ∃ z y p : Int, e = .returned (.tuple #[.int .i64 z, .int .i64 y, .int .i64 p]) ∧ Below w.heap.size w w' := by
  have HD := Lib.hid (draw_PowerSum v xs w h hs)
  clear h
  go_enter Try.func7, Try.ntmps7
  go_wp2_with fail
  refine HD.out.mono ?_
  rintro e w1 ⟨z, y, p, rfl, hb⟩
  have HB := Lib.hid hb
  clear hb
  go_wp2
  go_ret3
  exact ⟨_, _, _, rfl, HB.out⟩

theorem draw_FallsFrom (v : Value) (xs : List Int) (w : World) (h : Sb w v xs) (hs : xs.length ≤ 1048576) :
    Calls Try.prog 19 #[v] w fun e w' => ∃ z y : Int, e = .returned (.tuple #[.int .i64 z, .int .i64 y]) ∧ Below w.heap.size w w' := by
  have HC := Lib.hid (Cu.start h hs)
  obtain ⟨a, cap, rfl⟩ := h.len
  have HB := Lib.hid (alloc_below w (.cells #[.slice a xs.length cap, .int .i64 0, .int .u64 0] 67))
  clear h
  go_enter Try.func19, Try.ntmps19
  go_wp2_with fail
  refine (base_any w.heap.size _ xs _ _ HC.out (by omega)).mono ?_
  rintro e w1 ⟨z, rfl, hc, hg⟩
  have C1 := Lib.hid hc
  have HB1 := Lib.hid (HB.out.trans (grown_below hg (by simp) (Nat.le_refl _)))
  clear hc hg
  go_wp2_with fail
  refine (among_at w.heap.size _ xs _ [1, 2, 3, 4, 5, 8, 9, 0] _ C1.out (by omega) (by simp) (by simp) rfl rfl rfl).mono ?_
  rintro e w2 ⟨y, rfl, hc, hg⟩
  have HB2 := Lib.hid (HB1.out.trans (grown_below hg HB1.out.size (Nat.le_refl _)))
  clear hc hg
  go_wp2
  go_ret2
  exact ⟨_, _, rfl, HB2.out⟩

theorem draw_CyclesOfPowers (v : Value) (xs : List Int) (w : World) (h : Sb w v xs) (hs : xs.length ≤ 1048576) :
    Calls Try.prog 26 #[v] w fun e w' => ∃ z y : Int, e = .returned (.tuple #[.int .i64 z, .int .i64 y]) ∧ Below w.heap.size w w' := by
  have HC := Lib.hid (Cu.start h hs)
  obtain ⟨a, cap, rfl⟩ := h.len
  have HB := Lib.hid (alloc_below w (.cells #[.slice a xs.length cap, .int .i64 0, .int .u64 0] 67))
  clear h
  go_enter Try.func26, Try.ntmps26
  go_wp2_with fail
  refine (among_at w.heap.size _ xs _ [2, 3, 4, 5, 6, 7, 8, 9, 10, 11, 1] _ HC.out (by omega) (by simp) (by simp) (World.size_alloc _ _).symm rfl rfl).mono ?_
  rintro e w1 ⟨z, rfl, hc, hg⟩
  have C1 := Lib.hid hc
  have HB1 := Lib.hid (HB.out.trans (grown_below hg (by simp) (Nat.le_refl _)))
  clear hc hg
  go_wp2_with fail
  refine (among_at w.heap.size _ xs _ [1, 2, 2, 3, 3, 4, 5, 0] _ C1.out (by omega) (by simp) (by simp) rfl rfl rfl).mono ?_
  rintro e w2 ⟨y, rfl, hc, hg⟩
  have HB2 := Lib.hid (HB1.out.trans (grown_below hg HB1.out.size (Nat.le_refl _)))
  clear hc hg
  go_wp2
  go_ret2
  exact ⟨_, _, rfl, HB2.out⟩

theorem draw_OwnPowers (v : Value) (xs : List Int) (w : World) (h : Sb w v xs) (hs : xs.length ≤ 1048576) :
    Calls Try.prog 34 #[v] w fun e w' => ∃ z y : Int, e = .returned (.tuple #[.int .i64 z, .int .i64 y]) ∧ Below w.heap.size w w' := by
  have HC := Lib.hid (Cu.start h hs)
  obtain ⟨a, cap, rfl⟩ := h.len
  have HB := Lib.hid (alloc_below w (.cells #[.slice a xs.length cap, .int .i64 0, .int .u64 0] 67))
  clear h
  go_enter Try.func34, Try.ntmps34
  go_wp2_with fail
  refine (among_at w.heap.size _ xs _ [2, 3, 4, 5, 7, 10, 10, 11, 1] _ HC.out (by omega) (by simp) (by simp) (World.size_alloc _ _).symm rfl rfl).mono ?_
  rintro e w1 ⟨z, rfl, hc, hg⟩
  have C1 := Lib.hid hc
  have HB1 := Lib.hid (HB.out.trans (grown_below hg (by simp) (Nat.le_refl _)))
  clear hc hg
  go_wp2_with fail
  refine (among_at w.heap.size _ xs _ [1, 2, 3, 3, 4, 7, 0] _ C1.out (by omega) (by simp) (by simp) rfl rfl rfl).mono ?_
  rintro e w2 ⟨y, rfl, hc, hg⟩
  have HB2 := Lib.hid (HB1.out.trans (grown_below hg HB1.out.size (Nat.le_refl _)))
  clear hc hg
  go_wp2
  go_ret2
  exact ⟨_, _, rfl, HB2.out⟩

theorem draw_Narcissistic (v : Value) (xs : List Int) (w : World) (h : Sb w v xs) (hs : xs.length ≤ 1048576) :
    Calls Try.prog 37 #[v] w fun e w' => ∃ z y : Int, e = .returned (.tuple #[.int .i64 z, .int .i64 y]) ∧ Below w.heap.size w w' := by
  have HC := Lib.hid (Cu.start h hs)
  obtain ⟨a, cap, rfl⟩ := h.len
  have HB := Lib.hid (alloc_below w (.cells #[.slice a xs.length cap, .int .i64 0, .int .u64 0] 67))
  clear h
  go_enter Try.func37, Try.ntmps37
  go_wp2_with fail
  refine (among_at w.heap.size _ xs _ [1, 2, 3, 3, 4, 5, 7, 0] _ HC.out (by omega) (by simp) (by simp) (World.size_alloc _ _).symm rfl rfl).mono ?_
  rintro e w1 ⟨z, rfl, hc, hg⟩
  have C1 := Lib.hid hc
  have HB1 := Lib.hid (HB.out.trans (grown_below hg (by simp) (Nat.le_refl _)))
  clear hc hg
  go_wp2_with fail
  refine (among_at w.heap.size _ xs _ [10, 10, 2, 3, 4, 5, 7, 11, 1] _ C1.out (by omega) (by simp) (by simp) rfl rfl rfl).mono ?_
  rintro e w2 ⟨y, rfl, hc, hg⟩
  have HB2 := Lib.hid (HB1.out.trans (grown_below hg HB1.out.size (Nat.le_refl _)))
  clear hc hg
  go_wp2
  go_ret2
  exact ⟨_, _, rfl, HB2.out⟩

end Go.Proofs.Ytnniiobiedfmoaa

/- from X0L -/
namespace Go.Proofs.Ytnniiobiedfmoaa
open Go.RowKit
set_option linter.unusedVariables false
set_option linter.unusedSimpArgs false
set_option maxRecDepth 100000

theorem rSame_any (v u : Value) (xs : List Int) (w : World) (hv : Sl w v xs) (hu : Sl w u xs) (hl : xs.length ≤ 2000000) :
    Calls Try.prog 14 #[v, u] w fun e w' => e = .returned (.bool true) ∧ Below w.heap.size w w' := by
  obtain ⟨a, cap, rfl, hx⟩ := hv
  obtain ⟨c, cap2, rfl, hy⟩ := hu
  have HX := Lib.hid hx
  have HY := Lib.hid hy
  clear hx hy
  go_enter Try.func14, Try.ntmps14
  go_wp2
  go_loopw [13] (fun i wr => ∃ k : Nat, k ≤ xs.length ∧ i = .int .i64 k ∧ Below w.heap.size w wr) (fun i _ => xs.length - (intOf i).toNat)
  case atStart => exact ⟨0, Nat.zero_le _, rfl, Below.refl _ _⟩
  case round =>
    obtain ⟨k, hk, rfl, hb⟩ := hrel
    have HB := Lib.hid hb
    clear hb
    by_cases hlt : k < xs.length
    · rcases HX.out with hx | ⟨b, off, rfl, hbl, hc⟩
      · rw [hx] at hlt; simp at hlt
      rcases HY.out with hy | ⟨b2, off2, rfl, hbl2, hc2⟩
      · rw [hy] at hlt; simp at hlt
      have hcell : wr.cell? ⟨b, off + k, none⟩ = some (.int .i64 xs[k]) := (HB.out.cell (p := ⟨b, off + k, none⟩) hbl).trans (hc k hlt)
      have hcell2 : wr.cell? ⟨b2, off2 + k, none⟩ = some (.int .i64 xs[k]) := (HB.out.cell (p := ⟨b2, off2 + k, none⟩) hbl2).trans (hc2 k hlt)
      obtain ⟨x, hx⟩ : ∃ x, x = xs[k] := ⟨_, rfl⟩
      rw [← hx] at hcell hcell2
      clear hc hc2 hx
      go_wp2
      go_region
      all_goals
        go_wp2
        go_roundw
        case rel => exact ⟨k + 1, by omega, by go_num, HB.out.drew⟩
        case measure => simp [intOf]; omega
    · obtain rfl : k = xs.length := by omega
      go_wp2
      go_ret
      exact ⟨rfl, HB.out⟩
theorem rd_liesW {w : World} {B : Nat} {v : Value} {xs : List Int} (hr : Rd w B v xs) : ∃ a cap, v = .slice a xs.length cap ∧ xs.length ≤ cap ∧ (xs.length = 0 ∨ ∃ g, a = some ⟨g, 0, none⟩ ∧ g < w.heap.size ∧ ∀ (j : Nat) x, xs[j]? = some x → w.cell? ⟨g, j, none⟩ = some (.int .i64 x)) := by
  rcases hr.cases with ⟨rfl, rfl⟩ | ⟨g, cap, rfl, _⟩
  · exact ⟨none, 0, rfl, Nat.le_refl _, .inl rfl⟩
  · refine ⟨_, _, rfl, hr.at.2.2.2.1, .inr ⟨g, rfl, hr.at.2.2.1, fun j x hx => ?_⟩⟩
    obtain ⟨h1, h2⟩ := List.getElem?_eq_some_iff.1 hx
    rw [hr.at.2.2.2.2.1 j h1, h2]
theorem sum_bdW : ∀ (xs : List Int), (∀ x ∈ xs, 0 ≤ x ∧ x ≤ 1000000000000) → 0 ≤ xs.sum ∧ xs.sum ≤ 1000000000000 * xs.length
  | [], _ => by simp
  | x :: xs, h => by
    have h1 := h x (by simp)
    have h2 := sum_bdW xs (fun y hy => h y (by simp [hy]))
    simp
    omega
theorem rRising_any (v : Value) (xs : List Int) (B : Nat) (w : World) (h : Rd w B v xs) (hx : xs.Pairwise (· < ·)) (hl : xs.length ≤ 2000000) :
    Calls Try.prog 30 #[v] w fun e w' => e = .returned (.bool true) ∧ Below w.heap.size w w' := by
  obtain ⟨a, cap, rfl, hcap, hlies⟩ := rd_liesW h
  have HX := Lib.hid (List.pairwise_iff_getElem.1 hx)
  have HL := Lib.hid hlies
  obtain ⟨N, hN⟩ : ∃ N, N = xs.length := ⟨_, rfl⟩
  have HN := Lib.hid hN
  rw [← hN] at hcap hl ⊢
  clear h hx hlies hN
  go_enter Try.func30, Try.ntmps30
  go_wp2
  go_loopw [3] (fun i wr => ∃ k : Nat, k ≤ N ∧ i = .int .i64 ((k : Int) + 1) ∧ Below w.heap.size w wr) (fun i _ => N + 1 - (intOf i).toNat)
  case atStart => exact ⟨0, Nat.zero_le _, by go_num, Below.refl _ _⟩
  case round =>
    obtain ⟨k, hk, rfl, hb⟩ := hrel
    have HB := Lib.hid hb
    clear hb
    by_cases hlt : k + 1 < N
    · have hlt2 : (k : Int) + 1 < (N : Int) := by omega
      rcases HL.out with h0 | ⟨g, rfl, hg, hc⟩
      · exfalso; have := HN.out; omega
      have k1 : k < xs.length := by have := HN.out; omega
      have k2 : k + 1 < xs.length := by have := HN.out; omega
      have z0 := (HB.out.cell (p := ⟨g, k, none⟩) hg).trans (hc k _ (List.getElem?_eq_getElem k1))
      have z1 := (HB.out.cell (p := ⟨g, k + 1, none⟩) hg).trans (hc (k + 1) _ (List.getElem?_eq_getElem k2))
      have hr := HX.out k (k + 1) k1 k2 (by omega)
      obtain ⟨x, hx⟩ : ∃ x, x = xs[k] := ⟨_, rfl⟩
      obtain ⟨y, hy⟩ : ∃ y, y = xs[k + 1] := ⟨_, rfl⟩
      rw [← hx] at z0 hr
      rw [← hy] at z1 hr
      have hnl : ¬ y ≤ x := by omega
      have hw1 : wrap64 ((k : Int) + 1 - 1) = (k : Int) := by unfold wrap64; omega
      have hw2 : IntKind.i64.wrap ((k : Int) + 1 - 1) = (k : Int) := by rw [IntWalk.i64_in _ (by omega)]; omega
      clear hc hx hy k1 k2
      go_wp2
      go_region
      all_goals
        go_wp2
        go_roundw
        case rel => exact ⟨k + 1, by omega, by go_num, HB.out.drew⟩
        case measure => simp [intOf]; omega
    · have hlt2 : ¬ (k : Int) + 1 < (N : Int) := by omega
      go_wp2
      go_ret
      exact ⟨rfl, HB.out⟩

/-- A list that can be read: nothing, or cells from some place on. -/
def Src0 (w : World) (a : Option Addr) (xs : List Int) : Prop := xs.length = 0 ∨ ∃ g o, a = some ⟨g, o, none⟩ ∧ ∀ (j : Nat) x, xs[j]? = some x → w.cell? ⟨g, o + j, none⟩ = some (.int .i64 x)
theorem Src0.drop {w : World} {g : Nat} {xs : List Int} (h : ∀ (j : Nat) x, xs[j]? = some x → w.cell? ⟨g, j, none⟩ = some (.int .i64 x)) (t : Nat) : Src0 w (some ⟨g, t, none⟩) (xs.drop t) :=
  .inr ⟨g, t, rfl, fun j x hx => h (t + j) x (by rw [← List.getElem?_drop]; exact hx)⟩
theorem rHas_any (a : Option Addr) (xs : List Int) (N cap : Nat) (n : Int) (w : World) (h : Src0 w a xs) (hN : N = xs.length) (hl : N ≤ 2000000) :
    Calls Try.prog 15 #[.slice a N cap, .int .i64 n] w fun e w' => e = .returned (.bool (decide (n ∈ xs))) ∧ w = w' := by
  have HX := Lib.hid h
  have HN := Lib.hid hN
  clear h hN
  go_enter Try.func15, Try.ntmps15
  go_wp2
  go_loopw [9] (fun i wr => ∃ k : Nat, k ≤ N ∧ i = .int .i64 (k : Int) ∧ w = wr ∧ ∀ j, j < k → ∀ x, xs[j]? = some x → x ≠ n) (fun i _ => N - (intOf i).toNat)
  case atStart => exact ⟨0, Nat.zero_le _, rfl, rfl, fun j hj => by omega⟩
  case round =>
    obtain ⟨k, hk, rfl, rfl, hne⟩ := hrel
    have HE := Lib.hid hne
    clear hne
    by_cases hlt : k < N
    · have hlt2 : k < xs.length := by have := HN.out; omega
      have hgx := List.getElem?_eq_getElem hlt2
      rcases HX.out with h0 | ⟨g, o, rfl, hc⟩
      · exfalso; omega
      have z0 := hc k _ hgx
      have HGX := Lib.hid hgx
      obtain ⟨y, hy⟩ : ∃ y, y = xs[k] := ⟨_, rfl⟩
      rw [← hy] at z0 HGX
      clear hc hgx hlt2 hy
      by_cases he : y = n
      · have HM := Lib.hid (show n ∈ xs from he ▸ List.mem_of_getElem? HGX.out)
        have he2 : (y == n) = true := by simp [he]
        go_wp2
        go_ret
        exact ⟨by rw [decide_eq_true HM.out]; rfl, by first | rfl | trivial⟩
      · have HNE := Lib.hid he
        go_wp2
        go_roundw
        case rel =>
          refine ⟨k + 1, by omega, by go_num, by first | rfl | trivial, fun j hj x hx => ?_⟩
          by_cases hjk : j < k
          · exact HE.out j hjk x hx
          · have : j = k := by omega
            subst this
            rw [HGX.out] at hx
            exact Option.some.inj hx ▸ HNE.out
        case measure => simp [intOf]; omega
    · have HM := Lib.hid (show n ∉ xs from fun hm => by
        obtain ⟨j, hj, e⟩ := List.getElem_of_mem hm
        have := HN.out
        exact HE.out j (by omega) n (by rw [List.getElem?_eq_getElem hj, e]) rfl)
      go_wp2
      go_ret
      exact ⟨by rw [decide_eq_false HM.out]; rfl, by first | rfl | trivial⟩

end Go.Proofs.Ytnniiobiedfmoaa

/- from X3V -/
namespace Go.Proofs.Ytnniiobiedfmoaa
open Go.RowKit
set_option linter.unusedVariables false
set_option linter.unusedSimpArgs false
set_option maxRecDepth 100000

theorem getD_memV {xs : List Int} {k : Nat} (h : k < xs.length) : xs.getD k 0 ∈ xs := by
  rw [List.getD_eq_getElem?_getD, List.getElem?_eq_getElem h]
  exact List.getElem_mem h
theorem getD_someV {xs : List Int} {k : Nat} (h : k < xs.length) : xs[k]? = some (xs.getD k 0) := by
  rw [List.getD_eq_getElem?_getD, List.getElem?_eq_getElem h]
  rfl
theorem ps_0 (b p : Nat) : ps b p 0 = 0 := by unfold ps; simp
theorem ps_1 {b p : Nat} (hb : 2 ≤ b) (hp : 1 ≤ p) : ps b p 1 = 1 := by
  have h := ps_digit (b := b) (p := p) (q := 0) (d := 1) hb hp (by omega)
  rw [Nat.zero_mul, Nat.zero_add, ps_0, Nat.one_pow] at h
  exact h

/-- What the law asks of the list of own numbers. -/
structure OwnF (b p : Nat) (own : List Int) : Prop where
  rise : own.Pairwise (· < ·)
  zero : (0 : Int) ∈ own
  one : (1 : Int) ∈ own
  len : own.length ≤ 2000000
  mem : ∀ j, j < own.length → ∃ X : Nat, own.getD j 0 = (X : Int) ∧ X ≤ 1000000000000 ∧ ps b p X = X
  iff : ∀ n : Nat, decide ((n : Int) ∈ own) = decide (ps b p n = n)
theorem own_facts {b p : Nat} (hb : 2 ≤ b) (hb' : b ≤ 10) (hp : 1 ≤ p) (hp' : p ≤ 6) : OwnF b p (ownL b p) := by
  have hm := ownL_mem hb (show b ≤ 16 by omega) hp (show p ≤ 8 by omega)
  refine ⟨cano_rise _, (hm 0).2 ⟨0, rfl, ps_0 b p⟩, (hm 1).2 ⟨1, rfl, ps_1 hb hp⟩, ?_, fun j hj => ?_, fun n => ?_⟩
  · have h := LF_OwnPowers_len (b : Int) (p : Int)
    unfold LF_OwnPowers at h
    rw [if_pos (show OKO (b : Int) (p : Int) = true from decide_eq_true ⟨⟨by omega, by omega⟩, by omega, by omega⟩)] at h
    exact h
  · obtain ⟨X, e, hX⟩ := (hm _).1 (getD_memV hj)
    have h2 := own_small hb hb' hp hp' _ (getD_memV hj)
    exact ⟨X, e, by omega, hX⟩
  · have h := hm (n : Int)
    by_cases e : ps b p n = n
    · rw [decide_eq_true e, decide_eq_true (h.2 ⟨n, rfl, e⟩)]
    · rw [decide_eq_false e, decide_eq_false (fun hc => by
        obtain ⟨X, e1, e2⟩ := h.1 hc
        have : n = X := by omega
        subst this
        exact e e2)]

/-- How many of the first rows hold one number. -/
def onesZ (Z : Nat → List Int) : Nat → Nat
  | 0 => 0
  | i + 1 => onesZ Z i + if (Z i).length = 1 then 1 else 0
theorem onesZ_le (Z : Nat → List Int) : ∀ i, onesZ Z i ≤ i
  | 0 => Nat.le_refl _
  | i + 1 => by
    have := onesZ_le Z i
    simp only [onesZ]
    split <;> omega
theorem ones_take (ls : List (List Nat)) : ∀ i, i ≤ ls.length → onesZ (lsZ ls) i = ((ls.take i).filter fun l => decide (l.length = 1)).length
  | 0, _ => by simp [onesZ]
  | i + 1, h => by
    have ih := ones_take ls i (by omega)
    have e : ls.take (i + 1) = ls.take i ++ [ls[i]'(by omega)] := by rw [List.take_add_one, List.getElem?_eq_getElem (by omega)]; simp
    have e2 : (lsZ ls i).length = (ls[i]'(by omega)).length := by
      unfold lsZ nts
      rw [List.length_map, List.getD_eq_getElem?_getD, List.getElem?_eq_getElem (by omega)]
      rfl
    rw [onesZ, ih, e, List.filter_append, List.length_append, e2]
    by_cases h1 : (ls[i]'(by omega)).length = 1
    · rw [if_pos h1]; simp [h1]
    · rw [if_neg h1]; simp [h1]
theorem it_fixV {f : Nat → Nat} {y : Nat} (h : f y = y) : ∀ k, it f k y = y
  | 0 => rfl
  | k + 1 => by rw [it, it_fixV h k, h]
theorem ps_inV {b p : Nat} (hb : 2 ≤ b) (hb' : b ≤ 16) (hp : 1 ≤ p) (hp' : p ≤ 8) : Into (ps b p) (gs b p + 1) := by
  intro j hj
  by_cases h : ff b p ≤ (dgs (b : Int) (j : Int)).length
  · have := long_falls hb hb' hp hp' h
    omega
  · have := short_le (m := j) hb hp (by omega)
    omega
theorem per_one {f : Nat → Nat} {n y : Nat} (h : Into f n) (hy : y < n) : (lead f n y && decide (per f n y = 1)) = decide (f y = y) := by
  by_cases e : f y = y
  · have hc : cyc f n y = true := cyc_iff.2 ⟨y, hy, it_fixV e n⟩
    have hl : lead f n y = true := by
      unfold lead
      rw [hc, Bool.true_and, List.all_eq_true]
      intro j _
      rw [it_fixV e j]
      simp
    obtain ⟨p1, p2, p3, p4⟩ := per_spec h hc
    have h1 : per f n y = 1 := by
      by_cases h2 : per f n y = 1
      · exact h2
      · exact absurd (it_fixV e 1) (p4 1 (by omega) (by omega))
    rw [hl, decide_eq_true h1, decide_eq_true e]
    rfl
  · rw [decide_eq_false e]
    cases hl : lead f n y with
    | false => rfl
    | true =>
      have hc : cyc f n y = true := by
        unfold lead at hl
        simp only [Bool.and_eq_true] at hl
        exact hl.1
      obtain ⟨p1, p2, p3, p4⟩ := per_spec h hc
      rw [Bool.true_and]
      refine decide_eq_false (fun h1 => ?_)
      rw [h1] at p3
      exact e p3
/-- The cycles of one number are the own numbers. -/
theorem ones_own {b p : Nat} (hb : 2 ≤ b) (hb' : b ≤ 10) (hp : 1 ≤ p) (hp' : p ≤ 4) :
    onesZ (lsZ (cycs (ps b p) (gs b p + 1))) (cycs (ps b p) (gs b p + 1)).length = (ownL b p).length := by
  rw [ones_take _ _ (Nat.le_refl _), List.take_of_length_le (Nat.le_refl _)]
  have hin := ps_inV hb (show b ≤ 16 by omega) hp (show p ≤ 8 by omega)
  have hm := ownL_mem hb (show b ≤ 16 by omega) hp (show p ≤ 8 by omega)
  have hfix : ∀ X : Nat, ps b p X = X → X < gs b p + 1 := by
    intro X hX
    by_cases h : ff b p ≤ (dgs (b : Int) (X : Int)).length
    · have := long_falls hb (show b ≤ 16 by omega) hp (show p ≤ 8 by omega) h
      omega
    · have := short_le (m := X) hb hp (by omega)
      omega
  obtain ⟨N, hN⟩ : ∃ N, N = gs b p + 1 := ⟨_, rfl⟩
  rw [← hN] at hin hfix ⊢
  have e1 : ((cycs (ps b p) N).filter fun l => decide (l.length = 1)).length = ((List.range N).filter fun y => decide (ps b p y = y)).length := by
    unfold cycs cycsTo
    rw [List.filter_map, List.length_map, List.filter_filter]
    congr 1
    refine List.filter_congr (fun y hy => ?_)
    rw [← per_one hin (List.mem_range.1 hy)]
    simp only [Function.comp, rnd, List.length_map, List.length_range]
    exact Bool.and_comm _ _
  rw [e1]
  have e2 : ownL b p = ((List.range N).filter fun y => decide (ps b p y = y)).map fun (y : Nat) => (y : Int) := by
    refine rise_unique (cano_rise _) ?_ (fun z => ?_)
    · refine List.Pairwise.map _ (fun a c h => ?_) (List.Pairwise.sublist List.filter_sublist List.pairwise_lt_range)
      omega
    · rw [hm z, List.mem_map]
      constructor
      · rintro ⟨X, e, hX⟩
        exact ⟨X, List.mem_filter.2 ⟨List.mem_range.2 (hfix X hX), decide_eq_true hX⟩, e.symm⟩
      · rintro ⟨y, hy, e⟩
        exact ⟨y, e.symm, of_decide_eq_true (List.mem_filter.1 hy).2⟩
  rw [e2, List.length_map]

/-- What the law asks of numbers of as many digits as the power. -/
structure NarF (b k : Nat) (xs : List Int) : Prop where
  len : xs.length ≤ 2000000
  mem : ∀ j, j < xs.length → ∃ X : Nat, xs.getD j 0 = (X : Int) ∧ X ≤ 1000000000000 ∧ ps b k X = X ∧ (dgs (b : Int) (X : Int)).length = k ∧ (X : Int) ∈ ownL b k
theorem nar_facts {b k : Nat} (hb : 2 ≤ b) (hb' : b ≤ 10) (hp : 1 ≤ k) (hp' : k ≤ 6) : NarF b k ((ownL b k).filter (keep' b k)) := by
  refine ⟨Nat.le_trans (List.length_filter_le _ _) (own_facts hb hb' hp hp').len, fun j hj => ?_⟩
  have h := getD_memV hj
  obtain ⟨h1, h2⟩ := List.mem_filter.1 h
  obtain ⟨X, e, hX⟩ := (ownL_mem hb (show b ≤ 16 by omega) hp (show k ≤ 8 by omega) _).1 h1
  have h3 := own_small hb hb' hp hp' _ h1
  rw [e] at h1 h2 h3
  refine ⟨X, e, by omega, hX, ?_, h1⟩
  unfold keep' odd' at h2
  simpa using h2

theorem power_atV {N B P : Nat} (hN : N ≤ 1000000000000) (hB : 2 ≤ B) (hB2 : B ≤ 16) (hP : 1 ≤ P) (hP2 : P ≤ 8) (w : World) :
    Calls Try.prog 16 #[.int .i64 (N : Int), .int .i64 (B : Int), .int .i64 (P : Int)] w fun e w' => e = .returned (.tuple #[.int .i64 ((ps B P N : Nat) : Int), .bool true]) ∧ Below w.heap.size w w' := by
  have h := impl_PowerSum (N : Int) (B : Int) (P : Int) w
  have eO : OK3 (N : Int) (B : Int) (P : Int) 8 = true := OK3_yes ⟨by omega, by omega⟩ ⟨by omega, by omega⟩ ⟨by omega, by omega⟩
  have eP : V_PowerSum (N : Int) (B : Int) (P : Int) = ((ps B P N : Nat) : Int) := by unfold V_PowerSum; rw [if_pos eO]; rfl
  simp only [R_PowerSum] at h
  rw [eP, eO] at h
  exact h
theorem count_atV {N B : Nat} (hN : N ≤ 1000000000000) (hB : 2 ≤ B) (hB2 : B ≤ 16) (w : World) :
    Calls Try.prog 25 #[.int .i64 (N : Int), .int .i64 (B : Int)] w fun e w' => e = .returned (.tuple #[.int .i64 (((dgs (B : Int) (N : Int)).length : Nat) : Int), .bool true]) ∧ Below w.heap.size w w' := by
  have h := impl_CountDigits (N : Int) (B : Int) w
  have eO : askI RCountDigits (N : Int) (B : Int) = some (((dgs (B : Int) (N : Int)).length : Nat) : Int) := if_pos ⟨⟨by omega, by omega⟩, by omega, by omega⟩
  rw [eO] at h
  exact h
theorem src0_lies {w : World} {B : Nat} {v : Value} {xs : List Int} (h : Rd w B v xs) : ∃ a cap, v = .slice a xs.length cap ∧ Src0 w a xs := by
  obtain ⟨a, cap, rfl, hc, hl⟩ := rd_liesW h
  rcases hl with hl | ⟨g, rfl, hg, hl⟩
  · exact ⟨a, cap, rfl, .inl hl⟩
  · exact ⟨_, cap, rfl, .inr ⟨g, 0, rfl, fun j x hx => by rw [Nat.zero_add]; exact hl j x hx⟩⟩
theorem slice_V {w : World} {B : Nat} {v : Value} {xs : List Int} (h : Rd w B v xs) (h0 : 0 < xs.length) : ∃ g cap, v = .slice (some ⟨g, 0, none⟩) xs.length cap := by
  obtain ⟨a, cap, rfl, hc, hl⟩ := rd_liesW h
  rcases hl with hl | ⟨g, rfl, hg, hl⟩
  · omega
  · exact ⟨g, cap, rfl⟩
theorem cell_V {w : World} {B g cap n : Nat} {xs : List Int} (h : Rd w B (.slice (some ⟨g, 0, none⟩) n cap) xs) {j : Nat} (hj : j < xs.length) : w.cell? ⟨g, j, none⟩ = some (.int .i64 (xs.getD j 0)) := by
  rw [h.at.2.2.2.2.1 j hj, List.getD_eq_getElem?_getD, List.getElem?_eq_getElem hj]
  rfl
theorem src0_V {w : World} {B g cap n : Nat} {xs : List Int} (h : Rd w B (.slice (some ⟨g, 0, none⟩) n cap) xs) : Src0 w (some ⟨g, 0, none⟩) xs :=
  .inr ⟨g, 0, rfl, fun j x hx => by
    obtain ⟨h1, h2⟩ := List.getElem?_eq_some_iff.1 hx
    rw [Nat.zero_add, h.at.2.2.2.2.1 j h1, h2]⟩
end Go.Proofs.Ytnniiobiedfmoaa

/- from X3C -/
namespace Go.Proofs.Ytnniiobiedfmoaa
open Go.RowKit
set_option linter.unusedVariables false
set_option linter.unusedSimpArgs false

/-! The least number of a sum. -/
theorem fw_min {b p : Nat} (hb : 2 ≤ b) (hp : 1 ≤ p) : ∀ xs : List Int, (∀ x ∈ xs, 0 ≤ x ∧ x ≤ (b : Int) - 1) → fw b p (psl p xs) ≤ xs.length
  | [], _ => by rw [psl_nil, fw_zero]; exact Nat.zero_le _
  | x :: xs, h => by
    have ih := fw_min hb hp xs (fun y hy => h y (by simp [hy]))
    obtain ⟨h1, h2⟩ := h x (by simp)
    obtain ⟨d, rfl⟩ : ∃ d : Nat, x = (d : Int) := ⟨x.toNat, by omega⟩
    rw [psl_cons, Int.toNat_natCast, List.length_cons]
    by_cases h0 : d = 0
    · subst h0
      rw [Nat.zero_pow (by omega), Nat.zero_add]
      omega
    · have hd1 : 1 ≤ d ^ p := Nat.pow_pos (by omega)
      obtain ⟨t, ht⟩ : ∃ t, d ^ p + psl p xs = t + 1 := ⟨d ^ p + psl p xs - 1, by omega⟩
      have hdm : d ≤ dm b p (t + 1) := by
        by_cases hc : d ≤ dm b p (t + 1)
        · exact hc
        · have h3 := (dm_spec (p := p) (s := t + 1) hb).2.2
          refine absurd ⟨by omega, ?_⟩ h3
          have := Nat.pow_le_pow_left (show dm b p (t + 1) + 1 ≤ d by omega) p
          omega
      have h4 := mn_le (F := fw b p) (p := p) (s := t + 1) (n := dm b p (t + 1)) (d := d) (by omega) hdm
      rw [ht, fw_succ]
      rw [show t + 1 - d ^ p = psl p xs by omega] at h4
      omega
theorem dgL_sum {b p : Nat} (hb : 2 ≤ b) : ∀ n s, s ≤ 2000 → fw b p s ≤ n → psl p (dgL b p n s) = s
  | 0, s, h1, h2 => by
    by_cases h0 : s = 0
    · subst h0; rfl
    · have := fw_pos (b := b) (p := p) (s := s) (by omega)
      omega
  | n + 1, s, h1, h2 => by
    by_cases h0 : s = 0
    · subst h0; rw [dgL_zero]; rfl
    · obtain ⟨f1, f2, f3, f4, f5⟩ := fd_spec (b := b) (p := p) (s := s) hb (by omega) h1
      rw [dgL_step (by omega), psl_cons, Int.toNat_natCast, dgL_sum hb n _ (by omega) (by omega)]
      omega
theorem dgL_all {b p : Nat} (hb : 2 ≤ b) (n s : Nat) (hs : s ≤ 2000) : ∀ x ∈ dgL b p n s, 0 ≤ x ∧ x ≤ (b : Int) - 1 := fun x hx => by
  have := dgL_pos (p := p) hb n s hs x hx
  omega
theorem dgL_least {b p : Nat} (hb : 2 ≤ b) (hp : 1 ≤ p) : ∀ (n s : Nat) (xs : List Int) (a : Int), s ≤ 2000 → fw b p s = xs.length → xs.length ≤ n → psl p xs = s → (∀ x ∈ xs, 0 ≤ x ∧ x ≤ (b : Int) - 1) → 0 ≤ a → val (b : Int) (dgL b p n s) a ≤ val (b : Int) xs a
  | n, s, [], a, hs, hf, hn, he, hx, ha => by
    rw [psl_nil] at he
    subst he
    rw [dgL_zero]
    exact Int.le_refl _
  | 0, s, x :: xs, a, hs, hf, hn, he, hx, ha => by simp at hn
  | n + 1, s, x :: xs, a, hs, hf, hn, he, hx, ha => by
    obtain ⟨h1, h2⟩ := hx x (by simp)
    have hx' : ∀ y ∈ xs, 0 ≤ y ∧ y ≤ (b : Int) - 1 := fun y hy => hx y (by simp [hy])
    obtain ⟨d, rfl⟩ : ∃ d : Nat, x = (d : Int) := ⟨x.toNat, by omega⟩
    rw [psl_cons, Int.toNat_natCast] at he
    rw [List.length_cons] at hf hn
    have hm := fw_min hb hp xs hx'
    have h0 : s ≠ 0 := by
      intro h
      rw [h, fw_zero] at hf
      omega
    have hd0 : d ≠ 0 := by
      intro h
      subst h
      rw [Nat.zero_pow (by omega), Nat.zero_add] at he
      rw [he] at hm
      omega
    obtain ⟨f1, f2, f3, f4, f5⟩ := fd_spec (b := b) (p := p) (s := s) hb (by omega) hs
    have hsd : s - d ^ p = psl p xs := by omega
    have hle : fw b p s ≤ 1 + fw b p (psl p xs) := by
      obtain ⟨t, ht⟩ : ∃ t, s = t + 1 := ⟨s - 1, by omega⟩
      have hdm : d ≤ dm b p (t + 1) := by
        by_cases hc : d ≤ dm b p (t + 1)
        · exact hc
        · have h3 := (dm_spec (p := p) (s := t + 1) hb).2.2
          refine absurd ⟨by omega, ?_⟩ h3
          have := Nat.pow_le_pow_left (show dm b p (t + 1) + 1 ≤ d by omega) p
          omega
      have h4 := mn_le (F := fw b p) (p := p) (s := t + 1) (n := dm b p (t + 1)) (d := d) (by omega) hdm
      rw [ht, fw_succ]
      rw [show t + 1 - d ^ p = psl p xs by omega] at h4
      exact h4
    have hfe : fw b p (psl p xs) = xs.length := by omega
    have hfd : fd b p s ≤ d := by
      by_cases hc : fd b p s ≤ d
      · exact hc
      · refine absurd ?_ (f5 d (by omega) (by omega))
        rw [hsd]
        omega
    rw [dgL_step (by omega)]
    have hab : 0 ≤ a * (b : Int) := Int.mul_nonneg ha (by omega)
    by_cases hdd : fd b p s = d
    · rw [hdd, hsd]
      exact dgL_least hb hp n _ xs (a * (b : Int) + (d : Int)) (by omega) hfe (by omega) rfl hx' (by omega)
    · have hl : (dgL b p n (s - fd b p s ^ p)).length = xs.length := by
        rw [dgL_len hb n _ (by omega) (by omega)]
        omega
      have := val_lt (b : Int) (by omega) (dgL b p n (s - fd b p s ^ p)) xs (a * (b : Int) + ((fd b p s : Nat) : Int)) (a * (b : Int) + (d : Int)) hl (dgL_all hb n _ (by omega)) hx' (by omega) (by omega)
      exact Int.le_of_lt this
theorem val_zeros (b : Int) : ∀ (n : Nat) (a : Int), val b (List.replicate n 0) a = a * b ^ n
  | 0, a => by simp [val]
  | n + 1, a => by
    rw [List.replicate_succ, val, val_zeros b n, Int.pow_succ, Int.add_zero, Int.mul_assoc, Int.mul_comm b]

/-- The number told is of the sum, and none below it. -/
theorem least_facts {b p s : Nat} {z : Int} (hb : 2 ≤ b) (hp : 1 ≤ p) (hs : s ≤ 2000) (h : RLs b p s = some z) :
    ∃ L : Nat, z = (L : Int) ∧ L ≤ 1000000000000 ∧ ps b p L = s ∧ ∀ m, m < L → ps b p m ≠ s := by
  unfold RLs at h
  have hfl := fw_le p hb s
  have hall := dgL_all (p := p) hb 2000 s hs
  rw [numF_val (b : Int) (by omega) _ 0 (fun x hx => (hall x hx).1) (by omega) (by omega)] at h
  obtain ⟨v, e1, e2⟩ := ps_val hb hp _ 0 hall
  rw [show ((0 : Nat) : Int) = 0 from rfl] at e1
  by_cases hv : val (b : Int) (dgL b p 2000 s) 0 ≤ 1000000000000
  · rw [if_pos hv] at h
    rw [dgL_sum hb 2000 s hs (by omega), ps_zero, Nat.zero_add] at e2
    rw [e1] at h hv
    refine ⟨v, (Option.some.inj h).symm, by omega, e2, fun m hm he => ?_⟩
    have hx := dgs_all (b : Int) (m : Int) (by omega) (by omega)
    have hps := psl_dgs hb hp m
    rw [he] at hps
    have hmin := fw_min hb hp _ hx
    rw [hps] at hmin
    have hval := val_dgs (b : Int) (by omega) m (m : Int) (by omega) (by omega)
    by_cases hl : fw b p s = (dgs (b : Int) (m : Int)).length
    · have := dgL_least hb hp 2000 s _ 0 hs hl (by omega) hps hx (by omega)
      rw [hval, e1] at this
      omega
    · by_cases h0 : s = 0
      · subst h0
        rw [dgL_zero] at e1
        simp [val] at e1
        omega
      · have hf := fw_pos (b := b) (p := p) (s := s) (by omega)
        have hbig : b ^ fw b p s ≤ m := by
          by_cases hc : b ^ fw b p s ≤ m
          · exact hc
          · have := dgs_lenb (b := b) (k := fw b p s) (x := m) hb hf (by omega)
            omega
        have hlt := val_lt (b : Int) (by omega) (dgL b p 2000 s) (List.replicate (fw b p s) 0) 0 1 (by rw [dgL_len hb 2000 s hs (by omega), List.length_replicate]) hall (fun y hy => by rw [List.eq_of_mem_replicate hy]; omega) (by omega) (by omega)
        rw [e1, val_zeros, Int.one_mul] at hlt
        have : ((b ^ fw b p s : Nat) : Int) = (b : Int) ^ fw b p s := by simp
        omega
  · rw [if_neg hv] at h
    cases h

/-! Cycles. -/
/-- What the law asks of the cycles, rows Z, and of the numbers in front of them. -/
structure CycF (b p : Nat) (Z : Nat → List Int) (nc : Nat) (ld : List Int) : Prop where
  len : ld.length = nc
  row : ∀ i, i < nc → 1 ≤ (Z i).length ∧ (Z i).getD 0 0 = ld.getD i 0
  step : ∀ i, i < nc → ∀ k, k < (Z i).length → ∃ X : Nat, (Z i).getD k 0 = (X : Int) ∧ X ≤ 1000000000000 ∧ ((ps b p X : Nat) : Int) = (Z i).getD ((k + 1) % (Z i).length) 0 ∧ (Z i).getD 0 0 ≤ (X : Int)
  first : 0 < nc → (Z 0).getD 0 0 = 0 ∧ (Z 0).length = 1
  rise : ld.Pairwise (· < ·)
  one : (1 : Int) ∈ ld
  ends : ∀ n : Nat, n ≤ 1000000000000 → endOf (ps b p) PM n ∈ ld
def ldL (b p : Nat) : List Int := ((List.range (gs b p + 1)).filter (lead (ps b p) (gs b p + 1))).map fun (y : Nat) => (y : Int)
theorem lead_fix {f : Nat → Nat} {n y : Nat} (h : Into f n) (hy : y < n) (e : f y = y) : lead f n y = true ∧ per f n y = 1 := by
  have := per_one h hy
  rw [decide_eq_true e] at this
  simpa using this
theorem gs_fix {b p X : Nat} (hb : 2 ≤ b) (hb' : b ≤ 16) (hp : 1 ≤ p) (hp' : p ≤ 8) (hX : ps b p X = X) : X < gs b p + 1 := by
  by_cases h : ff b p ≤ (dgs (b : Int) (X : Int)).length
  · have := long_falls hb hb' hp hp' h
    omega
  · have := short_le (m := X) hb hp (by omega)
    omega
theorem run_late {b p n r t : Nat} {e : Int} (h : RunF b p n r t e) : ∀ a, ∃ j, t ≤ j ∧ j < r ∧ it (ps b p) (t + a) n = it (ps b p) j n
  | 0 => ⟨t, Nat.le_refl _, h.tail, rfl⟩
  | a + 1 => by
    obtain ⟨j, h1, h2, h3⟩ := run_late h a
    have h4 := h.step j h2
    have e1 : it (ps b p) (t + (a + 1)) n = ps b p (it (ps b p) (t + a) n) := rfl
    rw [e1, h3, h4]
    by_cases hc : j + 1 < r
    · rw [if_pos hc]; exact ⟨j + 1, by omega, hc, rfl⟩
    · rw [if_neg hc]; exact ⟨t, Nat.le_refl _, h.tail, rfl⟩
theorem end_lead {b p n r t : Nat} {e : Int} (hb : 2 ≤ b) (hb' : b ≤ 16) (hp : 1 ≤ p) (hp' : p ≤ 8) (h : RunF b p n r t e) : e ∈ ldL b p := by
  obtain ⟨i, h1, h2, rfl⟩ := h.ends
  have hin := ps_inV hb hb' hp hp'
  obtain ⟨N, hN⟩ : ∃ N, N = gs b p + 1 := ⟨_, rfl⟩
  have htop := h.top
  unfold ldL
  rw [← hN] at hin ⊢
  have hE : it (ps b p) i n = it (ps b p) (i - t) (it (ps b p) t n) := by rw [← it_add, show i - t + t = i by omega]
  have hEN : it (ps b p) i n < N := by rw [hE]; exact it_lt hin _ (by omega)
  have hr : it (ps b p) r n = it (ps b p) t n := by
    have h3 := h.step (r - 1) (by have := h.tail; omega)
    rw [if_neg (by have := h.tail; omega)] at h3
    have e1 : it (ps b p) (r - 1 + 1) n = ps b p (it (ps b p) (r - 1) n) := rfl
    rw [show r - 1 + 1 = r by have := h.tail; omega] at e1
    rw [e1, h3]
  have hper : it (ps b p) (r - t) (it (ps b p) i n) = it (ps b p) i n := by
    rw [← it_add, show r - t + i = (i - t) + r by have := h.tail; omega, it_add, hr]
    exact hE.symm
  have hc : cyc (ps b p) N (it (ps b p) i n) = true := cyc_of_per hin hEN (show 1 ≤ r - t by have := h.tail; omega) hper
  refine List.mem_map.2 ⟨it (ps b p) i n, List.mem_filter.2 ⟨List.mem_range.2 hEN, (lead_iff hin).2 ⟨hc, fun z hz => ?_⟩⟩, rfl⟩
  obtain ⟨j, _, rfl⟩ := mem_rnd.1 hz
  rw [← it_add]
  obtain ⟨q, q1, q2, q3⟩ := run_late h (j + i - t)
  rw [show t + (j + i - t) = j + i by omega] at q3
  rw [q3]
  have := h.least q q1 q2
  omega
theorem cyc_facts {b p : Nat} (hb : 2 ≤ b) (hb' : b ≤ 10) (hp : 1 ≤ p) (hp' : p ≤ 4) :
    CycF b p (lsZ (cycs (ps b p) (gs b p + 1))) (cycs (ps b p) (gs b p + 1)).length (ldL b p) := by
  have hin := ps_inV hb (show b ≤ 16 by omega) hp (show p ≤ 8 by omega)
  have hends : ∀ n : Nat, n ≤ 1000000000000 → endOf (ps b p) PM n ∈ ldL b p := fun n hn => end_lead hb (by omega) hp (by omega) (run_facts hb (by omega) hp (by omega) hn)
  have hone : (1 : Int) ∈ ldL b p := by
    have h1 := ps_1 hb hp
    have hlt := gs_fix hb (show b ≤ 16 by omega) hp (show p ≤ 8 by omega) h1
    exact List.mem_map.2 ⟨1, List.mem_filter.2 ⟨List.mem_range.2 hlt, (lead_fix hin hlt h1).1⟩, rfl⟩
  have hgs : gs b p ≤ 1000000 := by
    have := gs_bd hb hb' hp hp'
    omega
  have hrise : (ldL b p).Pairwise (· < ·) := by
    refine List.Pairwise.map _ (fun a c h => ?_) (List.Pairwise.sublist List.filter_sublist List.pairwise_lt_range)
    omega
  unfold ldL at *
  obtain ⟨N, hN⟩ : ∃ N, N = gs b p + 1 := ⟨_, rfl⟩
  have hN0 : 0 < N := by omega
  rw [← hN] at hin hends hone hrise ⊢
  obtain ⟨ys, hys⟩ : ∃ ys, ys = (List.range N).filter (lead (ps b p) N) := ⟨_, rfl⟩
  have hcs : cycs (ps b p) N = ys.map (rnd (ps b p) N) := by rw [hys]; rfl
  rw [← hys] at hends hone hrise ⊢
  rw [hcs]
  have hyl : ∀ y ∈ ys, y < N ∧ lead (ps b p) N y = true := fun y hy => by
    rw [hys] at hy
    exact ⟨List.mem_range.1 (List.mem_filter.1 hy).1, (List.mem_filter.1 hy).2⟩
  have hZ : ∀ i (hi : i < ys.length), lsZ (ys.map (rnd (ps b p) N)) i = nts (rnd (ps b p) N ys[i]) := fun i hi => by
    unfold lsZ
    rw [List.getD_eq_getElem?_getD, List.getElem?_map, List.getElem?_eq_getElem hi]
    rfl
  have hld : ∀ i (hi : i < ys.length), (ys.map fun (y : Nat) => (y : Int)).getD i 0 = ((ys[i] : Nat) : Int) := fun i hi => by
    rw [List.getD_eq_getElem?_getD, List.getElem?_map, List.getElem?_eq_getElem hi]
    rfl
  have hat : ∀ (y k : Nat), k < per (ps b p) N y → (nts (rnd (ps b p) N y)).getD k 0 = ((it (ps b p) k y : Nat) : Int) := fun y k hk => by
    unfold nts rnd
    rw [List.map_map, List.getD_eq_getElem?_getD, List.getElem?_map, List.getElem?_eq_getElem (by simpa using hk)]
    simp
  have hlen : ∀ y, (nts (rnd (ps b p) N y)).length = per (ps b p) N y := fun y => by
    unfold nts
    rw [List.length_map, rnd_len]
  have hcyc : ∀ y ∈ ys, cyc (ps b p) N y = true ∧ ∀ z ∈ rnd (ps b p) N y, y ≤ z := fun y hy => (lead_iff hin).1 (hyl y hy).2
  refine ⟨by simp, fun i hi => ?_, fun i hi k hk => ?_, fun h0 => ?_, hrise, hone, hends⟩
  · have hi' : i < ys.length := by simpa using hi
    obtain ⟨p1, p2, p3, p4⟩ := per_spec hin (hcyc _ (List.getElem_mem hi')).1
    rw [hZ i hi', hlen, hld i hi', hat _ 0 (by omega)]
    exact ⟨p1, rfl⟩
  · have hi' : i < ys.length := by simpa using hi
    obtain ⟨hc, hm⟩ := hcyc _ (List.getElem_mem hi')
    obtain ⟨p1, p2, p3, p4⟩ := per_spec hin hc
    rw [hZ i hi', hlen] at hk ⊢
    rw [hat _ 0 (by omega), hat _ k hk, hat _ _ (Nat.mod_lt _ (by omega))]
    refine ⟨_, rfl, ?_, ?_, ?_⟩
    · have := it_lt hin k (hyl _ (List.getElem_mem hi')).1
      omega
    · rw [← it_mod p3]
      rfl
    · have := hm _ (mem_rnd.2 ⟨k, hk, rfl⟩)
      show (((ys[i] : Nat)) : Int) ≤ _
      omega
  · have hi' : 0 < ys.length := by simpa using h0
    have e0 : ys[0] = 0 := by
      obtain ⟨M, hM⟩ : ∃ M, N = M + 1 := ⟨N - 1, by omega⟩
      have hl0 : lead (ps b p) N 0 = true := (lead_fix hin hN0 (ps_0 b p)).1
      have : ys = 0 :: ((List.range M).map Nat.succ).filter (lead (ps b p) N) := by
        rw [hys, hM, List.range_succ_eq_map, ← hM, List.filter_cons_of_pos hl0]
      simp [this]
    rw [hZ 0 hi', e0, hlen, hat 0 0 (by have := (lead_fix hin hN0 (ps_0 b p)).2; omega)]
    exact ⟨rfl, (lead_fix hin hN0 (ps_0 b p)).2⟩
end Go.Proofs.Ytnniiobiedfmoaa

/- from X3D -/
namespace Go.Proofs.Ytnniiobiedfmoaa
open Go.RowKit
set_option linter.unusedVariables false
set_option linter.unusedSimpArgs false
set_option maxRecDepth 100000

theorem rRows_same (v u : Value) (vs us : List Value) (Z : Nat → List Int) (B C : Nat) (w : World) (h : LLf w B v vs Z) (h2 : LLf w C u us Z) (hn : vs.length = us.length) (hm : vs.length ≤ 40000) (hz : ∀ i, (Z i).length ≤ 2000000) :
    Calls Try.prog 29 #[v, u] w fun e w' => e = .returned (.bool true) ∧ Below w.heap.size w w' := by
  have H := Lib.hid h
  have H2 := Lib.hid h2
  have HZ := Lib.hid hz
  obtain ⟨a, cap, rfl, ha⟩ := h.shape
  obtain ⟨a2, cap2, rfl, ha2⟩ := h2.shape
  have HA := Lib.hid ha
  have HA2 := Lib.hid ha2
  obtain ⟨N, hN⟩ : ∃ N, N = vs.length := ⟨_, rfl⟩
  have HN := Lib.hid hN
  have HN2 := Lib.hid (hN.trans hn)
  rw [← hN] at hm
  have hne : ((N : Int) != (N : Int)) = false := bne_no rfl
  rw [← hn, ← hN]
  rw [← hN] at H
  rw [← hn, ← hN] at H2
  clear h h2 ha ha2 hn hN hz
  go_enter Try.func29, Try.ntmps29
  go_wp2
  go_loopw [13] (fun i wr => ∃ k : Nat, k ≤ N ∧ i = .int .i64 k ∧ Below w.heap.size w wr) (fun i _ => N - (intOf i).toNat)
  case atStart => exact ⟨0, Nat.zero_le _, rfl, Below.refl _ _⟩
  case round =>
    obtain ⟨k, hk, rfl, hb⟩ := hrel
    have HB := Lib.hid hb
    clear hb
    by_cases hlt : k < N
    · rcases HA.out with hx | ⟨gv, rfl⟩
      · have := HN.out; rw [hx] at this; simp at this; omega
      rcases HA2.out with hx | ⟨gv2, rfl⟩
      · have := HN2.out; rw [hx] at this; simp at this; omega
      obtain ⟨z, hz⟩ : ∃ z, vs[k]? = some z := ⟨vs[k]'(by rw [← HN.out]; exact hlt), by simp⟩
      obtain ⟨z2, hz2⟩ : ∃ z, us[k]? = some z := ⟨us[k]'(by rw [← HN2.out]; exact hlt), by simp⟩
      have hc1 := (H.out.keep HB.out).cell hz
      have hc2 := (H2.out.keep HB.out).cell hz2
      have R1 := Lib.hid ((H.out.keep HB.out).at' k z hz)
      have R2 := Lib.hid ((H2.out.keep HB.out).at' k z2 hz2)
      obtain ⟨b1, d1, rfl⟩ := R1.out.shape'
      obtain ⟨b2, d2, rfl⟩ := R2.out.shape'
      clear hz hz2
      have R1d := Lib.hid (R1.out.drew.sl)
      have R2d := Lib.hid (R2.out.drew.sl)
      have HBd := Lib.hid (HB.out.drew)
      go_wp2
      go_region_with (go_at_call 14; refine (rSame_any _ _ (Z k) wr.drew R1d.out R2d.out (HZ.out k)).mono ?_; rintro e w1 ⟨rfl, hb⟩; have HB1 := Lib.hid (Below.step HBd.out HBd.out.size hb); clear hb)
      all_goals
        go_wp2
        go_roundw
        case rel => exact ⟨k + 1, by omega, by go_num, HB1.out⟩
        case measure => simp [intOf]; omega
    · obtain rfl : k = N := by omega
      go_wp2
      go_ret
      exact ⟨rfl, HB.out⟩


theorem draw_LeastWithSum (v : Value) (xs : List Int) (w : World) (h : Sb w v xs) (hs : xs.length ≤ 1048576) :
    Calls Try.prog 31 #[v] w fun e w' => ∃ z y p : Int, e = .returned (.tuple #[.int .i64 z, .int .i64 y, .int .i64 p]) ∧ Below w.heap.size w w' := by
  have HC := Lib.hid (Cu.start h hs)
  obtain ⟨a, cap, rfl⟩ := h.len
  have HB := Lib.hid (alloc_below w (.cells #[.slice a xs.length cap, .int .i64 0, .int .u64 0] 67))
  clear h
  go_enter Try.func31, Try.ntmps31
  go_wp2_with fail
  refine (pick_any w.heap.size _ xs _ 256 _ HC.out (by omega) (by omega) (by omega)).mono ?_
  rintro e w1 ⟨x, rfl, hx0, hx1, hc, hg⟩
  have C1 := Lib.hid hc
  have HB1 := Lib.hid (HB.out.trans (grown_below hg (by simp) (Nat.le_refl _)))
  clear hc hg hx0 hx1
  go_wp2_with fail
  refine (among_at w.heap.size _ xs _ [0, 1, 5, 20, 81, 145, 500, 2000, 2001, -1, x] _ C1.out (by omega) (by simp) (by simp) rfl rfl rfl).mono ?_
  rintro e w2 ⟨z, rfl, hc, hg⟩
  have C2 := Lib.hid hc
  have HB2 := Lib.hid (HB1.out.trans (grown_below hg HB1.out.size (Nat.le_refl _)))
  clear hc hg
  go_wp2_with fail
  refine (base_any w.heap.size _ xs _ _ C2.out (by omega)).mono ?_
  rintro e w3 ⟨y, rfl, hc, hg⟩
  have C3 := Lib.hid hc
  have HB3 := Lib.hid (HB2.out.trans (grown_below hg HB2.out.size (Nat.le_refl _)))
  clear hc hg
  go_wp2_with fail
  refine (among_at w.heap.size _ xs _ [1, 2, 2, 3, 4, 8, 9, 0] _ C3.out (by omega) (by simp) (by simp) rfl rfl rfl).mono ?_
  rintro e w4 ⟨p, rfl, hc, hg⟩
  have HB4 := Lib.hid (HB3.out.trans (grown_below hg HB3.out.size (Nat.le_refl _)))
  clear hc hg
  go_wp2
  go_ret3
  exact ⟨_, _, _, rfl, HB4.out⟩

theorem ends_atE {n B P : Nat} (hn : n ≤ 1000000000000) (hB : 2 ≤ B) (hB2 : B ≤ 16) (hP : 1 ≤ P) (hP2 : P ≤ 4) (w : World) :
    Calls Try.prog 12 #[.int .i64 (n : Int), .int .i64 (B : Int), .int .i64 (P : Int)] w fun e w' => e = .returned (.tuple #[.int .i64 (endOf (ps B P) PM n), .bool true]) ∧ Below w.heap.size w w' := by
  have h := impl_EndsIn (n : Int) (B : Int) (P : Int) w
  have eO : OK3 (n : Int) (B : Int) (P : Int) 4 = true := OK3_yes ⟨by omega, by omega⟩ ⟨by omega, by omega⟩ ⟨by omega, by omega⟩
  have eP : V_EndsIn (n : Int) (B : Int) (P : Int) = endOf (ps B P) PM n := by unfold V_EndsIn; rw [if_pos eO]; rfl
  simp only [R_EndsIn] at h
  rw [eP, eO] at h
  exact h
end Go.Proofs.Ytnniiobiedfmoaa

/- from X3E -/
namespace Go.Proofs.Ytnniiobiedfmoaa
open Go.RowKit
set_option linter.unusedVariables false
set_option linter.unusedSimpArgs false
set_option maxRecDepth 100000

set_option maxHeartbeats 20000000 in
theorem law_CyclesOfPowers {W : World} (v0 : Value) (xs0 : List Int) (hs0 : Sb W v0 xs0) (v1 : Value) (xs1 : List Int) (hs1 : Sb W v1 xs1) :
    Calls Try.prog 4 #[v0, v1] W fun e w' => e = .returned (.bool true) ∧ Below W.heap.size W w' := by
  obtain ⟨a0, k0, rfl⟩ := hs0.len
  obtain ⟨a1, k1, rfl⟩ := hs1.len
  have HS0 := Lib.hid hs0
  have HS1 := Lib.hid hs1
  have HB := Lib.hid (big_any a0 a1 xs0.length xs1.length k0 k1 W)
  clear hs0 hs1
  by_cases hbig : 1048576 < xs0.length ∨ 1048576 < xs0.length + xs1.length
  · rw [decide_eq_true hbig] at HB
    go_enter Try.func4, Try.ntmps4
    go_wp2_with (go_at_call 6; refine HB.out.mono ?_; rintro e w ⟨rfl, rfl⟩)
    go_ret
    exact ⟨rfl, Below.refl _ _⟩
  rw [decide_eq_false hbig] at HB
  have hl0 : xs0.length ≤ 1048576 := by omega
  have hl1 : xs1.length ≤ 1048576 := by omega
  have HL1 := Lib.hid hl1
  have HL0 := Lib.hid hl0
  clear hbig
  go_enter Try.func4, Try.ntmps4
  go_wp2_with fail
  refine HB.out.mono ?_
  rintro e w ⟨rfl, rfl⟩
  go_wp2_with fail
  refine (draw_CyclesOfPowers _ xs0 _ HS0.out hl0).mono ?_
  rintro e w1 ⟨b, p, rfl, hb⟩
  have BE1 := Lib.hid hb
  clear hb hl0 hl1
  have HI1 := Lib.hid (fun w => impl_CyclesOfPowers b p w)
  have HT1 := Lib.hid (fun w => spec_CyclesOfPowers b p w)
  have HBD := Lib.hid (LF_CyclesOfPowers_bd b p)
  have hl0 : xs0.length ≤ 1048576 := HL0.out
  rcases okc_cases b p with ⟨hok, B, P, rfl, rfl, hB, hB2, hP, hP2⟩ | hno
  · skip
    have eL : LF_CyclesOfPowers (B : Int) (P : Int) = cycs (ps B P) (gs B P + 1) := by unfold LF_CyclesOfPowers; rw [if_pos hok]; rfl
    rw [eL, hok] at HI1 HT1
    rw [eL] at HBD
    have HF := Lib.hid (cyc_facts hB hB2 hP hP2)
    obtain ⟨cs, hcs⟩ : ∃ cs, cs = cycs (ps B P) (gs B P + 1) := ⟨_, rfl⟩
    obtain ⟨ld, hld⟩ : ∃ ld, ld = ldL B P := ⟨_, rfl⟩
    rw [← hcs] at HI1 HT1 HF HBD
    rw [← hld] at HF
    clear hcs hld eL hok
    go_wp2_with fail
    refine (HI1.out _).mono ?_
    rintro e w2 ⟨uC, vC, rfl, hll, hb⟩
    have BE2 := Lib.hid (BE1.out.trans (hb.mono BE1.out.size))
    have R1 := Lib.hid hll.f
    have HVC := Lib.hid hll.len
    clear hll hb
    go_wp2_with fail
    refine (HT1.out _).mono ?_
    rintro e w3 ⟨uX, vX, rfl, hll, hb⟩
    have R2 := Lib.hid (R1.out.keep hb)
    have BE3 := Lib.hid (BE2.out.trans (hb.mono BE2.out.size))
    have R3 := Lib.hid hll.f
    have HVX := Lib.hid hll.len
    clear hll hb
    obtain ⟨Z, hZ⟩ : ∃ Z, Z = lsZ cs := ⟨_, rfl⟩
    rw [← hZ] at HF HBD R2 R3
    clear hZ
    go_wp2_with fail
    refine (rRows_same _ _ vC vX Z _ _ _ R2.out R3.out (by rw [HVC.out, HVX.out]) (by rw [HVC.out]; exact HBD.out.1) (fun i => Nat.le_trans (HBD.out.2 i) (by omega))).mono ?_
    rintro e w4 ⟨rfl, hb⟩
    have R4 := Lib.hid (R2.out.keep hb)
    have R5 := Lib.hid (R3.out.keep hb)
    have BE4 := Lib.hid (BE3.out.trans (hb.mono BE3.out.size))
    clear hb
    obtain ⟨aC, cC, hCe, hca⟩ := R4.out.shape
    subst hCe
    have HCA := Lib.hid hca
    clear hca
    rw [← HVC.out] at HF HBD
    obtain ⟨NV, hNV⟩ : ∃ NV, NV = vC.length := ⟨_, rfl⟩
    rw [← hNV] at HF HBD ⊢
    have HNV := Lib.hid hNV
    have hnv := HBD.out.1
    clear hNV
    have HLDL := Lib.hid HF.out.len
    go_wp2
    go_loopw [11, 66] (fun f i wr => ∃ j : Nat, j ≤ NV ∧ i = .int .i64 (j : Int) ∧ Rd wr w4.heap.size f (ld.take j) ∧ Below w4.heap.size w4 wr) (fun _ i _ => NV - (intOf i).toNat)
    case atStart => exact ⟨0, Nat.zero_le _, rfl, Rd.nil _ _, Below.refl _ _⟩
    case round =>
      obtain ⟨j, hj, rfl, hr, hb⟩ := hrel
      have KB := Lib.hid hb
      have HR := Lib.hid hr
      clear hb hr
      by_cases hlt : j < NV
      · have hjv : j < vC.length := by rw [← HNV.out]; exact hlt
        rcases HCA.out with h0 | ⟨gv, rfl⟩
        · rw [h0] at hjv; simp at hjv
        obtain ⟨u, hu⟩ : ∃ u, u = vC[j] := ⟨_, rfl⟩
        have hu2 : vC[j]? = some u := by rw [hu]; exact List.getElem?_eq_getElem hjv
        have zc := (R4.out.keep KB.out).cell hu2
        have hru := R4.out.at' j u hu2
        obtain ⟨hr1, hr2⟩ := HF.out.row j hlt
        have HST := Lib.hid (HF.out.step j hlt)
        have HFI := Lib.hid (show j = 0 → (Z j).getD 0 0 = 0 ∧ (Z j).length = 1 from fun e => by subst e; exact HF.out.first hlt)
        have hzl := HBD.out.2 j
        obtain ⟨L, hL⟩ : ∃ L, L = Z j := ⟨_, rfl⟩
        rw [← hL] at hru hr1 hr2 HST HFI hzl
        obtain ⟨gU, cU, hUe⟩ := slice_V hru (by omega)
        subst hUe
        have HT := Lib.hid (show ld.take j ++ [L.getD 0 0] = ld.take (j + 1) by rw [List.take_add_one, getD_someV (show j < ld.length by rw [HLDL.out]; exact hlt), ← hr2]; rfl)
        obtain ⟨y, hy⟩ : ∃ y, y = L.getD 0 0 := ⟨_, rfl⟩
        have HY := Lib.hid hy
        rw [← hy] at HT HFI
        obtain ⟨LZ, hLZ⟩ : ∃ LZ, LZ = L.length := ⟨_, rfl⟩
        have HLZ := Lib.hid hLZ
        rw [← hLZ] at hru hr1 HST HFI zc hzl
        have HRU := Lib.hid hru
        have zy := cell_V (hru.keep KB.out) (show 0 < L.length by omega)
        rw [← hy] at zy
        have htl : (ld.take j).length ≤ 40000 := by rw [List.length_take]; omega
        clear hu hu2 hru hr2 hL hy hLZ
        go_wp2_with (at_builtin; refine wpList_appR rfl _ _ rfl w4.heap.size w4.heap.size _ _ (ld.take j) [y] rfl rfl (HR.out.alloc _) (Rd.litB _ _ _ (by have := KB.out.size; omega)) (by simp; omega) (by have := KB.out.size; simp; omega) ?_; intro v1 w2 hr1 hg1 hb1; have HR2 := Lib.hid hr1; have KB2 := Lib.hid ((KB.out.alloc KB.out.size _).trans hb1); clear hr1 hg1 hb1)
        go_loopw [79] (fun i wi => ∃ q : Nat, q ≤ LZ ∧ i = .int .i64 (q : Int) ∧ Below w2.heap.size w2 wi) (fun i _ => LZ - (intOf i).toNat)
        case atStart => exact ⟨0, Nat.zero_le _, rfl, Below.refl _ _⟩
        case round =>
          obtain ⟨q, hq, rfl, hb⟩ := hrel
          have QB := Lib.hid hb
          clear hb
          by_cases hlq : q < LZ
          · skip
            obtain ⟨X, hX, hXb, hps, hyX⟩ := HST.out q hlq
            rw [← HY.out] at hyX
            have KQ := Lib.hid (KB2.out.trans (QB.out.mono KB2.out.size))
            have zq := cell_V (HRU.out.keep KQ.out) (show q < L.length by rw [← HLZ.out]; exact hlq)
            rw [hX] at zq
            obtain ⟨m, hm⟩ : ∃ m, m = (q + 1) % LZ := ⟨_, rfl⟩
            have hmL : m < LZ := by rw [hm]; exact Nat.mod_lt _ (by omega)
            have htm : Int.tmod ((q : Int) + 1) (LZ : Int) = (m : Int) := by rw [Int.tmod_eq_emod_of_nonneg (by omega), hm]; simp
            have hLZ0 : (LZ : Int) ≠ 0 := by omega
            rw [← hm] at hps
            obtain ⟨V, hV⟩ : ∃ V, V = L.getD m 0 := ⟨_, rfl⟩
            have HP := Lib.hid (fun w => power_atV hXb hB (show B ≤ 16 by omega) hP (show P ≤ 8 by omega) w)
            rw [hps, ← hV] at HP
            have HV := Lib.hid hV
            have hmi : (m : Int) < (LZ : Int) := by omega
            have hL0 : (0 : Int) < (LZ : Int) := by omega
            have hyx2 : ¬ (X : Int) < y := by omega
            clear hX hps hm hV
            go_wp2_with fail
            refine (HP.out _).mono ?_
            rintro e z1 ⟨rfl, hb⟩
            have KZ := Lib.hid (KQ.out.trans (hb.mono KQ.out.size))
            have QB1 := Lib.hid (QB.out.trans (hb.mono QB.out.size))
            clear hb
            have zm := cell_V (HRU.out.keep KZ.out) (show m < L.length by rw [← HLZ.out]; exact hmL)
            rw [← HV.out] at zm
            have z0 := cell_V (HRU.out.keep KZ.out) (show 0 < L.length by rw [← HLZ.out]; omega)
            rw [← HY.out] at z0
            go_wp2
            go_roundw
            case rel => exact ⟨q + 1, by omega, by go_num, QB1.out⟩
            case measure => simp [intOf]; omega
          · obtain rfl : q = LZ := by omega
            have KQ := Lib.hid (KB2.out.trans (QB.out.mono KB2.out.size))
            have z0 := cell_V (HRU.out.keep KQ.out) (show 0 < L.length by rw [← HLZ.out]; omega)
            rw [← HY.out] at z0
            have HR3 := Lib.hid (HR2.out.keep QB.out)
            rw [HT.out] at HR3
            have hL0 : (0 : Int) < (q : Int) := by omega
            by_cases hj0 : j = 0
            · obtain ⟨f1, f2⟩ := HFI.out hj0
              subst hj0
              subst f1
              subst f2
              clear HY HT
              go_wp2
              go_roundw
              case rel => exact ⟨0 + 1, by omega, by go_num, HR3.out, KQ.out⟩
              case measure => simp [intOf]; omega
            · have hnj : ((j : Int) == 0) = false := beq_no (by omega)
              go_wp2
              go_roundw
              case rel => exact ⟨j + 1, by omega, by go_num, HR3.out, KQ.out⟩
              case measure => simp [intOf]; omega
      · obtain rfl : j = NV := by omega
        rw [List.take_of_length_le (by rw [HLDL.out]; exact Nat.le_refl _)] at HR
        obtain ⟨gD, cD, hDe⟩ := slice_V HR.out (List.length_pos_of_mem HF.out.one)
        subst hDe
        have BE5 := Lib.hid (BE4.out.trans (KB.out.mono BE4.out.size))
        clear KB
        obtain ⟨ND, hND⟩ : ∃ ND, ND = ld.length := ⟨_, rfl⟩
        have HND := Lib.hid hND
        have hnd : ND ≤ 2000000 := by rw [hND, HLDL.out]; omega
        rw [← hND] at HR ⊢
        clear hND
        go_wp2_with fail
        refine (rRising_any _ ld _ _ HR.out HF.out.rise (by rw [← HND.out]; exact hnd)).mono ?_
        rintro e w6 ⟨rfl, hb⟩
        have R6 := Lib.hid (HR.out.keep hb)
        have BE6 := Lib.hid (BE5.out.trans (hb.mono BE5.out.size))
        clear hb
        have HR1 := Lib.hid (rHas_any (some ⟨gD, 0, none⟩) ld ND cD 1 _ (src0_V R6.out) HND.out hnd)
        rw [decide_eq_true HF.out.one] at HR1
        go_wp2_with fail
        refine (HR1.out).mono ?_
        rintro e wq6 ⟨rfl, rfl⟩
        clear HR1
        have hL0 := HL0.out
        have hL1 := HL1.out
        obtain ⟨M0, hM0⟩ : ∃ M0, M0 = xs0.length := ⟨_, rfl⟩
        obtain ⟨M1, hM1⟩ : ∃ M1, M1 = xs1.length := ⟨_, rfl⟩
        rw [← hM0] at hL0
        rw [← hM1] at hL1
        have HM0 := Lib.hid hM0
        have HM1 := Lib.hid hM1
        rw [← hM0, ← hM1]
        clear hM0 hM1
        go_wp2
        go_loopw [18] (fun i wr => ∃ n : Nat, n ≤ 20 ∧ i = .int .i64 (n : Int) ∧ Below w6.heap.size w6 wr) (fun i _ => 20 - (intOf i).toNat)
        case atStart => exact ⟨0, Nat.zero_le _, rfl, Below.refl _ _⟩
        case round =>
          obtain ⟨n, hn, rfl, hb⟩ := hrel
          have KB := Lib.hid hb
          clear hb
          by_cases hlt : n < 20
          · have hlt2 : (n : Int) < 20 := by omega
            have q2 : n * n ≤ 19 * 19 := Nat.mul_le_mul (by omega) (by omega)
            have q3 : n * n * n ≤ 19 * 19 * 19 := Nat.mul_le_mul q2 (by omega)
            obtain ⟨c2, hc2⟩ : ∃ c2, c2 = n * n := ⟨_, rfl⟩
            obtain ⟨c3, hc3⟩ : ∃ c3, c3 = c2 * n := ⟨_, rfl⟩
            rw [← hc2] at q2 q3
            rw [← hc3] at q3
            have e2 : (n : Int) * (n : Int) = (c2 : Int) := by rw [hc2]; simp
            have e3 : (c2 : Int) * (n : Int) = (c3 : Int) := by rw [hc3]; simp
            obtain ⟨tt, htt⟩ : ∃ tt : Nat, tt = c3 * 7919 + 104729 * M0 + 31 * M1 := ⟨_, rfl⟩
            have e4 : (c3 : Int) * 7919 + 104729 * (M0 : Int) + 31 * (M1 : Int) = (tt : Int) := by omega
            obtain ⟨nn, hnn⟩ : ∃ nn, nn = tt % 1000000 := ⟨_, rfl⟩
            have hnnb : nn < 1000000 := by omega
            have htb : tt ≤ 1000000000000 := by omega
            have e5 : Int.tmod (tt : Int) 1000000 = (nn : Int) := by rw [Int.tmod_eq_emod_of_nonneg (by omega), hnn]; simp
            have HEN := Lib.hid (fun w => ends_atE (show nn ≤ 1000000000000 by omega) hB (show B ≤ 16 by omega) hP hP2 w)
            have HEI := Lib.hid (HF.out.ends nn (by omega))
            obtain ⟨E, hE⟩ : ∃ E, E = endOf (ps B P) PM nn := ⟨_, rfl⟩
            rw [← hE] at HEN HEI
            clear hc2 hc3 htt hnn hE
            go_wp2_with fail
            refine (HEN.out _).mono ?_
            rintro e z1 ⟨rfl, hb⟩
            have KB1 := Lib.hid (KB.out.trans (hb.mono KB.out.size))
            clear hb
            have HRE := Lib.hid (rHas_any (some ⟨gD, 0, none⟩) ld ND cD E _ (src0_V (R6.out.keep KB1.out)) HND.out hnd)
            rw [decide_eq_true HEI.out] at HRE
            go_wp2_with fail
            refine (HRE.out).mono ?_
            rintro e z2 ⟨rfl, rfl⟩
            go_wp2
            go_roundw
            case rel => exact ⟨n + 1, by omega, by go_num, KB1.out⟩
            case measure => simp [intOf]; omega
          · obtain rfl : n = 20 := by omega
            have R8 := Lib.hid (R6.out.keep KB.out)
            have BE7 := Lib.hid (BE6.out.trans (KB.out.mono BE6.out.size))
            obtain ⟨w7, hwr⟩ : ∃ w7, w7 = wr := ⟨_, rfl⟩
            subst hwr
            clear KB
            rw [HM0.out, HM1.out]
            as_aux_lemma =>
              go_wp2_with fail
              refine (draw_LeastWithSum _ xs1 _ (HS1.out.keep BE7.out) HL1.out).mono ?_
              rintro e y1 ⟨s, c, q, rfl, hb⟩
              have BE8 := Lib.hid (BE7.out.trans (hb.mono BE7.out.size))
              clear hb
              have HU1 := Lib.hid (fun w => impl_LeastWithSum s c q w)
              have HU2 := Lib.hid (fun w => spec_LeastWithSum s c q w)
              simp only [R_LeastWithSum] at HU1 HU2
              rcases okl_cases s c q with ⟨hok, S, C, K, rfl, rfl, rfl, hS, hC, hC2, hK, hK2⟩ | hno
              · skip
                have eV : V_LeastWithSum (S : Int) (C : Int) (K : Int) = RLs C K S := by unfold V_LeastWithSum; rw [if_pos hok]; rfl
                rw [eV] at HU1 HU2
                clear eV hok
                cases hz : RLs C K S with
                | none =>
                  rw [hz] at HU1 HU2
                  simp only [optRes] at HU1 HU2
                  go_wp2_with fail
                  refine (HU1.out _).mono ?_
                  rintro e w9 ⟨rfl, hb⟩
                  have BE9 := Lib.hid (BE8.out.trans (hb.mono BE8.out.size))
                  clear hb
                  go_wp2_with fail
                  refine (HU2.out _).mono ?_
                  rintro e w10 ⟨rfl, hb⟩
                  have BE10 := Lib.hid (BE9.out.trans (hb.mono BE9.out.size))
                  clear hb
                  go_wp2
                  go_ret
                  exact ⟨rfl, BE10.out⟩
                | some zz =>
                  obtain ⟨L, rfl, hL, hLp, hLm⟩ := least_facts hC hK hS hz
                  rw [hz] at HU1 HU2
                  simp only [optRes] at HU1 HU2
                  have HLM := Lib.hid hLm
                  have HP := Lib.hid (fun w => power_atV hL hC hC2 hK hK2 w)
                  rw [hLp] at HP
                  clear hz hLm hLp
                  go_wp2_with fail
                  refine (HU1.out _).mono ?_
                  rintro e w9 ⟨rfl, hb⟩
                  have BE9 := Lib.hid (BE8.out.trans (hb.mono BE8.out.size))
                  clear hb
                  go_wp2_with fail
                  refine (HU2.out _).mono ?_
                  rintro e w10 ⟨rfl, hb⟩
                  have BE10 := Lib.hid (BE9.out.trans (hb.mono BE9.out.size))
                  clear hb
                  go_wp2_with fail
                  refine (HP.out _).mono ?_
                  rintro e w11 ⟨rfl, hb⟩
                  have BE11 := Lib.hid (BE10.out.trans (hb.mono BE10.out.size))
                  clear hb
                  go_wp2
                  go_loopw [31] (fun i wr => ∃ m : Nat, m ≤ L ∧ m ≤ 300 ∧ i = .int .i64 (m : Int) ∧ Below w11.heap.size w11 wr) (fun i _ => 300 - (intOf i).toNat)
                  case atStart => exact ⟨0, Nat.zero_le _, Nat.zero_le _, rfl, Below.refl _ _⟩
                  case round =>
                    obtain ⟨m, hm, hm3, rfl, hb⟩ := hrel
                    have KB := Lib.hid hb
                    clear hb
                    have BEZ := Lib.hid (BE11.out.trans (KB.out.mono BE11.out.size))
                    by_cases hlt : m < L
                    · have hlt2 : (m : Int) < (L : Int) := by omega
                      by_cases h3 : m < 300
                      · have h3i : (m : Int) < 300 := by omega
                        have HPM := Lib.hid (fun w => power_atV (show m ≤ 1000000000000 by omega) hC hC2 hK hK2 w)
                        have hne := HLM.out m hlt
                        obtain ⟨Q, hQ⟩ : ∃ Q, Q = ps C K m := ⟨_, rfl⟩
                        rw [← hQ] at HPM hne
                        clear hQ
                        have hne2 : ((Q : Int) == (S : Int)) = false := beq_no (by omega)
                        clear hne
                        go_wp2_with fail
                        refine (HPM.out _).mono ?_
                        rintro e z1 ⟨rfl, hb⟩
                        have KB1 := Lib.hid (KB.out.trans (hb.mono KB.out.size))
                        clear hb
                        go_wp2
                        go_roundw
                        case rel => exact ⟨m + 1, by omega, by omega, by go_num, KB1.out⟩
                        case measure => simp [intOf]; omega
                      · obtain rfl : m = 300 := by omega
                        go_wp2
                        go_ret
                        exact ⟨rfl, BEZ.out⟩
                    · obtain rfl : m = L := by omega
                      have hlt2 : ¬ (m : Int) < (m : Int) := by omega
                      go_wp2
                      go_ret
                      exact ⟨rfl, BEZ.out⟩
              · skip
                have eV : V_LeastWithSum s c q = none := by unfold V_LeastWithSum; rw [hno]; rfl
                rw [eV] at HU1 HU2
                simp only [optRes] at HU1 HU2
                clear eV hno
                go_wp2_with fail
                refine (HU1.out _).mono ?_
                rintro e w9 ⟨rfl, hb⟩
                have BE9 := Lib.hid (BE8.out.trans (hb.mono BE8.out.size))
                clear hb
                go_wp2_with fail
                refine (HU2.out _).mono ?_
                rintro e w10 ⟨rfl, hb⟩
                have BE10 := Lib.hid (BE9.out.trans (hb.mono BE9.out.size))
                clear hb
                go_wp2
                go_ret
                exact ⟨rfl, BE10.out⟩
  · skip
    have eL : LF_CyclesOfPowers b p = [] := by unfold LF_CyclesOfPowers; rw [hno]; rfl
    rw [eL, hno] at HI1 HT1
    rw [eL] at HBD
    clear eL hno
    go_wp2_with fail
    refine (HI1.out _).mono ?_
    rintro e w2 ⟨uC, vC, rfl, hll, hb⟩
    have BE2 := Lib.hid (BE1.out.trans (hb.mono BE1.out.size))
    have R1 := Lib.hid hll.f
    have HVC := Lib.hid hll.len
    clear hll hb
    go_wp2_with fail
    refine (HT1.out _).mono ?_
    rintro e w3 ⟨uX, vX, rfl, hll, hb⟩
    have R2 := Lib.hid (R1.out.keep hb)
    have BE3 := Lib.hid (BE2.out.trans (hb.mono BE2.out.size))
    have R3 := Lib.hid hll.f
    have HVX := Lib.hid hll.len
    clear hll hb
    go_wp2_with fail
    refine (rRows_same _ _ vC vX _ _ _ _ R2.out R3.out (by rw [HVC.out, HVX.out]) (by rw [HVC.out]; exact HBD.out.1) (fun i => Nat.le_trans (HBD.out.2 i) (by omega))).mono ?_
    rintro e w4 ⟨rfl, hb⟩
    have R4 := Lib.hid (R2.out.keep hb)
    have R5 := Lib.hid (R3.out.keep hb)
    have BE4 := Lib.hid (BE3.out.trans (hb.mono BE3.out.size))
    clear hb
    as_aux_lemma =>
      go_wp2_with fail
      refine (draw_LeastWithSum _ xs1 _ (HS1.out.keep BE4.out) HL1.out).mono ?_
      rintro e y1 ⟨s, c, q, rfl, hb⟩
      have BE5 := Lib.hid (BE4.out.trans (hb.mono BE4.out.size))
      clear hb
      have HU1 := Lib.hid (fun w => impl_LeastWithSum s c q w)
      have HU2 := Lib.hid (fun w => spec_LeastWithSum s c q w)
      simp only [R_LeastWithSum] at HU1 HU2
      rcases okl_cases s c q with ⟨hok, S, C, K, rfl, rfl, rfl, hS, hC, hC2, hK, hK2⟩ | hno
      · skip
        have eV : V_LeastWithSum (S : Int) (C : Int) (K : Int) = RLs C K S := by unfold V_LeastWithSum; rw [if_pos hok]; rfl
        rw [eV] at HU1 HU2
        clear eV hok
        cases hz : RLs C K S with
        | none =>
          rw [hz] at HU1 HU2
          simp only [optRes] at HU1 HU2
          go_wp2_with fail
          refine (HU1.out _).mono ?_
          rintro e w6 ⟨rfl, hb⟩
          have BE6 := Lib.hid (BE5.out.trans (hb.mono BE5.out.size))
          clear hb
          go_wp2_with fail
          refine (HU2.out _).mono ?_
          rintro e w7 ⟨rfl, hb⟩
          have BE7 := Lib.hid (BE6.out.trans (hb.mono BE6.out.size))
          clear hb
          go_wp2
          go_ret
          exact ⟨rfl, BE7.out⟩
        | some zz =>
          obtain ⟨L, rfl, hL, hLp, hLm⟩ := least_facts hC hK hS hz
          rw [hz] at HU1 HU2
          simp only [optRes] at HU1 HU2
          have HLM := Lib.hid hLm
          have HP := Lib.hid (fun w => power_atV hL hC hC2 hK hK2 w)
          rw [hLp] at HP
          clear hz hLm hLp
          go_wp2_with fail
          refine (HU1.out _).mono ?_
          rintro e w6 ⟨rfl, hb⟩
          have BE6 := Lib.hid (BE5.out.trans (hb.mono BE5.out.size))
          clear hb
          go_wp2_with fail
          refine (HU2.out _).mono ?_
          rintro e w7 ⟨rfl, hb⟩
          have BE7 := Lib.hid (BE6.out.trans (hb.mono BE6.out.size))
          clear hb
          go_wp2_with fail
          refine (HP.out _).mono ?_
          rintro e w8 ⟨rfl, hb⟩
          have BE8 := Lib.hid (BE7.out.trans (hb.mono BE7.out.size))
          clear hb
          go_wp2
          go_loopw [31] (fun i wr => ∃ m : Nat, m ≤ L ∧ m ≤ 300 ∧ i = .int .i64 (m : Int) ∧ Below w8.heap.size w8 wr) (fun i _ => 300 - (intOf i).toNat)
          case atStart => exact ⟨0, Nat.zero_le _, Nat.zero_le _, rfl, Below.refl _ _⟩
          case round =>
            obtain ⟨m, hm, hm3, rfl, hb⟩ := hrel
            have KB := Lib.hid hb
            clear hb
            have BEZ := Lib.hid (BE8.out.trans (KB.out.mono BE8.out.size))
            by_cases hlt : m < L
            · have hlt2 : (m : Int) < (L : Int) := by omega
              by_cases h3 : m < 300
              · have h3i : (m : Int) < 300 := by omega
                have HPM := Lib.hid (fun w => power_atV (show m ≤ 1000000000000 by omega) hC hC2 hK hK2 w)
                have hne := HLM.out m hlt
                obtain ⟨Q, hQ⟩ : ∃ Q, Q = ps C K m := ⟨_, rfl⟩
                rw [← hQ] at HPM hne
                clear hQ
                have hne2 : ((Q : Int) == (S : Int)) = false := beq_no (by omega)
                clear hne
                go_wp2_with fail
                refine (HPM.out _).mono ?_
                rintro e z1 ⟨rfl, hb⟩
                have KB1 := Lib.hid (KB.out.trans (hb.mono KB.out.size))
                clear hb
                go_wp2
                go_roundw
                case rel => exact ⟨m + 1, by omega, by omega, by go_num, KB1.out⟩
                case measure => simp [intOf]; omega
              · obtain rfl : m = 300 := by omega
                go_wp2
                go_ret
                exact ⟨rfl, BEZ.out⟩
            · obtain rfl : m = L := by omega
              have hlt2 : ¬ (m : Int) < (m : Int) := by omega
              go_wp2
              go_ret
              exact ⟨rfl, BEZ.out⟩
      · skip
        have eV : V_LeastWithSum s c q = none := by unfold V_LeastWithSum; rw [hno]; rfl
        rw [eV] at HU1 HU2
        simp only [optRes] at HU1 HU2
        clear eV hno
        go_wp2_with fail
        refine (HU1.out _).mono ?_
        rintro e w6 ⟨rfl, hb⟩
        have BE6 := Lib.hid (BE5.out.trans (hb.mono BE5.out.size))
        clear hb
        go_wp2_with fail
        refine (HU2.out _).mono ?_
        rintro e w7 ⟨rfl, hb⟩
        have BE7 := Lib.hid (BE6.out.trans (hb.mono BE6.out.size))
        clear hb
        go_wp2
        go_ret
        exact ⟨rfl, BE7.out⟩

end Go.Proofs.Ytnniiobiedfmoaa
