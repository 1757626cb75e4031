/-
  Joint text of 3P 0J 3K 0L 3V 3O (written by wip/tools/merge.py).
-/
import Derived.Test.YtnniiobiedfmoaaVB
import Derived.Test.YtnniiobiedfmoaaUH
import Derived.Test.YtnniiobiedfmoaaZ
import Derived.Test.Ytnniiobiedfmoaa0D
import Derived.Test.Ytnniiobiedfmoaa0B
import Derived.Test.Ytnniiobiedfmoaa0G
import Derived.Test.YtnniiobiedfmoaaV9
import Derived.Test.YtnniiobiedfmoaaFZ
import Derived.Test.YtnniiobiedfmoaaUF
import Derived.Test.YtnniiobiedfmoaaG
import Derived.Test.YtnniiobiedfmoaaG2
/- from X3P -/
namespace Go.Proofs.Ytnniiobiedfmoaa
set_option linter.unusedVariables false
set_option linter.unusedSimpArgs false

theorem it_outP (f : Nat → Nat) (k x : Nat) : it f (k + 1) x = f (it f k x) := rfl
theorem srt_permP (xs : List Int) : (srt xs).Perm xs := List.mergeSort_perm xs _
theorem fold_mem : ∀ (zs : List Int) (a : Int), zs.foldl min a = a ∨ zs.foldl min a ∈ zs
  | [], a => .inl rfl
  | z :: zs, a => by
    rcases fold_mem zs (min a z) with h | h
    · rw [List.foldl_cons, h]
      by_cases hm : a ≤ z
      · left; omega
      · right
        have : min a z = z := by omega
        rw [this]; simp
    · right
      rw [List.foldl_cons]
      simp [h]
theorem fold_le : ∀ (zs : List Int) (a : Int), zs.foldl min a ≤ a ∧ ∀ z ∈ zs, zs.foldl min a ≤ z
  | [], a => ⟨Int.le_refl _, fun z hz => by simp at hz⟩
  | y :: zs, a => by
    obtain ⟨h1, h2⟩ := fold_le zs (min a y)
    rw [List.foldl_cons]
    refine ⟨by omega, fun z hz => ?_⟩
    rcases List.mem_cons.1 hz with rfl | hz
    · omega
    · exact h2 z hz
theorem minOf_facts : ∀ (zs : List Int), zs ≠ [] → Lib.minOf zs ∈ zs ∧ ∀ z ∈ zs, Lib.minOf zs ≤ z
  | [], h => absurd rfl h
  | y :: ys, _ => by
    have e : Lib.minOf (y :: ys) = (y :: ys).foldl min y := rfl
    rw [e]
    refine ⟨?_, (fold_le (y :: ys) y).2⟩
    rcases fold_mem (y :: ys) y with h | h
    · rw [h]; simp
    · exact h

/-- What holds of a run of power sums: r numbers, t of them not on the cycle, e the cycle's least. -/
structure RunF (b p n r t : Nat) (e : Int) : Prop where
  len : r ≤ 1012502
  tail : t < r
  step : ∀ k, k < r → ps b p (it (ps b p) k n) = it (ps b p) (if k + 1 < r then k + 1 else t) n
  bd : ∀ k, it (ps b p) k n ≤ 1000000000000
  ends : ∃ i, t ≤ i ∧ i < r ∧ e = ((it (ps b p) i n : Nat) : Int)
  least : ∀ i, t ≤ i → i < r → e ≤ ((it (ps b p) i n : Nat) : Int)
  top : it (ps b p) t n ≤ gs b p

theorem drop_memR {f : Nat → Nat} {M x t : Nat} {z : Int} (hz : z ∈ (run f M x).drop t) : ∃ i, t ≤ i ∧ i < rl f M x ∧ z = ((it f i x : Nat) : Int) := by
  obtain ⟨j, hj, e⟩ := List.getElem_of_mem hz
  rw [List.getElem_drop] at e
  simp [run] at hj e
  exact ⟨t + j, by omega, by omega, e.symm⟩
theorem mem_dropR {f : Nat → Nat} {M x t i : Nat} (h1 : t ≤ i) (h2 : i < rl f M x) : ((it f i x : Nat) : Int) ∈ (run f M x).drop t := by
  rw [List.mem_iff_getElem]
  refine ⟨i - t, by simp [run]; omega, ?_⟩
  rw [List.getElem_drop]
  simp [run, show t + (i - t) = i by omega]

theorem psl_le (p M : Nat) : ∀ (xs : List Int), (∀ x ∈ xs, x ≤ (M : Int)) → psl p xs ≤ xs.length * M ^ p
  | [], _ => by simp [psl]
  | x :: xs, h => by
    have h1 := psl_le p M xs (fun y hy => h y (by simp [hy]))
    have h2 : x.toNat ^ p ≤ M ^ p := Nat.pow_le_pow_left (by have := h x (by simp); omega) p
    rw [psl_cons, List.length_cons, Nat.succ_mul]
    omega
theorem ps_len {b p m : Nat} (hb : 2 ≤ b) (hp : 1 ≤ p) : ps b p m ≤ (dgs (b : Int) (m : Int)).length * (b - 1) ^ p := by
  rw [← psl_dgs hb hp]
  refine psl_le p (b - 1) _ (fun x hx => ?_)
  have := (dgs_all (b : Int) (m : Int) (by omega) (by omega) x hx).2
  omega
/-- A number with at least so many digits falls. -/
theorem long_falls {b p m : Nat} (hb : 2 ≤ b) (hb' : b ≤ 16) (hp : 1 ≤ p) (hp' : p ≤ 8) (h : ff b p ≤ (dgs (b : Int) (m : Int)).length) : ps b p m < m := by
  have h1 := ps_len (m := m) hb hp
  obtain ⟨i, hi⟩ : ∃ i, (dgs (b : Int) (m : Int)).length = ff b p + i := ⟨(dgs (b : Int) (m : Int)).length - ff b p, by omega⟩
  have h2 := falls_on hb hb' hp hp' i
  have h3 := (ff_spec hb hb' hp hp').1
  rw [hi] at h1
  have h4 : b ^ (ff b p - 1 + i) ≤ m := by
    by_cases hlt : m < b ^ (ff b p - 1 + i)
    · have := dgs_lenb hb (by omega) hlt
      omega
    · omega
  omega
/-- The others have no greater sum than that. -/
theorem short_le {b p m : Nat} (hb : 2 ≤ b) (hp : 1 ≤ p) (h : (dgs (b : Int) (m : Int)).length < ff b p) : ps b p m ≤ gs b p := by
  have h1 := ps_len (m := m) hb hp
  have h2 : (dgs (b : Int) (m : Int)).length * (b - 1) ^ p ≤ (ff b p - 1) * (b - 1) ^ p := Nat.mul_le_mul_right _ (by omega)
  unfold gs
  omega

theorem run_facts {b p n : Nat} (hb : 2 ≤ b) (hb' : b ≤ 16) (hp : 1 ≤ p) (hp' : p ≤ 4) (hn : n ≤ 1000000000000) : RunF b p n (rl (ps b p) PM n) (tl (ps b p) PM n) (endOf (ps b p) PM n) := by
  obtain ⟨s1, s2, s3, s4, s5, s6⟩ := rl_spec (it_ps (p := p) hb hb' hp' hn)
  have hne : (run (ps b p) PM n).drop (tl (ps b p) PM n) ≠ [] := by
    intro h
    have := congrArg List.length h
    simp [run] at this
    omega
  obtain ⟨m1, m2⟩ := minOf_facts _ hne
  obtain ⟨i, i1, i2, i3⟩ := drop_memR m1
  refine ⟨by unfold PM at s2; exact s2, s3, fun k hk => ?_, it_ps_le hb hb' hp' hn, ⟨i, i1, i2, i3⟩, fun j j1 j2 => m2 _ (mem_dropR j1 j2), ?_⟩
  · rw [← it_outP (ps b p) k n]
    by_cases h : k + 1 < rl (ps b p) PM n
    · rw [if_pos h]
    · rw [if_neg h, s4, show k + 1 = rl (ps b p) PM n by omega]
  · obtain ⟨f, hf⟩ : ∃ f, f = ps b p := ⟨_, rfl⟩
    obtain ⟨r, hr⟩ : ∃ r, r = rl f PM n := ⟨_, rfl⟩
    obtain ⟨t, ht⟩ : ∃ t, t = tl f PM n := ⟨_, rfl⟩
    rw [← hf, ← ht] at s3 ⊢
    rw [← hf, ← ht, ← hr] at s4
    rw [← hr] at s3
    have per : ∀ (m i : Nat), t ≤ i → it f (i + m * (r - t)) n = it f i n := by
      intro m
      induction m with
      | zero => intro i hi; simp
      | succ m ih =>
        intro i hi
        have e : i + (m + 1) * (r - t) = (i + m * (r - t) - t) + r := by rw [Nat.succ_mul]; omega
        have e2 : i + m * (r - t) = (i + m * (r - t) - t) + t := by omega
        rw [e, it_add, ← s4, ← it_add, ← e2, ih i hi]
    -- were it greater, each number before it on the round were greater still
    by_cases hle : it f t n ≤ gs b p
    · exact hle
    · exfalso
      have back : ∀ k, k ≤ t + (r - t) * (t + (it f t n + 1)) → gs b p < it f (t + (r - t) * (t + (it f t n + 1)) - k) n ∧ it f t n + k ≤ it f (t + (r - t) * (t + (it f t n + 1)) - k) n := by
        intro k
        induction k with
        | zero =>
          intro _
          have := per (t + (it f t n + 1)) t (Nat.le_refl _)
          rw [Nat.mul_comm] at this
          rw [Nat.sub_zero, this]
          omega
        | succ k ih =>
          intro hk
          obtain ⟨g1, g2⟩ := ih (by omega)
          obtain ⟨q, hq⟩ : ∃ q, t + (r - t) * (t + (it f t n + 1)) - (k + 1) = q := ⟨_, rfl⟩
          have e : t + (r - t) * (t + (it f t n + 1)) - k = q + 1 := by omega
          rw [e, it_outP] at g1 g2
          rw [hq]
          have hl : ff b p ≤ (dgs (b : Int) ((it f q n : Nat) : Int)).length := by
            by_cases h : ff b p ≤ (dgs (b : Int) ((it f q n : Nat) : Int)).length
            · exact h
            · have := short_le (p := p) hb hp (show (dgs (b : Int) ((it f q n : Nat) : Int)).length < ff b p by omega)
              rw [← hf] at this
              omega
          have hfall := long_falls hb hb' hp (by omega) hl
          rw [← hf] at hfall
          omega
      have hbig : t + (it f t n + 1) ≤ (r - t) * (t + (it f t n + 1)) := Nat.le_mul_of_pos_left _ (by omega)
      obtain ⟨Z, hZ⟩ : ∃ Z, Z = (r - t) * (t + (it f t n + 1)) := ⟨_, rfl⟩
      rw [← hZ] at hbig back
      obtain ⟨c1, c2⟩ := back Z (by omega)
      rw [show t + Z - Z = t by omega] at c2
      omega

theorem ps_digit {b p q d : Nat} (hb : 2 ≤ b) (hp : 1 ≤ p) (hd : d < b) : ps b p (q * b + d) = d ^ p + ps b p q := by
  by_cases h0 : q * b + d = 0
  · have hd0 : d = 0 := by omega
    have hq0 : q = 0 := by
      rcases Nat.eq_zero_or_pos q with h | h
      · exact h
      · have := Nat.mul_le_mul h hb; omega
    subst hd0 hq0
    rw [Nat.zero_mul, ps_zero, Nat.zero_pow (by omega)]
  · rw [ps_step p hb (by omega)]
    have m : (q * b + d) % b = d := by rw [Nat.add_comm, Nat.add_mul_mod_self_right, Nat.mod_eq_of_lt hd]
    have dv : (q * b + d) / b = q := by rw [Nat.add_comm, Nat.add_mul_div_right _ _ (by omega), Nat.div_eq_of_lt hd, Nat.zero_add]
    rw [m, dv]
theorem ps_val {b p : Nat} (hb : 2 ≤ b) (hp : 1 ≤ p) : ∀ (xs : List Int) (a : Nat), (∀ x ∈ xs, 0 ≤ x ∧ x ≤ (b : Int) - 1) → ∃ v : Nat, val (b : Int) xs (a : Int) = (v : Int) ∧ ps b p v = ps b p a + psl p xs
  | [], a, _ => ⟨a, rfl, by simp [psl]⟩
  | x :: xs, a, h => by
    obtain ⟨h1, h2⟩ := h x (by simp)
    obtain ⟨d, rfl⟩ : ∃ d : Nat, x = (d : Int) := ⟨x.toNat, by omega⟩
    obtain ⟨v, e1, e2⟩ := ps_val hb hp xs (a * b + d) (fun y hy => h y (by simp [hy]))
    refine ⟨v, ?_, ?_⟩
    · rw [val, ← e1]
      simp
    · rw [e2, ps_digit hb hp (by omega), psl_cons, Int.toNat_natCast]
      omega
/-- Sorted digits have the same power sum. -/
theorem ps_sorted {b p n : Nat} {m : Int} (hb : 2 ≤ b) (hp : 1 ≤ p) (h : numF (b : Int) (srt (dgs (b : Int) (n : Int))) 0 = some m) : ∃ v : Nat, m = (v : Int) ∧ v ≤ 1000000000000 ∧ ps b p v = ps b p n := by
  have hd := dgs_all (b : Int) (n : Int) (by omega) (by omega)
  have ha : ∀ x ∈ srt (dgs (b : Int) (n : Int)), 0 ≤ x ∧ x ≤ (b : Int) - 1 := fun x hx => hd x (srt_mem.1 hx)
  rw [numF_val (b : Int) (by omega) _ 0 (fun x hx => (ha x hx).1) (by omega) (by omega)] at h
  obtain ⟨v, e1, e2⟩ := ps_val hb hp _ 0 ha
  rw [show ((0 : Nat) : Int) = 0 from rfl] at e1
  rw [e1] at h
  by_cases hv : (v : Int) ≤ 1000000000000
  · rw [if_pos hv] at h
    refine ⟨v, (Option.some.inj h).symm, by omega, ?_⟩
    rw [e2, ps_zero, Nat.zero_add, psl_perm p (srt_permP _), psl_dgs hb hp]
  · rw [if_neg hv] at h
    cases h

end Go.Proofs.Ytnniiobiedfmoaa

/- from X0J -/
namespace Go.Proofs.Ytnniiobiedfmoaa
open Go.RowKit
set_option linter.unusedVariables false
set_option linter.unusedSimpArgs false
set_option maxRecDepth 100000

/-- As among_lit, the block's number, the length and the cells told as the walk has them. -/
theorem among_at (g : Nat) (v : Value) (xs : List Int) (K : Nat) (ys : List Int) (w : World) (h : Cu w g v xs K) (hK : K ≤ 1000000) (h1 : 1 ≤ ys.length) (h2 : ys.length ≤ 1000)
    {s n : Nat} {cs : Array Value} (hs : s = w.heap.size) (hn : n = ys.length) (hcs : cs = (ys.map (Value.int .i64)).toArray) :
    Calls Try.prog 56 #[.pointer (some ⟨g, 0, none⟩), .slice (some ⟨s, 0, none⟩) n n] (w.alloc (.cells cs 3)) fun e w' => ∃ x : Int, e = .returned (.int .i64 x) ∧ Cu w' g v xs (K + 2) ∧ w.grownBy w' (some g) := by
  subst hs hn hcs
  exact among_lit g v xs K ys w h hK h1 h2

end Go.Proofs.Ytnniiobiedfmoaa

/- from X3K -/
namespace Go.Proofs.Ytnniiobiedfmoaa
open Go.RowKit
set_option linter.unusedVariables false
set_option linter.unusedSimpArgs false
set_option maxRecDepth 100000

theorem powered_any (g : Nat) (v : Value) (xs : List Int) (K : Nat) (w : World) (h : Cu w g v xs K) (hK : K ≤ 800) :
    Calls Try.prog 61 #[.pointer (some ⟨g, 0, none⟩)] w fun e w' => ∃ z y p : Int, e = .returned (.tuple #[.int .i64 z, .int .i64 y, .int .i64 p]) ∧ Cu w' g v xs (K + 36) ∧ w.grownBy w' (some g) := by
  have HN := Lib.hid (numberD_any g v xs K w h (by omega))
  clear h
  go_enter Try.func61, Try.ntmps61
  go_wp2_with fail
  refine HN.out.mono ?_
  rintro e w1 ⟨z, rfl, hc, hg⟩
  have C1 := Lib.hid hc
  have G1 := Lib.hid hg
  clear hc hg
  go_wp2_with fail
  refine (base_any g v xs _ _ C1.out (by omega)).mono ?_
  rintro e w2 ⟨y, rfl, hc, hg⟩
  have C2 := Lib.hid hc
  have G2 := Lib.hid (grown_trans G1.out hg)
  clear hc hg
  go_wp2_with fail
  refine (among_at g v xs _ [1, 2, 2, 3, 3, 4, 5, 8, 9, 0] _ C2.out (by omega) (by simp) (by simp) rfl rfl rfl).mono ?_
  rintro e w3 ⟨p, rfl, hc, hg⟩
  have C3 := Lib.hid hc
  have G3 := Lib.hid (grown_trans G2.out hg)
  clear hc hg
  go_wp2
  go_ret3
  exact ⟨_, _, _, rfl, C3.out, G3.out⟩

theorem draw_PowerSum (v : Value) (xs : List Int) (w : World) (h : Sb w v xs) (hs : xs.length ≤ 1048576) :
    Calls Try.prog 23 #[v] w fun e w' => ∃ z y p : Int, e = .returned (.tuple #[.int .i64 z, .int .i64 y, .int .i64 p]) ∧ Below w.heap.size w w' := by
  have HC := Lib.hid (Cu.start h hs)
  obtain ⟨a, cap, rfl⟩ := h.len
  have HB := Lib.hid (alloc_below w (.cells #[.slice a xs.length cap, .int .i64 0, .int .u64 0] 67))
  clear h
  go_enter Try.func23, Try.ntmps23
  go_wp2_with fail
  refine (powered_any w.heap.size _ xs _ _ HC.out (by omega)).mono ?_
  rintro e w1 ⟨z, y, p, rfl, hc, hg⟩
  have HB1 := Lib.hid (HB.out.trans (grown_below hg (by simp) (Nat.le_refl _)))
  clear hc hg
  go_wp2
  go_ret3
  exact ⟨_, _, _, rfl, HB1.out⟩

theorem draw_PowerRun (v : Value) (xs : List Int) (w : World) (h : Sb w v xs) (hs : xs.length ≤ 1048576) :
    Calls Try.prog 7 #[v] w fun e w' => ∃ z y p : Int, e = .returned (.tuple #[.int .i64 z, .int .i64 y, .int .i64 p]) ∧ Below w.heap.size w w' := by
  have HD := Lib.hid (draw_PowerSum v xs w h hs)
  clear h
  go_enter Try.func7, Try.ntmps7
  go_wp2_with fail
  refine HD.out.mono ?_
  rintro e w1 ⟨z, y, p, rfl, hb⟩
  have HB := Lib.hid hb
  clear hb
  go_wp2
  go_ret3
  exact ⟨_, _, _, rfl, HB.out⟩

theorem draw_FallsFrom (v : Value) (xs : List Int) (w : World) (h : Sb w v xs) (hs : xs.length ≤ 1048576) :
    Calls Try.prog 19 #[v] w fun e w' => ∃ z y : Int, e = .returned (.tuple #[.int .i64 z, .int .i64 y]) ∧ Below w.heap.size w w' := by
  have HC := Lib.hid (Cu.start h hs)
  obtain ⟨a, cap, rfl⟩ := h.len
  have HB := Lib.hid (alloc_below w (.cells #[.slice a xs.length cap, .int .i64 0, .int .u64 0] 67))
  clear h
  go_enter Try.func19, Try.ntmps19
  go_wp2_with fail
  refine (base_any w.heap.size _ xs _ _ HC.out (by omega)).mono ?_
  rintro e w1 ⟨z, rfl, hc, hg⟩
  have C1 := Lib.hid hc
  have HB1 := Lib.hid (HB.out.trans (grown_below hg (by simp) (Nat.le_refl _)))
  clear hc hg
  go_wp2_with fail
  refine (among_at w.heap.size _ xs _ [1, 2, 3, 4, 5, 8, 9, 0] _ C1.out (by omega) (by simp) (by simp) rfl rfl rfl).mono ?_
  rintro e w2 ⟨y, rfl, hc, hg⟩
  have HB2 := Lib.hid (HB1.out.trans (grown_below hg HB1.out.size (Nat.le_refl _)))
  clear hc hg
  go_wp2
  go_ret2
  exact ⟨_, _, rfl, HB2.out⟩

theorem draw_CyclesOfPowers (v : Value) (xs : List Int) (w : World) (h : Sb w v xs) (hs : xs.length ≤ 1048576) :
    Calls Try.prog 26 #[v] w fun e w' => ∃ z y : Int, e = .returned (.tuple #[.int .i64 z, .int .i64 y]) ∧ Below w.heap.size w w' := by
  have HC := Lib.hid (Cu.start h hs)
  obtain ⟨a, cap, rfl⟩ := h.len
  have HB := Lib.hid (alloc_below w (.cells #[.slice a xs.length cap, .int .i64 0, .int .u64 0] 67))
  clear h
  go_enter Try.func26, Try.ntmps26
  go_wp2_with fail
  refine (among_at w.heap.size _ xs _ [2, 3, 4, 5, 6, 7, 8, 9, 10, 11, 1] _ HC.out (by omega) (by simp) (by simp) (World.size_alloc _ _).symm rfl rfl).mono ?_
  rintro e w1 ⟨z, rfl, hc, hg⟩
  have C1 := Lib.hid hc
  have HB1 := Lib.hid (HB.out.trans (grown_below hg (by simp) (Nat.le_refl _)))
  clear hc hg
  go_wp2_with fail
  refine (among_at w.heap.size _ xs _ [1, 2, 2, 3, 3, 4, 5, 0] _ C1.out (by omega) (by simp) (by simp) rfl rfl rfl).mono ?_
  rintro e w2 ⟨y, rfl, hc, hg⟩
  have HB2 := Lib.hid (HB1.out.trans (grown_below hg HB1.out.size (Nat.le_refl _)))
  clear hc hg
  go_wp2
  go_ret2
  exact ⟨_, _, rfl, HB2.out⟩

theorem draw_OwnPowers (v : Value) (xs : List Int) (w : World) (h : Sb w v xs) (hs : xs.length ≤ 1048576) :
    Calls Try.prog 34 #[v] w fun e w' => ∃ z y : Int, e = .returned (.tuple #[.int .i64 z, .int .i64 y]) ∧ Below w.heap.size w w' := by
  have HC := Lib.hid (Cu.start h hs)
  obtain ⟨a, cap, rfl⟩ := h.len
  have HB := Lib.hid (alloc_below w (.cells #[.slice a xs.length cap, .int .i64 0, .int .u64 0] 67))
  clear h
  go_enter Try.func34, Try.ntmps34
  go_wp2_with fail
  refine (among_at w.heap.size _ xs _ [2, 3, 4, 5, 7, 10, 10, 11, 1] _ HC.out (by omega) (by simp) (by simp) (World.size_alloc _ _).symm rfl rfl).mono ?_
  rintro e w1 ⟨z, rfl, hc, hg⟩
  have C1 := Lib.hid hc
  have HB1 := Lib.hid (HB.out.trans (grown_below hg (by simp) (Nat.le_refl _)))
  clear hc hg
  go_wp2_with fail
  refine (among_at w.heap.size _ xs _ [1, 2, 3, 3, 4, 7, 0] _ C1.out (by omega) (by simp) (by simp) rfl rfl rfl).mono ?_
  rintro e w2 ⟨y, rfl, hc, hg⟩
  have HB2 := Lib.hid (HB1.out.trans (grown_below hg HB1.out.size (Nat.le_refl _)))
  clear hc hg
  go_wp2
  go_ret2
  exact ⟨_, _, rfl, HB2.out⟩

theorem draw_Narcissistic (v : Value) (xs : List Int) (w : World) (h : Sb w v xs) (hs : xs.length ≤ 1048576) :
    Calls Try.prog 37 #[v] w fun e w' => ∃ z y : Int, e = .returned (.tuple #[.int .i64 z, .int .i64 y]) ∧ Below w.heap.size w w' := by
  have HC := Lib.hid (Cu.start h hs)
  obtain ⟨a, cap, rfl⟩ := h.len
  have HB := Lib.hid (alloc_below w (.cells #[.slice a xs.length cap, .int .i64 0, .int .u64 0] 67))
  clear h
  go_enter Try.func37, Try.ntmps37
  go_wp2_with fail
  refine (among_at w.heap.size _ xs _ [1, 2, 3, 3, 4, 5, 7, 0] _ HC.out (by omega) (by simp) (by simp) (World.size_alloc _ _).symm rfl rfl).mono ?_
  rintro e w1 ⟨z, rfl, hc, hg⟩
  have C1 := Lib.hid hc
  have HB1 := Lib.hid (HB.out.trans (grown_below hg (by simp) (Nat.le_refl _)))
  clear hc hg
  go_wp2_with fail
  refine (among_at w.heap.size _ xs _ [10, 10, 2, 3, 4, 5, 7, 11, 1] _ C1.out (by omega) (by simp) (by simp) rfl rfl rfl).mono ?_
  rintro e w2 ⟨y, rfl, hc, hg⟩
  have HB2 := Lib.hid (HB1.out.trans (grown_below hg HB1.out.size (Nat.le_refl _)))
  clear hc hg
  go_wp2
  go_ret2
  exact ⟨_, _, rfl, HB2.out⟩

end Go.Proofs.Ytnniiobiedfmoaa

/- from X0L -/
namespace Go.Proofs.Ytnniiobiedfmoaa
open Go.RowKit
set_option linter.unusedVariables false
set_option linter.unusedSimpArgs false
set_option maxRecDepth 100000

theorem rSame_any (v u : Value) (xs : List Int) (w : World) (hv : Sl w v xs) (hu : Sl w u xs) (hl : xs.length ≤ 2000000) :
    Calls Try.prog 14 #[v, u] w fun e w' => e = .returned (.bool true) ∧ Below w.heap.size w w' := by
  obtain ⟨a, cap, rfl, hx⟩ := hv
  obtain ⟨c, cap2, rfl, hy⟩ := hu
  have HX := Lib.hid hx
  have HY := Lib.hid hy
  clear hx hy
  go_enter Try.func14, Try.ntmps14
  go_wp2
  go_loopw [13] (fun i wr => ∃ k : Nat, k ≤ xs.length ∧ i = .int .i64 k ∧ Below w.heap.size w wr) (fun i _ => xs.length - (intOf i).toNat)
  case atStart => exact ⟨0, Nat.zero_le _, rfl, Below.refl _ _⟩
  case round =>
    obtain ⟨k, hk, rfl, hb⟩ := hrel
    have HB := Lib.hid hb
    clear hb
    by_cases hlt : k < xs.length
    · rcases HX.out with hx | ⟨b, off, rfl, hbl, hc⟩
      · rw [hx] at hlt; simp at hlt
      rcases HY.out with hy | ⟨b2, off2, rfl, hbl2, hc2⟩
      · rw [hy] at hlt; simp at hlt
      have hcell : wr.cell? ⟨b, off + k, none⟩ = some (.int .i64 xs[k]) := (HB.out.cell (p := ⟨b, off + k, none⟩) hbl).trans (hc k hlt)
      have hcell2 : wr.cell? ⟨b2, off2 + k, none⟩ = some (.int .i64 xs[k]) := (HB.out.cell (p := ⟨b2, off2 + k, none⟩) hbl2).trans (hc2 k hlt)
      obtain ⟨x, hx⟩ : ∃ x, x = xs[k] := ⟨_, rfl⟩
      rw [← hx] at hcell hcell2
      clear hc hc2 hx
      go_wp2
      go_region
      all_goals
        go_wp2
        go_roundw
        case rel => exact ⟨k + 1, by omega, by go_num, HB.out.drew⟩
        case measure => simp [intOf]; omega
    · obtain rfl : k = xs.length := by omega
      go_wp2
      go_ret
      exact ⟨rfl, HB.out⟩
theorem rd_liesW {w : World} {B : Nat} {v : Value} {xs : List Int} (hr : Rd w B v xs) : ∃ a cap, v = .slice a xs.length cap ∧ xs.length ≤ cap ∧ (xs.length = 0 ∨ ∃ g, a = some ⟨g, 0, none⟩ ∧ g < w.heap.size ∧ ∀ (j : Nat) x, xs[j]? = some x → w.cell? ⟨g, j, none⟩ = some (.int .i64 x)) := by
  rcases hr.cases with ⟨rfl, rfl⟩ | ⟨g, cap, rfl, _⟩
  · exact ⟨none, 0, rfl, Nat.le_refl _, .inl rfl⟩
  · refine ⟨_, _, rfl, hr.at.2.2.2.1, .inr ⟨g, rfl, hr.at.2.2.1, fun j x hx => ?_⟩⟩
    obtain ⟨h1, h2⟩ := List.getElem?_eq_some_iff.1 hx
    rw [hr.at.2.2.2.2.1 j h1, h2]
theorem sum_bdW : ∀ (xs : List Int), (∀ x ∈ xs, 0 ≤ x ∧ x ≤ 1000000000000) → 0 ≤ xs.sum ∧ xs.sum ≤ 1000000000000 * xs.length
  | [], _ => by simp
  | x :: xs, h => by
    have h1 := h x (by simp)
    have h2 := sum_bdW xs (fun y hy => h y (by simp [hy]))
    simp
    omega
theorem rRising_any (v : Value) (xs : List Int) (B : Nat) (w : World) (h : Rd w B v xs) (hx : xs.Pairwise (· < ·)) (hl : xs.length ≤ 2000000) :
    Calls Try.prog 30 #[v] w fun e w' => e = .returned (.bool true) ∧ Below w.heap.size w w' := by
  obtain ⟨a, cap, rfl, hcap, hlies⟩ := rd_liesW h
  have HX := Lib.hid (List.pairwise_iff_getElem.1 hx)
  have HL := Lib.hid hlies
  obtain ⟨N, hN⟩ : ∃ N, N = xs.length := ⟨_, rfl⟩
  have HN := Lib.hid hN
  rw [← hN] at hcap hl ⊢
  clear h hx hlies hN
  go_enter Try.func30, Try.ntmps30
  go_wp2
  go_loopw [3] (fun i wr => ∃ k : Nat, k ≤ N ∧ i = .int .i64 ((k : Int) + 1) ∧ Below w.heap.size w wr) (fun i _ => N + 1 - (intOf i).toNat)
  case atStart => exact ⟨0, Nat.zero_le _, by go_num, Below.refl _ _⟩
  case round =>
    obtain ⟨k, hk, rfl, hb⟩ := hrel
    have HB := Lib.hid hb
    clear hb
    by_cases hlt : k + 1 < N
    · have hlt2 : (k : Int) + 1 < (N : Int) := by omega
      rcases HL.out with h0 | ⟨g, rfl, hg, hc⟩
      · exfalso; have := HN.out; omega
      have k1 : k < xs.length := by have := HN.out; omega
      have k2 : k + 1 < xs.length := by have := HN.out; omega
      have z0 := (HB.out.cell (p := ⟨g, k, none⟩) hg).trans (hc k _ (List.getElem?_eq_getElem k1))
      have z1 := (HB.out.cell (p := ⟨g, k + 1, none⟩) hg).trans (hc (k + 1) _ (List.getElem?_eq_getElem k2))
      have hr := HX.out k (k + 1) k1 k2 (by omega)
      obtain ⟨x, hx⟩ : ∃ x, x = xs[k] := ⟨_, rfl⟩
      obtain ⟨y, hy⟩ : ∃ y, y = xs[k + 1] := ⟨_, rfl⟩
      rw [← hx] at z0 hr
      rw [← hy] at z1 hr
      have hnl : ¬ y ≤ x := by omega
      have hw1 : wrap64 ((k : Int) + 1 - 1) = (k : Int) := by unfold wrap64; omega
      have hw2 : IntKind.i64.wrap ((k : Int) + 1 - 1) = (k : Int) := by rw [IntWalk.i64_in _ (by omega)]; omega
      clear hc hx hy k1 k2
      go_wp2
      go_region
      all_goals
        go_wp2
        go_roundw
        case rel => exact ⟨k + 1, by omega, by go_num, HB.out.drew⟩
        case measure => simp [intOf]; omega
    · have hlt2 : ¬ (k : Int) + 1 < (N : Int) := by omega
      go_wp2
      go_ret
      exact ⟨rfl, HB.out⟩

/-- A list that can be read: nothing, or cells from some place on. -/
def Src0 (w : World) (a : Option Addr) (xs : List Int) : Prop := xs.length = 0 ∨ ∃ g o, a = some ⟨g, o, none⟩ ∧ ∀ (j : Nat) x, xs[j]? = some x → w.cell? ⟨g, o + j, none⟩ = some (.int .i64 x)
theorem Src0.drop {w : World} {g : Nat} {xs : List Int} (h : ∀ (j : Nat) x, xs[j]? = some x → w.cell? ⟨g, j, none⟩ = some (.int .i64 x)) (t : Nat) : Src0 w (some ⟨g, t, none⟩) (xs.drop t) :=
  .inr ⟨g, t, rfl, fun j x hx => h (t + j) x (by rw [← List.getElem?_drop]; exact hx)⟩
theorem rHas_any (a : Option Addr) (xs : List Int) (N cap : Nat) (n : Int) (w : World) (h : Src0 w a xs) (hN : N = xs.length) (hl : N ≤ 2000000) :
    Calls Try.prog 15 #[.slice a N cap, .int .i64 n] w fun e w' => e = .returned (.bool (decide (n ∈ xs))) ∧ w = w' := by
  have HX := Lib.hid h
  have HN := Lib.hid hN
  clear h hN
  go_enter Try.func15, Try.ntmps15
  go_wp2
  go_loopw [9] (fun i wr => ∃ k : Nat, k ≤ N ∧ i = .int .i64 (k : Int) ∧ w = wr ∧ ∀ j, j < k → ∀ x, xs[j]? = some x → x ≠ n) (fun i _ => N - (intOf i).toNat)
  case atStart => exact ⟨0, Nat.zero_le _, rfl, rfl, fun j hj => by omega⟩
  case round =>
    obtain ⟨k, hk, rfl, rfl, hne⟩ := hrel
    have HE := Lib.hid hne
    clear hne
    by_cases hlt : k < N
    · have hlt2 : k < xs.length := by have := HN.out; omega
      have hgx := List.getElem?_eq_getElem hlt2
      rcases HX.out with h0 | ⟨g, o, rfl, hc⟩
      · exfalso; omega
      have z0 := hc k _ hgx
      have HGX := Lib.hid hgx
      obtain ⟨y, hy⟩ : ∃ y, y = xs[k] := ⟨_, rfl⟩
      rw [← hy] at z0 HGX
      clear hc hgx hlt2 hy
      by_cases he : y = n
      · have HM := Lib.hid (show n ∈ xs from he ▸ List.mem_of_getElem? HGX.out)
        have he2 : (y == n) = true := by simp [he]
        go_wp2
        go_ret
        exact ⟨by rw [decide_eq_true HM.out]; rfl, by first | rfl | trivial⟩
      · have HNE := Lib.hid he
        go_wp2
        go_roundw
        case rel =>
          refine ⟨k + 1, by omega, by go_num, by first | rfl | trivial, fun j hj x hx => ?_⟩
          by_cases hjk : j < k
          · exact HE.out j hjk x hx
          · have : j = k := by omega
            subst this
            rw [HGX.out] at hx
            exact Option.some.inj hx ▸ HNE.out
        case measure => simp [intOf]; omega
    · have HM := Lib.hid (show n ∉ xs from fun hm => by
        obtain ⟨j, hj, e⟩ := List.getElem_of_mem hm
        have := HN.out
        exact HE.out j (by omega) n (by rw [List.getElem?_eq_getElem hj, e]) rfl)
      go_wp2
      go_ret
      exact ⟨by rw [decide_eq_false HM.out]; rfl, by first | rfl | trivial⟩

end Go.Proofs.Ytnniiobiedfmoaa

/- from X3V -/
namespace Go.Proofs.Ytnniiobiedfmoaa
open Go.RowKit
set_option linter.unusedVariables false
set_option linter.unusedSimpArgs false
set_option maxRecDepth 100000

theorem getD_memV {xs : List Int} {k : Nat} (h : k < xs.length) : xs.getD k 0 ∈ xs := by
  rw [List.getD_eq_getElem?_getD, List.getElem?_eq_getElem h]
  exact List.getElem_mem h
theorem getD_someV {xs : List Int} {k : Nat} (h : k < xs.length) : xs[k]? = some (xs.getD k 0) := by
  rw [List.getD_eq_getElem?_getD, List.getElem?_eq_getElem h]
  rfl
theorem ps_0 (b p : Nat) : ps b p 0 = 0 := by unfold ps; simp
theorem ps_1 {b p : Nat} (hb : 2 ≤ b) (hp : 1 ≤ p) : ps b p 1 = 1 := by
  have h := ps_digit (b := b) (p := p) (q := 0) (d := 1) hb hp (by omega)
  rw [Nat.zero_mul, Nat.zero_add, ps_0, Nat.one_pow] at h
  exact h

/-- What the law asks of the list of own numbers. -/
structure OwnF (b p : Nat) (own : List Int) : Prop where
  rise : own.Pairwise (· < ·)
  zero : (0 : Int) ∈ own
  one : (1 : Int) ∈ own
  len : own.length ≤ 2000000
  mem : ∀ j, j < own.length → ∃ X : Nat, own.getD j 0 = (X : Int) ∧ X ≤ 1000000000000 ∧ ps b p X = X
  iff : ∀ n : Nat, decide ((n : Int) ∈ own) = decide (ps b p n = n)
theorem own_facts {b p : Nat} (hb : 2 ≤ b) (hb' : b ≤ 10) (hp : 1 ≤ p) (hp' : p ≤ 6) : OwnF b p (ownL b p) := by
  have hm := ownL_mem hb (show b ≤ 16 by omega) hp (show p ≤ 8 by omega)
  refine ⟨cano_rise _, (hm 0).2 ⟨0, rfl, ps_0 b p⟩, (hm 1).2 ⟨1, rfl, ps_1 hb hp⟩, ?_, fun j hj => ?_, fun n => ?_⟩
  · have h := LF_OwnPowers_len (b : Int) (p : Int)
    unfold LF_OwnPowers at h
    rw [if_pos (show OKO (b : Int) (p : Int) = true from decide_eq_true ⟨⟨by omega, by omega⟩, by omega, by omega⟩)] at h
    exact h
  · obtain ⟨X, e, hX⟩ := (hm _).1 (getD_memV hj)
    have h2 := own_small hb hb' hp hp' _ (getD_memV hj)
    exact ⟨X, e, by omega, hX⟩
  · have h := hm (n : Int)
    by_cases e : ps b p n = n
    · rw [decide_eq_true e, decide_eq_true (h.2 ⟨n, rfl, e⟩)]
    · rw [decide_eq_false e, decide_eq_false (fun hc => by
        obtain ⟨X, e1, e2⟩ := h.1 hc
        have : n = X := by omega
        subst this
        exact e e2)]

/-- How many of the first rows hold one number. -/
def onesZ (Z : Nat → List Int) : Nat → Nat
  | 0 => 0
  | i + 1 => onesZ Z i + if (Z i).length = 1 then 1 else 0
theorem onesZ_le (Z : Nat → List Int) : ∀ i, onesZ Z i ≤ i
  | 0 => Nat.le_refl _
  | i + 1 => by
    have := onesZ_le Z i
    simp only [onesZ]
    split <;> omega
theorem ones_take (ls : List (List Nat)) : ∀ i, i ≤ ls.length → onesZ (lsZ ls) i = ((ls.take i).filter fun l => decide (l.length = 1)).length
  | 0, _ => by simp [onesZ]
  | i + 1, h => by
    have ih := ones_take ls i (by omega)
    have e : ls.take (i + 1) = ls.take i ++ [ls[i]'(by omega)] := by rw [List.take_add_one, List.getElem?_eq_getElem (by omega)]; simp
    have e2 : (lsZ ls i).length = (ls[i]'(by omega)).length := by
      unfold lsZ nts
      rw [List.length_map, List.getD_eq_getElem?_getD, List.getElem?_eq_getElem (by omega)]
      rfl
    rw [onesZ, ih, e, List.filter_append, List.length_append, e2]
    by_cases h1 : (ls[i]'(by omega)).length = 1
    · rw [if_pos h1]; simp [h1]
    · rw [if_neg h1]; simp [h1]
theorem it_fixV {f : Nat → Nat} {y : Nat} (h : f y = y) : ∀ k, it f k y = y
  | 0 => rfl
  | k + 1 => by rw [it, it_fixV h k, h]
theorem ps_inV {b p : Nat} (hb : 2 ≤ b) (hb' : b ≤ 16) (hp : 1 ≤ p) (hp' : p ≤ 8) : Into (ps b p) (gs b p + 1) := by
  intro j hj
  by_cases h : ff b p ≤ (dgs (b : Int) (j : Int)).length
  · have := long_falls hb hb' hp hp' h
    omega
  · have := short_le (m := j) hb hp (by omega)
    omega
theorem per_one {f : Nat → Nat} {n y : Nat} (h : Into f n) (hy : y < n) : (lead f n y && decide (per f n y = 1)) = decide (f y = y) := by
  by_cases e : f y = y
  · have hc : cyc f n y = true := cyc_iff.2 ⟨y, hy, it_fixV e n⟩
    have hl : lead f n y = true := by
      unfold lead
      rw [hc, Bool.true_and, List.all_eq_true]
      intro j _
      rw [it_fixV e j]
      simp
    obtain ⟨p1, p2, p3, p4⟩ := per_spec h hc
    have h1 : per f n y = 1 := by
      by_cases h2 : per f n y = 1
      · exact h2
      · exact absurd (it_fixV e 1) (p4 1 (by omega) (by omega))
    rw [hl, decide_eq_true h1, decide_eq_true e]
    rfl
  · rw [decide_eq_false e]
    cases hl : lead f n y with
    | false => rfl
    | true =>
      have hc : cyc f n y = true := by
        unfold lead at hl
        simp only [Bool.and_eq_true] at hl
        exact hl.1
      obtain ⟨p1, p2, p3, p4⟩ := per_spec h hc
      rw [Bool.true_and]
      refine decide_eq_false (fun h1 => ?_)
      rw [h1] at p3
      exact e p3
/-- The cycles of one number are the own numbers. -/
theorem ones_own {b p : Nat} (hb : 2 ≤ b) (hb' : b ≤ 10) (hp : 1 ≤ p) (hp' : p ≤ 4) :
    onesZ (lsZ (cycs (ps b p) (gs b p + 1))) (cycs (ps b p) (gs b p + 1)).length = (ownL b p).length := by
  rw [ones_take _ _ (Nat.le_refl _), List.take_of_length_le (Nat.le_refl _)]
  have hin := ps_inV hb (show b ≤ 16 by omega) hp (show p ≤ 8 by omega)
  have hm := ownL_mem hb (show b ≤ 16 by omega) hp (show p ≤ 8 by omega)
  have hfix : ∀ X : Nat, ps b p X = X → X < gs b p + 1 := by
    intro X hX
    by_cases h : ff b p ≤ (dgs (b : Int) (X : Int)).length
    · have := long_falls hb (show b ≤ 16 by omega) hp (show p ≤ 8 by omega) h
      omega
    · have := short_le (m := X) hb hp (by omega)
      omega
  obtain ⟨N, hN⟩ : ∃ N, N = gs b p + 1 := ⟨_, rfl⟩
  rw [← hN] at hin hfix ⊢
  have e1 : ((cycs (ps b p) N).filter fun l => decide (l.length = 1)).length = ((List.range N).filter fun y => decide (ps b p y = y)).length := by
    unfold cycs cycsTo
    rw [List.filter_map, List.length_map, List.filter_filter]
    congr 1
    refine List.filter_congr (fun y hy => ?_)
    rw [← per_one hin (List.mem_range.1 hy)]
    simp only [Function.comp, rnd, List.length_map, List.length_range]
    exact Bool.and_comm _ _
  rw [e1]
  have e2 : ownL b p = ((List.range N).filter fun y => decide (ps b p y = y)).map fun (y : Nat) => (y : Int) := by
    refine rise_unique (cano_rise _) ?_ (fun z => ?_)
    · refine List.Pairwise.map _ (fun a c h => ?_) (List.Pairwise.sublist List.filter_sublist List.pairwise_lt_range)
      omega
    · rw [hm z, List.mem_map]
      constructor
      · rintro ⟨X, e, hX⟩
        exact ⟨X, List.mem_filter.2 ⟨List.mem_range.2 (hfix X hX), decide_eq_true hX⟩, e.symm⟩
      · rintro ⟨y, hy, e⟩
        exact ⟨y, e.symm, of_decide_eq_true (List.mem_filter.1 hy).2⟩
  rw [e2, List.length_map]

/-- What the law asks of numbers of as many digits as the power. -/
structure NarF (b k : Nat) (xs : List Int) : Prop where
  len : xs.length ≤ 2000000
  mem : ∀ j, j < xs.length → ∃ X : Nat, xs.getD j 0 = (X : Int) ∧ X ≤ 1000000000000 ∧ ps b k X = X ∧ (dgs (b : Int) (X : Int)).length = k ∧ (X : Int) ∈ ownL b k
theorem nar_facts {b k : Nat} (hb : 2 ≤ b) (hb' : b ≤ 10) (hp : 1 ≤ k) (hp' : k ≤ 6) : NarF b k ((ownL b k).filter (keep' b k)) := by
  refine ⟨Nat.le_trans (List.length_filter_le _ _) (own_facts hb hb' hp hp').len, fun j hj => ?_⟩
  have h := getD_memV hj
  obtain ⟨h1, h2⟩ := List.mem_filter.1 h
  obtain ⟨X, e, hX⟩ := (ownL_mem hb (show b ≤ 16 by omega) hp (show k ≤ 8 by omega) _).1 h1
  have h3 := own_small hb hb' hp hp' _ h1
  rw [e] at h1 h2 h3
  refine ⟨X, e, by omega, hX, ?_, h1⟩
  unfold keep' odd' at h2
  simpa using h2

theorem power_atV {N B P : Nat} (hN : N ≤ 1000000000000) (hB : 2 ≤ B) (hB2 : B ≤ 16) (hP : 1 ≤ P) (hP2 : P ≤ 8) (w : World) :
    Calls Try.prog 16 #[.int .i64 (N : Int), .int .i64 (B : Int), .int .i64 (P : Int)] w fun e w' => e = .returned (.tuple #[.int .i64 ((ps B P N : Nat) : Int), .bool true]) ∧ Below w.heap.size w w' := by
  have h := impl_PowerSum (N : Int) (B : Int) (P : Int) w
  have eO : OK3 (N : Int) (B : Int) (P : Int) 8 = true := OK3_yes ⟨by omega, by omega⟩ ⟨by omega, by omega⟩ ⟨by omega, by omega⟩
  have eP : V_PowerSum (N : Int) (B : Int) (P : Int) = ((ps B P N : Nat) : Int) := by unfold V_PowerSum; rw [if_pos eO]; rfl
  simp only [R_PowerSum] at h
  rw [eP, eO] at h
  exact h
theorem count_atV {N B : Nat} (hN : N ≤ 1000000000000) (hB : 2 ≤ B) (hB2 : B ≤ 16) (w : World) :
    Calls Try.prog 25 #[.int .i64 (N : Int), .int .i64 (B : Int)] w fun e w' => e = .returned (.tuple #[.int .i64 (((dgs (B : Int) (N : Int)).length : Nat) : Int), .bool true]) ∧ Below w.heap.size w w' := by
  have h := impl_CountDigits (N : Int) (B : Int) w
  have eO : askI RCountDigits (N : Int) (B : Int) = some (((dgs (B : Int) (N : Int)).length : Nat) : Int) := if_pos ⟨⟨by omega, by omega⟩, by omega, by omega⟩
  rw [eO] at h
  exact h
theorem src0_lies {w : World} {B : Nat} {v : Value} {xs : List Int} (h : Rd w B v xs) : ∃ a cap, v = .slice a xs.length cap ∧ Src0 w a xs := by
  obtain ⟨a, cap, rfl, hc, hl⟩ := rd_liesW h
  rcases hl with hl | ⟨g, rfl, hg, hl⟩
  · exact ⟨a, cap, rfl, .inl hl⟩
  · exact ⟨_, cap, rfl, .inr ⟨g, 0, rfl, fun j x hx => by rw [Nat.zero_add]; exact hl j x hx⟩⟩
theorem slice_V {w : World} {B : Nat} {v : Value} {xs : List Int} (h : Rd w B v xs) (h0 : 0 < xs.length) : ∃ g cap, v = .slice (some ⟨g, 0, none⟩) xs.length cap := by
  obtain ⟨a, cap, rfl, hc, hl⟩ := rd_liesW h
  rcases hl with hl | ⟨g, rfl, hg, hl⟩
  · omega
  · exact ⟨g, cap, rfl⟩
theorem cell_V {w : World} {B g cap n : Nat} {xs : List Int} (h : Rd w B (.slice (some ⟨g, 0, none⟩) n cap) xs) {j : Nat} (hj : j < xs.length) : w.cell? ⟨g, j, none⟩ = some (.int .i64 (xs.getD j 0)) := by
  rw [h.at.2.2.2.2.1 j hj, List.getD_eq_getElem?_getD, List.getElem?_eq_getElem hj]
  rfl
theorem src0_V {w : World} {B g cap n : Nat} {xs : List Int} (h : Rd w B (.slice (some ⟨g, 0, none⟩) n cap) xs) : Src0 w (some ⟨g, 0, none⟩) xs :=
  .inr ⟨g, 0, rfl, fun j x hx => by
    obtain ⟨h1, h2⟩ := List.getElem?_eq_some_iff.1 hx
    rw [Nat.zero_add, h.at.2.2.2.2.1 j h1, h2]⟩
end Go.Proofs.Ytnniiobiedfmoaa

/- from X3O -/
namespace Go.Proofs.Ytnniiobiedfmoaa
open Go.RowKit
set_option linter.unusedVariables false
set_option linter.unusedSimpArgs false
set_option maxRecDepth 100000

set_option maxHeartbeats 20000000 in
theorem law_OwnPowers {W : World} (v0 : Value) (xs0 : List Int) (hs0 : Sb W v0 xs0) (v1 : Value) (xs1 : List Int) (hs1 : Sb W v1 xs1) :
    Calls Try.prog 5 #[v0, v1] W fun e w' => e = .returned (.bool true) ∧ Below W.heap.size W w' := by
  obtain ⟨a0, k0, rfl⟩ := hs0.len
  obtain ⟨a1, k1, rfl⟩ := hs1.len
  have HS0 := Lib.hid hs0
  have HS1 := Lib.hid hs1
  have HB := Lib.hid (big_any a0 a1 xs0.length xs1.length k0 k1 W)
  clear hs0 hs1
  by_cases hbig : 1048576 < xs0.length ∨ 1048576 < xs0.length + xs1.length
  · rw [decide_eq_true hbig] at HB
    go_enter Try.func5, Try.ntmps5
    go_wp2_with (go_at_call 6; refine HB.out.mono ?_; rintro e w ⟨rfl, rfl⟩)
    go_ret
    exact ⟨rfl, Below.refl _ _⟩
  rw [decide_eq_false hbig] at HB
  have hl0 : xs0.length ≤ 1048576 := by omega
  have hl1 : xs1.length ≤ 1048576 := by omega
  have HL1 := Lib.hid hl1
  clear hbig
  go_enter Try.func5, Try.ntmps5
  go_wp2_with fail
  refine HB.out.mono ?_
  rintro e w ⟨rfl, rfl⟩
  go_wp2_with fail
  refine (draw_OwnPowers _ xs0 _ HS0.out hl0).mono ?_
  rintro e w1 ⟨b, p, rfl, hb⟩
  have BE1 := Lib.hid hb
  clear hb hl0 hl1
  have HI1 := Lib.hid (fun w => impl_OwnPowers b p w)
  have HT1 := Lib.hid (fun w => spec_OwnPowers b p w)
  rcases oko_cases b p with ⟨hok, B, P, rfl, rfl, hB, hB2, hP, hP2⟩ | hno
  · skip
    have eL : LF_OwnPowers (B : Int) (P : Int) = ownL B P := by unfold LF_OwnPowers; rw [if_pos hok]; rfl
    rw [eL, hok] at HI1 HT1
    have HF := Lib.hid (own_facts hB hB2 hP hP2)
    have HON := Lib.hid (fun h => ones_own hB hB2 hP h)
    obtain ⟨own, hown⟩ : ∃ own, own = ownL B P := ⟨_, rfl⟩
    rw [← hown] at HI1 HT1 HF HON
    clear hown eL hok
    go_wp2_with fail
    refine (HI1.out _).mono ?_
    rintro e w2 ⟨uO, rfl, hr, hb⟩
    have BE2 := Lib.hid (BE1.out.trans (hb.mono BE1.out.size))
    have R1 := Lib.hid hr
    clear hr hb
    go_wp2_with fail
    refine (HT1.out _).mono ?_
    rintro e w3 ⟨uX, rfl, hr, hb⟩
    have R2 := Lib.hid (R1.out.keep hb)
    have BE3 := Lib.hid (BE2.out.trans (hb.mono BE2.out.size))
    have R3 := Lib.hid hr
    clear hr hb
    go_wp2_with fail
    refine (rSame_any _ _ own _ R2.out.sl R3.out.sl HF.out.len).mono ?_
    rintro e w4 ⟨rfl, hb⟩
    have R4 := Lib.hid (R2.out.keep hb)
    have R5 := Lib.hid (R3.out.keep hb)
    have BE4 := Lib.hid (BE3.out.trans (hb.mono BE3.out.size))
    clear hb
    go_wp2_with fail
    refine (rRising_any _ own _ _ R4.out HF.out.rise HF.out.len).mono ?_
    rintro e w5 ⟨rfl, hb⟩
    have R6 := Lib.hid (R4.out.keep hb)
    have BE5 := Lib.hid (BE4.out.trans (hb.mono BE4.out.size))
    clear hb
    obtain ⟨gO, cO, hOe⟩ := slice_V R6.out (List.length_pos_of_mem HF.out.zero)
    subst hOe
    obtain ⟨NO, hNO⟩ : ∃ NO, NO = own.length := ⟨_, rfl⟩
    have HNO := Lib.hid hNO
    rw [← hNO]
    have RO := Lib.hid (show Rd _ _ (.slice (some ⟨gO, 0, none⟩) NO cO) own from by have h := R6.out; rw [← hNO] at h; exact h)
    have hno : NO ≤ 2000000 := by rw [hNO]; exact HF.out.len
    clear hNO
    have HR0 := Lib.hid (rHas_any (some ⟨gO, 0, none⟩) own NO cO 0 _ (src0_V RO.out) HNO.out hno)
    have HR1 := Lib.hid (rHas_any (some ⟨gO, 0, none⟩) own NO cO 1 _ (src0_V RO.out) HNO.out hno)
    rw [decide_eq_true HF.out.zero] at HR0
    rw [decide_eq_true HF.out.one] at HR1
    go_wp2_with fail
    refine (HR0.out).mono ?_
    rintro e wq6 ⟨rfl, rfl⟩
    go_wp2_with fail
    refine (HR1.out).mono ?_
    rintro e wq7 ⟨rfl, rfl⟩
    clear HR0 HR1
    go_wp2
    go_loopw [82] (fun i wr => ∃ j : Nat, j ≤ NO ∧ i = .int .i64 (j : Int) ∧ Below w5.heap.size w5 wr) (fun i _ => NO - (intOf i).toNat)
    case atStart => exact ⟨0, Nat.zero_le _, rfl, Below.refl _ _⟩
    case round =>
      obtain ⟨j, hj, rfl, hb⟩ := hrel
      have KB := Lib.hid hb
      clear hb
      by_cases hlt : j < NO
      · have hjL : j < own.length := by rw [← HNO.out]; exact hlt
        obtain ⟨X, hX, hXb, hps⟩ := HF.out.mem j hjL
        have zc := cell_V (RO.out.keep KB.out) hjL
        rw [hX] at zc
        have HP := Lib.hid (fun w => power_atV hXb hB (show B ≤ 16 by omega) hP (show P ≤ 8 by omega) w)
        rw [hps] at HP
        clear hX hps
        go_wp2_with fail
        refine (HP.out _).mono ?_
        rintro e z1 ⟨rfl, hb⟩
        have KB1 := Lib.hid (KB.out.trans (hb.mono KB.out.size))
        clear hb
        go_wp2
        go_roundw
        case rel => exact ⟨j + 1, by omega, by go_num, KB1.out⟩
        case measure => simp [intOf]; omega
      · obtain rfl : j = NO := by omega
        have R9 := Lib.hid (RO.out.keep KB.out)
        have BE6 := Lib.hid (BE5.out.trans (KB.out.mono BE5.out.size))
        obtain ⟨w6, hwr⟩ : ∃ w6, w6 = wr := ⟨_, rfl⟩
        subst hwr
        clear KB
        go_wp2
        go_loopw [15] (fun i wr => ∃ n : Nat, n ≤ 600 ∧ i = .int .i64 (n : Int) ∧ Below w6.heap.size w6 wr) (fun i _ => 600 - (intOf i).toNat)
        case atStart => exact ⟨0, Nat.zero_le _, rfl, Below.refl _ _⟩
        case round =>
          obtain ⟨n, hn, rfl, hb⟩ := hrel
          have KB := Lib.hid hb
          clear hb
          by_cases hlt : n < 600
          · have hlt2 : (n : Int) < 600 := by omega
            have HP := Lib.hid (fun w => power_atV (show n ≤ 1000000000000 by omega) hB (show B ≤ 16 by omega) hP (show P ≤ 8 by omega) w)
            have HIF := Lib.hid (HF.out.iff n)
            obtain ⟨S, hS⟩ : ∃ S, S = ps B P n := ⟨_, rfl⟩
            rw [← hS] at HP HIF
            clear hS
            go_wp2_with fail
            refine (HP.out _).mono ?_
            rintro e z1 ⟨rfl, hb⟩
            have RZ := Lib.hid ((R9.out.keep KB.out).keep hb)
            have KB1 := Lib.hid (KB.out.trans (hb.mono KB.out.size))
            clear hb
            have HRH := Lib.hid (rHas_any (some ⟨gO, 0, none⟩) own j cO (n : Int) _ (src0_V RZ.out) HNO.out hno)
            rw [HIF.out] at HRH
            by_cases he : S = n
            · subst he; rw [decide_eq_true rfl] at HRH
              go_wp2_with fail
              refine (HRH.out).mono ?_
              rintro e z2 ⟨rfl, rfl⟩
              go_wp2
              go_roundw
              case rel => exact ⟨S + 1, by omega, by go_num, KB1.out⟩
              case measure => simp [intOf]; omega
            · rw [decide_eq_false he] at HRH; have hne : ((S : Int) == (n : Int)) = false := beq_no (by omega)
              go_wp2_with fail
              refine (HRH.out).mono ?_
              rintro e z2 ⟨rfl, rfl⟩
              go_wp2
              go_roundw
              case rel => exact ⟨n + 1, by omega, by go_num, KB1.out⟩
              case measure => simp [intOf]; omega
          · obtain rfl : n = 600 := by omega
            have R10 := Lib.hid (R9.out.keep KB.out)
            have BE7 := Lib.hid (BE6.out.trans (KB.out.mono BE6.out.size))
            obtain ⟨w7, hwr⟩ : ∃ w7, w7 = wr := ⟨_, rfl⟩
            subst hwr
            clear KB
            by_cases h4 : P ≤ 4
            · have h4i : (P : Int) ≤ 4 := by omega
              have HC := Lib.hid (fun w => impl_CyclesOfPowers (B : Int) (P : Int) w)
              have hkc : OKC (B : Int) (P : Int) = true := decide_eq_true ⟨⟨by omega, by omega⟩, by omega, by omega⟩
              have eC : LF_CyclesOfPowers (B : Int) (P : Int) = cycs (ps B P) (gs B P + 1) := by unfold LF_CyclesOfPowers; rw [if_pos hkc]; rfl
              have HBD := Lib.hid (LF_CyclesOfPowers_bd (B : Int) (P : Int))
              rw [eC] at HBD
              rw [eC, hkc] at HC
              have HON4 := Lib.hid (HON.out h4)
              obtain ⟨cs, hcs⟩ : ∃ cs, cs = cycs (ps B P) (gs B P + 1) := ⟨_, rfl⟩
              rw [← hcs] at HBD HC HON4
              clear hcs eC hkc
              go_wp2_with fail
              refine (HC.out _).mono ?_
              rintro e w8 ⟨uc, vs, rfl, hll, hb⟩
              have R11 := Lib.hid (R10.out.keep hb)
              have BE8 := Lib.hid (BE7.out.trans (hb.mono BE7.out.size))
              have HLL := Lib.hid hll.f
              have HVL := Lib.hid hll.len
              clear hll hb
              obtain ⟨aC, cC, hCe, hca⟩ := HLL.out.shape
              subst hCe
              have HCA := Lib.hid hca
              clear hca
              obtain ⟨Z, hZ⟩ : ∃ Z, Z = lsZ cs := ⟨_, rfl⟩
              rw [← hZ] at HLL HBD HON4
              rw [← HVL.out] at HON4 HBD
              have HVN := Lib.hid (fun i (hi : i < vs.length) => List.getElem?_eq_getElem hi)
              obtain ⟨NV, hNV⟩ : ∃ NV, NV = vs.length := ⟨_, rfl⟩
              rw [← hNV] at HON4 HBD ⊢
              have HNV := Lib.hid hNV
              have hnv := HBD.out.1
              clear hNV hZ
              go_wp2
              go_loopw [20, 133] (fun f i wr => ∃ j : Nat, j ≤ NV ∧ f = .int .i64 ((onesZ Z j : Nat) : Int) ∧ i = .int .i64 (j : Int) ∧ Below w8.heap.size w8 wr) (fun _ i _ => NV - (intOf i).toNat)
              case atStart => exact ⟨0, Nat.zero_le _, rfl, rfl, Below.refl _ _⟩
              case round =>
                obtain ⟨q, hq, rfl, rfl, hb⟩ := hrel
                have KB := Lib.hid hb
                clear hb
                by_cases hlt : q < NV
                · have hqv : q < vs.length := by rw [← HNV.out]; exact hlt
                  rcases HCA.out with h0 | ⟨gv, rfl⟩
                  · rw [h0] at hqv; simp at hqv
                  obtain ⟨u, hu⟩ : ∃ u, u = vs[q] := ⟨_, rfl⟩
                  have hu2 : vs[q]? = some u := by rw [hu]; exact List.getElem?_eq_getElem hqv
                  have zc := (HLL.out.keep KB.out).cell hu2
                  have hru := HLL.out.at' q u hu2
                  obtain ⟨aU, cU, hUe⟩ := hru.shape'
                  have hzl := HBD.out.2 q
                  have hso : onesZ Z (q + 1) = onesZ Z q + if (Z q).length = 1 then 1 else 0 := rfl
                  have hol := onesZ_le Z q
                  obtain ⟨LZ, hLZ⟩ : ∃ LZ, LZ = (Z q).length := ⟨_, rfl⟩
                  rw [← hLZ] at hUe hzl hso
                  rw [hUe] at zc
                  have HSO := Lib.hid hso
                  obtain ⟨O, hO⟩ : ∃ O, O = onesZ Z q := ⟨_, rfl⟩
                  rw [← hO] at HSO hol ⊢
                  clear hu hu2 hru hUe hLZ hO hso
                  by_cases h1 : LZ = 1
                  · subst h1; rw [if_pos rfl] at HSO
                    go_wp2
                    go_roundw
                    case rel => exact ⟨q + 1, by omega, by rw [HSO.out]; go_num, by go_num, KB.out⟩
                    case measure => simp [intOf]; omega
                  · rw [if_neg h1] at HSO; have hne : ((LZ : Int) == 1) = false := beq_no (by omega)
                    go_wp2
                    go_roundw
                    case rel => exact ⟨q + 1, by omega, by rw [HSO.out]; go_num, by go_num, KB.out⟩
                    case measure => simp [intOf]; omega
                · obtain rfl : q = NV := by omega
                  rw [HON4.out, ← HNO.out]
                  have R12 := Lib.hid (R11.out.keep KB.out)
                  have BE9 := Lib.hid (BE8.out.trans (KB.out.mono BE8.out.size))
                  obtain ⟨w9, hwr⟩ : ∃ w9, w9 = wr := ⟨_, rfl⟩
                  subst hwr
                  clear KB
                  as_aux_lemma =>
                    go_wp2_with fail
                    refine (draw_Narcissistic _ xs1 _ (HS1.out.keep BE9.out) HL1.out).mono ?_
                    rintro e y1 ⟨k, c, rfl, hb⟩
                    have BE10 := Lib.hid (BE9.out.trans (hb.mono BE9.out.size))
                    clear hb
                    have HU1 := Lib.hid (fun w => impl_Narcissistic k c w)
                    have HU2 := Lib.hid (fun w => spec_Narcissistic k c w)
                    have HLN := Lib.hid (LF_Narcissistic_len k c)
                    rcases oko_cases c k with ⟨hok, C, K, rfl, rfl, hC, hC2, hK, hK2⟩ | hno
                    · skip
                      have eL : LF_Narcissistic (K : Int) (C : Int) = (ownL C K).filter (keep' C K) := by unfold LF_Narcissistic OKN; rw [if_pos hok]; rfl
                      rw [eL, show OKN (K : Int) (C : Int) = true from hok] at HU1 HU2
                      have HNF := Lib.hid (nar_facts hC hC2 hK hK2)
                      have HOF := Lib.hid (own_facts hC hC2 hK hK2)
                      obtain ⟨L, hL⟩ : ∃ L, L = (ownL C K).filter (keep' C K) := ⟨_, rfl⟩
                      rw [← hL] at HU1 HU2 HNF
                      have eW : LF_OwnPowers (C : Int) (K : Int) = ownL C K := by unfold LF_OwnPowers; rw [if_pos hok]; rfl
                      have HI3 := Lib.hid (fun w => impl_OwnPowers (C : Int) (K : Int) w)
                      rw [eW, hok] at HI3
                      clear hL eL eW hok HLN
                      go_wp2_with fail
                      refine (HU1.out _).mono ?_
                      rintro e w11 ⟨uN, rfl, hr, hb⟩
                      have BE11 := Lib.hid (BE10.out.trans (hb.mono BE10.out.size))
                      have R13 := Lib.hid hr
                      clear hr hb
                      go_wp2_with fail
                      refine (HU2.out _).mono ?_
                      rintro e w12 ⟨uM, rfl, hr, hb⟩
                      have R14 := Lib.hid (R13.out.keep hb)
                      have BE12 := Lib.hid (BE11.out.trans (hb.mono BE11.out.size))
                      have R15 := Lib.hid hr
                      clear hr hb
                      go_wp2_with fail
                      refine (rSame_any _ _ L _ R14.out.sl R15.out.sl HNF.out.len).mono ?_
                      rintro e w13 ⟨rfl, hb⟩
                      have R16 := Lib.hid (R14.out.keep hb)
                      have R17 := Lib.hid (R15.out.keep hb)
                      have BE13 := Lib.hid (BE12.out.trans (hb.mono BE12.out.size))
                      clear hb
                      obtain ⟨aN, cN, hNe, hcN, hlN⟩ := rd_liesW R16.out
                      subst hNe
                      have HLI := Lib.hid hlN
                      obtain ⟨NL, hNL⟩ : ∃ NL, NL = L.length := ⟨_, rfl⟩
                      have HNL := Lib.hid hNL
                      rw [← hNL]
                      clear hlN hcN hNL
                      have hnl : NL ≤ 2000000 := by rw [HNL.out]; exact HNF.out.len
                      go_wp2
                      go_loopw [179] (fun i wr => ∃ j : Nat, j ≤ NL ∧ i = .int .i64 (j : Int) ∧ Below w13.heap.size w13 wr) (fun i _ => NL - (intOf i).toNat)
                      case atStart => exact ⟨0, Nat.zero_le _, rfl, Below.refl _ _⟩
                      case round =>
                        obtain ⟨j, hj, rfl, hb⟩ := hrel
                        have KB := Lib.hid hb
                        clear hb
                        by_cases hlt : j < NL
                        · have hjL : j < L.length := by rw [← HNL.out]; exact hlt
                          obtain ⟨X, hX, hXb, hps, hdg, hin⟩ := HNF.out.mem j hjL
                          have hgj := getD_someV hjL
                          rw [hX] at hgj
                          rcases HLI.out with h0 | ⟨g, rfl, hg, hc⟩
                          · omega
                          have zc := (KB.out.cell (p := ⟨g, j, none⟩) hg).trans (hc j _ hgj)
                          have HP := Lib.hid (fun w => power_atV hXb hC (show C ≤ 16 by omega) hK (show K ≤ 8 by omega) w)
                          rw [hps] at HP
                          have HCD := Lib.hid (fun w => count_atV hXb hC (show C ≤ 16 by omega) w)
                          rw [hdg] at HCD
                          have HIN := Lib.hid hin
                          clear hX hgj hc hps hdg hin
                          go_wp2_with fail
                          refine (HP.out _).mono ?_
                          rintro e z1 ⟨rfl, hb⟩
                          have KB1 := Lib.hid (KB.out.trans (hb.mono KB.out.size))
                          clear hb
                          go_wp2_with fail
                          refine (HCD.out _).mono ?_
                          rintro e z2 ⟨rfl, hb⟩
                          have KB2 := Lib.hid (KB1.out.trans (hb.mono KB1.out.size))
                          clear hb
                          go_wp2_with fail
                          refine (HI3.out _).mono ?_
                          rintro e z3 ⟨uA, rfl, hr, hb⟩
                          have KB3 := Lib.hid (KB2.out.trans (hb.mono KB2.out.size))
                          clear hb
                          obtain ⟨aA, cA, hAe, hsA⟩ := src0_lies hr
                          subst hAe
                          have HRH := Lib.hid (rHas_any aA (ownL C K) (ownL C K).length cA (X : Int) _ hsA rfl HOF.out.len)
                          rw [decide_eq_true HIN.out] at HRH
                          obtain ⟨NO, hNO⟩ : ∃ NO, NO = (ownL C K).length := ⟨_, rfl⟩
                          rw [← hNO] at HRH ⊢
                          clear hr hsA hNO
                          go_wp2_with fail
                          refine (HRH.out).mono ?_
                          rintro e z4 ⟨rfl, rfl⟩
                          go_wp2
                          go_roundw
                          case rel => exact ⟨j + 1, by omega, by go_num, KB3.out⟩
                          case measure => simp [intOf]; omega
                        · obtain rfl : j = NL := by omega
                          have BEZ := Lib.hid (BE13.out.trans (KB.out.mono BE13.out.size))
                          go_wp2
                          go_ret
                          exact ⟨rfl, BEZ.out⟩
                    · skip
                      have eL : LF_Narcissistic k c = [] := by unfold LF_Narcissistic OKN; rw [hno]; rfl
                      rw [eL, show OKN k c = false from hno] at HU1 HU2
                      clear eL hno HLN
                      go_wp2_with fail
                      refine (HU1.out _).mono ?_
                      rintro e w11 ⟨uN, rfl, hr, hb⟩
                      have BE11 := Lib.hid (BE10.out.trans (hb.mono BE10.out.size))
                      have R13 := Lib.hid hr
                      clear hr hb
                      go_wp2_with fail
                      refine (HU2.out _).mono ?_
                      rintro e w12 ⟨uM, rfl, hr, hb⟩
                      have R14 := Lib.hid (R13.out.keep hb)
                      have BE12 := Lib.hid (BE11.out.trans (hb.mono BE11.out.size))
                      have R15 := Lib.hid hr
                      clear hr hb
                      go_wp2_with fail
                      refine (rSame_any _ _ [] _ R14.out.sl R15.out.sl (by simp)).mono ?_
                      rintro e w13 ⟨rfl, hb⟩
                      have R16 := Lib.hid (R14.out.keep hb)
                      have R17 := Lib.hid (R15.out.keep hb)
                      have BE13 := Lib.hid (BE12.out.trans (hb.mono BE12.out.size))
                      clear hb
                      obtain ⟨aN, cN, hNe, hcN, hlN⟩ := rd_liesW R16.out
                      subst hNe
                      clear hlN hcN
                      go_wp2
                      refine wp_loop_rounds 1 ?_
                      rw [rounds_succ]
                      go_wp2
                      go_ret
                      exact ⟨rfl, BE13.out⟩
            · have h4i : ¬ (P : Int) ≤ 4 := by omega
              as_aux_lemma =>
                go_wp2_with fail
                refine (draw_Narcissistic _ xs1 _ (HS1.out.keep BE7.out) HL1.out).mono ?_
                rintro e y1 ⟨k, c, rfl, hb⟩
                have BE8 := Lib.hid (BE7.out.trans (hb.mono BE7.out.size))
                clear hb
                have HU1 := Lib.hid (fun w => impl_Narcissistic k c w)
                have HU2 := Lib.hid (fun w => spec_Narcissistic k c w)
                have HLN := Lib.hid (LF_Narcissistic_len k c)
                rcases oko_cases c k with ⟨hok, C, K, rfl, rfl, hC, hC2, hK, hK2⟩ | hno
                · skip
                  have eL : LF_Narcissistic (K : Int) (C : Int) = (ownL C K).filter (keep' C K) := by unfold LF_Narcissistic OKN; rw [if_pos hok]; rfl
                  rw [eL, show OKN (K : Int) (C : Int) = true from hok] at HU1 HU2
                  have HNF := Lib.hid (nar_facts hC hC2 hK hK2)
                  have HOF := Lib.hid (own_facts hC hC2 hK hK2)
                  obtain ⟨L, hL⟩ : ∃ L, L = (ownL C K).filter (keep' C K) := ⟨_, rfl⟩
                  rw [← hL] at HU1 HU2 HNF
                  have eW : LF_OwnPowers (C : Int) (K : Int) = ownL C K := by unfold LF_OwnPowers; rw [if_pos hok]; rfl
                  have HI3 := Lib.hid (fun w => impl_OwnPowers (C : Int) (K : Int) w)
                  rw [eW, hok] at HI3
                  clear hL eL eW hok HLN
                  go_wp2_with fail
                  refine (HU1.out _).mono ?_
                  rintro e w9 ⟨uN, rfl, hr, hb⟩
                  have BE9 := Lib.hid (BE8.out.trans (hb.mono BE8.out.size))
                  have R11 := Lib.hid hr
                  clear hr hb
                  go_wp2_with fail
                  refine (HU2.out _).mono ?_
                  rintro e w10 ⟨uM, rfl, hr, hb⟩
                  have R12 := Lib.hid (R11.out.keep hb)
                  have BE10 := Lib.hid (BE9.out.trans (hb.mono BE9.out.size))
                  have R13 := Lib.hid hr
                  clear hr hb
                  go_wp2_with fail
                  refine (rSame_any _ _ L _ R12.out.sl R13.out.sl HNF.out.len).mono ?_
                  rintro e w11 ⟨rfl, hb⟩
                  have R14 := Lib.hid (R12.out.keep hb)
                  have R15 := Lib.hid (R13.out.keep hb)
                  have BE11 := Lib.hid (BE10.out.trans (hb.mono BE10.out.size))
                  clear hb
                  obtain ⟨aN, cN, hNe, hcN, hlN⟩ := rd_liesW R14.out
                  subst hNe
                  have HLI := Lib.hid hlN
                  obtain ⟨NL, hNL⟩ : ∃ NL, NL = L.length := ⟨_, rfl⟩
                  have HNL := Lib.hid hNL
                  rw [← hNL]
                  clear hlN hcN hNL
                  have hnl : NL ≤ 2000000 := by rw [HNL.out]; exact HNF.out.len
                  go_wp2
                  go_loopw [179] (fun i wr => ∃ j : Nat, j ≤ NL ∧ i = .int .i64 (j : Int) ∧ Below w11.heap.size w11 wr) (fun i _ => NL - (intOf i).toNat)
                  case atStart => exact ⟨0, Nat.zero_le _, rfl, Below.refl _ _⟩
                  case round =>
                    obtain ⟨j, hj, rfl, hb⟩ := hrel
                    have KB := Lib.hid hb
                    clear hb
                    by_cases hlt : j < NL
                    · have hjL : j < L.length := by rw [← HNL.out]; exact hlt
                      obtain ⟨X, hX, hXb, hps, hdg, hin⟩ := HNF.out.mem j hjL
                      have hgj := getD_someV hjL
                      rw [hX] at hgj
                      rcases HLI.out with h0 | ⟨g, rfl, hg, hc⟩
                      · omega
                      have zc := (KB.out.cell (p := ⟨g, j, none⟩) hg).trans (hc j _ hgj)
                      have HP := Lib.hid (fun w => power_atV hXb hC (show C ≤ 16 by omega) hK (show K ≤ 8 by omega) w)
                      rw [hps] at HP
                      have HCD := Lib.hid (fun w => count_atV hXb hC (show C ≤ 16 by omega) w)
                      rw [hdg] at HCD
                      have HIN := Lib.hid hin
                      clear hX hgj hc hps hdg hin
                      go_wp2_with fail
                      refine (HP.out _).mono ?_
                      rintro e z1 ⟨rfl, hb⟩
                      have KB1 := Lib.hid (KB.out.trans (hb.mono KB.out.size))
                      clear hb
                      go_wp2_with fail
                      refine (HCD.out _).mono ?_
                      rintro e z2 ⟨rfl, hb⟩
                      have KB2 := Lib.hid (KB1.out.trans (hb.mono KB1.out.size))
                      clear hb
                      go_wp2_with fail
                      refine (HI3.out _).mono ?_
                      rintro e z3 ⟨uA, rfl, hr, hb⟩
                      have KB3 := Lib.hid (KB2.out.trans (hb.mono KB2.out.size))
                      clear hb
                      obtain ⟨aA, cA, hAe, hsA⟩ := src0_lies hr
                      subst hAe
                      have HRH := Lib.hid (rHas_any aA (ownL C K) (ownL C K).length cA (X : Int) _ hsA rfl HOF.out.len)
                      rw [decide_eq_true HIN.out] at HRH
                      obtain ⟨NO, hNO⟩ : ∃ NO, NO = (ownL C K).length := ⟨_, rfl⟩
                      rw [← hNO] at HRH ⊢
                      clear hr hsA hNO
                      go_wp2_with fail
                      refine (HRH.out).mono ?_
                      rintro e z4 ⟨rfl, rfl⟩
                      go_wp2
                      go_roundw
                      case rel => exact ⟨j + 1, by omega, by go_num, KB3.out⟩
                      case measure => simp [intOf]; omega
                    · obtain rfl : j = NL := by omega
                      have BEZ := Lib.hid (BE11.out.trans (KB.out.mono BE11.out.size))
                      go_wp2
                      go_ret
                      exact ⟨rfl, BEZ.out⟩
                · skip
                  have eL : LF_Narcissistic k c = [] := by unfold LF_Narcissistic OKN; rw [hno]; rfl
                  rw [eL, show OKN k c = false from hno] at HU1 HU2
                  clear eL hno HLN
                  go_wp2_with fail
                  refine (HU1.out _).mono ?_
                  rintro e w9 ⟨uN, rfl, hr, hb⟩
                  have BE9 := Lib.hid (BE8.out.trans (hb.mono BE8.out.size))
                  have R11 := Lib.hid hr
                  clear hr hb
                  go_wp2_with fail
                  refine (HU2.out _).mono ?_
                  rintro e w10 ⟨uM, rfl, hr, hb⟩
                  have R12 := Lib.hid (R11.out.keep hb)
                  have BE10 := Lib.hid (BE9.out.trans (hb.mono BE9.out.size))
                  have R13 := Lib.hid hr
                  clear hr hb
                  go_wp2_with fail
                  refine (rSame_any _ _ [] _ R12.out.sl R13.out.sl (by simp)).mono ?_
                  rintro e w11 ⟨rfl, hb⟩
                  have R14 := Lib.hid (R12.out.keep hb)
                  have R15 := Lib.hid (R13.out.keep hb)
                  have BE11 := Lib.hid (BE10.out.trans (hb.mono BE10.out.size))
                  clear hb
                  obtain ⟨aN, cN, hNe, hcN, hlN⟩ := rd_liesW R14.out
                  subst hNe
                  clear hlN hcN
                  go_wp2
                  refine wp_loop_rounds 1 ?_
                  rw [rounds_succ]
                  go_wp2
                  go_ret
                  exact ⟨rfl, BE11.out⟩
  · skip
    have eL : LF_OwnPowers b p = [] := by unfold LF_OwnPowers; rw [hno]; rfl
    rw [eL, hno] at HI1 HT1
    clear eL hno
    go_wp2_with fail
    refine (HI1.out _).mono ?_
    rintro e w2 ⟨uO, rfl, hr, hb⟩
    have BE2 := Lib.hid (BE1.out.trans (hb.mono BE1.out.size))
    have R1 := Lib.hid hr
    clear hr hb
    go_wp2_with fail
    refine (HT1.out _).mono ?_
    rintro e w3 ⟨uX, rfl, hr, hb⟩
    have R2 := Lib.hid (R1.out.keep hb)
    have BE3 := Lib.hid (BE2.out.trans (hb.mono BE2.out.size))
    have R3 := Lib.hid hr
    clear hr hb
    go_wp2_with fail
    refine (rSame_any _ _ [] _ R2.out.sl R3.out.sl (by simp)).mono ?_
    rintro e w4 ⟨rfl, hb⟩
    have R4 := Lib.hid (R2.out.keep hb)
    have R5 := Lib.hid (R3.out.keep hb)
    have BE4 := Lib.hid (BE3.out.trans (hb.mono BE3.out.size))
    clear hb
    as_aux_lemma =>
      go_wp2_with fail
      refine (draw_Narcissistic _ xs1 _ (HS1.out.keep BE4.out) HL1.out).mono ?_
      rintro e y1 ⟨k, c, rfl, hb⟩
      have BE5 := Lib.hid (BE4.out.trans (hb.mono BE4.out.size))
      clear hb
      have HU1 := Lib.hid (fun w => impl_Narcissistic k c w)
      have HU2 := Lib.hid (fun w => spec_Narcissistic k c w)
      have HLN := Lib.hid (LF_Narcissistic_len k c)
      rcases oko_cases c k with ⟨hok, C, K, rfl, rfl, hC, hC2, hK, hK2⟩ | hno
      · skip
        have eL : LF_Narcissistic (K : Int) (C : Int) = (ownL C K).filter (keep' C K) := by unfold LF_Narcissistic OKN; rw [if_pos hok]; rfl
        rw [eL, show OKN (K : Int) (C : Int) = true from hok] at HU1 HU2
        have HNF := Lib.hid (nar_facts hC hC2 hK hK2)
        have HOF := Lib.hid (own_facts hC hC2 hK hK2)
        obtain ⟨L, hL⟩ : ∃ L, L = (ownL C K).filter (keep' C K) := ⟨_, rfl⟩
        rw [← hL] at HU1 HU2 HNF
        have eW : LF_OwnPowers (C : Int) (K : Int) = ownL C K := by unfold LF_OwnPowers; rw [if_pos hok]; rfl
        have HI3 := Lib.hid (fun w => impl_OwnPowers (C : Int) (K : Int) w)
        rw [eW, hok] at HI3
        clear hL eL eW hok HLN
        go_wp2_with fail
        refine (HU1.out _).mono ?_
        rintro e w6 ⟨uN, rfl, hr, hb⟩
        have BE6 := Lib.hid (BE5.out.trans (hb.mono BE5.out.size))
        have R6 := Lib.hid hr
        clear hr hb
        go_wp2_with fail
        refine (HU2.out _).mono ?_
        rintro e w7 ⟨uM, rfl, hr, hb⟩
        have R7 := Lib.hid (R6.out.keep hb)
        have BE7 := Lib.hid (BE6.out.trans (hb.mono BE6.out.size))
        have R8 := Lib.hid hr
        clear hr hb
        go_wp2_with fail
        refine (rSame_any _ _ L _ R7.out.sl R8.out.sl HNF.out.len).mono ?_
        rintro e w8 ⟨rfl, hb⟩
        have R9 := Lib.hid (R7.out.keep hb)
        have R10 := Lib.hid (R8.out.keep hb)
        have BE8 := Lib.hid (BE7.out.trans (hb.mono BE7.out.size))
        clear hb
        obtain ⟨aN, cN, hNe, hcN, hlN⟩ := rd_liesW R9.out
        subst hNe
        have HLI := Lib.hid hlN
        obtain ⟨NL, hNL⟩ : ∃ NL, NL = L.length := ⟨_, rfl⟩
        have HNL := Lib.hid hNL
        rw [← hNL]
        clear hlN hcN hNL
        have hnl : NL ≤ 2000000 := by rw [HNL.out]; exact HNF.out.len
        go_wp2
        go_loopw [179] (fun i wr => ∃ j : Nat, j ≤ NL ∧ i = .int .i64 (j : Int) ∧ Below w8.heap.size w8 wr) (fun i _ => NL - (intOf i).toNat)
        case atStart => exact ⟨0, Nat.zero_le _, rfl, Below.refl _ _⟩
        case round =>
          obtain ⟨j, hj, rfl, hb⟩ := hrel
          have KB := Lib.hid hb
          clear hb
          by_cases hlt : j < NL
          · have hjL : j < L.length := by rw [← HNL.out]; exact hlt
            obtain ⟨X, hX, hXb, hps, hdg, hin⟩ := HNF.out.mem j hjL
            have hgj := getD_someV hjL
            rw [hX] at hgj
            rcases HLI.out with h0 | ⟨g, rfl, hg, hc⟩
            · omega
            have zc := (KB.out.cell (p := ⟨g, j, none⟩) hg).trans (hc j _ hgj)
            have HP := Lib.hid (fun w => power_atV hXb hC (show C ≤ 16 by omega) hK (show K ≤ 8 by omega) w)
            rw [hps] at HP
            have HCD := Lib.hid (fun w => count_atV hXb hC (show C ≤ 16 by omega) w)
            rw [hdg] at HCD
            have HIN := Lib.hid hin
            clear hX hgj hc hps hdg hin
            go_wp2_with fail
            refine (HP.out _).mono ?_
            rintro e z1 ⟨rfl, hb⟩
            have KB1 := Lib.hid (KB.out.trans (hb.mono KB.out.size))
            clear hb
            go_wp2_with fail
            refine (HCD.out _).mono ?_
            rintro e z2 ⟨rfl, hb⟩
            have KB2 := Lib.hid (KB1.out.trans (hb.mono KB1.out.size))
            clear hb
            go_wp2_with fail
            refine (HI3.out _).mono ?_
            rintro e z3 ⟨uA, rfl, hr, hb⟩
            have KB3 := Lib.hid (KB2.out.trans (hb.mono KB2.out.size))
            clear hb
            obtain ⟨aA, cA, hAe, hsA⟩ := src0_lies hr
            subst hAe
            have HRH := Lib.hid (rHas_any aA (ownL C K) (ownL C K).length cA (X : Int) _ hsA rfl HOF.out.len)
            rw [decide_eq_true HIN.out] at HRH
            obtain ⟨NO, hNO⟩ : ∃ NO, NO = (ownL C K).length := ⟨_, rfl⟩
            rw [← hNO] at HRH ⊢
            clear hr hsA hNO
            go_wp2_with fail
            refine (HRH.out).mono ?_
            rintro e z4 ⟨rfl, rfl⟩
            go_wp2
            go_roundw
            case rel => exact ⟨j + 1, by omega, by go_num, KB3.out⟩
            case measure => simp [intOf]; omega
          · obtain rfl : j = NL := by omega
            have BEZ := Lib.hid (BE8.out.trans (KB.out.mono BE8.out.size))
            go_wp2
            go_ret
            exact ⟨rfl, BEZ.out⟩
      · skip
        have eL : LF_Narcissistic k c = [] := by unfold LF_Narcissistic OKN; rw [hno]; rfl
        rw [eL, show OKN k c = false from hno] at HU1 HU2
        clear eL hno HLN
        go_wp2_with fail
        refine (HU1.out _).mono ?_
        rintro e w6 ⟨uN, rfl, hr, hb⟩
        have BE6 := Lib.hid (BE5.out.trans (hb.mono BE5.out.size))
        have R6 := Lib.hid hr
        clear hr hb
        go_wp2_with fail
        refine (HU2.out _).mono ?_
        rintro e w7 ⟨uM, rfl, hr, hb⟩
        have R7 := Lib.hid (R6.out.keep hb)
        have BE7 := Lib.hid (BE6.out.trans (hb.mono BE6.out.size))
        have R8 := Lib.hid hr
        clear hr hb
        go_wp2_with fail
        refine (rSame_any _ _ [] _ R7.out.sl R8.out.sl (by simp)).mono ?_
        rintro e w8 ⟨rfl, hb⟩
        have R9 := Lib.hid (R7.out.keep hb)
        have R10 := Lib.hid (R8.out.keep hb)
        have BE8 := Lib.hid (BE7.out.trans (hb.mono BE7.out.size))
        clear hb
        obtain ⟨aN, cN, hNe, hcN, hlN⟩ := rd_liesW R9.out
        subst hNe
        clear hlN hcN
        go_wp2
        refine wp_loop_rounds 1 ?_
        rw [rounds_succ]
        go_wp2
        go_ret
        exact ⟨rfl, BE8.out⟩

end Go.Proofs.Ytnniiobiedfmoaa
