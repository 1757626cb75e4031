/-
  LeastPersistent: the program and the model (written by wip/tools/gen_wk.py).
-/
import Derived.Test.YtedpplonclonkaaWC
import Derived.Test.YtedpplonclonkaaWQ
import Derived.Test.YtedpplonclonkaaA
import Derived.BigRegion
namespace Go.Proofs.Ytedpplonclonkaa
open Go.RowKit
set_option linter.unusedVariables false
set_option linter.unusedSimpArgs false
set_option maxRecDepth 100000

theorem mix_len (xs : List Int) (k : Nat) (hk : k ≤ xs.length) : ((cml 0 xs).take k ++ xs.drop k).length = xs.length := by
  rw [List.length_append, List.length_take, cml_len, List.length_drop]; omega
theorem mix_at (xs : List Int) (k : Nat) (hk : k < xs.length) : ((cml 0 xs).take k ++ xs.drop k)[k]'(by rw [mix_len xs k (by omega)]; exact hk) = xs[k] := by
  rw [List.getElem_append_right (by rw [List.length_take, cml_len]; omega)]
  simp [cml_len, Nat.min_eq_left (Nat.le_of_lt hk)]
theorem mix_before (xs : List Int) (k : Nat) (hk : k + 1 < xs.length) : ((cml 0 xs).take (k + 1) ++ xs.drop (k + 1))[k]'(by rw [mix_len xs (k + 1) (by omega)]; omega) = (cml 0 xs)[k]'(by rw [cml_len]; omega) := by
  rw [List.getElem_append_left (by rw [List.length_take, cml_len]; omega)]
  simp
theorem mix_step (xs : List Int) (k : Nat) (hk : k < xs.length) : ((cml 0 xs).take k ++ xs.drop k).set k ((cml 0 xs)[k]'(by rw [cml_len]; exact hk)) = (cml 0 xs).take (k + 1) ++ xs.drop (k + 1) := by
  have hl : ((cml 0 xs).take k).length = k := by rw [List.length_take, cml_len]; omega
  rw [List.set_append_right _ _ (by omega), hl, Nat.sub_self, List.drop_eq_getElem_cons hk, List.set_cons_zero, List.take_add_one, List.getElem?_eq_getElem (by rw [cml_len]; exact hk), List.append_assoc]
  rfl
theorem mix_first (xs : List Int) (h : 1 ≤ xs.length) (h0 : ∀ x ∈ xs, 0 ≤ x) : (cml 0 xs).take 1 ++ xs.drop 1 = xs := by
  cases xs with
  | nil => simp at h
  | cons x xs => have := h0 x (by simp); simp [cml]; omega
theorem mix_done (xs : List Int) : (cml 0 xs).take xs.length ++ xs.drop xs.length = cml 0 xs := by
  rw [List.drop_length, List.append_nil, List.take_of_length_le (by rw [cml_len]; exact Nat.le_refl _)]

theorem nextRising_any (n b : Int) (w : World) (h0 : 0 ≤ n) (h1 : n ≤ 10000000) (hb : 2 ≤ b) (hb' : b ≤ 16) (hc : nr b n ≤ 1000000000000) :
    Calls Try.prog 98 #[.int .i64 b, .int .i64 n] w fun e w' => e = .returned (.tuple #[.int .i64 (nr b n), .bool true]) ∧ Below w.heap.size w w' := by
  obtain ⟨xs, hxs⟩ : ∃ xs, xs = dgs b (n + 1) := ⟨_, rfl⟩
  have hlen : xs.length ≤ 40 := by rw [hxs]; exact dgs_len40 b (n + 1) hb (by omega) (by omega)
  have hpos : 1 ≤ xs.length := by rw [hxs]; exact dgs_pos _ _
  have hall := dgs_all b (n + 1) hb (by omega)
  rw [← hxs] at hall
  have HC := Lib.hid (show numF b (cml 0 xs) 0 = some (nr b n) by rw [hxs]; exact cm_numF b (n + 1) hb (by omega) hc)
  have HA := Lib.hid (cml_all (b - 1) xs 0 (by omega) (by omega) hall)
  have HA0 := Lib.hid (fun x hx => (hall x hx).1)
  have HX := Lib.hid hxs
  clear hxs hall hc
  go_enter Try.func98, Try.ntmps98
  go_wp2_with (go_at_call 85; refine (digits_any _ _ _ (by omega) (by omega) hb hb').mono ?_; rw [← HX.out]; rintro e w1 ⟨g, cap, rfl, hr, hbl⟩; have HB := Lib.hid hbl; have HR := Lib.hid hr; have hgB := hr.at.2.1; clear hbl hr)
  go_loopw [7] (fun i wr => ∃ k : Nat, i = .int .i64 ((k : Int) + 1) ∧ k + 1 ≤ xs.length ∧ Rd wr w.heap.size (.slice (some ⟨g, 0, none⟩) xs.length cap) ((cml 0 xs).take (k + 1) ++ xs.drop (k + 1)) ∧ Below w.heap.size w wr) (fun i _ => (100 - intOf i).toNat)
  case atStart => exact ⟨0, rfl, by omega, by rw [mix_first xs hpos HA0.out]; exact HR.out, HB.out⟩
  case round =>
    obtain ⟨k, rfl, hk, hr, hbl⟩ := hrel
    have HR := Lib.hid hr
    have HB := Lib.hid hbl
    clear hr hbl
    by_cases hlt : k + 1 < xs.length
    · obtain ⟨p, hp⟩ : ∃ p, p = (cml 0 xs)[k]'(by rw [cml_len]; omega) := ⟨_, rfl⟩
      obtain ⟨q, hq⟩ : ∃ q, q = xs[k + 1] := ⟨_, rfl⟩
      have hc0 := HR.out.at.2.2.2.2.1 k (by rw [mix_len xs (k + 1) (by omega)]; omega)
      have hc1 := HR.out.at.2.2.2.2.1 (k + 1) (by rw [mix_len xs (k + 1) (by omega)]; exact hlt)
      have hf := HR.out.at.2.2.2.2.2 (k + 1)
      rw [mix_before xs k hlt, ← hp] at hc0
      rw [mix_at xs (k + 1) hlt, ← hq] at hc1
      have HN := Lib.hid (show (cml 0 xs)[k + 1]'(by rw [cml_len]; exact hlt) = max p q by rw [cml_next xs 0 k hlt, hp, hq])
      have hmx : max q p = max p q := Int.max_comm _ _
      have HST := Lib.hid (mix_step xs (k + 1) hlt)
      have hkc : ((k + 1 : Nat) : Int) = (k : Int) + 1 := by omega
      have hw1 : IntKind.i64.wrap ((k : Int) + 1 - 1) = (k : Int) := by rw [show (k : Int) + 1 - 1 = k by omega]; exact IntWalk.i64_in _ (by omega)
      clear hp hq
      by_cases hle : p ≤ q
      · have hm1 : max p q = q := Int.max_eq_right hle
        have hm2 : max q p = q := Int.max_eq_left hle
        go_wp2
        go_region
        go_wp2
        go_roundw
        case rel =>
          have h2 := HR.out.set (k + 1) (max p q)
          exact ⟨k + 1, by go_num, by omega, by rw [← HST.out, HN.out]; first | exact h2.1 | (rw [hm1] at h2 ⊢; exact h2.1), HB.out.trans (grown_below (by first | exact grown_drew h2.2 | (rw [hm1] at h2; exact grown_drew h2.2)) HB.out.size hgB)⟩
        case measure => simp [intOf]; omega
      · have hm1 : max p q = p := Int.max_eq_left (by omega)
        have hm2 : max q p = p := Int.max_eq_right (by omega)
        go_wp2
        go_region
        go_wp2
        go_roundw
        case rel =>
          have h2 := HR.out.set (k + 1) (max p q)
          exact ⟨k + 1, by go_num, by omega, by rw [← HST.out, HN.out]; first | exact h2.1 | (rw [hm1] at h2 ⊢; exact h2.1), HB.out.trans (grown_below (by first | exact grown_drew h2.2 | (rw [hm1] at h2; exact grown_drew h2.2)) HB.out.size hgB)⟩
        case measure => simp [intOf]; omega
    · have hk1 : k + 1 = xs.length := by omega
      have HD := Lib.hid (show Rd wr w.heap.size (.slice (some ⟨g, 0, none⟩) xs.length cap) (cml 0 xs) by have := HR.out; rw [hk1, mix_done] at this; exact this)
      go_wp2_with (go_at_call 96; refine (number_any _ _ _ _ _ HD.out (fun x hx => by have := HA.out x hx; omega) hb hb' (by rw [cml_len]; omega)).mono ?_; rw [HC.out]; rintro e w2 ⟨rfl, rfl⟩)
      go_ret2
      exact ⟨rfl, HB.out⟩

theorem per_len {b n : Int} {L : Nat} (h : L = (pru b n).length) (k : Int) : perIs b k n = decide ((L : Int) - 1 = k) := by
  unfold perIs per; rw [← h]

/-- The two results of a search that tells 0 for nothing. -/
abbrev res0 (r : Int) : Value := .tuple #[.int .i64 r, .bool (decide (0 < r))]

theorem leastPersistent_any (k b : Int) (w : World) (hk : 2 ≤ k) (hk' : k ≤ 12) (hb : 2 ≤ b) (hb' : b ≤ 16) :
    Calls Try.prog 73 #[.int .i64 b, .int .i64 k] w fun e w' => ∃ r, e = .returned (res0 r) ∧ Lper b k r ∧ Below w.heap.size w w' := by
  have HF := Lib.hid (no_first (b := b) hb hk)
  have HR1 := Lib.hid (ris_first hb)
  have e0 : (k == 0) = false := beq_no (by omega)
  have e1 : (k == 1) = false := beq_no (by omega)
  go_enter Try.func73, Try.ntmps73
  go_wp2
  go_loopw [6, 7] (fun i q wr => ∃ n : Int, i = .int .i64 n ∧ q = .bool true ∧ 3 ≤ n ∧ n ≤ 200000000 ∧ Hid (ris b n = true) ∧ Hid (∀ m, 0 < m → m < n → ris b m = true → perIs b k m = false) ∧ Below w.heap.size w wr) (fun i _ _ => (200000000 - intOf i).toNat)
  case atStart => exact ⟨b + 1, rfl, rfl, by omega, by omega, HR1, HF, Below.refl _ _⟩
  case round =>
    obtain ⟨n, rfl, rfl, n0, n1, HS, HN, hbl⟩ := hrel
    have HB := Lib.hid hbl
    clear hbl
    by_cases hm : n ≤ 10000000
    · obtain ⟨s1, s2, s3, s4⟩ := nr_spec hb _ n (Nat.le_refl _) (by omega) HS.out
      have t1 : b * (n + 1) ≤ 16 * 10000001 := Int.mul_le_mul hb' (by omega) (by omega) (by omega)
      have HS3 := Lib.hid s3
      obtain ⟨y, hy⟩ : ∃ y, y = nr b n := ⟨_, rfl⟩
      have HY := Lib.hid hy
      rw [← hy] at s1 s2
      have y1 : y ≤ 200000000 := by omega
      clear s3 s4 hy t1 s2
      obtain ⟨L, hL⟩ : ∃ L, L = (pru b n).length := ⟨_, rfl⟩
      have HP := Lib.hid (per_len hL k)
      have HL := Lib.hid hL
      have hl1 : L ≤ 1000 := by rw [hL]; exact pru_len b n hb hb' (by omega) (by omega)
      clear hL
      by_cases hp : (L : Int) - 1 = k
      · have hbe : ((L : Int) - 1 == k) = true := beq_yes hp
        have HH := Lib.hid (lper_found hb (show 0 < n by omega) hm HS.out (by rw [HP.out]; exact decide_eq_true hp) HN.out)
        clear hp
        go_wp2_with (go_at_call 56; refine (persistence_any _ _ _ (by omega) (by omega) hb hb').mono ?_; rw [← HL.out]; rintro e w1 ⟨rfl, hbl⟩; have HB1 := Lib.hid (Below.step HB.out HB.out.size hbl); clear hbl)
        go_ret2
        exact ⟨n, by first | rfl | simp; omega, HH.out, HB1.out⟩
      · have hbe : ((L : Int) - 1 == k) = false := beq_no hp
        have HH := Lib.hid (no_next hb (show 0 ≤ n by omega) HS.out (by rw [HP.out]; exact decide_eq_false hp) HN.out)
        clear hp
        go_wp2_with (first | (go_at_call 56; refine (persistence_any _ _ _ (by omega) (by omega) hb hb').mono ?_; rw [← HL.out]; rintro e w1 ⟨rfl, hbl⟩; have HB1 := Lib.hid (Below.step HB.out HB.out.size hbl); clear hbl) | (go_at_call 98; refine (nextRising_any n b _ (by omega) hm hb hb' (by rw [← HY.out]; omega)).mono ?_; rw [← HY.out]; rintro e w2 ⟨rfl, hbl⟩; have HB2 := Lib.hid (Below.step HB1.out HB1.out.size hbl); clear hbl))
        go_roundw
        case rel => exact ⟨y, rfl, rfl, by omega, y1, by rw [HY.out]; exact HS3, by rw [HY.out]; exact HH, HB2.out⟩
        case measure => simp [intOf]; omega
    · have HH := Lib.hid (lper_none (k := k) hb hm HN.out)
      go_wp2
      go_ret2
      exact ⟨0, rfl, HH.out, HB.out⟩

theorem prLeast_base (k b : Int) (hk : 2 ≤ k) (hk' : k ≤ 12) (hb : 2 ≤ b) (hb' : b ≤ 16) (n least : Int) (w : World) (n0 : 0 ≤ n) (n1 : n ≤ 10000000) (hn : n = 10000000) (hrn : ris b n = true) (hml : n % b ≤ least) (hl : 1 ≤ least) (hl' : least ≤ b) :
    Calls Try.prog 71 #[.int .i64 n, .int .i64 least, .int .i64 b, .int .i64 k, .int .i64 10000000] w fun e w' => ∃ r, e = .returned (.int .i64 r) ∧ IsM (perIs b k) (St b n least 10000000) r ∧ 0 ≤ r ∧ r ≤ 10000000 ∧ Below w.heap.size w w' := by
  have HRN := Lib.hid hrn
  have HML := Lib.hid hml
  have hn2 : 10000000 ≤ n := by omega
  clear hrn hml hn
  go_enter Try.func71, Try.ntmps71
  go_wp2
  go_loopw [11, 12] (fun x y wr => ∃ best d : Int, x = .int .i64 best ∧ y = .int .i64 d ∧ least ≤ d ∧ d ≤ b ∧ 0 ≤ best ∧ best ≤ 10000000 ∧ IsM (perIs b k) (Sd b n least 10000000 d) best ∧ Below w.heap.size w wr) (fun _ y _ => (16 - intOf y).toNat)
  case atStart => exact ⟨0, least, rfl, rfl, by omega, by omega, by omega, by omega, isM_start _, Below.refl _ _⟩
  case round =>
    obtain ⟨best, d, rfl, rfl, hd0, hd1, b0, b1, hm, hbl⟩ := hrel
    have HM := Lib.hid hm
    have HB := Lib.hid hbl
    clear hm hbl
    by_cases hd : d < b
    · have d1 : 1 ≤ d := by omega
      obtain ⟨p, hpm⟩ : ∃ p, n * b = p := ⟨_, rfl⟩
      have hnb : n * b + d = p + d := by rw [hpm]
      have p0 : 0 ≤ p := by rw [← hpm]; exact Int.mul_nonneg n0 (by omega)
      have p1 : p ≤ 160000000 := by rw [← hpm]; exact Int.mul_le_mul n1 hb' (by omega) (by omega)
      have p2 : 2 * n ≤ p := by rw [← hpm, Int.mul_comm n b]; exact Int.mul_le_mul_of_nonneg_right hb n0
      have HRT := Lib.hid (show ris b (p + d) = true by rw [← hnb]; exact ris_mk hb n0 HRN.out (by have := HML.out; omega) d1 hd)
      have HMT := Lib.hid (show (p + d) % b ≤ d by rw [← hnb]; exact Int.le_of_eq (split_div hb (by omega) hd).2)
      by_cases hmost : 10000000 < p + d
      · skip
        have HH := Lib.hid ((isM_break hb HM.out (by omega) (.inl (by rw [hnb]; exact hmost))).congr (sd_all hb n0 HRN.out HML.out hl (Int.le_refl b)))
        go_wp2
        go_ret
        exact ⟨best, rfl, HH.out, b0, b1, HB.out⟩
      · omega
    · have HH := Lib.hid (HM.out.congr (sd_all hb n0 HRN.out HML.out hl (show b ≤ d by omega)))
      go_wp2
      go_ret
      exact ⟨best, rfl, HH.out, b0, b1, HB.out⟩

theorem prLeast_any (k b : Int) (hk : 2 ≤ k) (hk' : k ≤ 12) (hb : 2 ≤ b) (hb' : b ≤ 16) : ∀ (f : Nat) (n least : Int) (w : World), (10000000 - n).toNat ≤ f → 0 ≤ n → n ≤ 10000000 → ris b n = true → n % b ≤ least → 1 ≤ least → least ≤ b →
    Calls Try.prog 71 #[.int .i64 n, .int .i64 least, .int .i64 b, .int .i64 k, .int .i64 10000000] w fun e w' => ∃ r, e = .returned (.int .i64 r) ∧ IsM (perIs b k) (St b n least 10000000) r ∧ 0 ≤ r ∧ r ≤ 10000000 ∧ Below w.heap.size w w' := by
  intro f
  induction f with
  | zero =>
    intro n least w hf n0 n1 hrn hml hl hl'
    have hn : n = 10000000 := by omega
    exact prLeast_base k b hk hk' hb hb' n least w n0 n1 hn hrn hml hl hl'
  | succ f ih =>
    intro n least w hf n0 n1 hrn hml hl hl'
    have HI := Lib.hid ih
    have HRN := Lib.hid hrn
    have HML := Lib.hid hml
    clear ih hrn hml
    go_enter Try.func71, Try.ntmps71
    go_wp2
    go_loopw [11, 12] (fun x y wr => ∃ best d : Int, x = .int .i64 best ∧ y = .int .i64 d ∧ least ≤ d ∧ d ≤ b ∧ 0 ≤ best ∧ best ≤ 10000000 ∧ IsM (perIs b k) (Sd b n least 10000000 d) best ∧ Below w.heap.size w wr) (fun _ y _ => (16 - intOf y).toNat)
    case atStart => exact ⟨0, least, rfl, rfl, by omega, by omega, by omega, by omega, isM_start _, Below.refl _ _⟩
    case round =>
      obtain ⟨best, d, rfl, rfl, hd0, hd1, b0, b1, hm, hbl⟩ := hrel
      have HM := Lib.hid hm
      have HB := Lib.hid hbl
      clear hm hbl
      by_cases hd : d < b
      · have d1 : 1 ≤ d := by omega
        obtain ⟨p, hpm⟩ : ∃ p, n * b = p := ⟨_, rfl⟩
        have hnb : n * b + d = p + d := by rw [hpm]
        have p0 : 0 ≤ p := by rw [← hpm]; exact Int.mul_nonneg n0 (by omega)
        have p1 : p ≤ 160000000 := by rw [← hpm]; exact Int.mul_le_mul n1 hb' (by omega) (by omega)
        have p2 : 2 * n ≤ p := by rw [← hpm, Int.mul_comm n b]; exact Int.mul_le_mul_of_nonneg_right hb n0
        have HRT := Lib.hid (show ris b (p + d) = true by rw [← hnb]; exact ris_mk hb n0 HRN.out (by have := HML.out; omega) d1 hd)
        have HMT := Lib.hid (show (p + d) % b ≤ d by rw [← hnb]; exact Int.le_of_eq (split_div hb (by omega) hd).2)
        by_cases hmost : 10000000 < p + d
        · skip
          have HH := Lib.hid ((isM_break hb HM.out (by omega) (.inl (by rw [hnb]; exact hmost))).congr (sd_all hb n0 HRN.out HML.out hl (Int.le_refl b)))
          go_wp2
          go_ret
          exact ⟨best, rfl, HH.out, b0, b1, HB.out⟩
        · obtain ⟨L, hL⟩ : ∃ L, L = (pru b (p + d)).length := ⟨_, rfl⟩
          have HP := Lib.hid (per_len hL k)
          have HL := Lib.hid hL
          have hl1 : L ≤ 1000 := by rw [hL]; exact pru_len b (p + d) hb hb' (by omega) (by omega)
          clear hL
          by_cases hz : best = 0
          · subst hz
            by_cases hp : (L : Int) - 1 = k
            · have hbe : ((L : Int) - 1 == k) = true := beq_yes hp
              have HH := Lib.hid (isM_hit hb n0 d1 hd0 HM.out hd (by rw [hnb]; omega) (by rw [hnb]; exact .inl rfl) (by rw [hnb, HP.out]; exact decide_eq_true hp))
              clear hp
              go_wp2_with (go_at_call 52; go_loud (refine (prRun_p _ _ _ (by omega) (by omega) hb hb').mono ?_; rw [← HL.out]; rintro e w1 ⟨gl, capl, rfl, hr1, hbl⟩; have HB1 := Lib.hid (Below.step HB.out HB.out.size hbl); clear hbl hr1))
              go_roundw
              case rel => exact ⟨p + d, d + 1, rfl, by go_num, by omega, by omega, by omega, by omega, by have := HH.out; rw [hnb] at this; exact this, HB1.out⟩
              case measure => simp [intOf]; omega
            · have hbe : ((L : Int) - 1 == k) = false := beq_no hp
              have HPF := Lib.hid (show perIs b k (n * b + d) = false by rw [hnb, HP.out]; exact decide_eq_false hp)
              clear hp
              go_wp2_with (go_at_call 52; go_loud (refine (prRun_p _ _ _ (by omega) (by omega) hb hb').mono ?_; rw [← HL.out]; rintro e w1 ⟨gl, capl, rfl, hr1, hbl⟩; have HB1 := Lib.hid (Below.step HB.out HB.out.size hbl); clear hbl hr1))
              refine (HI.out _ _ _ (by omega) (by omega) (by omega) HRT.out HMT.out d1 (by omega)).mono ?_
              rintro e w2 ⟨lo, rfl, hlo, l0, l1, hbl⟩
              have HLO := Lib.hid hlo
              have HB2 := Lib.hid (Below.step HB1.out HB1.out.size hbl)
              clear hbl hlo
              by_cases hlp : 0 < lo
              · skip
                have HH := Lib.hid (show IsM (perIs b k) (Sd b n least 10000000 (d + 1)) lo by have h := isM_rest hb HM.out hd hd0 HPF.out (by rw [hnb]; exact HLO.out); rwa [if_pos ⟨hlp, .inl rfl⟩] at h)
                go_wp2
                go_roundw
                case rel => exact ⟨lo, d + 1, rfl, by go_num, by omega, by omega, by omega, by omega, HH.out, HB2.out⟩
                case measure => simp [intOf]; omega
              · skip
                have HH := Lib.hid (show IsM (perIs b k) (Sd b n least 10000000 (d + 1)) 0 by have h := isM_rest hb HM.out hd hd0 HPF.out (by rw [hnb]; exact HLO.out); rwa [if_neg (fun c => hlp c.1)] at h)
                go_wp2
                go_roundw
                case rel => exact ⟨0, d + 1, rfl, by go_num, by omega, by omega, by omega, by omega, HH.out, HB2.out⟩
                case measure => simp [intOf]; omega
          · have hbp : 0 < best := by omega
            have hz0 : (best == 0) = false := beq_no hz
            by_cases hlt : best < p + d
            · skip
              have HH := Lib.hid ((isM_break hb HM.out (by omega) (.inr ⟨hbp, by rw [hnb]; exact hlt⟩)).congr (sd_all hb n0 HRN.out HML.out hl (Int.le_refl b)))
              go_wp2
              go_ret
              exact ⟨best, rfl, HH.out, b0, b1, HB.out⟩
            · by_cases hp : (L : Int) - 1 = k
              · have hbe : ((L : Int) - 1 == k) = true := beq_yes hp
                have HH := Lib.hid (isM_hit hb n0 d1 hd0 HM.out hd (by rw [hnb]; omega) (by rw [hnb]; exact .inr (by omega)) (by rw [hnb, HP.out]; exact decide_eq_true hp))
                clear hp
                go_wp2_with (go_at_call 52; go_loud (refine (prRun_p _ _ _ (by omega) (by omega) hb hb').mono ?_; rw [← HL.out]; rintro e w1 ⟨gl, capl, rfl, hr1, hbl⟩; have HB1 := Lib.hid (Below.step HB.out HB.out.size hbl); clear hbl hr1))
                go_roundw
                case rel => exact ⟨p + d, d + 1, rfl, by go_num, by omega, by omega, by omega, by omega, by have := HH.out; rw [hnb] at this; exact this, HB1.out⟩
                case measure => simp [intOf]; omega
              · have hbe : ((L : Int) - 1 == k) = false := beq_no hp
                have HPF := Lib.hid (show perIs b k (n * b + d) = false by rw [hnb, HP.out]; exact decide_eq_false hp)
                clear hp
                go_wp2_with (go_at_call 52; go_loud (refine (prRun_p _ _ _ (by omega) (by omega) hb hb').mono ?_; rw [← HL.out]; rintro e w1 ⟨gl, capl, rfl, hr1, hbl⟩; have HB1 := Lib.hid (Below.step HB.out HB.out.size hbl); clear hbl hr1))
                refine (HI.out _ _ _ (by omega) (by omega) (by omega) HRT.out HMT.out d1 (by omega)).mono ?_
                rintro e w2 ⟨lo, rfl, hlo, l0, l1, hbl⟩
                have HLO := Lib.hid hlo
                have HB2 := Lib.hid (Below.step HB1.out HB1.out.size hbl)
                clear hbl hlo
                by_cases hlp : 0 < lo
                · by_cases hlb : lo < best
                  · skip
                    have HH := Lib.hid (show IsM (perIs b k) (Sd b n least 10000000 (d + 1)) lo by have h := isM_rest hb HM.out hd hd0 HPF.out (by rw [hnb]; exact HLO.out); rwa [if_pos ⟨hlp, .inr hlb⟩] at h)
                    go_wp2
                    go_roundw
                    case rel => exact ⟨lo, d + 1, rfl, by go_num, by omega, by omega, by omega, by omega, HH.out, HB2.out⟩
                    case measure => simp [intOf]; omega
                  · skip
                    have HH := Lib.hid (show IsM (perIs b k) (Sd b n least 10000000 (d + 1)) best by have h := isM_rest hb HM.out hd hd0 HPF.out (by rw [hnb]; exact HLO.out); rwa [if_neg (fun c => by omega)] at h)
                    go_wp2
                    go_roundw
                    case rel => exact ⟨best, d + 1, rfl, by go_num, by omega, by omega, by omega, by omega, HH.out, HB2.out⟩
                    case measure => simp [intOf]; omega
                · skip
                  have HH := Lib.hid (show IsM (perIs b k) (Sd b n least 10000000 (d + 1)) best by have h := isM_rest hb HM.out hd hd0 HPF.out (by rw [hnb]; exact HLO.out); rwa [if_neg (fun c => hlp c.1)] at h)
                  go_wp2
                  go_roundw
                  case rel => exact ⟨best, d + 1, rfl, by go_num, by omega, by omega, by omega, by omega, HH.out, HB2.out⟩
                  case measure => simp [intOf]; omega
      · have HH := Lib.hid (HM.out.congr (sd_all hb n0 HRN.out HML.out hl (show b ≤ d by omega)))
        go_wp2
        go_ret
        exact ⟨best, rfl, HH.out, b0, b1, HB.out⟩

/-- What LeastPersistent answers. -/
def LPok (k b : Int) : Prop := (0 ≤ k ∧ k ≤ 12) ∧ Bas b
instance (k b : Int) : Decidable (LPok k b) := by unfold LPok Bas; exact inferInstance
def PLP (k b r : Int) : Prop := if LPok k b then (if k = 0 then r = 0 else if k = 1 then r = b else Lper b k r) else r = 0
abbrev res1 (k b r : Int) : Value := .tuple #[.int .i64 r, .bool (decide (LPok k b) && (decide (k = 0) || decide (0 < r)))]
theorem PLP.same {k b r t : Int} (h1 : PLP k b r) (h2 : PLP k b t) : r = t := by
  unfold PLP at h1 h2
  split at h1
  · split at h1
    · simp_all
    · split at h1
      · simp_all
      · simp_all only [if_true, if_false]
        exact IsM.same h1 h2
  · simp_all

theorem leastPersistent_zero (b : Int) (w : World) : Calls Try.prog 73 #[.int .i64 b, .int .i64 0] w fun e w' => e = .returned (.tuple #[.int .i64 0, .bool true]) ∧ w = w' := by
  go_enter Try.func73, Try.ntmps73
  go_wp2
  go_ret2
  exact ⟨rfl, rfl⟩
theorem leastPersistent_one (b : Int) (w : World) : Calls Try.prog 73 #[.int .i64 b, .int .i64 1] w fun e w' => e = .returned (.tuple #[.int .i64 b, .bool true]) ∧ w = w' := by
  go_enter Try.func73, Try.ntmps73
  go_wp2
  go_ret2
  exact ⟨rfl, rfl⟩

theorem impl_LeastPersistent (k b : Int) (w : World) :
    Calls Try.prog 34 #[.int .i64 k, .int .i64 b] w fun e w' => ∃ r, e = .returned (res1 k b r) ∧ PLP k b r ∧ Below w.heap.size w w' := by
  by_cases hB : Bas b
  · have a2 : decide (Bas b) = true := decide_eq_true hB
    by_cases hk : 0 ≤ k ∧ k ≤ 12
    · have hO := Lib.hid (show decide (LPok k b) = true from decide_eq_true ⟨hk, hB⟩)
      have hP := Lib.hid (show LPok k b from ⟨hk, hB⟩)
      obtain ⟨k0, k1⟩ := hk
      obtain ⟨b0, b1⟩ := hB
      by_cases hz : k = 0
      · subst hz
        go_enter Try.func34, Try.ntmps34
        go_wp2_with (first | (go_at_call 72; refine (isBase_any _ _).mono ?_; rintro e w1 ⟨rfl, rfl⟩) | (go_at_call 73; refine (leastPersistent_zero b _).mono ?_; rintro e w1 ⟨rfl, rfl⟩))
        go_ret2
        exact ⟨0, by unfold res1; rw [hO.out]; rfl, by unfold PLP; rw [if_pos hP.out, if_pos rfl], Below.refl _ _⟩
      · by_cases h1 : k = 1
        · subst h1
          go_enter Try.func34, Try.ntmps34
          go_wp2_with (first | (go_at_call 72; refine (isBase_any _ _).mono ?_; rintro e w1 ⟨rfl, rfl⟩) | (go_at_call 73; refine (leastPersistent_one b _).mono ?_; rintro e w1 ⟨rfl, rfl⟩))
          go_ret2
          exact ⟨b, by unfold res1; rw [hO.out, decide_eq_true (show 0 < b by omega)]; simp; try rfl, by unfold PLP; rw [if_pos hP.out, if_neg (by omega), if_pos rfl], Below.refl _ _⟩
        · have hk2 : 2 ≤ k := by omega
          have HK := Lib.hid (show decide (k = 0) = false from decide_eq_false hz)
          have HPL := Lib.hid (show ∀ r, Lper b k r → PLP k b r from fun r h => by unfold PLP; rw [if_pos hP.out, if_neg hz, if_neg h1]; exact h)
          have e0 : (k == 0) = false := beq_no hz
          have e1 : (k == 1) = false := beq_no h1
          clear hz h1
          go_enter Try.func34, Try.ntmps34
          go_wp2_with (first | (go_at_call 72; refine (isBase_any _ _).mono ?_; rintro e w1 ⟨rfl, rfl⟩) | (go_at_call 73; refine (leastPersistent_any k b _ hk2 k1 b0 b1).mono ?_; rintro e w1 ⟨r, rfl, hm, hbl⟩; have HM := Lib.hid hm; have HB := Lib.hid hbl; clear hm hbl))
          go_ret2
          exact ⟨r, by unfold res1; rw [hO.out, HK.out]; simp; try rfl, HPL.out r HM.out, HB.out⟩
    · have hO := Lib.hid (show decide (LPok k b) = false from decide_eq_false (fun h => hk h.1))
      have hP := Lib.hid (show PLP k b 0 by unfold PLP; rw [if_neg (fun h => hk h.1)])
      clear hB
      by_cases h0 : k < 0
      · clear hk
        go_enter Try.func34, Try.ntmps34
        go_wp2_with (go_at_call 72; refine (isBase_any _ _).mono ?_; rintro e w1 ⟨rfl, rfl⟩)
        go_ret2
        exact ⟨0, by unfold res1; rw [hO.out]; rfl, hP.out, Below.refl _ _⟩
      · have h1 : 12 < k := by omega
        clear hk
        go_enter Try.func34, Try.ntmps34
        go_wp2_with (go_at_call 72; refine (isBase_any _ _).mono ?_; rintro e w1 ⟨rfl, rfl⟩)
        go_ret2
        exact ⟨0, by unfold res1; rw [hO.out]; rfl, hP.out, Below.refl _ _⟩
  · have a2 : decide (Bas b) = false := decide_eq_false hB
    have hO := Lib.hid (show decide (LPok k b) = false from decide_eq_false (fun h => hB h.2))
    have hP := Lib.hid (show PLP k b 0 by unfold PLP; rw [if_neg (fun h => hB h.2)])
    clear hB
    by_cases h0 : k < 0
    · go_enter Try.func34, Try.ntmps34
      go_wp2_with (go_at_call 72; refine (isBase_any _ _).mono ?_; rintro e w1 ⟨rfl, rfl⟩)
      go_ret2
      exact ⟨0, by unfold res1; rw [hO.out]; rfl, hP.out, Below.refl _ _⟩
    · by_cases h1 : 12 < k
      · go_enter Try.func34, Try.ntmps34
        go_wp2_with (go_at_call 72; refine (isBase_any _ _).mono ?_; rintro e w1 ⟨rfl, rfl⟩)
        go_ret2
        exact ⟨0, by unfold res1; rw [hO.out]; rfl, hP.out, Below.refl _ _⟩
      · go_enter Try.func34, Try.ntmps34
        go_wp2_with (go_at_call 72; refine (isBase_any _ _).mono ?_; rintro e w1 ⟨rfl, rfl⟩)
        go_ret2
        exact ⟨0, by unfold res1; rw [hO.out]; rfl, hP.out, Below.refl _ _⟩

theorem spec_LeastPersistent (k b : Int) (w : World) :
    Calls Try.prog 33 #[.int .i64 k, .int .i64 b] w fun e w' => ∃ r, e = .returned (res1 k b r) ∧ PLP k b r ∧ Below w.heap.size w w' := by
  by_cases hB : Bas b
  · have a2 : decide (Bas b) = true := decide_eq_true hB
    by_cases hk : 0 ≤ k ∧ k ≤ 12
    · have hO := Lib.hid (show decide (LPok k b) = true from decide_eq_true ⟨hk, hB⟩)
      have hP := Lib.hid (show LPok k b from ⟨hk, hB⟩)
      obtain ⟨k0, k1⟩ := hk
      obtain ⟨b0, b1⟩ := hB
      by_cases hz : k = 0
      · subst hz
        go_enter Try.func33, Try.ntmps33
        go_wp2_with (first | (go_at_call 69; refine (dgBase_any _ _).mono ?_; rintro e w1 ⟨rfl, rfl⟩) | (go_at_call 70; refine (l1In_yes _ _ _ _ (by omega) (by omega)).mono ?_; rintro e w1 ⟨rfl, rfl⟩))
        go_ret2
        exact ⟨0, by unfold res1; rw [hO.out]; rfl, by unfold PLP; rw [if_pos hP.out, if_pos rfl], Below.refl _ _⟩
      · by_cases h1 : k = 1
        · subst h1
          go_enter Try.func33, Try.ntmps33
          go_wp2_with (first | (go_at_call 69; refine (dgBase_any _ _).mono ?_; rintro e w1 ⟨rfl, rfl⟩) | (go_at_call 70; refine (l1In_yes _ _ _ _ (by omega) (by omega)).mono ?_; rintro e w1 ⟨rfl, rfl⟩))
          go_ret2
          exact ⟨b, by unfold res1; rw [hO.out, decide_eq_true (show 0 < b by omega)]; simp; try rfl, by unfold PLP; rw [if_pos hP.out, if_neg (by omega), if_pos rfl], Below.refl _ _⟩
        · have hk2 : 2 ≤ k := by omega
          have HK := Lib.hid (show decide (k = 0) = false from decide_eq_false hz)
          have HPL := Lib.hid (show ∀ r, Lper b k r → PLP k b r from fun r h => by unfold PLP; rw [if_pos hP.out, if_neg hz, if_neg h1]; exact h)
          have e0 : (k == 0) = false := beq_no hz
          have e1 : (k == 1) = false := beq_no h1
          clear hz h1
          go_enter Try.func33, Try.ntmps33
          go_wp2_with (first | (go_at_call 69; refine (dgBase_any _ _).mono ?_; rintro e w1 ⟨rfl, rfl⟩) | (go_at_call 70; refine (l1In_yes _ _ _ _ k0 k1).mono ?_; rintro e w1 ⟨rfl, rfl⟩) | (go_at_call 71; refine (prLeast_any k b hk2 k1 b0 b1 _ 0 1 _ (Nat.le_refl _) (by omega) (by omega) (ris_zero b) (by simp) (by omega) (by omega)).mono ?_; rintro e w1 ⟨r, rfl, hm, r0, r1, hbl⟩; have HM := Lib.hid hm; have HB := Lib.hid hbl; clear hm hbl))
          go_ret2
          exact ⟨r, by unfold res1; rw [hO.out, HK.out]; simp; try rfl, HPL.out r HM.out, HB.out⟩
    · have hO := Lib.hid (show decide (LPok k b) = false from decide_eq_false (fun h => hk h.1))
      have hP := Lib.hid (show PLP k b 0 by unfold PLP; rw [if_neg (fun h => hk h.1)])
      clear hB
      have hk' : k < 0 ∨ 12 < k := by omega
      clear hk
      go_enter Try.func33, Try.ntmps33
      go_wp2_with (first | (go_at_call 69; refine (dgBase_any _ _).mono ?_; rintro e w1 ⟨rfl, rfl⟩) | (go_at_call 70; refine (l1In_no _ _ _ _ hk').mono ?_; rintro e w1 ⟨rfl, rfl⟩))
      go_ret2
      exact ⟨0, by unfold res1; rw [hO.out]; rfl, hP.out, Below.refl _ _⟩
  · have a2 : decide (Bas b) = false := decide_eq_false hB
    have hO := Lib.hid (show decide (LPok k b) = false from decide_eq_false (fun h => hB h.2))
    have hP := Lib.hid (show PLP k b 0 by unfold PLP; rw [if_neg (fun h => hB h.2)])
    clear hB
    go_enter Try.func33, Try.ntmps33
    go_wp2_with (go_at_call 69; refine (dgBase_any _ _).mono ?_; rintro e w1 ⟨rfl, rfl⟩)
    go_ret2
    exact ⟨0, by unfold res1; rw [hO.out]; rfl, hP.out, Below.refl _ _⟩

theorem law_LeastPersistent (n b : Int) (w : World) :
    Calls Try.prog 9 #[.int .i64 n, .int .i64 b] w fun e w' => e = .returned (.bool true) ∧ Below w.heap.size w w' := by
  go_enter Try.func9, Try.ntmps9
  go_wp2_with (first | (go_at_call 33; refine (spec_LeastPersistent _ _ _).mono ?_; rintro e w1 ⟨r, rfl, hp, hbl⟩; have HP := Lib.hid hp; have HB1 := Lib.hid hbl; clear hbl hp) | (go_at_call 34; refine (impl_LeastPersistent _ _ _).mono ?_; rintro e w2 ⟨t, rfl, hp, hbl⟩; obtain rfl := PLP.same hp HP.out; have HB2 := Lib.hid hbl; clear hbl hp))
  go_ret
  exact ⟨by simp, Below.step HB1.out HB1.out.size HB2.out⟩

end Go.Proofs.Ytedpplonclonkaa
