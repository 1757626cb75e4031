/-
  Runs of products and of sums, the program's and the model's (written by wip/tools/gen_wc.py).
-/
import Derived.Test.YtdlohdjejmpmcaaWB
import Derived.Test.YtdlohdjejmpmcaaB
namespace Go.Proofs.Ytdlohdjejmpmcaa
open Go.RowKit
set_option linter.unusedVariables false
set_option linter.unusedSimpArgs false
set_option maxRecDepth 100000

theorem al_below (w : World) (o : Obj) : Below w.heap.size w (w.alloc o) := (Below.refl _ _).alloc (Nat.le_refl _) o

theorem isOneDigit_any (n b : Int) (w : World) :
    Calls Try.prog 107 #[.int .i64 b, .int .i64 n] w fun e w' => e = .returned (.bool (decide (n < b))) ∧ w = w' := by
  go_enter Try.func107, Try.ntmps107
  go_wp2
  go_ret
  exact ⟨by simp, rfl⟩

theorem run_len {pre rs full : List Int} (h : pre ++ rs = full) (hf : full.length ≤ 1000) : pre.length + rs.length ≤ 1000 := by
  rw [← List.length_append, h]; exact hf

theorem sd_lt (b n : Int) (hb : 2 ≤ b) (hb' : b ≤ 16) (h0 : 0 ≤ n) (h1 : n ≤ 1000000000000) : 0 ≤ sd b n ∧ sd b n ≤ n ∧ (b ≤ n → sd b n < n) :=
  let ⟨a, c, _, d⟩ := sd_bd b n hb hb' h0 h1
  ⟨a, c, d⟩

theorem productRun_until (n b : Int) (w : World) (h0 : 0 ≤ n) (h1 : n ≤ 1000000000000) (hb : 2 ≤ b) (hb' : b ≤ 16) :
    Calls Try.prog 106 #[.int .i64 n, .func (Fn.func 107) #[.int .i64 b] #[], .func (Fn.func 61) #[.int .i64 b] #[]] w fun e w' => ∃ g cap, e = .returned (.slice (some ⟨g, 0, none⟩) (pru b n).length cap) ∧ Rd w' w.heap.size (.slice (some ⟨g, 0, none⟩) (pru b n).length cap) (pru b n) ∧ Below w.heap.size w w' := by
  obtain ⟨xs, hxs⟩ : ∃ xs, xs = pru b n := ⟨_, rfl⟩
  have hlen : xs.length ≤ 1000 := by rw [hxs]; exact pru_len b n hb hb' h0 h1
  have HX := Lib.hid hxs
  clear hxs
  rw [← HX.out]
  go_enter Try.func106, Try.ntmps106
  go_wp2
  go_loopw [7, 8] (fun o i wr => ∃ (m : Int) (u : Value) (pre : List Int), u = o ∧ i = .int .i64 m ∧ 0 ≤ m ∧ m ≤ 1000000000000 ∧ Rd wr w.heap.size u (pre ++ [m]) ∧ Hid (pre ++ ru b (pd b) m = xs) ∧ Below w.heap.size w wr) (fun _ i _ => (intOf i).toNat)
  case atStart => exact ⟨n, _, [], rfl, rfl, h0, h1, Rd.lit _ _, Lib.hid (by rw [HX.out]; rfl), al_below _ _⟩
  case round =>
    obtain ⟨m, u, pre, rfl, rfl, m0, m1, hr, HE, hbl⟩ := hrel
    have HR := Lib.hid hr
    have HB := Lib.hid hbl
    have hpl := run_len HE.out hlen
    clear hr hbl
    by_cases hm : b ≤ m
    · have a1 : decide (m < b) = false := decide_eq_false (by omega)
      obtain ⟨p0, p1, p2⟩ := pd_lt b m hb hb' m0 m1
      have p3 := p2 hm
      have HN := Lib.hid (ru_step (f := pd b) hm p0 p3)
      obtain ⟨y, hy⟩ : ∃ y, y = pd b m := ⟨_, rfl⟩
      have HY := Lib.hid hy
      rw [← hy] at p0 p1 p3
      clear p2 hy
      have hsz := HB.out.size
      go_wp2_with (first | (go_at_call 107; refine (isOneDigit_any _ _ _).mono ?_; rintro e w1 ⟨rfl, rfl⟩) | (go_at_call 61; refine (digitProduct_any _ _ _ m0 m1 hb hb').mono ?_; rintro e w1 ⟨rfl, hb1⟩; have HR1 := Lib.hid (HR.out.keep hb1); have HB1 := Lib.hid (Below.step HB.out HB.out.size hb1); have hsz1 := HB1.out.size; clear hb1) | (at_builtin; refine wpList_appR rfl _ _ rfl w.heap.size w.heap.size _ _ (pre ++ [m]) [pd b m] rfl rfl (HR1.out.alloc _) (Rd.litB _ _ _ (by omega)) (by simp; omega) (by simp; omega) ?_; intro v1 w2 hr1 hg1 hb2; have HR2 := Lib.hid hr1; have HB2 := Lib.hid ((HB1.out.alloc (by omega) _).trans hb2); clear hr1 hg1 hb2))
      go_roundw
      case rel => exact ⟨pd b m, _, pre ++ [m], rfl, rfl, by rw [← HY.out]; exact p0, by rw [← HY.out]; omega, HR2.out, Lib.hid (by rw [List.append_assoc, ← HE.out, HN.out]; rfl), HB2.out⟩
      case measure => (simp only [intOf]; have hy := HY.out; unfold pd at hy; rw [← hy]; omega)
    · have a1 : decide (m < b) = true := decide_eq_true (by omega)
      have HN := Lib.hid (ru_end (f := pd b) hm)
      obtain ⟨g, cap, rfl⟩ : ∃ g cap, u = .slice (some ⟨g, 0, none⟩) (pre ++ [m]).length cap := by
        rcases HR.out.cases with ⟨_, hx⟩ | ⟨g, cap, hu, _⟩
        · simp at hx
        · exact ⟨g, cap, hu⟩
      have HQ := Lib.hid (show pre ++ [m] = xs by rw [← HE.out, HN.out])
      go_wp2_with (go_at_call 107; refine (isOneDigit_any _ _ _).mono ?_; rintro e w1 ⟨rfl, rfl⟩)
      go_ret
      exact ⟨g, cap, by rw [← HQ.out, List.length_append]; rfl, by rw [← HQ.out]; exact HR.out, HB.out⟩

theorem sumRun_until (n b : Int) (w : World) (h0 : 0 ≤ n) (h1 : n ≤ 1000000000000) (hb : 2 ≤ b) (hb' : b ≤ 16) :
    Calls Try.prog 106 #[.int .i64 n, .func (Fn.func 107) #[.int .i64 b] #[], .func (Fn.func 59) #[.int .i64 b] #[]] w fun e w' => ∃ g cap, e = .returned (.slice (some ⟨g, 0, none⟩) (sru b n).length cap) ∧ Rd w' w.heap.size (.slice (some ⟨g, 0, none⟩) (sru b n).length cap) (sru b n) ∧ Below w.heap.size w w' := by
  obtain ⟨xs, hxs⟩ : ∃ xs, xs = sru b n := ⟨_, rfl⟩
  have hlen : xs.length ≤ 1000 := by rw [hxs]; exact sru_len b n hb hb' h0 h1
  have HX := Lib.hid hxs
  clear hxs
  rw [← HX.out]
  go_enter Try.func106, Try.ntmps106
  go_wp2
  go_loopw [7, 8] (fun o i wr => ∃ (m : Int) (u : Value) (pre : List Int), u = o ∧ i = .int .i64 m ∧ 0 ≤ m ∧ m ≤ 1000000000000 ∧ Rd wr w.heap.size u (pre ++ [m]) ∧ Hid (pre ++ ru b (sd b) m = xs) ∧ Below w.heap.size w wr) (fun _ i _ => (intOf i).toNat)
  case atStart => exact ⟨n, _, [], rfl, rfl, h0, h1, Rd.lit _ _, Lib.hid (by rw [HX.out]; rfl), al_below _ _⟩
  case round =>
    obtain ⟨m, u, pre, rfl, rfl, m0, m1, hr, HE, hbl⟩ := hrel
    have HR := Lib.hid hr
    have HB := Lib.hid hbl
    have hpl := run_len HE.out hlen
    clear hr hbl
    by_cases hm : b ≤ m
    · have a1 : decide (m < b) = false := decide_eq_false (by omega)
      obtain ⟨p0, p1, p2⟩ := sd_lt b m hb hb' m0 m1
      have p3 := p2 hm
      have HN := Lib.hid (ru_step (f := sd b) hm p0 p3)
      obtain ⟨y, hy⟩ : ∃ y, y = sd b m := ⟨_, rfl⟩
      have HY := Lib.hid hy
      rw [← hy] at p0 p1 p3
      clear p2 hy
      have hsz := HB.out.size
      go_wp2_with (first | (go_at_call 107; refine (isOneDigit_any _ _ _).mono ?_; rintro e w1 ⟨rfl, rfl⟩) | (go_at_call 59; refine (digitSum_any _ _ _ m0 m1 hb hb').mono ?_; rintro e w1 ⟨rfl, hb1⟩; have HR1 := Lib.hid (HR.out.keep hb1); have HB1 := Lib.hid (Below.step HB.out HB.out.size hb1); have hsz1 := HB1.out.size; clear hb1) | (at_builtin; refine wpList_appR rfl _ _ rfl w.heap.size w.heap.size _ _ (pre ++ [m]) [sd b m] rfl rfl (HR1.out.alloc _) (Rd.litB _ _ _ (by omega)) (by simp; omega) (by simp; omega) ?_; intro v1 w2 hr1 hg1 hb2; have HR2 := Lib.hid hr1; have HB2 := Lib.hid ((HB1.out.alloc (by omega) _).trans hb2); clear hr1 hg1 hb2))
      go_roundw
      case rel => exact ⟨sd b m, _, pre ++ [m], rfl, rfl, by rw [← HY.out]; exact p0, by rw [← HY.out]; omega, HR2.out, Lib.hid (by rw [List.append_assoc, ← HE.out, HN.out]; rfl), HB2.out⟩
      case measure => (simp only [intOf]; have hy := HY.out; unfold sd at hy; rw [← hy]; omega)
    · have a1 : decide (m < b) = true := decide_eq_true (by omega)
      have HN := Lib.hid (ru_end (f := sd b) hm)
      obtain ⟨g, cap, rfl⟩ : ∃ g cap, u = .slice (some ⟨g, 0, none⟩) (pre ++ [m]).length cap := by
        rcases HR.out.cases with ⟨_, hx⟩ | ⟨g, cap, hu, _⟩
        · simp at hx
        · exact ⟨g, cap, hu⟩
      have HQ := Lib.hid (show pre ++ [m] = xs by rw [← HE.out, HN.out])
      go_wp2_with (go_at_call 107; refine (isOneDigit_any _ _ _).mono ?_; rintro e w1 ⟨rfl, rfl⟩)
      go_ret
      exact ⟨g, cap, by rw [← HQ.out, List.length_append]; rfl, by rw [← HQ.out]; exact HR.out, HB.out⟩

theorem sumRun_any (n b : Int) (w : World) (h0 : 0 ≤ n) (h1 : n ≤ 1000000000000) (hb : 2 ≤ b) (hb' : b ≤ 16) :
    Calls Try.prog 84 #[.int .i64 b, .int .i64 n] w fun e w' => ∃ g cap, e = .returned (.slice (some ⟨g, 0, none⟩) (sru b n).length cap) ∧ Rd w' w.heap.size (.slice (some ⟨g, 0, none⟩) (sru b n).length cap) (sru b n) ∧ Below w.heap.size w w' := by
  go_enter Try.func84, Try.ntmps84
  go_wp2_with (go_at_call 106; refine (sumRun_until _ _ _ h0 h1 hb hb').mono ?_; rintro e w1 ⟨g, cap, rfl, hr, hbl⟩; have HB := Lib.hid hbl; have HR := Lib.hid hr; clear hbl hr)
  go_ret
  exact ⟨g, cap, rfl, HR.out, HB.out⟩

theorem sumRun_l (n b : Int) (w : World) (h0 : 0 ≤ n) (h1 : n ≤ 1000000000000) (hb : 2 ≤ b) (hb' : b ≤ 16) :
    Calls Try.prog 84 #[.int .i64 b, .int .i64 n] w fun e w' => ∃ v, e = .returned v ∧ Rd w' w.heap.size v (sru b n) ∧ Below w.heap.size w w' :=
  (sumRun_any n b w h0 h1 hb hb').mono fun _ _ ⟨_, _, h1, h2, h3⟩ => ⟨_, h1, h2, h3⟩

theorem sumPersistence_any (n b : Int) (w : World) (h0 : 0 ≤ n) (h1 : n ≤ 1000000000000) (hb : 2 ≤ b) (hb' : b ≤ 16) :
    Calls Try.prog 86 #[.int .i64 b, .int .i64 n] w fun e w' => e = .returned (.int .i64 (((sru b n).length : Int) - 1)) ∧ Below w.heap.size w w' := by
  have hlen := sru_len b n hb hb' h0 h1
  go_enter Try.func86, Try.ntmps86
  go_wp2_with (go_at_call 84; refine (sumRun_any _ _ _ h0 h1 hb hb').mono ?_; rintro e w1 ⟨g, cap, rfl, hr, hbl⟩; have HB := Lib.hid hbl; have HR := Lib.hid hr; clear hbl hr)
  go_ret
  exact ⟨by first | rfl | go_num, HB.out⟩

theorem prRun_p (n b : Int) (w : World) (h0 : 0 ≤ n) (h1 : n ≤ 1000000000000) (hb : 2 ≤ b) (hb' : b ≤ 16) :
    Calls Try.prog 85 #[.int .i64 n, .int .i64 b, .bool false] w fun e w' => ∃ g cap, e = .returned (.slice (some ⟨g, 0, none⟩) (pru b n).length cap) ∧ Rd w' w.heap.size (.slice (some ⟨g, 0, none⟩) (pru b n).length cap) (pru b n) ∧ Below w.heap.size w w' := by
  obtain ⟨xs, hxs⟩ : ∃ xs, xs = pru b n := ⟨_, rfl⟩
  have hlen : xs.length ≤ 1000 := by rw [hxs]; exact pru_len b n hb hb' h0 h1
  have HX := Lib.hid hxs
  clear hxs
  rw [← HX.out]
  go_enter Try.func85, Try.ntmps85
  go_wp2
  go_loopw [0, 7] (fun i o wr => ∃ (m : Int) (u : Value) (pre : List Int), u = o ∧ i = .int .i64 m ∧ 0 ≤ m ∧ m ≤ 1000000000000 ∧ Rd wr w.heap.size u (pre ++ [m]) ∧ Hid (pre ++ ru b (pd b) m = xs) ∧ Below w.heap.size w wr) (fun i _ _ => (intOf i).toNat)
  case atStart => exact ⟨n, _, [], rfl, rfl, h0, h1, Rd.lit _ _, Lib.hid (by rw [HX.out]; rfl), al_below _ _⟩
  case round =>
    obtain ⟨m, u, pre, rfl, rfl, m0, m1, hr, HE, hbl⟩ := hrel
    have HR := Lib.hid hr
    have HB := Lib.hid hbl
    have hpl := run_len HE.out hlen
    clear hr hbl
    by_cases hm : b ≤ m
    · obtain ⟨p0, p1, p2⟩ := pd_lt b m hb hb' m0 m1
      have p3 := p2 hm
      have HN := Lib.hid (ru_step (f := pd b) hm p0 p3)
      obtain ⟨y, hy⟩ : ∃ y, y = pd b m := ⟨_, rfl⟩
      have HY := Lib.hid hy
      rw [← hy] at p0 p1 p3
      have hall := Lib.hid (dgs_all b m hb m0)
      have hlen1 := Lib.hid (dgs_len40 b m hb m0 m1)
      clear p2 hy
      have hsz := HB.out.size
      go_wp2_with (first | (go_at_call 57; refine (dgOf_s _ _ _ m0 m1 hb hb').mono ?_; rintro e w1 ⟨g, cap, rfl, hrd, hb1⟩; have HRd := Lib.hid hrd; have HR1 := Lib.hid (HR.out.keep hb1); have HB1 := Lib.hid (Below.step HB.out HB.out.size hb1); have hsz1 := HB1.out.size; clear hb1 hrd) | (go_at_call 62; refine (dgProduct_any _ _ _ _ HRd.out (by have := hlen1.out; omega)).mono ?_; rintro e w2 ⟨rfl, rfl⟩) | (at_builtin; refine wpList_appR rfl _ _ rfl w.heap.size w.heap.size _ _ (pre ++ [m]) [pd b m] rfl rfl (HR1.out.alloc _) (Rd.litB _ _ _ (by omega)) (by simp; omega) (by simp; omega) ?_; intro v1 w2 hr1 hg1 hb2; have HR2 := Lib.hid hr1; have HB2 := Lib.hid ((HB1.out.alloc (by omega) _).trans hb2); clear hr1 hg1 hb2))
      go_roundw
      case rel => exact ⟨pd b m, _, pre ++ [m], rfl, rfl, by rw [← HY.out]; exact p0, by rw [← HY.out]; omega, HR2.out, Lib.hid (by rw [List.append_assoc, ← HE.out, HN.out]; rfl), HB2.out⟩
      case measure => (simp only [intOf]; have hy := HY.out; unfold pd at hy; rw [← hy]; omega)
    · have HN := Lib.hid (ru_end (f := pd b) hm)
      obtain ⟨g, cap, rfl⟩ : ∃ g cap, u = .slice (some ⟨g, 0, none⟩) (pre ++ [m]).length cap := by
        rcases HR.out.cases with ⟨_, hx⟩ | ⟨g, cap, hu, _⟩
        · simp at hx
        · exact ⟨g, cap, hu⟩
      have HQ := Lib.hid (show pre ++ [m] = xs by rw [← HE.out, HN.out])
      go_wp2
      go_ret
      exact ⟨g, cap, by rw [← HQ.out, List.length_append]; rfl, by rw [← HQ.out]; exact HR.out, HB.out⟩

theorem prRun_s (n b : Int) (w : World) (h0 : 0 ≤ n) (h1 : n ≤ 1000000000000) (hb : 2 ≤ b) (hb' : b ≤ 16) :
    Calls Try.prog 85 #[.int .i64 n, .int .i64 b, .bool true] w fun e w' => ∃ g cap, e = .returned (.slice (some ⟨g, 0, none⟩) (sru b n).length cap) ∧ Rd w' w.heap.size (.slice (some ⟨g, 0, none⟩) (sru b n).length cap) (sru b n) ∧ Below w.heap.size w w' := by
  obtain ⟨xs, hxs⟩ : ∃ xs, xs = sru b n := ⟨_, rfl⟩
  have hlen : xs.length ≤ 1000 := by rw [hxs]; exact sru_len b n hb hb' h0 h1
  have HX := Lib.hid hxs
  clear hxs
  rw [← HX.out]
  go_enter Try.func85, Try.ntmps85
  go_wp2
  go_loopw [0, 7] (fun i o wr => ∃ (m : Int) (u : Value) (pre : List Int), u = o ∧ i = .int .i64 m ∧ 0 ≤ m ∧ m ≤ 1000000000000 ∧ Rd wr w.heap.size u (pre ++ [m]) ∧ Hid (pre ++ ru b (sd b) m = xs) ∧ Below w.heap.size w wr) (fun i _ _ => (intOf i).toNat)
  case atStart => exact ⟨n, _, [], rfl, rfl, h0, h1, Rd.lit _ _, Lib.hid (by rw [HX.out]; rfl), al_below _ _⟩
  case round =>
    obtain ⟨m, u, pre, rfl, rfl, m0, m1, hr, HE, hbl⟩ := hrel
    have HR := Lib.hid hr
    have HB := Lib.hid hbl
    have hpl := run_len HE.out hlen
    clear hr hbl
    by_cases hm : b ≤ m
    · obtain ⟨p0, p1, p2⟩ := sd_lt b m hb hb' m0 m1
      have p3 := p2 hm
      have HN := Lib.hid (ru_step (f := sd b) hm p0 p3)
      obtain ⟨y, hy⟩ : ∃ y, y = sd b m := ⟨_, rfl⟩
      have HY := Lib.hid hy
      rw [← hy] at p0 p1 p3
      have hall := Lib.hid (dgs_all b m hb m0)
      have hlen1 := Lib.hid (dgs_len40 b m hb m0 m1)
      clear p2 hy
      have hsz := HB.out.size
      go_wp2_with (first | (go_at_call 57; refine (dgOf_s _ _ _ m0 m1 hb hb').mono ?_; rintro e w1 ⟨g, cap, rfl, hrd, hb1⟩; have HRd := Lib.hid hrd; have HR1 := Lib.hid (HR.out.keep hb1); have HB1 := Lib.hid (Below.step HB.out HB.out.size hb1); have hsz1 := HB1.out.size; clear hb1 hrd) | (go_at_call 60; refine (dgSum_any _ _ _ _ HRd.out (fun x hx => by have := hall.out x hx; omega) (by have := hlen1.out; omega)).mono ?_; rintro e w2 ⟨rfl, rfl⟩) | (at_builtin; refine wpList_appR rfl _ _ rfl w.heap.size w.heap.size _ _ (pre ++ [m]) [sd b m] rfl rfl (HR1.out.alloc _) (Rd.litB _ _ _ (by omega)) (by simp; omega) (by simp; omega) ?_; intro v1 w2 hr1 hg1 hb2; have HR2 := Lib.hid hr1; have HB2 := Lib.hid ((HB1.out.alloc (by omega) _).trans hb2); clear hr1 hg1 hb2))
      go_roundw
      case rel => exact ⟨sd b m, _, pre ++ [m], rfl, rfl, by rw [← HY.out]; exact p0, by rw [← HY.out]; omega, HR2.out, Lib.hid (by rw [List.append_assoc, ← HE.out, HN.out]; rfl), HB2.out⟩
      case measure => (simp only [intOf]; have hy := HY.out; unfold sd at hy; rw [← hy]; omega)
    · have HN := Lib.hid (ru_end (f := sd b) hm)
      obtain ⟨g, cap, rfl⟩ : ∃ g cap, u = .slice (some ⟨g, 0, none⟩) (pre ++ [m]).length cap := by
        rcases HR.out.cases with ⟨_, hx⟩ | ⟨g, cap, hu, _⟩
        · simp at hx
        · exact ⟨g, cap, hu⟩
      have HQ := Lib.hid (show pre ++ [m] = xs by rw [← HE.out, HN.out])
      go_wp2
      go_ret
      exact ⟨g, cap, by rw [← HQ.out, List.length_append]; rfl, by rw [← HQ.out]; exact HR.out, HB.out⟩

theorem lastD_at (xs : List Int) (h : 1 ≤ xs.length) : xs[xs.length - 1]'(by omega) = lastD xs := by
  unfold lastD; rw [List.getD_eq_getElem?_getD, List.getElem?_eq_getElem (by omega)]; rfl

end Go.Proofs.Ytdlohdjejmpmcaa
