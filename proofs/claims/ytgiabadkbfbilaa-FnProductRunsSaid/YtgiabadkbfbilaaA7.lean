/-
  Joint text of WC WD (written by wip/tools/merge.py).
-/
import Derived.Test.YtgiabadkbfbilaaA1
import Derived.Test.YtgiabadkbfbilaaB
/- from XWC -/
namespace Go.Proofs.Ytgiabadkbfbilaa
open Go.RowKit
set_option linter.unusedVariables false
set_option linter.unusedSimpArgs false
set_option maxRecDepth 100000

theorem al_below (w : World) (o : Obj) : Below w.heap.size w (w.alloc o) := (Below.refl _ _).alloc (Nat.le_refl _) o

theorem isOneDigit_any (n b : Int) (w : World) :
    Calls Try.prog 142 #[.int .i64 b, .int .i64 n] w fun e w' => e = .returned (.bool (decide (n < b))) ∧ w = w' := by
  go_enter Try.func142, Try.ntmps142
  go_wp2
  go_ret
  exact ⟨by simp, rfl⟩

theorem run_len {pre rs full : List Int} (h : pre ++ rs = full) (hf : full.length ≤ 1000) : pre.length + rs.length ≤ 1000 := by
  rw [← List.length_append, h]; exact hf

theorem sd_lt (b n : Int) (hb : 2 ≤ b) (hb' : b ≤ 16) (h0 : 0 ≤ n) (h1 : n ≤ 1000000000000) : 0 ≤ sd b n ∧ sd b n ≤ n ∧ (b ≤ n → sd b n < n) :=
  let ⟨a, c, _, d⟩ := sd_bd b n hb hb' h0 h1
  ⟨a, c, d⟩

theorem productRun_until (n b : Int) (w : World) (h0 : 0 ≤ n) (h1 : n ≤ 1000000000000) (hb : 2 ≤ b) (hb' : b ≤ 16) :
    Calls Try.prog 141 #[.int .i64 n, .func (Fn.func 142) #[.int .i64 b] #[], .func (Fn.func 98) #[.int .i64 b] #[]] w fun e w' => ∃ g cap, e = .returned (.slice (some ⟨g, 0, none⟩) (pru b n).length cap) ∧ Rd w' w.heap.size (.slice (some ⟨g, 0, none⟩) (pru b n).length cap) (pru b n) ∧ Below w.heap.size w w' := by
  obtain ⟨xs, hxs⟩ : ∃ xs, xs = pru b n := ⟨_, rfl⟩
  have hlen : xs.length ≤ 1000 := by rw [hxs]; exact pru_len b n hb hb' h0 h1
  have HX := Lib.hid hxs
  clear hxs
  rw [← HX.out]
  go_enter Try.func141, Try.ntmps141
  go_wp2
  go_loopw [7, 8] (fun o i wr => ∃ (m : Int) (u : Value) (pre : List Int), u = o ∧ i = .int .i64 m ∧ 0 ≤ m ∧ m ≤ 1000000000000 ∧ Rd wr w.heap.size u (pre ++ [m]) ∧ Hid (pre ++ ru b (pd b) m = xs) ∧ Below w.heap.size w wr) (fun _ i _ => (intOf i).toNat)
  case atStart => exact ⟨n, _, [], rfl, rfl, h0, h1, Rd.lit _ _, Lib.hid (by rw [HX.out]; rfl), al_below _ _⟩
  case round =>
    obtain ⟨m, u, pre, rfl, rfl, m0, m1, hr, HE, hbl⟩ := hrel
    have HR := Lib.hid hr
    have HB := Lib.hid hbl
    have hpl := run_len HE.out hlen
    clear hr hbl
    by_cases hm : b ≤ m
    · have a1 : decide (m < b) = false := decide_eq_false (by omega)
      obtain ⟨p0, p1, p2⟩ := pd_lt b m hb hb' m0 m1
      have p3 := p2 hm
      have HN := Lib.hid (ru_step (f := pd b) hm p0 p3)
      obtain ⟨y, hy⟩ : ∃ y, y = pd b m := ⟨_, rfl⟩
      have HY := Lib.hid hy
      rw [← hy] at p0 p1 p3
      clear p2 hy
      have hsz := HB.out.size
      go_wp2_with (first | (go_at_call 142; refine (isOneDigit_any _ _ _).mono ?_; rintro e w1 ⟨rfl, rfl⟩) | (go_at_call 98; refine (digitProduct_any _ _ _ m0 m1 hb hb').mono ?_; rintro e w1 ⟨rfl, hb1⟩; have HR1 := Lib.hid (HR.out.keep hb1); have HB1 := Lib.hid (Below.step HB.out HB.out.size hb1); have hsz1 := HB1.out.size; clear hb1) | (at_builtin; refine wpList_appR rfl _ _ rfl w.heap.size w.heap.size _ _ (pre ++ [m]) [pd b m] rfl rfl (HR1.out.alloc _) (Rd.litB _ _ _ (by omega)) (by simp; omega) (by simp; omega) ?_; intro v1 w2 hr1 hg1 hb2; have HR2 := Lib.hid hr1; have HB2 := Lib.hid ((HB1.out.alloc (by omega) _).trans hb2); clear hr1 hg1 hb2))
      go_roundw
      case rel => exact ⟨pd b m, _, pre ++ [m], rfl, rfl, by rw [← HY.out]; exact p0, by rw [← HY.out]; omega, HR2.out, Lib.hid (by rw [List.append_assoc, ← HE.out, HN.out]; rfl), HB2.out⟩
      case measure => (simp only [intOf]; have hy := HY.out; unfold pd at hy; rw [← hy]; omega)
    · have a1 : decide (m < b) = true := decide_eq_true (by omega)
      have HN := Lib.hid (ru_end (f := pd b) hm)
      obtain ⟨g, cap, rfl⟩ : ∃ g cap, u = .slice (some ⟨g, 0, none⟩) (pre ++ [m]).length cap := by
        rcases HR.out.cases with ⟨_, hx⟩ | ⟨g, cap, hu, _⟩
        · simp at hx
        · exact ⟨g, cap, hu⟩
      have HQ := Lib.hid (show pre ++ [m] = xs by rw [← HE.out, HN.out])
      go_wp2_with (go_at_call 142; refine (isOneDigit_any _ _ _).mono ?_; rintro e w1 ⟨rfl, rfl⟩)
      go_ret
      exact ⟨g, cap, by rw [← HQ.out, List.length_append]; rfl, by rw [← HQ.out]; exact HR.out, HB.out⟩

theorem productRun_any (n b : Int) (w : World) (h0 : 0 ≤ n) (h1 : n ≤ 1000000000000) (hb : 2 ≤ b) (hb' : b ≤ 16) :
    Calls Try.prog 91 #[.int .i64 b, .int .i64 n] w fun e w' => ∃ g cap, e = .returned (.slice (some ⟨g, 0, none⟩) (pru b n).length cap) ∧ Rd w' w.heap.size (.slice (some ⟨g, 0, none⟩) (pru b n).length cap) (pru b n) ∧ Below w.heap.size w w' := by
  go_enter Try.func91, Try.ntmps91
  go_wp2_with (go_at_call 141; refine (productRun_until _ _ _ h0 h1 hb hb').mono ?_; rintro e w1 ⟨g, cap, rfl, hr, hbl⟩; have HB := Lib.hid hbl; have HR := Lib.hid hr; clear hbl hr)
  go_ret
  exact ⟨g, cap, rfl, HR.out, HB.out⟩

theorem productRun_l (n b : Int) (w : World) (h0 : 0 ≤ n) (h1 : n ≤ 1000000000000) (hb : 2 ≤ b) (hb' : b ≤ 16) :
    Calls Try.prog 91 #[.int .i64 b, .int .i64 n] w fun e w' => ∃ v, e = .returned v ∧ Rd w' w.heap.size v (pru b n) ∧ Below w.heap.size w w' :=
  (productRun_any n b w h0 h1 hb hb').mono fun _ _ ⟨_, _, h1, h2, h3⟩ => ⟨_, h1, h2, h3⟩

theorem persistence_any (n b : Int) (w : World) (h0 : 0 ≤ n) (h1 : n ≤ 1000000000000) (hb : 2 ≤ b) (hb' : b ≤ 16) :
    Calls Try.prog 95 #[.int .i64 b, .int .i64 n] w fun e w' => e = .returned (.int .i64 (((pru b n).length : Int) - 1)) ∧ Below w.heap.size w w' := by
  have hlen := pru_len b n hb hb' h0 h1
  go_enter Try.func95, Try.ntmps95
  go_wp2_with (go_at_call 91; refine (productRun_any _ _ _ h0 h1 hb hb').mono ?_; rintro e w1 ⟨g, cap, rfl, hr, hbl⟩; have HB := Lib.hid hbl; have HR := Lib.hid hr; clear hbl hr)
  go_ret
  exact ⟨by first | rfl | go_num, HB.out⟩

theorem prRun_p (n b : Int) (w : World) (h0 : 0 ≤ n) (h1 : n ≤ 1000000000000) (hb : 2 ≤ b) (hb' : b ≤ 16) :
    Calls Try.prog 93 #[.int .i64 n, .int .i64 b, .bool false] w fun e w' => ∃ g cap, e = .returned (.slice (some ⟨g, 0, none⟩) (pru b n).length cap) ∧ Rd w' w.heap.size (.slice (some ⟨g, 0, none⟩) (pru b n).length cap) (pru b n) ∧ Below w.heap.size w w' := by
  obtain ⟨xs, hxs⟩ : ∃ xs, xs = pru b n := ⟨_, rfl⟩
  have hlen : xs.length ≤ 1000 := by rw [hxs]; exact pru_len b n hb hb' h0 h1
  have HX := Lib.hid hxs
  clear hxs
  rw [← HX.out]
  go_enter Try.func93, Try.ntmps93
  go_wp2
  go_loopw [0, 7] (fun i o wr => ∃ (m : Int) (u : Value) (pre : List Int), u = o ∧ i = .int .i64 m ∧ 0 ≤ m ∧ m ≤ 1000000000000 ∧ Rd wr w.heap.size u (pre ++ [m]) ∧ Hid (pre ++ ru b (pd b) m = xs) ∧ Below w.heap.size w wr) (fun i _ _ => (intOf i).toNat)
  case atStart => exact ⟨n, _, [], rfl, rfl, h0, h1, Rd.lit _ _, Lib.hid (by rw [HX.out]; rfl), al_below _ _⟩
  case round =>
    obtain ⟨m, u, pre, rfl, rfl, m0, m1, hr, HE, hbl⟩ := hrel
    have HR := Lib.hid hr
    have HB := Lib.hid hbl
    have hpl := run_len HE.out hlen
    clear hr hbl
    by_cases hm : b ≤ m
    · obtain ⟨p0, p1, p2⟩ := pd_lt b m hb hb' m0 m1
      have p3 := p2 hm
      have HN := Lib.hid (ru_step (f := pd b) hm p0 p3)
      obtain ⟨y, hy⟩ : ∃ y, y = pd b m := ⟨_, rfl⟩
      have HY := Lib.hid hy
      rw [← hy] at p0 p1 p3
      have hall := Lib.hid (dgs_all b m hb m0)
      have hlen1 := Lib.hid (dgs_len40 b m hb m0 m1)
      clear p2 hy
      have hsz := HB.out.size
      go_wp2_with (first | (go_at_call 145; refine (dgOf_s _ _ _ m0 m1 hb hb').mono ?_; rintro e w1 ⟨g, cap, rfl, hrd, hb1⟩; have HRd := Lib.hid hrd; have HR1 := Lib.hid (HR.out.keep hb1); have HB1 := Lib.hid (Below.step HB.out HB.out.size hb1); have hsz1 := HB1.out.size; clear hb1 hrd) | (go_at_call 146; refine (dgProduct_any _ _ _ _ HRd.out (by have := hlen1.out; omega)).mono ?_; rintro e w2 ⟨rfl, rfl⟩) | (at_builtin; refine wpList_appR rfl _ _ rfl w.heap.size w.heap.size _ _ (pre ++ [m]) [pd b m] rfl rfl (HR1.out.alloc _) (Rd.litB _ _ _ (by omega)) (by simp; omega) (by simp; omega) ?_; intro v1 w2 hr1 hg1 hb2; have HR2 := Lib.hid hr1; have HB2 := Lib.hid ((HB1.out.alloc (by omega) _).trans hb2); clear hr1 hg1 hb2))
      go_roundw
      case rel => exact ⟨pd b m, _, pre ++ [m], rfl, rfl, by rw [← HY.out]; exact p0, by rw [← HY.out]; omega, HR2.out, Lib.hid (by rw [List.append_assoc, ← HE.out, HN.out]; rfl), HB2.out⟩
      case measure => (simp only [intOf]; have hy := HY.out; unfold pd at hy; rw [← hy]; omega)
    · have HN := Lib.hid (ru_end (f := pd b) hm)
      obtain ⟨g, cap, rfl⟩ : ∃ g cap, u = .slice (some ⟨g, 0, none⟩) (pre ++ [m]).length cap := by
        rcases HR.out.cases with ⟨_, hx⟩ | ⟨g, cap, hu, _⟩
        · simp at hx
        · exact ⟨g, cap, hu⟩
      have HQ := Lib.hid (show pre ++ [m] = xs by rw [← HE.out, HN.out])
      go_wp2
      go_ret
      exact ⟨g, cap, by rw [← HQ.out, List.length_append]; rfl, by rw [← HQ.out]; exact HR.out, HB.out⟩

theorem prRun_s (n b : Int) (w : World) (h0 : 0 ≤ n) (h1 : n ≤ 1000000000000) (hb : 2 ≤ b) (hb' : b ≤ 16) :
    Calls Try.prog 93 #[.int .i64 n, .int .i64 b, .bool true] w fun e w' => ∃ g cap, e = .returned (.slice (some ⟨g, 0, none⟩) (sru b n).length cap) ∧ Rd w' w.heap.size (.slice (some ⟨g, 0, none⟩) (sru b n).length cap) (sru b n) ∧ Below w.heap.size w w' := by
  obtain ⟨xs, hxs⟩ : ∃ xs, xs = sru b n := ⟨_, rfl⟩
  have hlen : xs.length ≤ 1000 := by rw [hxs]; exact sru_len b n hb hb' h0 h1
  have HX := Lib.hid hxs
  clear hxs
  rw [← HX.out]
  go_enter Try.func93, Try.ntmps93
  go_wp2
  go_loopw [0, 7] (fun i o wr => ∃ (m : Int) (u : Value) (pre : List Int), u = o ∧ i = .int .i64 m ∧ 0 ≤ m ∧ m ≤ 1000000000000 ∧ Rd wr w.heap.size u (pre ++ [m]) ∧ Hid (pre ++ ru b (sd b) m = xs) ∧ Below w.heap.size w wr) (fun i _ _ => (intOf i).toNat)
  case atStart => exact ⟨n, _, [], rfl, rfl, h0, h1, Rd.lit _ _, Lib.hid (by rw [HX.out]; rfl), al_below _ _⟩
  case round =>
    obtain ⟨m, u, pre, rfl, rfl, m0, m1, hr, HE, hbl⟩ := hrel
    have HR := Lib.hid hr
    have HB := Lib.hid hbl
    have hpl := run_len HE.out hlen
    clear hr hbl
    by_cases hm : b ≤ m
    · obtain ⟨p0, p1, p2⟩ := sd_lt b m hb hb' m0 m1
      have p3 := p2 hm
      have HN := Lib.hid (ru_step (f := sd b) hm p0 p3)
      obtain ⟨y, hy⟩ : ∃ y, y = sd b m := ⟨_, rfl⟩
      have HY := Lib.hid hy
      rw [← hy] at p0 p1 p3
      have hall := Lib.hid (dgs_all b m hb m0)
      have hlen1 := Lib.hid (dgs_len40 b m hb m0 m1)
      clear p2 hy
      have hsz := HB.out.size
      go_wp2_with (first | (go_at_call 145; refine (dgOf_s _ _ _ m0 m1 hb hb').mono ?_; rintro e w1 ⟨g, cap, rfl, hrd, hb1⟩; have HRd := Lib.hid hrd; have HR1 := Lib.hid (HR.out.keep hb1); have HB1 := Lib.hid (Below.step HB.out HB.out.size hb1); have hsz1 := HB1.out.size; clear hb1 hrd) | (go_at_call 144; refine (dgSum_any _ _ _ _ HRd.out (fun x hx => by have := hall.out x hx; omega) (by have := hlen1.out; omega)).mono ?_; rintro e w2 ⟨rfl, rfl⟩) | (at_builtin; refine wpList_appR rfl _ _ rfl w.heap.size w.heap.size _ _ (pre ++ [m]) [sd b m] rfl rfl (HR1.out.alloc _) (Rd.litB _ _ _ (by omega)) (by simp; omega) (by simp; omega) ?_; intro v1 w2 hr1 hg1 hb2; have HR2 := Lib.hid hr1; have HB2 := Lib.hid ((HB1.out.alloc (by omega) _).trans hb2); clear hr1 hg1 hb2))
      go_roundw
      case rel => exact ⟨sd b m, _, pre ++ [m], rfl, rfl, by rw [← HY.out]; exact p0, by rw [← HY.out]; omega, HR2.out, Lib.hid (by rw [List.append_assoc, ← HE.out, HN.out]; rfl), HB2.out⟩
      case measure => (simp only [intOf]; have hy := HY.out; unfold sd at hy; rw [← hy]; omega)
    · have HN := Lib.hid (ru_end (f := sd b) hm)
      obtain ⟨g, cap, rfl⟩ : ∃ g cap, u = .slice (some ⟨g, 0, none⟩) (pre ++ [m]).length cap := by
        rcases HR.out.cases with ⟨_, hx⟩ | ⟨g, cap, hu, _⟩
        · simp at hx
        · exact ⟨g, cap, hu⟩
      have HQ := Lib.hid (show pre ++ [m] = xs by rw [← HE.out, HN.out])
      go_wp2
      go_ret
      exact ⟨g, cap, by rw [← HQ.out, List.length_append]; rfl, by rw [← HQ.out]; exact HR.out, HB.out⟩

theorem lastD_at (xs : List Int) (h : 1 ≤ xs.length) : xs[xs.length - 1]'(by omega) = lastD xs := by
  unfold lastD; rw [List.getD_eq_getElem?_getD, List.getElem?_eq_getElem (by omega)]; rfl

theorem productRoot_any (n b : Int) (w : World) (h0 : 0 ≤ n) (h1 : n ≤ 1000000000000) (hb : 2 ≤ b) (hb' : b ≤ 16) :
    Calls Try.prog 96 #[.int .i64 b, .int .i64 n] w fun e w' => e = .returned (.int .i64 (lastD (pru b n))) ∧ Below w.heap.size w w' := by
  have hlen := pru_len b n hb hb' h0 h1
  have hpos := ru_pos b (pd b) n
  change 1 ≤ (pru b n).length at hpos
  obtain ⟨xs, hxs⟩ : ∃ xs, xs = pru b n := ⟨_, rfl⟩
  have HX := Lib.hid hxs
  rw [← hxs] at hlen hpos
  clear hxs
  rw [← HX.out]
  have HL := Lib.hid (lastD_at xs hpos)
  have hix : ((xs.length : Int) - 1) = ((xs.length - 1 : Nat) : Int) := by omega
  go_enter Try.func96, Try.ntmps96
  go_wp2_with fail
  refine (productRun_any _ _ _ h0 h1 hb hb').mono ?_
  rintro e w1 ⟨g, cap, rfl, hr, hbl⟩
  rw [← HX.out] at hr
  rw [← HX.out]
  have HB := Lib.hid hbl
  have hcell := hr.at.2.2.2.2.1 (xs.length - 1) (by omega)
  rw [HL.out] at hcell
  clear hbl hr
  go_wp2
  go_ret
  exact ⟨rfl, HB.out⟩

theorem prLast_any (g cap : Nat) (xs : List Int) (B : Nat) (w : World) (h : Rd w B (.slice (some ⟨g, 0, none⟩) xs.length cap) xs) (hpos : 1 ≤ xs.length) (hlen : xs.length ≤ 1000) :
    Calls Try.prog 97 #[.slice (some ⟨g, 0, none⟩) xs.length cap] w fun e w' => e = .returned (.int .i64 (lastD xs)) ∧ w = w' := by
  have hix : ((xs.length : Int) - 1) = ((xs.length - 1 : Nat) : Int) := by omega
  have hcell := h.at.2.2.2.2.1 (xs.length - 1) (by omega)
  rw [lastD_at xs hpos] at hcell
  clear h
  go_enter Try.func97, Try.ntmps97
  go_wp2
  go_ret
  exact ⟨rfl, rfl⟩

end Go.Proofs.Ytgiabadkbfbilaa

/- from XWD -/
namespace Go.Proofs.Ytgiabadkbfbilaa
open Go.RowKit
set_option linter.unusedVariables false
set_option linter.unusedSimpArgs false
set_option maxRecDepth 100000

theorem dvo_bd {d n : Int} (hd : 2 ≤ d) (hn : 0 < n) (h : n % d = 0) (hb : n ≤ 1000000000000) : 0 < n / d ∧ n / d ≤ 1000000000000 ∧ n / d < n :=
  ⟨div_pos0 hd hn h, by have := (div_less hd hn).2; omega, (div_less hd hn).2⟩

theorem isSmooth_any (n b : Int) (w : World) (h0 : 0 ≤ n) (h1 : n ≤ 1000000000000) (hb : 2 ≤ b) (hb' : b ≤ 16) :
    Calls Try.prog 107 #[.int .i64 b, .int .i64 n] w fun e w' => e = .returned (.bool (smo b n)) ∧ Below w.heap.size w w' := by
  by_cases hz : n = 0
  · subst hz
    have HS := Lib.hid (smo_zero b)
    go_enter Try.func107, Try.ntmps107
    go_wp2
    go_ret
    exact ⟨by rw [HS.out]; rfl, Below.refl _ _⟩
  · have hpos : 0 < n := by omega
    clear hz
    go_enter Try.func107, Try.ntmps107
    go_wp2
    go_loop [1, 5] (fun m d => ∃ x y : Int, m = .int .i64 x ∧ d = .int .i64 y ∧ 2 ≤ y ∧ y ≤ 16 ∧ 0 < x ∧ x ≤ 1000000000000 ∧ Hid (smR (b - y).toNat y x = smR (b - 2).toNat 2 n)) (fun _ d => (16 - intOf d).toNat)
    case atStart => exact ⟨n, 2, rfl, rfl, by omega, by omega, hpos, h1, Lib.hid rfl⟩
    case round =>
      obtain ⟨x, y, rfl, rfl, y0, y1, x0, x1, HS⟩ := hrel
      by_cases hy : y < b
      · have HT := Lib.hid (smR_step (n := x) hy)
        go_wp2
        go_loop [1] (fun m => ∃ z : Int, m = .int .i64 z ∧ 0 < z ∧ z ≤ 1000000000000 ∧ Hid (dvo y z = dvo y x)) (fun m => (intOf m).toNat)
        case atStart => exact ⟨x, rfl, x0, x1, Lib.hid rfl⟩
        case round =>
          obtain ⟨z, rfl, z0, z1, HD⟩ := hrel
          by_cases hr : z % y = 0
          · have HE := Lib.hid (dvo_step y0 z0 hr)
            obtain ⟨q0, q1, q2⟩ := dvo_bd y0 z0 hr z1
            go_wp2
            go_round
            case rel => exact ⟨z / y, by go_num, q0, q1, Lib.hid (by rw [← HE.out, HD.out])⟩
            case measure => simp [intOf]; omega
          · have HE := Lib.hid (dvo_end (d := y) hr)
            go_wp2
            go_round
            case rel => first | exact ⟨z, y + 1, rfl, by go_num, by omega, by omega, z0, z1, Lib.hid (by rw [← HS.out, HT.out, ← HD.out, HE.out])⟩ | exact ⟨by omega, by omega, Lib.hid (by rw [← HS.out, HT.out, ← HD.out, HE.out])⟩
            case measure => simp [intOf]; omega
      · have HT := Lib.hid (smR_end (n := x) hy)
        have HQ := Lib.hid (show smo b n = decide (x = 1) by rw [smo, ← HS.out, HT.out])
        go_wp2
        go_ret
        exact ⟨by rw [HQ.out]; simp [Bool.beq_eq_decide_eq], Below.refl _ _⟩

theorem prSmooth_any (n b : Int) (w : World) (h0 : 0 ≤ n) (h1 : n ≤ 1000000000000) (hb : 2 ≤ b) (hb' : b ≤ 16) :
    Calls Try.prog 103 #[.int .i64 n, .int .i64 b] w fun e w' => e = .returned (.bool (smo b n)) ∧ w = w' := by
  go_enter Try.func103, Try.ntmps103
  go_wp2
  go_loop [0, 5] (fun m d => ∃ x y : Int, m = .int .i64 x ∧ d = .int .i64 y ∧ 2 ≤ y ∧ y ≤ 16 ∧ 0 ≤ x ∧ x ≤ 1000000000000 ∧ Hid (smR (b - y).toNat y x = smR (b - 2).toNat 2 n)) (fun _ d => (16 - intOf d).toNat)
  case atStart => exact ⟨n, 2, rfl, rfl, by omega, by omega, h0, h1, Lib.hid rfl⟩
  case round =>
    obtain ⟨x, y, rfl, rfl, y0, y1, x0, x1, HS⟩ := hrel
    by_cases hy : y < b
    · have HT := Lib.hid (smR_step (n := x) hy)
      go_wp2
      go_loop [0] (fun m => ∃ z : Int, m = .int .i64 z ∧ 0 ≤ z ∧ z ≤ 1000000000000 ∧ Hid (dvo y z = dvo y x)) (fun m => (intOf m).toNat)
      case atStart => exact ⟨x, rfl, x0, x1, Lib.hid rfl⟩
      case round =>
        obtain ⟨z, rfl, z0, z1, HD⟩ := hrel
        by_cases hp : 0 < z
        · by_cases hr : z % y = 0
          · have HE := Lib.hid (dvo_step y0 hp hr)
            obtain ⟨q0, q1, q2⟩ := dvo_bd y0 hp hr z1
            go_wp2
            go_round
            case rel => exact ⟨z / y, by go_num, by omega, q1, Lib.hid (by rw [← HE.out, HD.out])⟩
            case measure => simp [intOf]; omega
          · have HE := Lib.hid (dvo_end (d := y) hr)
            go_wp2
            go_round
            case rel => exact ⟨z, y + 1, rfl, by go_num, by omega, by omega, z0, z1, Lib.hid (by rw [← HS.out, HT.out, ← HD.out, HE.out])⟩
            case measure => simp [intOf]; omega
        · have HE := Lib.hid (dvo_zero (d := y) hp)
          go_wp2
          go_round
          case rel => exact ⟨z, y + 1, rfl, by go_num, by omega, by omega, z0, z1, Lib.hid (by rw [← HS.out, HT.out, ← HD.out, HE.out])⟩
          case measure => simp [intOf]; omega
    · have HT := Lib.hid (smR_end (n := x) hy)
      have HQ := Lib.hid (show smo b n = decide (x = 1) by rw [smo, ← HS.out, HT.out])
      go_wp2
      go_ret
      exact ⟨by rw [HQ.out]; simp [Bool.beq_eq_decide_eq], rfl⟩

theorem hsh_pos {b n s : Int} (h : s = sd b n) (hn : 0 < n) : hsh b n = decide (n % s = 0) := by
  rw [hsh, ← h, decide_eq_true hn, Bool.true_and]
theorem hsh_no {b n : Int} (hn : ¬ 0 < n) : hsh b n = false := by
  rw [hsh, decide_eq_false hn, Bool.false_and]

theorem zuk_pos {b n p : Int} (h : p = pd b n) (hn : 0 < p) : zuk b n = decide (n % p = 0) := by
  rw [zuk, ← h, decide_eq_true hn, Bool.true_and]
theorem zuk_no {b n p : Int} (h : p = pd b n) (hn : ¬ 0 < p) : zuk b n = false := by
  rw [zuk, ← h, decide_eq_false hn, Bool.false_and]

end Go.Proofs.Ytgiabadkbfbilaa
