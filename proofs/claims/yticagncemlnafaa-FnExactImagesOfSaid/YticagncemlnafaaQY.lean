/-
  Answers of ImagesOf.
-/
import Derived.Test.YticagncemlnafaaQV
import Derived.Test.YticagncemlnafaaQW
namespace Go.Proofs.Yticagncemlnafaa
open Go.RowKit
set_option linter.unusedVariables false
set_option linter.unusedSimpArgs false
set_option maxRecDepth 100000

theorem mxD_ge (f : Nat → Nat) (n : Nat) : ∀ (k x : Nat), x < k → dep f n x ≤ mxD f n k
  | 0, x, h => absurd h (Nat.not_lt_zero _)
  | k + 1, x, h => by
    simp only [mxD]
    by_cases e : x = k
    · subst e; omega
    · have := mxD_ge f n k x (by omega); omega
theorem mxD_ub (f : Nat → Nat) (n b : Nat) : ∀ k, (∀ x, x < k → dep f n x ≤ b) → mxD f n k ≤ b
  | 0, _ => Nat.zero_le _
  | k + 1, h => by
    have h1 := mxD_ub f n b k fun x hx => h x (by omega)
    have h2 := h k (by omega)
    simp only [mxD]; omega
theorem cyc_img {f : Nat → Nat} {n y : Nat} (h : Into f n) (hc : cyc f n y = true) (k : Nat) : img f n k y = true := by
  obtain ⟨p, p1, p2, p3⟩ := cyc_per h hc
  refine img_iff.2 ⟨it f (k * p - k) y, it_lt h _ (cyc_lt h hc), ?_⟩
  have hle : k ≤ k * p := Nat.le_mul_of_pos_right _ p1
  rw [← it_add, show k + (k * p - k) = k * p from by omega]
  exact it_mul p3 _
theorem stop_mxD {f : Nat → Nat} {n k : Nat} (h : Into f n) (hk : ∀ j, j < k → cnt n (img f n (j + 1)) ≠ cnt n (img f n j)) (he : cnt n (img f n (k + 1)) = cnt n (img f n k)) : k = mxD f n n := by
  have h1 := img_stop h he
  have h2 : mxD f n n ≤ k := mxD_ub f n k n fun x hx => (cyc_iff_dep h hx).1 (by rw [← h1 _ (it_lt h k hx)]; exact img_iff.2 ⟨x, hx, rfl⟩)
  by_cases h3 : mxD f n n < k
  · exfalso
    apply hk _ h3
    refine cnt_congr fun y hy => ?_
    rw [Bool.eq_iff_iff]
    constructor
    · exact img_down h
    · intro hi
      obtain ⟨x, hx, rfl⟩ := img_iff.1 hi
      exact cyc_img h ((cyc_iff_dep h hx).2 (mxD_ge f n n x hx)) _
  · omega

def imgC (f : Nat → Nat) (n i : Nat) : Nat := cnt n (img f n i)
def imgL (f : Nat → Nat) (n : Nat) : List Int := lst (mxD f n n + 1) (imgC f n)
theorem imgL_len (f : Nat → Nat) (n : Nat) (hf : Into f n) (h0 : 1 ≤ n) (h1 : n ≤ 60) : (imgL f n).length ≤ 2000000 := by unfold imgL; rw [lst_len]; have := mxD_le f n n (Nat.le_refl _); omega

theorem countImages_any (g n cap : Nat) (f : Nat → Nat) (w : World) (h : Mp w g n f) :
    Calls Try.prog 86 #[.slice (some ⟨g, 0, none⟩) n cap] w fun e w' => ∃ u, e = .returned u ∧ Rd w' w.heap.size u (imgL f n) ∧ Below w.heap.size w w' := by
  have H := Lib.hid h
  have h0 := h.n0
  have h1 := h.n1
  clear h
  go_enter Try.func86, Try.ntmps86
  go_wp2_with fail
  refine (images_any g n cap f _ H.out).mono ?_
  rintro e w1 ⟨v, bs, k, rfl, hi, hl, hkn, hk, he, hb⟩
  have HK := Lib.hid (show imgL f n = lst (k + 1) (imgC f n) by unfold imgL; rw [← stop_mxD H.out.into hk he])
  obtain ⟨gv, cv, rfl⟩ : ∃ gv cv, v = .slice (some ⟨gv, 0, none⟩) (k + 1) cv := by
    rcases hi.1.cases with ⟨_, h2⟩ | ⟨gv, cv, hv⟩
    · exact absurd (congrArg List.length h2) (by rw [List.length_map, hl]; simp)
    · rw [List.length_map, hl] at hv; exact ⟨gv, cv, hv⟩
  have HI := Lib.hid hi
  have HL := Lib.hid hl
  have HB1 := Lib.hid hb
  clear hi hl hk he hb
  go_wp2
  go_loopw [3, 9] (fun u i wr => ∃ j : Nat, j ≤ k + 1 ∧ i = .int .i64 j ∧ Rd wr w1.heap.size u (lst j (imgC f n)) ∧ Below w1.heap.size w1 wr) (fun _ i _ => k + 1 - (intOf i).toNat)
  case atStart => exact ⟨0, Nat.zero_le _, rfl, Rd.nil _ _, Below.refl _ _⟩
  case round =>
    obtain ⟨j, hj, rfl, hr, hb⟩ := hrel
    have HR := Lib.hid hr
    have HB := Lib.hid hb
    clear hr hb
    by_cases hlt : j < k + 1
    · obtain ⟨b, hbk⟩ : ∃ b, bs[j]? = some b := ⟨bs[j]'(by have := HL.out; omega), by simp⟩
      have hIk := HI.out.keep HB.out
      have HS := Lib.hid (hIk.2 j b hbk).2
      have hcell : wr.cell? ⟨gv, j, none⟩ = some (.map (some b)) := by
        obtain ⟨_, _, _, _, _, hc, _⟩ := hIk.1.at
        obtain ⟨i1, i2⟩ := List.getElem?_eq_some_iff.1 hbk
        rw [hc j (by rw [List.length_map]; exact i1)]
        simp [i2]
      have HLL := Lib.hid (lst_len j (imgC f n))
      clear hbk hIk
      go_wp2_with (first | (at_len; refine wpList_lenS rfl _ rfl n b _ rfl HS.out ?_) | (at_builtin; refine wpList_appR rfl _ _ rfl w1.heap.size w1.heap.size _ _ (lst j (imgC f n)) [((cnt n (img f n j) : Nat) : Int)] rfl rfl (HR.out.alloc _) (Rd.litB _ _ _ HB.out.size) (by rw [HLL.out]; simp; omega) (by have := HB.out.size; simp; omega) ?_; intro v1 w3 hr1 hg1 hb1))
      have HR3 := Lib.hid hr1
      have HB3 := Lib.hid ((HB.out.alloc HB.out.size _).trans hb1)
      clear hr1 hg1 hb1
      go_wp2
      go_roundw
      case rel => exact ⟨j + 1, by omega, by go_num, by rw [lst_succ]; exact HR3.out, HB3.out⟩
      case measure => simp [intOf]; omega
    · obtain rfl : j = k + 1 := by omega
      go_wp2
      go_ret
      exact ⟨_, rfl, by rw [HK.out]; exact HR.out.mono HB1.out.size, Below.step HB1.out HB1.out.size HB.out⟩

theorem mpPower_any (g n cap : Nat) (f : Nat → Nat) (K : Nat) (w : World) (h : Mp w g n f) (hK : K ≤ 1000000) :
    Calls Try.prog 84 #[.slice (some ⟨g, 0, none⟩) n cap, .int .i64 (K : Int)] w fun e w' => ∃ u, e = .returned u ∧ Rd w' w.heap.size u (lst n (it f K)) ∧ Below w.heap.size w w' := by
  have H := Lib.hid h
  have h0 := h.n0
  have h1 := h.n1
  clear h
  go_enter Try.func84, Try.ntmps84
  go_wp2
  go_loopw [5, 9] (fun u i wr => ∃ j : Nat, j ≤ n ∧ i = .int .i64 j ∧ Rd wr w.heap.size u (lst j (it f K)) ∧ Below w.heap.size w wr) (fun _ i _ => n - (intOf i).toNat)
  case atStart => exact ⟨0, Nat.zero_le _, rfl, Rd.nil _ _, Below.refl _ _⟩
  case round =>
    obtain ⟨j, hj, rfl, hr, hb⟩ := hrel
    have HR := Lib.hid hr
    have HB := Lib.hid hb
    clear hr hb
    by_cases hlt : j < n
    · have HLL := Lib.hid (lst_len j (it f K))
      go_wp2_with (first | (go_at_call 62; refine (mpAt_any g n cap f j K _ (H.out.keep HB.out) hlt hK).mono ?_; rintro e w2 ⟨rfl, rfl⟩) | (at_builtin; refine wpList_appR rfl _ _ rfl w.heap.size w.heap.size _ _ (lst j (it f K)) [((it f K j : Nat) : Int)] rfl rfl (HR.out.alloc _) (Rd.litB _ _ _ HB.out.size) (by rw [HLL.out]; simp; omega) (by have := HB.out.size; simp; omega) ?_; intro v1 w3 hr1 hg1 hb1))
      have HR3 := Lib.hid hr1
      have HB3 := Lib.hid ((HB.out.alloc HB.out.size _).trans hb1)
      clear hr1 hg1 hb1
      go_wp2
      go_roundw
      case rel => exact ⟨j + 1, by omega, by go_num, by rw [lst_succ]; exact HR3.out, HB3.out⟩
      case measure => simp [intOf]; omega
    · obtain rfl : j = n := by omega
      go_wp2
      go_ret
      exact ⟨_, rfl, HR.out, HB.out⟩

/-- The numbers that the first j of a list are, in order, each once. -/
def Seen (f : Nat → Nat) (K j : Nat) (ys : List Int) : Prop := ys.Pairwise (· < ·) ∧ ∀ z, z ∈ ys ↔ ∃ x, x < j ∧ ((it f K x : Nat) : Int) = z
theorem Seen.len {f : Nat → Nat} {n K j : Nat} {ys : List Int} (h : Into f n) (hs : Seen f K j ys) (hj : j ≤ n) : ys.length ≤ n := by
  have hn : ys.Nodup := hs.1.imp (fun hab e => by omega)
  have := hn.length_le_of_subset (l₂ := lst n id) (fun z hz => by
    obtain ⟨x, hx, rfl⟩ := (hs.2 z).1 hz
    unfold lst
    exact List.mem_map.2 ⟨it f K x, List.mem_range.2 (it_lt h K (by omega)), rfl⟩)
  rw [lst_len] at this
  exact this
theorem Seen.step {f : Nat → Nat} {K j : Nat} {ys zs : List Int} (hs : Seen f K j ys) (h1 : zs.Pairwise (· < ·)) (h2 : ∀ z, z ∈ zs ↔ z ∈ ys ∨ z = ((it f K j : Nat) : Int)) : Seen f K (j + 1) zs := by
  refine ⟨h1, fun z => ?_⟩
  rw [h2 z, hs.2 z]
  constructor
  · rintro (⟨x, hx, he⟩ | he)
    · exact ⟨x, by omega, he⟩
    · exact ⟨j, by omega, he.symm⟩
  · rintro ⟨x, hx, he⟩
    by_cases e : x = j
    · subst e; exact .inr he.symm
    · exact .inl ⟨x, by omega, he⟩
theorem Seen.count {f : Nat → Nat} {n K : Nat} {ys : List Int} (h : Into f n) (hs : Seen f K n ys) : ys.length = cnt n (img f n K) := by
  have hn : ys.Nodup := hs.1.imp (fun hab e => by omega)
  have hm : (nts (inOrder n (img f n K))).Nodup := by
    unfold nts List.Nodup
    rw [List.pairwise_map]
    refine (List.Pairwise.filter _ (List.pairwise_lt_range (n := n))).imp ?_
    intro a b hab e
    omega
  have hp : ys.Perm (nts (inOrder n (img f n K))) := (List.perm_ext_iff_of_nodup hn hm).2 fun z => by
    rw [hs.2 z]
    unfold nts inOrder
    simp only [List.mem_map, List.mem_filter, List.mem_range]
    constructor
    · rintro ⟨x, hx, rfl⟩; exact ⟨_, ⟨it_lt h K hx, img_iff.2 ⟨x, hx, rfl⟩⟩, rfl⟩
    · rintro ⟨y, ⟨_, hy⟩, rfl⟩
      obtain ⟨x, hx, rfl⟩ := img_iff.1 hy
      exact ⟨x, hx, rfl⟩
  rw [hp.length_eq, nts_len]
  rfl

def OK_ImagesOf (xs : List Int) : Bool := goodM xs
def LF_ImagesOf (xs : List Int) : List Int := if goodM xs = true then imgL (fnO xs) xs.length else []
theorem LF_ImagesOf_len (xs : List Int) (h : xs.length ≤ 1048576) : (LF_ImagesOf xs).length ≤ 2000000 := by
  unfold LF_ImagesOf
  split
  · rename_i hq
    obtain ⟨hc, h1, h2, h3⟩ := good_can hq
    have := imgL_len (fnO xs) xs.length h3 h1 h2
    omega
  · simp

theorem ask_countImages (v : Value) (xs : List Int) (B : Nat) (w : World) (h : Rd w B v xs) (hl : xs.length ≤ 1048576) :
    Calls Try.prog 74 #[v, .func (Fn.func 86) #[] #[]] w fun e w' => ∃ u, e = .returned (.tuple #[u, .bool (OK_ImagesOf xs)]) ∧ Rd w' w.heap.size u (LF_ImagesOf xs) ∧ Below w.heap.size w w' := by
  have H := Lib.hid h
  by_cases hq : goodM xs = true
  · obtain ⟨g, n, cap, f, rfl, hm, hn, hf, hxs, _⟩ := h.good hq
    have HM := Lib.hid hm
    have n0 := hm.n0
    have n1 := hm.n1
    have HN := Lib.hid hn
    have HO := Lib.hid (show OK_ImagesOf xs = true from hq)
    have HL := Lib.hid (show LF_ImagesOf xs = imgL f n by unfold LF_ImagesOf; rw [if_pos hq, ← hf, ← hn])
    clear h hm hn hf hxs hl
    go_enter Try.func74, Try.ntmps74
    go_wp2_with (first | (go_at_call 21; refine (IsMap_any _ xs _ _ H.out (by have := HN.out; omega)).mono ?_; rintro e w1 ⟨rfl, rfl⟩) | (go_at_call 86; refine (countImages_any g n cap f _ HM.out).mono ?_; rintro e w1 ⟨u, rfl, hr, hb⟩; have HR := Lib.hid hr; have HB := Lib.hid hb; clear hr hb))
    go_ret2
    exact ⟨_, by rw [HO.out]; rfl, by rw [HL.out]; exact HR.out, HB.out⟩
  · have hq' : goodM xs = false := by simpa using hq
    have HO := Lib.hid (show OK_ImagesOf xs = false from hq')
    have HL := Lib.hid (show LF_ImagesOf xs = [] by unfold LF_ImagesOf; rw [hq']; rfl)
    clear h hq
    go_enter Try.func74, Try.ntmps74
    go_wp2_with (go_at_call 21; refine (IsMap_any _ xs _ _ H.out (by omega)).mono ?_; rintro e w1 ⟨rfl, rfl⟩)
    go_ret2
    exact ⟨_, by rw [HO.out]; rfl, by rw [HL.out]; exact Rd.nil _ _, Below.refl _ _⟩

theorem impl_ImagesOf (v : Value) (xs : List Int) (B : Nat) (w : World) (h : Rd w B v xs) (hl : xs.length ≤ 1048576) :
    Calls Try.prog 51 #[v] w fun e w' => ∃ u, e = .returned (.tuple #[u, .bool (OK_ImagesOf xs)]) ∧ Rd w' w.heap.size u (LF_ImagesOf xs) ∧ Below w.heap.size w w' := by
  have H := Lib.hid h
  clear h
  go_enter Try.func51, Try.ntmps51
  go_wp2_with (go_at_call 74; refine (ask_countImages _ xs _ _ H.out hl).mono ?_; rintro e w1 ⟨u, rfl, hr, hb⟩; have HR := Lib.hid hr; have HB := Lib.hid hb; clear hr hb)
  go_ret2
  exact ⟨_, rfl, HR.out, HB.out⟩

theorem spec_ImagesOf (v : Value) (xs : List Int) (B : Nat) (w : World) (h : Rd w B v xs) (hl : xs.length ≤ 1048576) :
    Calls Try.prog 50 #[v] w fun e w' => ∃ u, e = .returned (.tuple #[u, .bool (OK_ImagesOf xs)]) ∧ Rd w' w.heap.size u (LF_ImagesOf xs) ∧ Below w.heap.size w w' := by
  have H := Lib.hid h
  by_cases hq : goodM xs = true
  · obtain ⟨g, n, cap, f, rfl, hm, hn, hf, hxs, _⟩ := h.good hq
    have HM := Lib.hid hm
    have n0 := hm.n0
    have n1 := hm.n1
    have HN := Lib.hid hn
    have HO := Lib.hid (show OK_ImagesOf xs = true from hq)
    have HL := Lib.hid (show LF_ImagesOf xs = imgL f n by unfold LF_ImagesOf; rw [if_pos hq, ← hf, ← hn])
    clear h hm hn hf hxs hl
    obtain ⟨M, hM⟩ : ∃ M, M = mxD f n n := ⟨_, rfl⟩
    have HMX := Lib.hid hM
    have hM60 : M ≤ 60 := by rw [hM]; have := mxD_le f n n (Nat.le_refl _); omega
    have HLI := Lib.hid (show imgL f n = lst (M + 1) (imgC f n) by unfold imgL; rw [hM])
    clear hM
    go_enter Try.func50, Try.ntmps50
    go_wp2_with (go_at_call 58; refine (mpGood_any _ xs _ _ H.out (by have := HN.out; omega)).mono ?_; rintro e w1 ⟨rfl, rfl⟩)
    go_loopw [4, 5] (fun u i wr => ∃ k : Nat, k ≤ M + 1 ∧ i = .int .i64 k ∧ Rd wr w.heap.size u (lst k (imgC f n)) ∧ Below w.heap.size w wr) (fun _ i _ => M + 1 - (intOf i).toNat)
    case atStart => exact ⟨0, Nat.zero_le _, rfl, Rd.nil _ _, Below.refl _ _⟩
    case round =>
      obtain ⟨k, hk, rfl, hr, hb⟩ := hrel
      have HR := Lib.hid hr
      have HB := Lib.hid hb
      clear hr hb
      go_wp2_with fail
      refine (mpDeepest_any g n cap f _ (HM.out.keep HB.out)).mono ?_
      rw [← HMX.out]
      rintro e w2 ⟨rfl, hb⟩
      have HR2 := Lib.hid (HR.out.keep hb)
      have HB2 := Lib.hid (Below.step HB.out HB.out.size hb)
      clear hb
      by_cases hlt : k ≤ M
      · have hlti : (k : Int) ≤ (M : Int) := by omega
        go_wp2_with fail
        refine (mpPower_any g n cap f k _ (HM.out.keep HB2.out) (by omega)).mono ?_
        rintro e w3 ⟨u3, rfl, hr, hb⟩
        obtain ⟨gp, cp, rfl⟩ : ∃ gp cp, u3 = .slice (some ⟨gp, 0, none⟩) n cp := by
          rcases hr.cases with ⟨_, hx⟩ | ⟨gd, cd, hu, _⟩
          · have := congrArg List.length hx; rw [lst_len] at this; simp at this; omega
          · rw [lst_len] at hu; exact ⟨gd, cd, hu⟩
        have HP3 := Lib.hid hr
        have HR3 := Lib.hid (HR2.out.keep hb)
        have HB3 := Lib.hid (Below.step HB2.out HB2.out.size hb)
        clear hr hb
        go_wp2
        go_loopw [6, 22] (fun s i wr => ∃ (j : Nat) (ys : List Int), j ≤ n ∧ i = .int .i64 j ∧ Rd wr w3.heap.size s ys ∧ Seen f k j ys ∧ Below w3.heap.size w3 wr) (fun _ i _ => n - (intOf i).toNat)
        case atStart => exact ⟨0, [], Nat.zero_le _, rfl, Rd.nil _ _, ⟨List.Pairwise.nil, fun z => by simp⟩, Below.refl _ _⟩
        case round =>
          obtain ⟨j, ys, hj, rfl, hr, hs, hb⟩ := hrel
          have HRj := Lib.hid hr
          have HSj := Lib.hid hs
          have HBj := Lib.hid hb
          have HLY := Lib.hid (hs.len HM.out.into hj)
          clear hr hs hb
          by_cases hjn : j < n
          · have hcell : wr.cell? ⟨gp, j, none⟩ = some (.int .i64 ((it f k j : Nat) : Int)) := by
              rw [(HP3.out.keep HBj.out).at.2.2.2.2.1 j (by rw [lst_len]; exact hjn), lst_at]
            go_wp2_with fail
            refine (l1Put_any _ ys _ w3.heap.size _ HRj.out HBj.out.size (Nat.le_trans HLY.out n1) HSj.out.1).mono ?_
            rintro e w4 ⟨u4, rfl, zs, hr, h1, h2, hb⟩
            have HR4 := Lib.hid hr
            have HS4 := Lib.hid (HSj.out.step h1 h2)
            have HB4 := Lib.hid (Below.step HBj.out HBj.out.size hb)
            clear hr h1 h2 hb
            go_wp2
            go_roundw
            case rel => exact ⟨j + 1, zs, by omega, by go_num, HR4.out, HS4.out, HB4.out⟩
            case measure => simp [intOf]; omega
          · obtain rfl : j = n := by omega
            obtain ⟨a5, c5, hsh⟩ : ∃ a5 c5, u6 = .slice a5 ys.length c5 := by
              rcases HRj.out.cases with ⟨hu, hx⟩ | ⟨gs, cs, hu, _⟩
              · exact ⟨none, 0, by rw [hu, hx]; rfl⟩
              · exact ⟨_, _, hu⟩
            subst hsh
            have HCT := Lib.hid (HSj.out.count HM.out.into)
            obtain ⟨c, hc⟩ : ∃ c, c = ys.length := ⟨_, rfl⟩
            have HC := Lib.hid hc
            rw [← hc]
            clear hc
            have HLL := Lib.hid (lst_len k (imgC f j))
            have HBw := Lib.hid (Below.step HB3.out HB3.out.size HBj.out)
            have HRk := Lib.hid (HR3.out.keep HBj.out)
            go_wp2_with (at_builtin; refine wpList_appR rfl _ _ rfl w.heap.size w.heap.size _ _ (lst k (imgC f j)) [(c : Int)] rfl rfl (HRk.out.alloc _) (Rd.litB _ _ _ HBw.out.size) (by rw [HLL.out]; simp; omega) (by have := HBw.out.size; simp; omega) ?_; intro v1 w5 hr1 hg1 hb1)
            have HR5 := Lib.hid hr1
            have HB5 := Lib.hid ((HBw.out.alloc HBw.out.size _).trans hb1)
            have HLS := Lib.hid (show lst (k + 1) (imgC f j) = lst k (imgC f j) ++ [(c : Int)] by rw [lst_succ]; unfold imgC; rw [HC.out, HCT.out])
            clear hr1 hg1 hb1
            go_wp2
            go_roundw
            case rel => exact ⟨k + 1, by omega, by go_num, by rw [HLS.out]; exact HR5.out, HB5.out⟩
            case measure => simp [intOf]; omega
      · have hlti : (M : Int) < (k : Int) := by omega
        obtain rfl : k = M + 1 := by omega
        go_wp2
        go_ret2
        exact ⟨_, by rw [HO.out]; rfl, by rw [HL.out, HLI.out]; exact HR2.out, HB2.out⟩
  · have hq' : goodM xs = false := by simpa using hq
    have HO := Lib.hid (show OK_ImagesOf xs = false from hq')
    have HL := Lib.hid (show LF_ImagesOf xs = [] by unfold LF_ImagesOf; rw [hq']; rfl)
    clear h hq
    go_enter Try.func50, Try.ntmps50
    go_wp2_with (go_at_call 58; refine (mpGood_any _ xs _ _ H.out (by omega)).mono ?_; rintro e w1 ⟨rfl, rfl⟩)
    go_ret2
    exact ⟨_, by rw [HO.out]; rfl, by rw [HL.out]; exact Rd.nil _ _, Below.refl _ _⟩

end Go.Proofs.Yticagncemlnafaa
