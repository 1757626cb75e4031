/-
  ParseNumber: the model, the program, the law.
-/
import Derived.Test.YtdlohdjejmpmcaaNT
import Derived.Test.YtdlohdjejmpmcaaN
namespace Go.Proofs.Ytdlohdjejmpmcaa
open Go.RowKit
set_option linter.unusedVariables false
set_option linter.unusedSimpArgs false

abbrev L16 : List UInt8 := [48, 49, 50, 51, 52, 53, 54, 55, 56, 57, 97, 98, 99, 100, 101, 102]
theorem L16_at (t : Nat) (h : t < L16.length) : L16[t] = ltr t := ltr_at t h
theorem L16_len : L16.length = 16 := rfl

theorem idx_spec (l : List UInt8) (c : UInt8) : (Lib.indexByte l c = -1 ∧ ∀ t (h : t < l.length), l[t] ≠ c) ∨ ∃ t, ∃ h : t < l.length, Lib.indexByte l c = (t : Int) ∧ l[t] = c ∧ ∀ u (hu : u < t), l[u]'(by omega) ≠ c := by
  induction l with
  | nil => left; exact ⟨rfl, fun t h => by simp at h⟩
  | cons b l ih =>
    by_cases hb : b = c
    · right
      refine ⟨0, by simp, by simp [Lib.indexByte, hb], by simpa using hb, fun u hu => by omega⟩
    · have hb' : (b == c) = false := by simpa using hb
      rcases ih with ⟨h1, h2⟩ | ⟨t, ht, h1, h2, h3⟩
      · left
        refine ⟨by simp [Lib.indexByte, hb', h1], fun t h => ?_⟩
        cases t with
        | zero => simpa using hb
        | succ t => simpa using h2 t (by simpa using h)
      · right
        refine ⟨t + 1, by simpa using ht, ?_, by simpa using h2, fun u hu => ?_⟩
        · have hne : ((t : Int) == -1) = false := by rw [beq_eq_false_iff_ne]; omega
          simp [Lib.indexByte, hb', h1, hne]
        · cases u with
          | zero => simpa using hb
          | succ u => simpa using h3 u (by omega)

/-- The digit of a letter, as the program finds it. -/
def idx (c : UInt8) : Int := Lib.indexByte L16 c
/-- .. and as the model finds it: the base for a letter that is none. -/
def OkD (b : Nat) (c : UInt8) (y : Int) : Prop := ∃ j : Nat, y = (j : Int) ∧ j ≤ b ∧ (∀ t, t < j → ltr t ≠ c) ∧ (j < b → ltr j = c)

theorem okD_idx (b : Nat) (c : UInt8) (y : Int) (hb : 2 ≤ b) (hb' : b ≤ 16) (h : OkD b c y) : (0 ≤ idx c ∧ idx c ≤ (b : Int) - 1 ∧ y = idx c) ∨ (¬ (0 ≤ idx c ∧ idx c ≤ (b : Int) - 1) ∧ y = (b : Int)) := by
  obtain ⟨j, rfl, hj, h1, h2⟩ := h
  rcases idx_spec L16 c with ⟨e1, e2⟩ | ⟨t, ht, e1, e2, e3⟩
  · right
    have : j = b := by
      by_cases h : j < b
      · have := e2 j (by rw [L16_len]; omega)
        rw [L16_at] at this
        exact absurd (h2 h) this
      · omega
    unfold idx
    rw [e1]
    omega
  · rw [L16_len] at ht
    rw [L16_at] at e2
    have e3' : ∀ u, u < t → ltr u ≠ c := fun u hu => by have := e3 u hu; rw [L16_at] at this; exact this
    unfold idx
    rw [e1]
    by_cases htb : t < b
    · left
      have : j = t := by
        rcases Nat.lt_trichotomy j t with h | h | h
        · exact absurd (h2 (by omega)) (e3' j h)
        · exact h
        · exact absurd e2 (h1 t h)
      omega
    · right
      have : j = b := by
        by_cases h : j < b
        · exact absurd (h2 h) (e3' j (by omega))
        · omega
      omega

/-- What the program reads, what the model reads. -/
def Rel (b : Nat) (cs : List UInt8) (ys : List Int) : Prop := ys.length = cs.length ∧ ∀ i (h : i < cs.length) (h2 : i < ys.length), OkD b cs[i] ys[i]

theorem rel_all (b : Nat) (hb : 2 ≤ b) (hb' : b ≤ 16) : ∀ (cs : List UInt8) (ys : List Int), Rel b cs ys →
    allIn 0 ((b : Int) - 1) ys = allIn 0 ((b : Int) - 1) (cs.map idx) ∧ (allIn 0 ((b : Int) - 1) (cs.map idx) = true → ys = cs.map idx) := by
  intro cs
  induction cs with
  | nil =>
    intro ys h
    have : ys = [] := List.eq_nil_of_length_eq_zero (by have := h.1; simpa using this)
    subst this
    exact ⟨rfl, fun _ => rfl⟩
  | cons c cs ih =>
    intro ys h
    cases ys with
    | nil => have := h.1; simp at this
    | cons y ys =>
      have h0 := h.2 0 (by simp) (by simp)
      simp only [List.getElem_cons_zero] at h0
      have hr : Rel b cs ys := ⟨by have := h.1; simpa using this, fun i hi hi2 => by have := h.2 (i + 1) (by simpa using hi) (by simpa using hi2); simpa using this⟩
      obtain ⟨i1, i2⟩ := ih ys hr
      have hy := okD_idx b c y hb hb' h0
      simp only [allIn, List.all_cons, List.map_cons] at i1 i2 ⊢
      rcases hy with ⟨a1, a2, rfl⟩ | ⟨a1, rfl⟩
      · rw [i1]
        refine ⟨rfl, fun h => ?_⟩
        rw [Bool.and_eq_true] at h
        rw [i2 h.2]
      · have e1 : (decide (0 ≤ (b : Int)) && decide ((b : Int) ≤ (b : Int) - 1)) = false := by simp; omega
        have e2 : (decide (0 ≤ idx c) && decide (idx c ≤ (b : Int) - 1)) = false := by
          rw [Bool.eq_false_iff]
          intro hc
          simp at hc
          exact a1 hc
        rw [e1, e2]
        simp

theorem rel_head (b : Nat) (hb : 2 ≤ b) (hb' : b ≤ 16) (cs : List UInt8) (ys : List Int) (h : Rel b cs ys) : areD b ys = areD b (cs.map idx) ∧ (areD b (cs.map idx) = true → ys = cs.map idx) := by
  obtain ⟨h1, h2⟩ := rel_all b hb hb' cs ys h
  by_cases ha : allIn 0 ((b : Int) - 1) (cs.map idx) = true
  · rw [h2 ha]
    exact ⟨rfl, fun _ => rfl⟩
  · have ha' : allIn 0 ((b : Int) - 1) (cs.map idx) = false := by simpa using ha
    rw [ha'] at h1
    simp [areD, h1, ha']

/-- What ParseNumber answers. -/
def RParse (b : Int) (cs : List UInt8) : Option Int := if Bas b ∧ cs.length ≤ 40 ∧ areD b (cs.map idx) = true then numF b (cs.map idx) 0 else none

theorem RParse_numD {b : Int} {cs : List UInt8} (hB : Bas b) (hl : cs.length ≤ 40) : RParse b cs = numD b (cs.map idx) := by
  simp [RParse, numD, hB, hl]

theorem map_snoc_set (cs : List UInt8) (k n : Nat) (hn : cs.length = n) (hk : k < n) :
    ((cs.map idx).take k ++ List.replicate (n - k) (0 : Int)).set k (idx (cs[k]'(by omega))) = (cs.map idx).take (k + 1) ++ List.replicate (n - (k + 1)) 0 := by
  have := set_take_rep (cs.map idx) k n (by simpa using hn) hk
  rw [← this]
  simp

theorem idx_of (s : ByteArray) (k : Nat) (h : k < s.size) :
    Lib.indexByte (⟨#[48, 49, 50, 51, 52, 53, 54, 55, 56, 57, 97, 98, 99, 100, 101, 102]⟩ : ByteArray).data.toList ((s[k].toNat : Int)).toNat.toUInt8 = idx (s.data.toList[k]'(by simpa using h)) := by
  have h1 : ((s[k].toNat : Int)).toNat.toUInt8 = s[k] := by simp
  rw [h1]
  rfl

theorem impl_ParseNumber (s : ByteArray) (b : Int) (w : World) (hs : s.size ≤ 1048576) :
    Calls Try.prog 24 #[.string s, .int .i64 b] w fun e w' => e = .returned (optRes (RParse b s.data.toList)) ∧ Below w.heap.size w w' := by
  have hsl : s.data.toList.length = s.size := by simp
  have HSL := Lib.hid hsl
  clear hsl
  by_cases hB : Bas b
  · have a1 : decide (Bas b) = true := decide_eq_true hB
    have b0 := hB.1
    have b1 := hB.2
    by_cases hlen : s.size ≤ 40
    · have hR := Lib.hid (RParse_numD (cs := s.data.toList) hB (by rw [HSL.out]; exact hlen))
      clear hB
      go_enter Try.func24, Try.ntmps24
      go_wp2_with (first | (go_at_call 69; refine (isBase_any _ _).mono ?_; rintro e w' ⟨rfl, rfl⟩) | (at_make; refine wpList_mkR rfl _ _ rfl .i64 .i64 _ _ s.size rfl rfl rfl rfl (by omega) ?_; intro w1 hr1 hg1 hb1; have R1 := Lib.hid hr1; have B1 := Lib.hid hb1; clear hr1 hg1 hb1))
      go_loopw [21] (fun i wr => ∃ k : Nat, k ≤ s.size ∧ i = .int .i64 k ∧ Rd wr w.heap.size (.slice (some ⟨w.heap.size, 0, none⟩) s.size s.size) ((s.data.toList.map idx).take k ++ List.replicate (s.size - k) 0) ∧ Below w.heap.size w wr) (fun i _ => s.size - (intOf i).toNat)
      case atStart => exact ⟨0, Nat.zero_le _, rfl, by simpa using R1.out, B1.out⟩
      case round =>
        obtain ⟨k, hk, rfl, hr, hb⟩ := hrel
        have HR := Lib.hid hr
        have HB := Lib.hid hb
        clear hr hb
        by_cases hlt : k < s.size
        · obtain ⟨q, hd⟩ : ∃ q, wr.cell? ⟨w.heap.size, k, none⟩ = some (.int .i64 q) := ⟨_, HR.out.at.2.2.2.2.1 k (by simp; omega)⟩
          have hf := HR.out.at.2.2.2.2.2 k
          have HS := Lib.hid (HR.out.set k (idx (s.data.toList[k]'(by simpa using hlt))))
          go_wp2_with fail
          refine (Try.strings_IndexByte _ _ _).mono ?_
          rintro e w3 ⟨rfl, rfl⟩
          rw [idx_of s k hlt]
          go_wp2
          go_roundw
          case rel => exact ⟨k + 1, by omega, by go_num, by rw [← map_snoc_set s.data.toList k s.size HSL.out hlt]; exact HS.out.1, HB.out.setCell (p := ⟨w.heap.size, k, none⟩) (Nat.le_refl _) _⟩
          case measure => simp [intOf]; omega
        · obtain rfl : k = s.size := by omega
          have HF := Lib.hid (show (s.data.toList.map idx).take s.size ++ List.replicate (s.size - s.size) (0 : Int) = s.data.toList.map idx by rw [Nat.sub_self, List.take_of_length_le (by simp)]; simp)
          have HR2 := Lib.hid (show Rd wr w.heap.size (.slice (some ⟨w.heap.size, 0, none⟩) s.size s.size) (s.data.toList.map idx) by have := HR.out; rw [HF.out] at this; exact this)
          go_wp2_with fail
          refine (numberOf_any _ _ _ _ _ HR2.out b0 b1 (by simp; omega)).mono ?_
          rintro e w3 ⟨rfl, rfl⟩
          go_wp2
          go_ret2
          exact ⟨by rw [hR.out]; rfl, HB.out⟩
    · have hR := Lib.hid (show RParse b s.data.toList = none from if_neg (fun h => hlen (by rw [← HSL.out]; exact h.2.1)))
      clear hB
      go_enter Try.func24, Try.ntmps24
      go_wp2_with (first | (go_at_call 69; refine (isBase_any _ _).mono ?_; rintro e w' ⟨rfl, rfl⟩))
      go_ret2
      exact ⟨by rw [hR.out]; rfl, Below.refl _ _⟩
  · have a1 : decide (Bas b) = false := decide_eq_false hB
    have hR := Lib.hid (show RParse b s.data.toList = none from if_neg (fun h => hB h.1))
    clear hB
    go_enter Try.func24, Try.ntmps24
    go_wp2_with (first | (go_at_call 69; refine (isBase_any _ _).mono ?_; rintro e w' ⟨rfl, rfl⟩))
    go_ret2
    exact ⟨by rw [hR.out]; rfl, Below.refl _ _⟩

theorem okD_next {b : Nat} {cs : List UInt8} {ys : List Int} {k : Nat} (hk : k < cs.length) (h : Rel b (cs.take k) ys) (y : Int) (hy : OkD b cs[k] y) : Rel b (cs.take (k + 1)) (ys ++ [y]) := by
  have hl : ys.length = k := by rw [h.1]; simp; omega
  refine ⟨by simp [hl]; omega, fun i hi hi2 => ?_⟩
  have hi' : i < k + 1 := by simp at hi; omega
  rw [List.getElem_take]
  by_cases e : i = k
  · subst e
    rw [List.getElem_append_right (by omega)]
    simpa [hl] using hy
  · rw [List.getElem_append_left (by omega)]
    have := h.2 i (by simp; omega) (by omega)
    rw [List.getElem_take] at this
    exact this

theorem ltr_byte (s : ByteArray) (i : Nat) (hi : i < s.size) (j : Nat) (hj : j < 16) : ((((⟨#[48, 49, 50, 51, 52, 53, 54, 55, 56, 57, 97, 98, 99, 100, 101, 102]⟩ : ByteArray)[j]'hj).toNat : Int) != (s[i].toNat : Int)) = decide (ltr j ≠ s.data.toList[i]'(by simpa using hi)) := by
  rw [ltr_at]
  have h1 : s.data.toList[i]'(by simpa using hi) = s[i] := by simp; rfl
  rw [h1]
  by_cases h : ltr j = s[i]
  · rw [h]; simp
  · have h2 : (ltr j).toNat ≠ (s[i]).toNat := fun hc => h (UInt8.toNat_inj.1 hc)
    have h3 : (((ltr j).toNat : Int) != ((s[i]).toNat : Int)) = true := by rw [bne_iff_ne]; omega
    rw [h3]
    simp [h]

theorem below_drewN {B : Nat} {a w : World} (h : Below B a w) (n : Nat) : Below B a (w.drewN n) := ⟨h.os, h.tape, h.output, h.size, h.block⟩

theorem run_ltr (q : Nat) (h : q < 16) (w : World) :
    (Instr.index 9 (.string ⟨#[48, 49, 50, 51, 52, 53, 54, 55, 56, 57, 97, 98, 99, 100, 101, 102]⟩) (.int .i64 (q : Int))).run Try.prog w = .ok (.int .u8 (ltr q).toNat) w := by
  rw [run_index_string (P := Try.prog) w 9 _ .i64 (q : Int) Try.underlying9]
  have h2 : 0 ≤ (q : Int) ∧ (q : Int) < ((⟨#[48, 49, 50, 51, 52, 53, 54, 55, 56, 57, 97, 98, 99, 100, 101, 102]⟩ : ByteArray).size : Int) := ⟨by omega, by show (q : Int) < 16; omega⟩
  first
    | (rw [dif_pos h2]; exact congrArg (fun v => Result.ok v w) (by simp [ltr_at]))
    | simp [h2, ltr_at, h]

theorem run_byte (s : ByteArray) (k : Nat) (h : k < s.size) (w : World) :
    (Instr.index 9 (.string s) (.int .i64 (k : Int))).run Try.prog w = .ok (.int .u8 (s.data.toList[k]'(by simpa using h)).toNat) w := by
  rw [run_index_string (P := Try.prog) w 9 _ .i64 (k : Int) Try.underlying9]
  have h2 : 0 ≤ (k : Int) ∧ (k : Int) < (s.size : Int) := ⟨by omega, by omega⟩
  first
    | (rw [dif_pos h2]; exact congrArg (fun v => Result.ok v w) (by simp; rfl))
    | (simp [h2, h]; rfl)

theorem ltr_ne {c : UInt8} {q : Nat} (h : ltr q ≠ c) : (((ltr q).toNat : Int) != (c.toNat : Int)) = true := by
  have h2 : (ltr q).toNat ≠ c.toNat := fun hc => h (UInt8.toNat_inj.1 hc)
  rw [bne_iff_ne]; omega
theorem ltr_eq {c : UInt8} {q : Nat} (h : ltr q = c) : (((ltr q).toNat : Int) != (c.toNat : Int)) = false := by rw [h]; simp

set_option maxHeartbeats 1000000 in
theorem spec_ParseNumber (s : ByteArray) (b : Int) (w : World) (hs : s.size ≤ 1048576) :
    Calls Try.prog 30 #[.string s, .int .i64 b] w fun e w' => e = .returned (optRes (RParse b s.data.toList)) ∧ Below w.heap.size w w' := by
  have hsl : s.data.toList.length = s.size := by simp
  have HSL := Lib.hid hsl
  clear hsl
  by_cases hB : Bas b
  · have a1 : decide (Bas b) = true := decide_eq_true hB
    have b0 := hB.1
    have b1 := hB.2
    obtain ⟨nb, rfl⟩ : ∃ nb : Nat, b = (nb : Int) := ⟨b.toNat, by omega⟩
    by_cases hlen : 1 ≤ s.size ∧ s.size ≤ 40
    · have hR := Lib.hid (RParse_numD (cs := s.data.toList) hB (by rw [HSL.out]; exact hlen.2))
      obtain ⟨l1, l2⟩ := hlen
      clear hB
      go_enter Try.func30, Try.ntmps30
      go_wp2_with (first | (go_at_call 75; refine (dgBase_any _ _).mono ?_; rintro e w' ⟨rfl, rfl⟩) | (go_at_call 82; refine (l1In_yes _ _ _ _ (by omega) (by omega)).mono ?_; rintro e w' ⟨rfl, rfl⟩))
      go_loopw [6, 7] (fun o i wr => ∃ (k : Nat) (ys : List Int), k ≤ s.size ∧ i = .int .i64 k ∧ Rd wr w.heap.size o ys ∧ Below w.heap.size w wr ∧ Rel nb (s.data.toList.take k) ys) (fun _ i _ => s.size - (intOf i).toNat)
      case atStart => exact ⟨0, [], Nat.zero_le _, rfl, Rd.nil _ _, Below.refl _ _, ⟨rfl, fun i h => by simp at h⟩⟩
      case round =>
        obtain ⟨k, ys, hk, rfl, hr, hb, hrel⟩ := hrel
        have HR := Lib.hid hr
        have HB := Lib.hid hb
        have HL := Lib.hid hrel
        have hyl : ys.length ≤ 40 := by have := hrel.1; simp at this; omega
        clear hr hb hrel
        obtain ⟨wo, rfl⟩ : ∃ wo : World, wo = wr := ⟨_, rfl⟩
        by_cases hlt : k < s.size
        · have hlt' : k < s.data.toList.length := by rw [HSL.out]; exact hlt
          obtain ⟨c, hc⟩ : ∃ c, c = s.data.toList[k] := ⟨_, rfl⟩
          have HC := Lib.hid hc
          clear hc
          go_wp2
          go_loopw [8] (fun j wr => ∃ q m : Nat, q ≤ nb ∧ j = .int .i64 q ∧ Hid (∀ t, t < q → ltr t ≠ c) ∧ wr = wo.drewN m) (fun j _ => nb - (intOf j).toNat)
          case atStart => exact ⟨0, 0, Nat.zero_le _, rfl, Lib.hid (fun t h => by omega), rfl⟩
          case round =>
            obtain ⟨q, m, hq, rfl, HQ, rfl⟩ := hrel
            by_cases hqn : q < nb
            · have hq16 : q < 16 := by omega
              have hi1 := fun w => run_ltr q hq16 w
              have hi2 := fun w => run_byte s k hlt w
              rw [← HC.out] at hi2
              by_cases he : ltr q = c
              · have HE := Lib.hid he
                have hbn := ltr_eq he
                clear he
                go_wp2
                go_quiet (fail)
                rename_i nq
                have hsz := HB.out.size
                go_wp2_with (at_builtin; refine wpList_appR rfl _ _ rfl w.heap.size w.heap.size _ _ ys [(q : Int)] rfl rfl (by exact HR.out.alloc _) (Rd.litB _ _ _ (by simp; omega)) (by simp; omega) (by simp; omega) ?_; intro v1 w1 hr1 hg1 hb1; have HR1 := Lib.hid hr1; have HB1 := Lib.hid hb1; clear hr1 hg1 hb1)
                go_roundw
                case rel => exact ⟨k + 1, ys ++ [(q : Int)], by omega, by go_num, HR1.out, (Below.alloc (below_drewN HB.out _) (by simp; omega) _).trans HB1.out, okD_next hlt' HL.out (q : Int) ⟨q, rfl, by omega, fun t ht => by rw [← HC.out]; exact HQ.out t ht, fun h => by rw [← HC.out]; exact HE.out⟩⟩
                case measure => simp [intOf]; omega
              · have HE := Lib.hid he
                have hbn := ltr_ne he
                clear he
                go_wp2
                go_quiet (fail)
                rename_i nq
                go_wp2
                go_roundw
                case rel => exact ⟨q + 1, m + nq, by omega, by go_num, Lib.hid (fun t ht => by by_cases e : t = q; (subst e; exact HE.out); exact HQ.out t (by omega)), by first | rfl | rw [World.drewN_drewN]⟩
                case measure => simp [intOf]; omega
            · have hqb : nb ≤ q := by omega
              have hfd : decide (q < nb) = false := decide_eq_false (by omega)
              have hsz := HB.out.size
              clear hqn
              go_wp2
              go_quiet (fail)
              rename_i nq
              go_wp2_with (at_builtin; refine wpList_appR rfl _ _ rfl w.heap.size w.heap.size _ _ ys [(q : Int)] rfl rfl (by exact HR.out.alloc _) (Rd.litB _ _ _ (by simp; omega)) (by simp; omega) (by simp; omega) ?_; intro v1 w1 hr1 hg1 hb1; have HR1 := Lib.hid hr1; have HB1 := Lib.hid hb1; clear hr1 hg1 hb1)
              go_roundw
              case rel => exact ⟨k + 1, ys ++ [(q : Int)], by omega, by go_num, HR1.out, (Below.alloc (below_drewN HB.out _) (by simp; omega) _).trans HB1.out, okD_next hlt' HL.out (q : Int) ⟨q, rfl, by omega, fun t ht => by rw [← HC.out]; exact HQ.out t ht, fun h => by rw [← HC.out]; exact absurd h (by omega)⟩⟩
              case measure => simp [intOf]; omega
        · obtain rfl : k = s.size := by omega
          have hH := rel_head nb (by omega) (by omega) s.data.toList ys (by have := HL.out; rw [List.take_of_length_le (by rw [HSL.out]; omega)] at this; exact this)
          by_cases ha : dA nb ys = true
          · have hys := hH.2 (by rw [← hH.1]; exact (dA_of ha).2)
            have HY := Lib.hid hys
            have hall := Lib.hid (areD_all (dA_of ha).2)
            have HFin := Lib.hid (show RParse nb s.data.toList = numF nb ys 0 by rw [hR.out, numD, ← hys, if_pos (dA_of ha).2])
            clear hys hH
            go_wp2_with (first | (go_at_call 78; refine (dgAre_any _ _ _ _ _ HR.out b0 b1 (by omega)).mono ?_; rintro e w' ⟨rfl, rfl⟩) | (go_at_call 79; refine (dgFrom_any _ _ _ _ _ HR.out (fun x hx => by have := hall.out x hx; omega) b0 b1 (by omega)).mono ?_; rintro e w' ⟨rfl, rfl⟩))
            go_ret2
            exact ⟨by rw [HFin.out]; rfl, HB.out⟩
          · have ha' : dA nb ys = false := by simpa using ha
            have hna : areD nb ys = false := by
              have h2 := ha'
              simp only [dA, Bool.and_eq_false_iff, decide_eq_false_iff_not] at h2
              rcases h2 with h2 | h2
              · exact absurd hyl h2
              · exact h2
            have HFin := Lib.hid (show RParse nb s.data.toList = none by rw [hR.out, numD, ← hH.1, hna]; rfl)
            clear hH ha hna
            go_wp2_with (first | (go_at_call 78; refine (dgAre_any _ _ _ _ _ HR.out b0 b1 (by omega)).mono ?_; rintro e w' ⟨rfl, rfl⟩))
            go_ret2
            exact ⟨by rw [HFin.out]; rfl, HB.out⟩
    · have H := Lib.hid (show (s.size : Int) < 1 ∨ 40 < (s.size : Int) by omega)
      have hR := Lib.hid (show RParse nb s.data.toList = none from if_neg (fun h => by
        have h1 := h.2.1
        have h2 := h.2.2
        rw [HSL.out] at h1
        have h3 : s.size = 0 := by omega
        have h4 : s.data.toList = [] := List.eq_nil_of_length_eq_zero (by rw [HSL.out]; exact h3)
        rw [h4] at h2
        simp [areD] at h2))
      clear hB hlen
      go_enter Try.func30, Try.ntmps30
      go_wp2_with (first | (go_at_call 75; refine (dgBase_any _ _).mono ?_; rintro e w' ⟨rfl, rfl⟩) | (go_at_call 82; refine (l1In_no _ _ _ _ H.out).mono ?_; rintro e w' ⟨rfl, rfl⟩))
      go_ret2
      exact ⟨by rw [hR.out]; rfl, Below.refl _ _⟩
  · have a1 : decide (Bas b) = false := decide_eq_false hB
    have hR := Lib.hid (show RParse b s.data.toList = none from if_neg (fun h => hB h.1))
    clear hB
    go_enter Try.func30, Try.ntmps30
    go_wp2_with (first | (go_at_call 75; refine (dgBase_any _ _).mono ?_; rintro e w' ⟨rfl, rfl⟩))
    go_ret2
    exact ⟨by rw [hR.out]; rfl, Below.refl _ _⟩

end Go.Proofs.Ytdlohdjejmpmcaa
