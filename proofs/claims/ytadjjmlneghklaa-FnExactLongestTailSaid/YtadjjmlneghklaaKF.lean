/-
  The cycle in which a run ends, from its least word on: plain; the model.
-/
import Derived.Test.YtadjjmlneghklaaKD
import Derived.BigQuiet
namespace Go.Proofs.Ytadjjmlneghklaa
open Go.RowKit
set_option linter.unusedVariables false
set_option linter.unusedSimpArgs false
set_option maxRecDepth 100000

/-- The place of the least of the first k numbers. -/
def miF (f : Nat → Int) : Nat → Nat
  | 0 => 0
  | k + 1 => if f k < f (miF f k) then k else miF f k
theorem miF_succ (f : Nat → Int) (k : Nat) : miF f (k + 1) = if f k < f (miF f k) then k else miF f k := rfl
theorem miF_le (f : Nat → Int) : ∀ k, miF f k ≤ k - 1
  | 0 => Nat.le_refl _
  | k + 1 => by rw [miF_succ]; have := miF_le f k; split <;> omega
/-- The values of the words of a cycle. -/
def cvl (F : Nat → List Int) (T : Nat) (b : Int) (i : Nat) : Int := vl b (F (T + i))
/-- A cycle of n words behind T, from place p of it on. -/
def cyF (F : Nat → List Int) (T n p : Nat) (j : Nat) : List Int := F (T + (p + j) % n)
def cyL (F : Nat → List Int) (T n : Nat) (b : Int) : List (List Int) := rls (cyF F T n (miF (cvl F T b) n)) n

theorem LLi.drewN {w : World} {B : Nat} {v : Value} {vs : List Value} {ls : List (List Int)} (h : LLi w B v vs ls) (n : Nat) : LLi (w.drewN n) B v vs ls := ⟨h.row, h.len, h.at', h.apart⟩

theorem Rg.lenR {e : TypeId} {w : World} {B n : Nat} {v : Value} {xs : List Value} (h : Rg e w B v xs) (hl : xs.length = n) : ∃ a cap, v = .slice a n cap := by
  subst hl
  rcases h.cases with ⟨rfl, h0⟩ | ⟨g6, c6, rfl⟩
  · subst h0; exact ⟨_, _, rfl⟩
  · exact ⟨_, _, rfl⟩

/-- The values of a cycle turned. -/
def tvs (vs : List Value) (T n p k : Nat) : List Value := (List.range k).map fun j => vs.getD (T + (p + j) % n) (.slice none 0 0)
theorem tvs_succ (vs : List Value) (T n p k : Nat) : tvs vs T n p (k + 1) = tvs vs T n p k ++ [vs.getD (T + (p + k) % n) (.slice none 0 0)] := by simp [tvs, List.range_succ]
theorem tvs_len (vs : List Value) (T n p k : Nat) : (tvs vs T n p k).length = k := by simp [tvs]
theorem tvs_at {vs : List Value} {T n p k j : Nat} {u : Value} (h : (tvs vs T n p k)[j]? = some u) (hn : 0 < n) (hv : T + n ≤ vs.length) : j < k ∧ vs[T + (p + j) % n]? = some u := by
  have hj : j < k := by have := (List.getElem?_eq_some_iff.1 h).1; rwa [tvs_len] at this
  have hm := Nat.mod_lt (p + j) hn
  refine ⟨hj, ?_⟩
  simp only [tvs, List.getElem?_map, List.getElem?_range hj, Option.map_some, Option.some.injEq, List.getD_eq_getElem?_getD] at h
  rw [← h, List.getElem?_eq_getElem (by omega)]
  rfl
theorem mod_apart {n p i j : Nat} (hi : i < j) (hj : j < n) : (p + i) % n ≠ (p + j) % n := fun e => by
  have h1 : (p + j - (p + i)) % n = 0 := Nat.sub_mod_eq_zero_of_mod_eq e.symm
  rw [show p + j - (p + i) = j - i by omega, Nat.mod_eq_of_lt (by omega)] at h1
  omega
theorem LLi.turned {w : World} {B L T n p : Nat} {v o : Value} {vs : List Value} {F : Nat → List Int} (h : LLi w B v vs (rls F L)) (hT : T + n = L) (hn : 0 < n) (ho : Rg 33 w B o (tvs vs T n p n)) : LLi w B o (tvs vs T n p n) (rls (cyF F T n p) n) := by
  have hl : vs.length = L := by rw [h.len, rls_len]
  refine ⟨ho, by rw [tvs_len, rls_len], fun i u l hu hm => ?_, fun i j u z hij hu hz => ?_⟩
  · obtain ⟨h1, h2⟩ := tvs_at hu hn (by omega)
    rw [rls_get _ h1, Option.some.injEq] at hm
    rw [← hm]
    have h3 := Nat.mod_lt (p + i) hn
    exact (h.at' _ u _ h2 (rls_get F (by omega)))
  · obtain ⟨h1, h2⟩ := tvs_at hu hn (by omega)
    obtain ⟨h3, h4⟩ := tvs_at hz hn (by omega)
    have := mod_apart (p := p) hij h3
    exact h.apart' (by omega) h2 h4

set_option maxHeartbeats 1000000 in
theorem gpCycle_any (u0 : Value) (F : Nat → List Int) (L T V : Nat) (b : Int) (B : Nat) (w : World) (h : Rd w B u0 (F 0)) (hR : Rn F L T V b) (hb2 : 2 ≤ b) (hb16 : b ≤ 16) (hV : V ≤ 8) :
    Calls Try.prog 40 #[u0, .int .i64 b] w fun e w' => ∃ u vs, e = .returned u ∧ LLi w' w.heap.size u vs (cyL F T (L - T) b) ∧ Below w.heap.size w w' := by
  have H := Lib.hid h
  have HR := Lib.hid hR
  have hL := hR.lenL
  have hT := hR.tl
  have HGR := Lib.hid (fun (u : Value) (w' : World) (h : Rd w' B u (F 0)) => gpRun_any u F L T V b B w' h hR hb2 hb16 hV)
  have HGV := Lib.hid (fun (k : Nat) (u : Value) (w' : World) (h : Sl w' u (F (T + k))) => gpValue_any u (F (T + k)) b w' h hb2 hb16 (hR.all _) (by rw [hR.len]; exact hV))
  obtain ⟨a0, c0, rfl⟩ := h.sl.len
  clear h hR
  obtain ⟨n, hn⟩ : ∃ n, n = L - T := ⟨_, rfl⟩
  have hn0 : 0 < n := by omega
  have hTn : T + n = L := by omega
  have HML := Lib.hid (miF_le (cvl F T b))
  have HMS := Lib.hid (miF_succ (cvl F T b))
  have hT0 : (0 : Int) ≤ (T : Int) := Int.natCast_nonneg _
  have hTL2 : T ≤ L := by omega
  rw [← hn]
  go_enter Try.func40, Try.ntmps40
  go_wp2_with fail
  refine (HGR.out _ _ H.out).mono ?_
  rintro e w1 ⟨g, c, vs, rfl, hr, hb1⟩
  have R1 := Lib.hid hr
  have B1 := Lib.hid hb1
  have HVL := Lib.hid (show vs.length = L by rw [hr.len, rls_len])
  have hcL : L ≤ c := by have := hr.row.at.2.2.2.1; rw [HVL.out] at this; exact this
  have hTc : ¬ c = T := by omega
  have hTc2 : T ≤ c := by omega
  have hTc3 : T < c := by omega
  clear hr hb1
  go_wp2
  rw [← hn]
  obtain ⟨c', hc'⟩ : ∃ c', c' = c - T := ⟨_, rfl⟩
  have hcn : n ≤ c' := by omega
  rw [← hc']
  have HVA := Lib.hid (show ∀ (k : Nat) (u : Value) (w' : World), k < n → LLi w' w.heap.size (.slice (some ⟨g, 0, none⟩) L c) vs (rls F L) → vs[T + k]? = some u → Rd w' w.heap.size u (F (T + k)) from fun k u w' hk h hu => h.at' _ u _ hu (rls_get F (by omega)))
  clear hn hc' hTc hTc2 hTc3 hcL
  go_loopw [8, 24] (fun at' i wr => ∃ k q : Nat, k ≤ n ∧ q < n ∧ i = .int .i64 (k : Int) ∧ at' = .int .i64 (q : Int) ∧ miF (cvl F T b) k = q ∧ LLi wr w.heap.size (.slice (some ⟨g, 0, none⟩) L c) vs (rls F L) ∧ Below w.heap.size w wr) (fun _ i _ => n - (intOf i).toNat)
  case atStart => exact ⟨0, 0, Nat.zero_le _, hn0, rfl, rfl, rfl, R1.out, B1.out⟩
  case round =>
    obtain ⟨k, q, hk, hqn, rfl, rfl, hq, hl, hbl⟩ := hrel
    have HQ := Lib.hid hq
    have HL := Lib.hid hl
    have HB := Lib.hid hbl
    clear hq hl hbl
    by_cases hlt : k < n
    · obtain ⟨z1, hz1⟩ : ∃ z, vs[T + k]? = some z := ⟨vs[T + k]'(by rw [HVL.out]; omega), by simp⟩
      obtain ⟨z2, hz2⟩ : ∃ z, vs[T + q]? = some z := ⟨vs[T + q]'(by rw [HVL.out]; omega), by simp⟩
      have k1 : wr.cell? ⟨g, T + k, none⟩ = some z1 := HL.out.f.cell hz1
      have k2 : wr.cell? ⟨g, T + q, none⟩ = some z2 := HL.out.f.cell hz2
      have hr1 := HVA.out k z1 wr hlt HL.out hz1
      have hr2 := HVA.out q z2 wr hqn HL.out hz2
      have HS := Lib.hid (HMS.out k)
      rw [HQ.out] at HS
      obtain ⟨x, hx⟩ : ∃ x, x = cvl F T b k := ⟨_, rfl⟩
      obtain ⟨y, hy⟩ : ∃ y, y = cvl F T b q := ⟨_, rfl⟩
      have HC1 := Lib.hid (show ∀ m, Calls Try.prog 50 #[z1, .int .i64 b] (wr.drewN m) fun e w' => e = .returned (.int .i64 x) ∧ w' = wr.drewN m from fun m => (HGV.out k z1 (wr.drewN m) (hr1.drewN m).sl).mono fun e w' ⟨h1, h2⟩ => ⟨by rw [h1, hx]; rfl, h2.symm⟩)
      have HC2 := Lib.hid (show ∀ m, Calls Try.prog 50 #[z2, .int .i64 b] (wr.drewN m) fun e w' => e = .returned (.int .i64 y) ∧ w' = wr.drewN m from fun m => (HGV.out q z2 (wr.drewN m) (hr2.drewN m).sl).mono fun e w' ⟨h1, h2⟩ => ⟨by rw [h1, hy]; rfl, h2.symm⟩)
      rw [← hx, ← hy] at HS
      obtain ⟨a1, d1, rfl⟩ := hr1.shape'
      obtain ⟨a2, d2, rfl⟩ := hr2.shape'
      have hk0 : (0 : Int) ≤ (q : Int) := by omega
      have hqi : (q : Int) < (n : Int) := by omega
      have hwq : IntKind.i64.wrap (q : Int) = (q : Int) := IntWalk.i64_in _ (by omega)
      clear hx hy hr1 hr2 hz1 hz2
      by_cases hxy : x < y
      · have HE := Lib.hid (show miF (cvl F T b) (k + 1) = k by rw [HS.out, if_pos hxy])
        go_wp2
        go_quiet (first | (go_at_call 50; first | with_reducible exact Calls.quiet_of_same (HC1.out _) | with_reducible exact Calls.quiet_of_same (HC2.out _)))
        rename_i nq
        clear hwq
        go_wp2
        go_roundw
        case rel => exact ⟨k + 1, k, by omega, by omega, by go_num, rfl, HE.out, HL.out.drewN _, below_drewN' HB.out _⟩
        case measure => simp [intOf]; omega
      · have HE := Lib.hid (show miF (cvl F T b) (k + 1) = q by rw [HS.out, if_neg hxy])
        go_wp2
        go_quiet (first | (go_at_call 50; first | with_reducible exact Calls.quiet_of_same (HC1.out _) | with_reducible exact Calls.quiet_of_same (HC2.out _)))
        rename_i nq
        clear hwq
        go_wp2
        go_roundw
        case rel => exact ⟨k + 1, q, by omega, hqn, by go_num, rfl, HE.out, HL.out.drewN _, below_drewN' HB.out _⟩
        case measure => simp [intOf]; omega
    · obtain rfl : n = k := by omega
      have HQM := Lib.hid (show miF (cvl F T b) n = q from HQ.out)
      obtain ⟨wo, rfl⟩ : ∃ wo : World, wo = wr := ⟨wr, rfl⟩
      go_wp2
      go_loopw [11, 43] (fun o i w2 => ∃ j : Nat, j ≤ n ∧ i = .int .i64 (j : Int) ∧ Rg 33 w2 wo.heap.size o (tvs vs T n q j) ∧ Below wo.heap.size wo w2) (fun _ i _ => n - (intOf i).toNat)
      case atStart => exact ⟨0, Nat.zero_le _, rfl, Rg.nil _ _ _, Below.refl _ _⟩
      case round =>
        obtain ⟨j, hj, rfl, hrg, hb2⟩ := hrel
        have HRG := Lib.hid hrg
        have HB2 := Lib.hid hb2
        have HL2 := Lib.hid (HL.out.keep hb2)
        obtain ⟨a6, c6, rfl⟩ := hrg.lenR (tvs_len vs T n q j)
        clear hrg hb2
        by_cases hlt2 : j < n
        · obtain ⟨m, hm⟩ : ∃ m, m = (q + j) % n := ⟨_, rfl⟩
          have hmn : m < n := by rw [hm]; exact Nat.mod_lt _ hn0
          obtain ⟨z, hz⟩ : ∃ z, vs[T + m]? = some z := ⟨vs[T + m]'(by rw [HVL.out]; omega), by simp⟩
          have HTS := Lib.hid (show tvs vs T n q (j + 1) = tvs vs T n q j ++ [z] by rw [tvs_succ, ← hm, List.getD_eq_getElem?_getD, hz]; rfl)
          have k1 : wr.cell? ⟨g, T + m, none⟩ = some z := HL2.out.f.cell hz
          have hmi : ((q : Int) + (j : Int)) % (n : Int) = (m : Int) := by rw [hm]; push_cast; rfl
          have hn1 : ¬ (n : Int) = 0 := by omega
          have hm0 : (0 : Int) ≤ (m : Int) := by omega
          have hmn2 : (m : Int) < (n : Int) := by omega
          have hr1 := HVA.out m z wr hmn HL2.out hz
          obtain ⟨a1, d1, rfl⟩ := hr1.shape'
          clear hm hr1 hz
          go_wp2_with (at_builtin; refine wpList_appG rfl (.tmp 46) (.tmp 56) _ 33 (.slice none 0 0) 24 Try.underlying28 infoL (by omega) rfl rfl wo.heap.size wo.heap.size _ _ (tvs vs T n q j) _ rfl rfl (HRG.out.alloc _) (Rg.lit _ _ _ _ HB2.out.size) (by simp [Value.oneCell']) (by rw [tvs_len]; simp; omega) (by have := HB2.out.size; simp; omega) ?_; intro v3 w3 hr3 hg3 hb3; have N3 := Lib.hid hr3; have B3 := Lib.hid ((HB2.out.alloc HB2.out.size _).trans hb3); clear hr3 hg3 hb3)
          go_roundw
          case rel => exact ⟨j + 1, by omega, by go_num, by rw [HTS.out]; exact N3.out, B3.out⟩
          case measure => simp [intOf]; omega
        · obtain rfl : n = j := by omega
          go_wp2
          go_ret
          refine ⟨Value.slice a6 n c6, tvs vs T n q n, rfl, ?_, Below.step HB.out HB.out.size HB2.out⟩
          have := LLi.turned HL2.out hTn hn0 (HRG.out.mono HB.out.size)
          unfold cyL
          rw [HQM.out]
          exact this

end Go.Proofs.Ytadjjmlneghklaa
