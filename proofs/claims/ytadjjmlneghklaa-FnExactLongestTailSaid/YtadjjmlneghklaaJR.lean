/-
  The model's lists of gaps; answers of AllGaps.
-/
import Derived.Test.YtadjjmlneghklaaJQ
namespace Go.Proofs.Ytadjjmlneghklaa
open Go.RowKit
set_option linter.unusedVariables false
set_option linter.unusedSimpArgs false
set_option maxRecDepth 100000

theorem LLi.srcG {w : World} {B : Nat} {v : Value} {vs : List Value} {ls : List (List Int)} (h : LLi w B v vs ls) : SrcG w v vs := by
  rcases h.row.cases with ⟨rfl, rfl⟩ | ⟨g, cap, rfl⟩
  · exact .inl ⟨rfl, rfl⟩
  · refine .inr ⟨⟨g, 0, none⟩, cap, rfl, fun j hj => ?_⟩
    rw [addr_add, Nat.zero_add, h.row.at.2.2.2.2.2.1 j hj]
theorem LLi.one' {w : World} {B : Nat} {v u : Value} {vs : List Value} {ls : List (List Int)} (h : LLi w B v vs ls) (hu : u ∈ vs) : u.oneCell' = true := by
  obtain ⟨i, hi, rfl⟩ := List.getElem_of_mem hu
  obtain ⟨l, _, hr⟩ := h.rd (i := i) (u := vs[i]) (by simp [hi])
  obtain ⟨a, c, hv⟩ := hr.sl.len
  rw [hv]; rfl
theorem Und.mono {C D : Nat} {v : Value} {vs : List Value} (h : Und C v vs) (hD : C ≤ D) : Und D v vs := ⟨fun k hk => Nat.lt_of_lt_of_le (h.1 k hk) hD, fun i u hu k hk => Nat.lt_of_lt_of_le (h.2 i u hu k hk) hD⟩

set_option maxHeartbeats 1000000 in
theorem gpAll_any : ∀ (d k m : Nat) (p : List Int) (v : Value) (B : Nat) (w : World), Rd w B v p → p.length + d = k → k ≤ 4 → m ≤ 15 →
    Calls Try.prog 48 #[v, .int .i64 (k : Int), .int .i64 (m : Int)] w fun e w' => ∃ u vs, e = .returned u ∧ LLi w' w.heap.size u vs ((ndr d m).map fun l => p ++ l) ∧ Below w.heap.size w w'
  | 0, k, m, p, v, B, w, h, hk, hk4, hm => by
    have H := Lib.hid h
    obtain ⟨a, cap, rfl⟩ := h.sl.len
    obtain rfl : p.length = k := by omega
    have heq : ((p.length : Int) == (p.length : Int)) = true := beq_yes rfl
    have HE := Lib.hid (show (ndr 0 m).map (fun l => p ++ l) = [p] by simp [ndr])
    rw [HE.out]
    have hpl : p.length ≤ 4 := by omega
    clear h hk
    go_enter Try.func48, Try.ntmps48
    go_wp2_with fail
    refine (l1Own_any _ p _ _ H.out (by omega)).mono ?_
    rintro e w1 ⟨u1, rfl, hr1, hb1⟩
    have R1 := Lib.hid hr1
    have B1 := Lib.hid hb1
    obtain ⟨a1, c1, rfl⟩ := hr1.sl.len
    clear hr1 hb1
    go_wp2
    go_ret
    exact ⟨_, _, rfl, LLi.one R1.out B1.out.size, B1.out.alloc B1.out.size _⟩
  | d + 1, k, m, p, v, B, w, h, hk, hk4, hm => by
    have H := Lib.hid h
    obtain ⟨a, cap, rfl⟩ := h.sl.len
    have hne : ((p.length : Int) == (k : Int)) = false := beq_no (by omega)
    have HI := Lib.hid (fun (x : Nat) (u : Value) (C : Nat) (w' : World) (h : Rd w' C u (p ++ [(x : Int)])) (hx : x ≤ 15) => gpAll_any d k x (p ++ [(x : Int)]) u C w' h (by simp; omega) hk4 hx)
    have HPB := Lib.hid (show ∀ x, x ≤ 16 → (ndrTo d x).length ≤ 3876 from fun x hx => ndrTo_bd (by omega) hx)
    have hpl : p.length ≤ 4 := by omega
    have hd4 : d + 1 ≤ 4 := by omega
    rw [ndr_succ]
    clear h hk
    go_enter Try.func48, Try.ntmps48
    go_wp2
    go_loopw [7, 8] (fun o i wr => ∃ (x : Nat) (vs : List Value), x ≤ m + 1 ∧ i = .int .i64 (x : Int) ∧ LLi wr w.heap.size o vs ((ndrTo d x).map fun l => p ++ l) ∧ Below w.heap.size w wr) (fun _ i _ => m + 1 - (intOf i).toNat)
    case atStart => exact ⟨0, [], Nat.zero_le _, rfl, LLi.nil _ _, Below.refl _ _⟩
    case round =>
      obtain ⟨x, vs, hx, rfl, hv, hbl⟩ := hrel
      have HV := Lib.hid hv
      have HB := Lib.hid hbl
      have HP := Lib.hid (H.out.keep hbl)
      clear hv hbl
      by_cases hlt : x < m + 1
      · have HPX := Lib.hid (HPB.out x (by omega))
        have HNX := Lib.hid (ndr_bd (k := d) (m := x) (by omega) (by omega))
        have HNS := Lib.hid (show ((ndrTo d x).map fun l => p ++ l) ++ ((ndr d x).map fun l => p ++ [(x : Int)] ++ l) = (ndrTo d (x + 1)).map fun l => p ++ l by rw [ndrTo_succ, List.map_append, List.map_map]; simp [Function.comp_def])
        go_wp2_with fail
        refine (l1Own_any _ p _ _ HP.out (by omega)).mono ?_
        rintro e w1 ⟨u1, rfl, hr1, hb1⟩
        have R1 := Lib.hid hr1
        have B1 := Lib.hid (Below.step HB.out HB.out.size hb1)
        have Z1 := hb1.size
        have HV1 := Lib.hid (HV.out.keep hb1)
        have HU0 := Lib.hid HV.out.und
        clear hr1 hb1
        go_wp2_with (at_builtin; refine wpList_appR rfl (.tmp 23) (.tmp 25) rfl wr.heap.size wr.heap.size _ _ p [(x : Int)] rfl rfl (R1.out.alloc _) (Rd.litB _ _ _ Z1) (by simp; omega) (by simp; omega) ?_; intro v2 w2 hr2 hg2 hb2; have R2 := Lib.hid hr2; have HV2 := Lib.hid ((HV1.out.alloc (.cells #[.int .i64 (x : Int)] 3)).grown hg2 (row_not_rd (R1.out.alloc _) (HV1.out.alloc (.cells #[.int .i64 (x : Int)] 3)).row) (LLi.far HU0.out R1.out)); have B2 := Lib.hid ((B1.out.alloc B1.out.size (.cells #[.int .i64 (x : Int)] 3)).trans (hb2.mono HB.out.size)); have Z2 := Lib.hid (Nat.le_trans Z1 (Nat.le_trans (by simp) hb2.size)); clear hr2 hg2 hb2)
        refine (HI.out x _ _ _ R2.out (by omega)).mono ?_
        rintro e w3 ⟨u3, us, rfl, hu3, hb3⟩
        have HU3 := Lib.hid hu3
        have HV3 := Lib.hid (HV2.out.keep hb3)
        have B3 := Lib.hid (Below.step B2.out B2.out.size hb3)
        have HUL := Lib.hid (show us.length ≤ 3876 by rw [hu3.len, List.length_map]; exact HNX.out)
        have HVL := Lib.hid (show vs.length ≤ 3876 by rw [HV.out.len, List.length_map]; exact HPX.out)
        clear hu3 hb3
        go_wp2_with (at_builtin; refine wpList_appGS rfl (.tmp 21) (.tmp 29) 28 33 (.slice none 0 0) 24 Try.underlying28 infoL (by omega) rfl rfl w.heap.size _ _ vs us rfl rfl HV3.out.row HU3.out.srcG (fun q hq => HU3.out.one' hq) (by have h1 := HUL.out; have h2 := HVL.out; omega) B3.out.size ?_; intro v4 w4 hr4 hg4 hb4; have HN4 := Lib.hid (HV3.out.append HU3.out B2.out.size (HU0.out.mono Z2.out) hr4 hg4); have B4 := Lib.hid (B3.out.trans hb4); clear hr4 hg4 hb4)
        go_roundw
        case rel => exact ⟨x + 1, _, by omega, by go_num, by rw [← HNS.out]; exact HN4.out, B4.out⟩
        case measure => simp [intOf]; omega
      · obtain rfl : x = m + 1 := by omega
        go_wp2
        go_ret
        exact ⟨_, vs, rfl, HV.out, HB.out⟩

end Go.Proofs.Ytadjjmlneghklaa
