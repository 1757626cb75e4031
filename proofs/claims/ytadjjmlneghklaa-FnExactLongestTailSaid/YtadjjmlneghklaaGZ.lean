/-
  Joint text of GR GD GB GT GG GF GH GI GK GL GM GN GP GQ GS GU GV PLLongestTail (written by wip/tools/merge.py).
-/
import Derived.Test.YtadjjmlneghklaaM4
import Derived.Test.YtadjjmlneghklaaS2
import Derived.BigQuiet
import Derived.Test.YtadjjmlneghklaaJK
/- from XGR -/
namespace Go.Proofs.Ytadjjmlneghklaa
set_option linter.unusedVariables false
set_option linter.unusedSimpArgs false

/-- F of N numbers is U behind p; f of n numbers is p behind U; U keeps the order. -/
structure Twin (F : Nat → Nat) (N : Nat) (f : Nat → Nat) (n : Nat) (p U : Nat → Nat) : Prop where
  pl : ∀ x, x < N → p x < n
  ul : ∀ i, i < n → U i < N
  eF : ∀ x, x < N → F x = U (p x)
  ef : ∀ i, i < n → f i = p (U i)
  mono : ∀ i j, i < n → j < n → (U i < U j ↔ i < j)

namespace Twin
variable {F : Nat → Nat} {N : Nat} {f : Nat → Nat} {n : Nat} {p U : Nat → Nat}
theorem intoF (h : Twin F N f n p U) : Into F N := fun x hx => by rw [h.eF x hx]; exact h.ul _ (h.pl x hx)
theorem intof (h : Twin F N f n p U) : Into f n := fun i hi => by rw [h.ef i hi]; exact h.pl _ (h.ul i hi)
theorem inj (h : Twin F N f n p U) {i j : Nat} (hi : i < n) (hj : j < n) (e : U i = U j) : i = j := by
  have h1 := h.mono i j hi hj
  have h2 := h.mono j i hj hi
  rw [e] at h1 h2
  have h3 : ¬ U j < U j := Nat.lt_irrefl _
  have h4 : ¬ i < j := fun hh => h3 (h1.2 hh)
  have h5 : ¬ j < i := fun hh => h3 (h2.2 hh)
  omega
theorem it_U (h : Twin F N f n p U) {i : Nat} (hi : i < n) : ∀ k, it F k (U i) = U (it f k i)
  | 0 => rfl
  | k + 1 => by
    have hk := it_lt h.intof k hi
    show F (it F k (U i)) = U (f (it f k i))
    rw [it_U h hi k, h.eF _ (h.ul _ hk), h.ef _ hk]
theorem it_F (h : Twin F N f n p U) {x : Nat} (hx : x < N) (k : Nat) : it F (k + 1) x = U (it f k (p x)) := by
  rw [it_in, h.eF x hx, h.it_U (h.pl x hx)]
theorem cycU (h : Twin F N f n p U) {i : Nat} (hi : i < n) : cyc F N (U i) = cyc f n i := by
  rw [Bool.eq_iff_iff]
  constructor
  · intro hc
    obtain ⟨q, h1, _, h2⟩ := cyc_per h.intoF hc
    rw [h.it_U hi] at h2
    exact cyc_of_per h.intof hi h1 (h.inj (it_lt h.intof q hi) hi h2)
  · intro hc
    obtain ⟨q, h1, _, h2⟩ := cyc_per h.intof hc
    exact cyc_of_per h.intoF (h.ul i hi) h1 (by rw [h.it_U hi, h2])
theorem cyc_img (h : Twin F N f n p U) {x : Nat} (hc : cyc F N x = true) : ∃ i, i < n ∧ x = U i ∧ cyc f n i = true := by
  have hx := cyc_lt h.intoF hc
  obtain ⟨q, h1, _, h2⟩ := cyc_per h.intoF hc
  obtain ⟨r, rfl⟩ : ∃ r, q = r + 1 := ⟨q - 1, by omega⟩
  rw [h.it_F hx] at h2
  have hi := it_lt h.intof r (h.pl x hx)
  refine ⟨_, hi, h2.symm, ?_⟩
  rw [← h.cycU hi, h2]; exact hc
theorem perU (h : Twin F N f n p U) {i : Nat} (hc : cyc f n i = true) : per F N (U i) = per f n i := by
  have hi := cyc_lt h.intof hc
  obtain ⟨p1, p2, p3, p4⟩ := per_spec h.intof hc
  refine per_eq h.intoF (by rw [h.cycU hi]; exact hc) p1 (by rw [h.it_U hi, p3]) fun j h1 h2 e => ?_
  rw [h.it_U hi] at e
  exact p4 j h1 h2 (h.inj (it_lt h.intof j hi) hi e)
theorem rndU (h : Twin F N f n p U) {i : Nat} (hc : cyc f n i = true) : rnd F N (U i) = (rnd f n i).map U := by
  unfold rnd
  rw [h.perU hc, List.map_map]
  exact List.map_congr_left fun j _ => h.it_U (cyc_lt h.intof hc) j
theorem leU (h : Twin F N f n p U) {i j : Nat} (hi : i < n) (hj : j < n) : U i ≤ U j ↔ i ≤ j := by
  have := h.mono j i hj hi
  omega
theorem leadU (h : Twin F N f n p U) {i : Nat} (hi : i < n) : lead F N (U i) = lead f n i := by
  rw [Bool.eq_iff_iff, lead_iff h.intoF, lead_iff h.intof, h.cycU hi]
  constructor
  · rintro ⟨hc, hz⟩
    refine ⟨hc, fun z hm => ?_⟩
    have hzn := cyc_lt h.intof (rnd_back h.intof hc hm).2
    rw [h.rndU hc] at hz
    exact (h.leU hi hzn).1 (hz _ (List.mem_map.2 ⟨z, hm, rfl⟩))
  · rintro ⟨hc, hz⟩
    refine ⟨hc, fun z hm => ?_⟩
    rw [h.rndU hc] at hm
    obtain ⟨y, hy, rfl⟩ := List.mem_map.1 hm
    have hyn := cyc_lt h.intof (rnd_back h.intof hc hy).2
    exact (h.leU hi hyn).2 (hz y hy)
theorem lead_img (h : Twin F N f n p U) {x : Nat} (hl : lead F N x = true) : ∃ i, i < n ∧ x = U i ∧ lead f n i = true := by
  obtain ⟨i, hi, rfl, _⟩ := h.cyc_img ((lead_iff h.intoF).1 hl).1
  exact ⟨i, hi, rfl, by rw [← h.leadU hi]; exact hl⟩

theorem asc_ext {a b : List Nat} (ha : a.Pairwise (· < ·)) (hb : b.Pairwise (· < ·)) (h : ∀ x, x ∈ a ↔ x ∈ b) : a = b := by
  have na : a.Nodup := ha.imp fun h => Nat.ne_of_lt h
  have nb : b.Nodup := hb.imp fun h => Nat.ne_of_lt h
  have hp : a.Perm b := (List.perm_ext_iff_of_nodup na nb).2 h
  exact List.Perm.eq_of_pairwise (le := fun x y : Nat => x < y) (fun x y _ _ h1 h2 => by omega) ha hb hp
/-- The first numbers of the cycles. -/
theorem leads (h : Twin F N f n p U) : (List.range N).filter (lead F N) = ((List.range n).filter (lead f n)).map U := by
  refine asc_ext (List.pairwise_lt_range.filter _) ?_ fun x => ?_
  · rw [List.pairwise_map]
    refine (List.pairwise_lt_range.filter _).imp_of_mem ?_
    intro a b ha hb hab
    exact (h.mono a b (List.mem_range.1 (List.mem_filter.1 ha).1) (List.mem_range.1 (List.mem_filter.1 hb).1)).2 hab
  · rw [List.mem_filter, List.mem_map, List.mem_range]
    constructor
    · rintro ⟨_, hl⟩
      obtain ⟨i, hi, rfl, hl2⟩ := h.lead_img hl
      exact ⟨i, List.mem_filter.2 ⟨List.mem_range.2 hi, hl2⟩, rfl⟩
    · rintro ⟨i, hi, rfl⟩
      have h1 := List.mem_filter.1 hi
      have h2 := List.mem_range.1 h1.1
      exact ⟨h.ul i h2, by rw [h.leadU h2]; exact h1.2⟩
/-- All cycles. -/
theorem cycles (h : Twin F N f n p U) : cycs F N = (cycs f n).map (List.map U) := by
  unfold cycs cycsTo
  rw [h.leads, List.map_map, List.map_map]
  refine List.map_congr_left fun i hi => ?_
  have h1 := List.mem_filter.1 hi
  exact h.rndU ((lead_iff h.intof).1 h1.2).1
theorem cycles_len (h : Twin F N f n p U) : (cycs F N).length = (cycs f n).length := by rw [h.cycles, List.length_map]
/-- Depths. -/
theorem dep0 (h : Twin F N f n p U) {x : Nat} (hx : x < N) (hc : cyc F N x = true) : dep F N x = 0 := dep_eq hx hc (fun j hj => by omega)
theorem depS (h : Twin F N f n p U) {x : Nat} (hx : x < N) (hc : cyc F N x = false) : dep F N x = dep f n (p x) + 1 := by
  obtain ⟨d1, d2, d3⟩ := dep_spec (f := f) (h.pl x hx)
  refine dep_eq hx ?_ fun j hj => ?_
  · rw [h.it_F hx, h.cycU (it_lt h.intof _ (h.pl x hx))]; exact d2
  · cases j with
    | zero => exact hc
    | succ j => rw [h.it_F hx, h.cycU (it_lt h.intof _ (h.pl x hx))]; exact d3 j (by omega)
/-- Where a run ends. -/
theorem lo (h : Twin F N f n p U) {x m : Nat} (hx : x < N) (hm : Lo f n (p x) m) : Lo F N x (U m) := by
  obtain ⟨h1, t, h2⟩ := hm
  have hmn : m < n := by rw [← h2]; exact it_lt h.intof t (h.pl x hx)
  exact ⟨by rw [h.leadU hmn]; exact h1, t + 1, by rw [h.it_F hx, h2]⟩
/-- A number on a cycle: one of the cycle where its run ends, and its step is on it too. -/
theorem cyc_iff_lo (h : Twin F N f n p U) {x m : Nat} (hx : x < N) (hm : Lo f n (p x) m) : cyc F N x = true ↔ dep f n (p x) = 0 ∧ ∃ i ∈ rnd f n m, x = U i := by
  constructor
  · intro hc
    obtain ⟨i, hi, rfl, hci⟩ := h.cyc_img hc
    have e : p (U i) = f i := (h.ef i hi).symm
    rw [e] at hm ⊢
    have hcf := cyc_step h.intof hci
    refine ⟨dep_eq (cyc_lt h.intof hcf) hcf (fun j hj => by omega), i, ?_, rfl⟩
    obtain ⟨hl, t, ht⟩ := hm
    have h1 : m ∈ rnd f n i := by
      have := mem_rnd_any h.intof hci (t + 1)
      rwa [it_in, ht] at this
    exact (rnd_back h.intof hci h1).1
  · rintro ⟨_, i, hi, rfl⟩
    have hcm := ((lead_iff h.intof).1 hm.1).1
    have hci := (rnd_back h.intof hcm hi).2
    rw [h.cycU (cyc_lt h.intof hci)]; exact hci
end Twin

end Go.Proofs.Ytadjjmlneghklaa

/- from XGD -/
namespace Go.Proofs.Ytadjjmlneghklaa
open Go.RowKit
set_option linter.unusedVariables false
set_option linter.unusedSimpArgs false
set_option maxRecDepth 100000

theorem Rd.mg {w : World} {B g k cap n : Nat} {f : Nat → Nat} (h : Rd w B (.slice (some ⟨g, 0, none⟩) k cap) (lst n f)) (hf : Into f n) (h0 : 1 ≤ n) (h1 : n ≤ 100000) : Mg w g n f := by
  obtain ⟨_, _, hg, _, hc, _⟩ := h.at
  refine ⟨hg, fun j hj => ?_, hf, h0, h1⟩
  rw [hc j (by rw [lst_len]; exact hj), lst_at]

theorem rg_rd {w : World} {B : Nat} {v : Value} {xs : List Int} (h : Rg 3 w B v (xs.map (Value.int .i64))) : Rd w B v xs := by
  unfold Rg at h
  rw [List.length_map] at h
  exact h

theorem lst_zero (n : Nat) : List.replicate n (Value.int .i64 0) = (lst n (fun _ => 0)).map (Value.int .i64) := by
  apply List.ext_getElem
  · simp [lst]
  · intro j h1 h2
    simp [lst]

/-- 'make(mapping, n)'. -/
theorem wpList_mkM {w : World} {ops : Array Oper} {rest : List Oper} {o : Oper} {a : Act} {Q : Exit → Act → World → Prop} (hgd : o.guard = none) (l c : Operand) (t : TypeId) (ht : Try.prog.underlying t = some (.slice 3)) (ho : o.op = Op.makeSlice t l c)
    (kl kc : IntKind) (L C : Int) (n : Nat) (hl : a.eval l = .int kl L) (hc : a.eval c = .int kc C) (hL : L = (n : Int)) (hC : C = (n : Int)) (hn : n ≤ 100000)
    (h : ∀ w', Rd w' w.heap.size (.slice (some ⟨w.heap.size, 0, none⟩) n n) (lst n (fun _ => 0)) → w.grownBy w' none → Below w.heap.size w w' → wpList Try.prog ops Q rest (a.put o.dst (.slice (some ⟨w.heap.size, 0, none⟩) n n)) w') :
    wpList Try.prog ops Q (o :: rest) a w := by
  refine wpList_mkG hgd l c t 3 (.int .i64 0) 8 ht info3 (by omega) rfl ho kl kc L C n hl hc hL hC (by omega) ?_
  intro w' h1 h2 h3
  rw [lst_zero] at h1
  exact h w' (rg_rd h1) h2 h3

theorem lst_set (n : Nat) (F : Nat → Nat) (k q : Nat) : (lst n F).set k (q : Int) = lst n (fun x => if x = k then q else F x) := by
  apply List.ext_getElem?
  intro j
  by_cases hj : j < n
  · by_cases e : k = j
    · subst e; simp [lst, List.getElem?_set, hj]
    · have e' : ¬ j = k := fun h => e h.symm
      simp [lst, List.getElem?_set, hj, e, e']
  · rw [List.getElem?_eq_none (by simp [lst]; omega), List.getElem?_eq_none (by simp [lst]; omega)]

theorem Rd.setL {w : World} {B g n cap : Nat} {F : Nat → Nat} (h : Rd w B (.slice (some ⟨g, 0, none⟩) n cap) (lst n F)) (j q : Nat) :
    Rd (w.setCell ⟨g, j, none⟩ (.int .i64 (q : Int))) B (.slice (some ⟨g, 0, none⟩) n cap) (lst n (fun x => if x = j then q else F x)) ∧ w.grownBy (w.setCell ⟨g, j, none⟩ (.int .i64 (q : Int))) (some g) := by
  have := h.set j (q : Int)
  rw [lst_set] at this
  exact this

theorem lst_fill {n : Nat} {F G : Nat → Nat} (k : Nat) (hG : G k = F k) : lst n (fun x => if x = k then G k else if x < k then F x else 0) = lst n (fun x => if x < k + 1 then F x else 0) := by
  apply lst_congr
  intro x _
  by_cases e : x = k
  · subst e; rw [if_pos rfl, if_pos (by omega), hG]
  · rw [if_neg e]
    by_cases h : x < k
    · rw [if_pos h, if_pos (by omega)]
    · rw [if_neg h, if_neg (by omega)]

theorem lst_full (n : Nat) (F : Nat → Nat) : lst n (fun x => if x < n then F x else 0) = lst n F := lst_congr fun x hx => if_pos hx
theorem lst_none (n : Nat) (F : Nat → Nat) : lst n (fun _ => 0) = lst n (fun x => if x < 0 then F x else 0) := lst_congr fun x _ => by simp

theorem then_any (g n cap g2 cap2 : Nat) (f f2 : Nat → Nat) (w : World) (h : Mg w g n f) (h2 : Mg w g2 n f2) :
    Calls Try.prog 73 #[.slice (some ⟨g, 0, none⟩) n cap, .slice (some ⟨g2, 0, none⟩) n cap2] w fun e w' => ∃ g3 cap3, e = .returned (.slice (some ⟨g3, 0, none⟩) n cap3) ∧ Rd w' w.heap.size (.slice (some ⟨g3, 0, none⟩) n cap3) (lst n (fun x => f2 (f x))) ∧ Below w.heap.size w w' := by
  have H := Lib.hid h
  have H2 := Lib.hid h2
  have h0 := h.n0
  have h1 := h.n1
  clear h h2
  go_enter Try.func73, Try.ntmps73
  go_wp2_with (at_make; refine wpList_mkM rfl _ _ _ Try.underlying57 rfl .i64 .i64 _ _ n rfl rfl rfl rfl (by omega) ?_; intro w1 hr1 hg1 hb1)
  have HR1 := Lib.hid hr1
  have HB1 := Lib.hid hb1
  clear hr1 hg1 hb1
  go_loopw [13] (fun i wr => ∃ k : Nat, k ≤ n ∧ i = .int .i64 k ∧ Rd wr w.heap.size (.slice (some ⟨w.heap.size, 0, none⟩) n n) (lst n (fun x => if x < k then f2 (f x) else 0)) ∧ Below w.heap.size w wr) (fun i _ => n - (intOf i).toNat)
  case atStart => exact ⟨0, Nat.zero_le _, rfl, by rw [← lst_none]; exact HR1.out, HB1.out⟩
  case round =>
    obtain ⟨k, hk, rfl, hr, hb⟩ := hrel
    have HR := Lib.hid hr
    have HB := Lib.hid hb
    clear hr hb
    by_cases hlt : k < n
    · have hcell := (H.out.keep HB.out).cell k hlt
      have hfk := H.out.into k hlt
      have hcell2 := (H2.out.keep HB.out).cell (f k) hfk
      obtain ⟨hcs, hfs⟩ := HR.out.at.2.2.2.2
      obtain ⟨q, hd⟩ : ∃ q, wr.cell? ⟨w.heap.size, k, none⟩ = some (.int .i64 q) := ⟨_, hcs k (by rw [lst_len]; omega)⟩
      have hf := hfs k
      have HS := Lib.hid (HR.out.setL k (f2 (f k)))
      have HBs := Lib.hid (HB.out.setCell (p := ⟨w.heap.size, k, none⟩) (Nat.le_refl _) (.int .i64 ((f2 (f k) : Nat) : Int)))
      have HF := Lib.hid (lst_fill (n := n) (F := fun x => f2 (f x)) (G := fun x => f2 (f x)) k rfl)
      clear hcs hfs
      go_wp2
      go_roundw
      case rel => exact ⟨k + 1, by omega, by go_num, by rw [← HF.out]; exact HS.out.1, HBs.out⟩
      case measure => simp [intOf]; omega
    · obtain rfl : k = n := by omega
      go_wp2
      go_ret
      exact ⟨_, _, rfl, by rw [← lst_full k (fun x => f2 (f x))]; exact HR.out, HB.out⟩

theorem it_sq (f : Nat → Nat) (j y : Nat) : it (fun x => f (f x)) j y = it f (2 * j) y := by
  induction j with
  | zero => rfl
  | succ j ih => rw [show 2 * (j + 1) = (2 * j + 1) + 1 from by omega]; simp only [it, ih]

theorem power_any (g n cap : Nat) (f : Nat → Nat) (K : Nat) (w : World) (h : Mg w g n f) (hK : K ≤ 1000000) :
    Calls Try.prog 60 #[.slice (some ⟨g, 0, none⟩) n cap, .int .i64 (K : Int)] w fun e w' => ∃ g3 cap3, e = .returned (.slice (some ⟨g3, 0, none⟩) n cap3) ∧ Rd w' w.heap.size (.slice (some ⟨g3, 0, none⟩) n cap3) (lst n (it f K)) ∧ Below w.heap.size w w' := by
  have H := Lib.hid h
  have h0 := h.n0
  have h1 := h.n1
  clear h
  go_enter Try.func60, Try.ntmps60
  go_wp2_with (at_make; refine wpList_mkM rfl _ _ _ Try.underlying57 rfl .i64 .i64 _ _ n rfl rfl rfl rfl (by omega) ?_; intro w1 hr1 hg1 hb1)
  have HR1 := Lib.hid hr1
  have HB1 := Lib.hid hb1
  clear hr1 hg1 hb1
  go_loopw [12] (fun i wr => ∃ k : Nat, k ≤ n ∧ i = .int .i64 k ∧ Rd wr w.heap.size (.slice (some ⟨w.heap.size, 0, none⟩) n n) (lst n (fun x => if x < k then id x else 0)) ∧ Below w.heap.size w wr) (fun i _ => n - (intOf i).toNat)
  case atStart => exact ⟨0, Nat.zero_le _, rfl, by rw [← lst_none]; exact HR1.out, HB1.out⟩
  case round =>
    obtain ⟨k, hk, rfl, hr, hb⟩ := hrel
    have HR := Lib.hid hr
    have HB := Lib.hid hb
    clear hr hb
    by_cases hlt : k < n
    · obtain ⟨hcs, hfs⟩ := HR.out.at.2.2.2.2
      obtain ⟨q, hd⟩ : ∃ q, wr.cell? ⟨w.heap.size, k, none⟩ = some (.int .i64 q) := ⟨_, hcs k (by rw [lst_len]; omega)⟩
      have hf := hfs k
      have HS := Lib.hid (HR.out.setL k k)
      have HBs := Lib.hid (HB.out.setCell (p := ⟨w.heap.size, k, none⟩) (Nat.le_refl _) (.int .i64 (k : Int)))
      have HF := Lib.hid (lst_fill (n := n) (F := id) (G := id) k rfl)
      clear hcs hfs
      go_wp2
      go_roundw
      case rel => exact ⟨k + 1, by omega, by go_num, by rw [← HF.out]; exact HS.out.1, HBs.out⟩
      case measure => simp [intOf]; omega
    · obtain rfl : k = n := by omega
      rw [lst_full] at HR
      go_wp2
      go_loopw [0, 1, 5] (fun m i p wr => ∃ (gm gp cm cp j : Nat) (fm fp : Nat → Nat), m = .slice (some ⟨gm, 0, none⟩) k cm ∧ i = .int .i64 (j : Int) ∧ p = .slice (some ⟨gp, 0, none⟩) k cp ∧ j ≤ K ∧ Mg wr gm k fm ∧ Rd wr w.heap.size (.slice (some ⟨gp, 0, none⟩) k cp) (lst k fp) ∧ Into fp k ∧ (∀ x, x < k → it fm j (fp x) = it f K x) ∧ Below w.heap.size w wr) (fun _ i _ _ => (intOf i).toNat)
      case atStart => exact ⟨g, w.heap.size, cap, k, K, f, id, rfl, rfl, rfl, Nat.le_refl _, H.out.keep HB.out, HR.out, fun x hx => hx, fun x hx => rfl, HB.out⟩
      case round =>
        obtain ⟨gm, gp, cm, cp, j, fm, fp, rfl, rfl, rfl, hj, hm, hp, hi, he, hb⟩ := hrel
        have HM := Lib.hid hm
        have HP := Lib.hid hp
        have HI := Lib.hid hi
        have HE := Lib.hid he
        have HB2 := Lib.hid hb
        clear hm hp hi he hb
        by_cases hpos : 0 < j
        · have hpos' : 0 < (j : Int) := by omega
          by_cases hodd : j % 2 = 1
          · have ho : ((j : Int) % 2 == 1) = true := beq_yes (by omega)
            have HO := Lib.hid hodd
            clear hodd
            go_wp2_with fail
            refine (then_any gp k cp gm cm fp fm _ (HP.out.mg HI.out (by omega) (by omega)) HM.out).mono ?_
            rintro e w2 ⟨g3, c3, rfl, hr, hb⟩
            have HP2 := Lib.hid hr
            have HM2 := Lib.hid (HM.out.keep hb)
            have HB3 := Lib.hid (Below.step HB2.out HB2.out.size hb)
            clear hr hb
            go_wp2_with fail
            refine (then_any gm k cm gm cm fm fm _ HM2.out HM2.out).mono ?_
            rintro e w3 ⟨g4, c4, rfl, hr, hb⟩
            have HM3 := Lib.hid (hr.mg (fun x hx => HM.out.into _ (HM.out.into _ hx)) (by omega) (by omega))
            have HP3 := Lib.hid (HP2.out.keep hb)
            have HB4 := Lib.hid (Below.step HB3.out HB3.out.size hb)
            have hsz := HB2.out.size
            clear hr hb
            go_wp2
            go_roundw
            case rel => exact ⟨g4, g3, c4, c3, j / 2, _, _, rfl, by go_num, rfl, by omega, HM3.out, HP3.out.mono hsz, fun x hx => HM.out.into _ (HI.out x hx), fun x hx => by rw [it_sq, ← HE.out x hx, ← it_in]; congr 1; have := HO.out; omega, HB4.out⟩
            case measure => simp [intOf]; omega
          · have ho : ((j : Int) % 2 == 1) = false := beq_no (by omega)
            have HO := Lib.hid hodd
            clear hodd
            go_wp2_with fail
            refine (then_any gm k cm gm cm fm fm _ HM.out HM.out).mono ?_
            rintro e w3 ⟨g4, c4, rfl, hr, hb⟩
            have HM3 := Lib.hid (hr.mg (fun x hx => HM.out.into _ (HM.out.into _ hx)) (by omega) (by omega))
            have HP3 := Lib.hid (HP.out.keep hb)
            have HB4 := Lib.hid (Below.step HB2.out HB2.out.size hb)
            clear hr hb
            go_wp2
            go_roundw
            case rel => exact ⟨g4, gp, c4, cp, j / 2, _, _, rfl, by go_num, rfl, by omega, HM3.out, HP3.out, HI.out, fun x hx => by rw [it_sq, ← HE.out x hx]; congr 1; have := HO.out; omega, HB4.out⟩
            case measure => simp [intOf]; omega
        · have hpos' : ¬ 0 < (j : Int) := by omega
          obtain rfl : j = 0 := by omega
          have HL := Lib.hid (lst_congr (n := k) (F := fp) (G := it f K) (fun x hx => HE.out x hx))
          go_wp2
          go_ret
          exact ⟨_, _, rfl, by rw [← HL.out]; exact HP.out, HB2.out⟩

/-- The program's depths. -/
theorem depths_any (g n cap : Nat) (f : Nat → Nat) (w : World) (h : Mg w g n f) :
    Calls Try.prog 41 #[.slice (some ⟨g, 0, none⟩) n cap] w fun e w' => ∃ g2 c2, e = .returned (.slice (some ⟨g2, 0, none⟩) n c2) ∧ Rd w' w.heap.size (.slice (some ⟨g2, 0, none⟩) n c2) (lst n (dep f n)) ∧ Below w.heap.size w w' := by
  have H := Lib.hid h
  have h0 := h.n0
  have h1 := h.n1
  clear h
  go_enter Try.func41, Try.ntmps41
  go_wp2_with (at_make; refine wpList_mkM rfl _ _ _ Try.underlying33 rfl .i64 .i64 _ _ n rfl rfl rfl rfl (by omega) ?_; intro w1 hr1 hg1 hb1)
  have HR1 := Lib.hid hr1
  have HB1 := Lib.hid hb1
  clear hr1 hg1 hb1
  refine (onCycles_any g n cap f _ (H.out.keep HB1.out)).mono ?_
  rintro e w2 ⟨b, rfl, hCb, hs, hb⟩
  have HS := Lib.hid hs
  have HR2 := Lib.hid (HR1.out.keep hb)
  have HB2 := Lib.hid (Below.step HB1.out HB1.out.size hb)
  have hgb : w.heap.size < b := by have := (HR1.out.lt w.heap.size rfl).2; omega
  clear hs hb hCb
  go_wp2
  go_loopw [14] (fun i wr => ∃ k : Nat, k ≤ n ∧ i = .int .i64 k ∧ St wr n b (cyc f n) ∧ Rd wr w.heap.size (.slice (some ⟨w.heap.size, 0, none⟩) n n) (lst n (fun x => if x < k then dep f n x else 0)) ∧ Below w.heap.size w wr) (fun i _ => n - (intOf i).toNat)
  case atStart => exact ⟨0, Nat.zero_le _, rfl, HS.out, by rw [← lst_none]; exact HR2.out, HB2.out⟩
  case round =>
    obtain ⟨k, hk, rfl, hs, hr, hb⟩ := hrel
    have HSk := Lib.hid hs
    have HRk := Lib.hid hr
    have HBk := Lib.hid hb
    clear hs hr hb
    by_cases hlt : k < n
    · have HD := Lib.hid (dep_spec (f := f) hlt)
      obtain ⟨d, hd⟩ : ∃ d, d = dep f n k := ⟨_, rfl⟩
      have HE := Lib.hid hd
      rw [← hd] at HD
      have hdn := HD.out.1
      clear hd
      go_wp2
      go_loopw [6] (fun y wr => ∃ (j : Nat), j ≤ d ∧ y = .int .i64 ((it f j k : Nat) : Int) ∧ St wr n b (cyc f n) ∧ Rd wr w.heap.size (.slice (some ⟨w.heap.size, 0, none⟩) n n) (lst n (fun x => if x = k then j else if x < k then dep f n x else 0)) ∧ Below w.heap.size w wr) (fun y wr => d - (match wr.cell? ⟨w.heap.size, k, none⟩ with | some (.int _ j) => j.toNat | _ => 0))
      case atStart => exact ⟨0, Nat.zero_le _, rfl, HSk.out, by rw [lst_congr (G := fun x => if x < k then dep f n x else 0) (fun x _ => by by_cases e : x = k <;> simp [e])]; exact HRk.out, HBk.out⟩
      case round =>
        obtain ⟨j, hj, rfl, hs, hr, hb⟩ := hrel
        have HSj := Lib.hid hs
        have HRj := Lib.hid hr
        have HBj := Lib.hid hb
        clear hs hr hb
        have hy := it_lt H.out.into j hlt
        obtain ⟨y, hyy⟩ : ∃ y, y = it f j k := ⟨_, rfl⟩
        have HY := Lib.hid hyy
        rw [← hyy] at hy ⊢
        clear hyy
        by_cases hjd : j < d
        · have hc := HD.out.2.2 j hjd
          rw [← HY.out] at hc
          obtain ⟨hcs, hfs⟩ := HRj.out.at.2.2.2.2
          have hd : wr.cell? ⟨w.heap.size, k, none⟩ = some (.int .i64 (j : Int)) := by rw [hcs k (by rw [lst_len]; omega), lst_at]; simp
          have hf := hfs k
          have ej : ((j + 1 : Nat) : Int) = (j : Int) + 1 := by omega
          have h1s := HRj.out.setL k (j + 1)
          rw [ej] at h1s
          have HS1 := Lib.hid h1s
          have HBs := Lib.hid (HBj.out.setCell (p := ⟨w.heap.size, k, none⟩) (Nat.le_refl _) (.int .i64 ((j : Int) + 1)))
          have HSs := Lib.hid (HSj.out.kept HS1.out.2 (fun e => by cases e; exact absurd hgb (Nat.lt_irrefl _)))
          have hcell2 := (H.out.keep HBs.out).cell y hy
          have hcp : (wr.setCell ⟨w.heap.size, k, none⟩ (.int .i64 ((j : Int) + 1))).cell? ⟨w.heap.size, k, none⟩ = some (.int .i64 ((j : Int) + 1)) := by
            rw [HS1.out.1.at.2.2.2.2.1 k (by rw [lst_len]; omega), lst_at]; simp
          have HCP := Lib.hid hcp
          have HCJ := Lib.hid hd
          have HLs := Lib.hid (lst_congr (n := n) (F := fun x => if x = k then j + 1 else if x = k then j else if x < k then dep f n x else 0) (G := fun x => if x = k then j + 1 else if x < k then dep f n x else 0) (fun x _ => by by_cases e : x = k <;> simp [e]))
          clear hcs hfs hcp h1s ej
          go_wp2_with (at_lookup; refine wpList_lookS rfl _ _ rfl n b _ y rfl rfl HSj.out hy h1 ?_; rw [hc])
          go_roundw
          case rel => exact ⟨j + 1, by omega, by rw [HY.out]; rfl, HSs.out, by rw [← HLs.out]; exact HS1.out.1, HBs.out⟩
          case measure => rw [HCP.out, HCJ.out]; simp; omega
        · obtain rfl : j = d := by omega
          have hc := HD.out.2.1
          rw [← HY.out] at hc
          have HLs := Lib.hid (lst_congr (n := n) (F := fun x => if x = k then j else if x < k then dep f n x else 0) (G := fun x => if x < k + 1 then dep f n x else 0) (fun x _ => by
            by_cases e : x = k
            · subst e; simp [HE.out]
            · have : (x < k + 1) = (x < k) := by apply propext; omega
              simp only [e, if_false, this]))
          go_wp2_with (at_lookup; refine wpList_lookS rfl _ _ rfl n b _ y rfl rfl HSj.out hy h1 ?_; rw [hc])
          go_roundw
          case rel => exact ⟨k + 1, by omega, by go_num, HSj.out, by rw [← HLs.out]; exact HRj.out, HBj.out⟩
          case measure => simp [intOf]; omega
    · obtain rfl : k = n := by omega
      go_wp2
      go_ret
      exact ⟨_, _, rfl, by rw [← lst_full k (dep f k)]; exact HRk.out, HBk.out⟩


end Go.Proofs.Ytadjjmlneghklaa

/- from XGB -/
namespace Go.Proofs.Ytadjjmlneghklaa
open Go.RowKit
set_option linter.unusedVariables false
set_option linter.unusedSimpArgs false
set_option maxRecDepth 100000

theorem least_mem : ∀ (l : List Nat), l ≠ [] → ∃ z ∈ l, ∀ t ∈ l, z ≤ t
  | [], h => absurd rfl h
  | [a], _ => ⟨a, by simp, fun t ht => by simp at ht; omega⟩
  | a :: b :: l, _ => by
    obtain ⟨z, hz, hm⟩ := least_mem (b :: l) (by simp)
    by_cases h : a ≤ z
    · refine ⟨a, by simp, fun t ht => ?_⟩
      rcases List.mem_cons.1 ht with rfl | ht
      · omega
      · have := hm t ht; omega
    · refine ⟨z, List.mem_cons_of_mem _ hz, fun t ht => ?_⟩
      rcases List.mem_cons.1 ht with rfl | ht
      · omega
      · exact hm t ht

theorem lead_ex {f : Nat → Nat} {n y : Nat} (h : Into f n) (hc : cyc f n y = true) : ∃ x, x < n ∧ lead f n x = true ∧ y ∈ rnd f n x := by
  obtain ⟨z, hz, hm⟩ := least_mem (rnd f n y) (List.ne_nil_of_mem (mem_rnd_any h hc 0))
  obtain ⟨h1, h2⟩ := rnd_back h hc hz
  refine ⟨z, cyc_lt h h2, (lead_iff h).2 ⟨h2, fun t ht => hm t (rnd_trans h hc hz ht)⟩, h1⟩

theorem lead_one {f : Nat → Nat} {n x z y : Nat} (h : Into f n) (hx : lead f n x = true) (hz : lead f n z = true) (h1 : y ∈ rnd f n x) (h2 : y ∈ rnd f n z) : x = z := by
  obtain ⟨cx, mx⟩ := (lead_iff h).1 hx
  obtain ⟨cz, mz⟩ := (lead_iff h).1 hz
  have a1 := (rnd_back h cx h1).1
  have a2 := (rnd_back h cz h2).1
  have := mx z (rnd_trans h cx h1 a2)
  have := mz x (rnd_trans h cz h2 a1)
  omega

theorem per_it {f : Nat → Nat} {n y : Nat} (h : Into f n) (hc : cyc f n y = true) (k : Nat) : per f n (it f k y) = per f n y := by
  have hck := cyc_it h hc k
  have key : ∀ j, it f j (it f k y) = it f k y ↔ it f j y = y := by
    intro j
    rw [← it_add]
    constructor
    · intro he
      obtain ⟨p1, p2, p3, p4⟩ := per_spec h hc
      have e1 : it f (k * per f n y - k) (it f (j + k) y) = it f (k * per f n y - k) (it f k y) := by rw [he]
      have hle : k ≤ k * per f n y := Nat.le_mul_of_pos_right _ (by omega)
      rw [← it_add, ← it_add, show k * per f n y - k + (j + k) = j + k * per f n y from by omega, show k * per f n y - k + k = k * per f n y from by omega, it_add f j, it_mul p3] at e1
      exact e1
    · intro he
      rw [Nat.add_comm, it_add, he]
  obtain ⟨p1, p2, p3, p4⟩ := per_spec h hc
  exact per_eq h hck p1 ((key _).2 p3) fun j h1 h2 he => p4 j h1 h2 ((key j).1 he)

theorem cycs_get {f : Nat → Nat} {n i : Nat} {l : List Nat} (hl : (cycs f n)[i]? = some l) : ∃ x, ((List.range n).filter (lead f n))[i]? = some x ∧ l = rnd f n x ∧ lead f n x = true ∧ x < n := by
  unfold cycs cycsTo at hl
  rw [List.getElem?_map] at hl
  cases hx : ((List.range n).filter (lead f n))[i]? with
  | none => rw [hx] at hl; cases hl
  | some x =>
    rw [hx] at hl
    simp only [Option.map_some, Option.some.injEq] at hl
    have hm := List.mem_of_getElem? hx
    rw [List.mem_filter, List.mem_range] at hm
    exact ⟨x, rfl, hl.symm, hm.2, hm.1⟩

theorem cycs_disj {f : Nat → Nat} {n i j y : Nat} {l m : List Nat} (h : Into f n) (hl : (cycs f n)[i]? = some l) (hm : (cycs f n)[j]? = some m) (h1 : y ∈ l) (h2 : y ∈ m) : i = j := by
  obtain ⟨x, hx, rfl, lx, _⟩ := cycs_get hl
  obtain ⟨z, hz, rfl, lz, _⟩ := cycs_get hm
  have he := lead_one h lx lz h1 h2
  subst he
  have hn : ((List.range n).filter (lead f n)).Pairwise (· < ·) := List.Pairwise.filter _ List.pairwise_lt_range
  obtain ⟨i1, i2⟩ := List.getElem?_eq_some_iff.1 hx
  obtain ⟨j1, j2⟩ := List.getElem?_eq_some_iff.1 hz
  by_cases h3 : i < j
  · have := List.pairwise_iff_getElem.1 hn i j i1 j1 h3
    omega
  · by_cases h4 : j < i
    · have := List.pairwise_iff_getElem.1 hn j i j1 i1 h4
      omega
    · omega

theorem cycs_has {f : Nat → Nat} {n y : Nat} (h : Into f n) (hc : cyc f n y = true) : ∃ (i : Nat) (l : List Nat), (cycs f n)[i]? = some l ∧ y ∈ l ∧ i < n := by
  obtain ⟨x, hx, hl, hy⟩ := lead_ex h hc
  obtain ⟨i, hi, he⟩ := List.getElem_of_mem (List.mem_filter.2 ⟨List.mem_range.2 hx, hl⟩ : x ∈ (List.range n).filter (lead f n))
  have hlen : i < (cycs f n).length := by unfold cycs cycsTo; rw [List.length_map]; exact hi
  refine ⟨i, rnd f n x, ?_, hy, Nat.lt_of_lt_of_le hlen (cycsTo_len f n n)⟩
  unfold cycs cycsTo
  rw [List.getElem?_map, List.getElem?_eq_getElem hi, he]
  rfl

theorem cycs_cyc {f : Nat → Nat} {n i y : Nat} {l : List Nat} (h : Into f n) (hl : (cycs f n)[i]? = some l) (hy : y ∈ l) : cyc f n y = true ∧ y < n := by
  obtain ⟨x, _, rfl, lx, _⟩ := cycs_get hl
  have := (rnd_back h ((lead_iff h).1 lx).1 hy).2
  exact ⟨this, cyc_lt h this⟩

theorem cycs_per {f : Nat → Nat} {n i y : Nat} {l : List Nat} (h : Into f n) (hl : (cycs f n)[i]? = some l) (hy : y ∈ l) : l.length = per f n y := by
  obtain ⟨x, _, rfl, lx, _⟩ := cycs_get hl
  obtain ⟨j, _, rfl⟩ := mem_rnd.1 hy
  rw [rnd_len, per_it h ((lead_iff h).1 lx).1]

/-- The index of the cycle on which y is. -/
def idx (f : Nat → Nat) (n y : Nat) : Nat := fst (fun i => match (cycs f n)[i]? with | some l => decide (y ∈ l) | none => false) n

theorem idx_eq {f : Nat → Nat} {n i y : Nat} {l : List Nat} (h : Into f n) (hl : (cycs f n)[i]? = some l) (hy : y ∈ l) : idx f n y = i := by
  have hi : i < (cycs f n).length := (List.getElem?_eq_some_iff.1 hl).1
  refine fst_eq n _ i (Nat.le_trans (Nat.le_of_lt hi) (cycsTo_len f n n)) (by simp [hl, hy]) fun j hj => ?_
  cases hm : (cycs f n)[j]? with
  | none => rfl
  | some m =>
    simp only [decide_eq_false_iff_not]
    intro hym
    have := cycs_disj h hm hl hym hy
    omega

theorem idx_spec {f : Nat → Nat} {n y : Nat} (h : Into f n) (hc : cyc f n y = true) : ∃ l, (cycs f n)[idx f n y]? = some l ∧ y ∈ l ∧ idx f n y < n := by
  obtain ⟨i, l, h1, h2, h3⟩ := cycs_has h hc
  rw [idx_eq h h1 h2]
  exact ⟨l, h1, h2, h3⟩

def basF (f : Nat → Nat) (n x : Nat) : Nat := idx f n (it f n x)

/-- The numbers of the first i cycles, and the first j of the cycle behind them, have their cycles' indexes. -/
def Idxd (f : Nat → Nat) (n i j : Nat) (F : Nat → Nat) : Prop :=
  (∀ (a : Nat) (l : List Nat), a < i → (cycs f n)[a]? = some l → ∀ y ∈ l, F y = a) ∧ ∀ l, (cycs f n)[i]? = some l → ∀ t, t < j → ∀ y, l[t]? = some y → F y = i

theorem Idxd.step {f : Nat → Nat} {n i j y : Nat} {F : Nat → Nat} {l : List Nat} (h : Into f n) (hI : Idxd f n i j F) (hl : (cycs f n)[i]? = some l) (hy : l[j]? = some y) : Idxd f n i (j + 1) (fun x => if x = y then i else F x) := by
  have hym := List.mem_of_getElem? hy
  refine ⟨fun a m ha hm z hz => ?_, fun m hm t ht z hz => ?_⟩
  · by_cases e : z = y
    · subst e
      have := cycs_disj h hm hl hz hym
      omega
    · simp only [e, if_false]; exact hI.1 a m ha hm z hz
  · rw [hl] at hm
    simp only [Option.some.injEq] at hm
    subst hm
    by_cases e : z = y
    · simp [e]
    · simp only [e, if_false]
      refine hI.2 l hl t ?_ z hz
      by_cases e2 : t = j
      · subst e2; rw [hy] at hz; simp only [Option.some.injEq] at hz; exact absurd hz.symm e
      · omega
theorem Idxd.next {f : Nat → Nat} {n i : Nat} {F : Nat → Nat} {l : List Nat} (hI : Idxd f n i l.length F) (hl : (cycs f n)[i]? = some l) : Idxd f n (i + 1) 0 F := by
  refine ⟨fun a m ha hm z hz => ?_, fun m hm t ht => absurd ht (Nat.not_lt_zero _)⟩
  by_cases e : a = i
  · subst e
    rw [hl] at hm
    simp only [Option.some.injEq] at hm
    subst hm
    obtain ⟨t, ht, he⟩ := List.getElem_of_mem hz
    exact hI.2 l hl t ht z (by rw [List.getElem?_eq_getElem ht, he])
  · exact hI.1 a m (by omega) hm z hz
theorem Idxd.idx {f : Nat → Nat} {n i y : Nat} {F : Nat → Nat} (h : Into f n) (hI : Idxd f n i 0 F) (hi : (cycs f n).length ≤ i) (hc : cyc f n y = true) : F y = idx f n y := by
  obtain ⟨l, h1, h2, h3⟩ := idx_spec h hc
  exact hI.1 _ l (Nat.lt_of_lt_of_le (List.getElem?_eq_some_iff.1 h1).1 hi) h1 y h2

theorem LLv.shape {w : World} {B i : Nat} {v : Value} {vs : List Value} {ls : List (List Nat)} {l : List Nat} (h : LLv w B v vs ls) (hl : ls[i]? = some l) (hne : l ≠ []) : ∃ gu cu, vs[i]? = some (.slice (some ⟨gu, 0, none⟩) l.length cu) ∧ Rd w B (.slice (some ⟨gu, 0, none⟩) l.length cu) (nts l) := by
  have h1 := (List.getElem?_eq_some_iff.1 hl).1
  have h2 : i < vs.length := by rw [h.len]; exact h1
  have h3 : vs[i]? = some vs[i] := by simp [h2]
  have hr := h.at' i _ l h3 hl
  rcases hr.cases with ⟨_, hx⟩ | ⟨gu, cu, hu, _⟩
  · exfalso
    apply hne
    have := congrArg List.length hx
    rw [nts_len] at this
    exact List.eq_nil_of_length_eq_zero this
  · rw [nts_len] at hu
    rw [hu] at hr h3
    exact ⟨gu, cu, h3, hr⟩

theorem LLv.outer {w : World} {B : Nat} {v : Value} {vs : List Value} {ls : List (List Nat)} (h : LLv w B v vs ls) (hne : ls ≠ []) : ∃ gv cv, v = .slice (some ⟨gv, 0, none⟩) ls.length cv := by
  rcases h.row.cases with ⟨_, hx⟩ | ⟨gv, cv, hv⟩
  · exfalso
    apply hne
    have h1 := h.len
    rw [hx] at h1
    exact List.eq_nil_of_length_eq_zero h1.symm
  · rw [h.len] at hv
    exact ⟨gv, cv, hv⟩

theorem cycs_ne {f : Nat → Nat} {n : Nat} (h : Into f n) (h0 : 1 ≤ n) : cycs f n ≠ [] := by
  obtain ⟨i, l, h1, _⟩ := cycs_has h (cyc_at (f := f) (show 0 < n by omega))
  intro e
  rw [e] at h1
  simp at h1

theorem basins_any (g n cap : Nat) (f : Nat → Nat) (w : World) (h : Mg w g n f) :
    Calls Try.prog 38 #[.slice (some ⟨g, 0, none⟩) n cap] w fun e w' => ∃ g2 c2, e = .returned (.slice (some ⟨g2, 0, none⟩) n c2) ∧ Rd w' w.heap.size (.slice (some ⟨g2, 0, none⟩) n c2) (lst n (basF f n)) ∧ Below w.heap.size w w' := by
  have H := Lib.hid h
  have h0 := h.n0
  have h1 := h.n1
  clear h
  go_enter Try.func38, Try.ntmps38
  go_wp2_with (at_make; refine wpList_mkM rfl _ _ _ Try.underlying33 rfl .i64 .i64 _ _ n rfl rfl rfl rfl (by omega) ?_; intro w1 hr1 hg1 hb1)
  have HR1 := Lib.hid hr1
  have HB1 := Lib.hid hb1
  clear hr1 hg1 hb1
  refine (cycles_any g n cap f _ (H.out.keep HB1.out)).mono ?_
  rintro e w2 ⟨v, vs, rfl, hv, hb⟩
  obtain ⟨gv, cv, rfl⟩ := hv.outer (cycs_ne H.out.into h0)
  have HV := Lib.hid hv
  have HR2 := Lib.hid (HR1.out.keep hb)
  have HB2 := Lib.hid (Below.step HB1.out HB1.out.size hb)
  have HGW := Lib.hid (show w.heap.size < w1.heap.size from (HR1.out.lt w.heap.size rfl).2)
  have HCL := Lib.hid (cycsTo_len f n n)
  obtain ⟨m, hm⟩ : ∃ m, m = (cycs f n).length := ⟨_, rfl⟩
  have HM := Lib.hid hm
  rw [← hm]
  have hm60 : m ≤ 100000 := by have := HCL.out; unfold cycs at hm; omega
  clear hv hb hm
  go_wp2
  go_loopw [17] (fun i wr => ∃ (k : Nat) (F : Nat → Nat), k ≤ m ∧ i = .int .i64 k ∧ Idxd f n k 0 F ∧ Rd wr w.heap.size (.slice (some ⟨w.heap.size, 0, none⟩) n n) (lst n F) ∧ LLv wr w1.heap.size (.slice (some ⟨gv, 0, none⟩) m cv) vs (cycs f n) ∧ Below w.heap.size w wr) (fun i _ => m - (intOf i).toNat)
  case atStart => exact ⟨0, _, Nat.zero_le _, rfl, ⟨fun a l ha => absurd ha (Nat.not_lt_zero _), fun l hl t ht => absurd ht (Nat.not_lt_zero _)⟩, HR2.out, by rw [HM.out]; exact HV.out, HB2.out⟩
  case round =>
    obtain ⟨k, F, hk, rfl, hI, hr, hv, hb⟩ := hrel
    have HI := Lib.hid hI
    have HRk := Lib.hid hr
    have HVk := Lib.hid hv
    have HBk := Lib.hid hb
    clear hI hr hv hb
    by_cases hlt : k < m
    · obtain ⟨l, hl⟩ : ∃ l, (cycs f n)[k]? = some l := ⟨(cycs f n)[k]'(by have := HM.out; omega), by simp⟩
      have HL := Lib.hid hl
      obtain ⟨x, _, hlx, hlead, _⟩ := cycs_get hl
      have hlen : 1 ≤ l.length ∧ l.length ≤ n := by
        rw [hlx, rnd_len]
        obtain ⟨p1, p2, _⟩ := per_spec H.out.into ((lead_iff H.out.into).1 hlead).1
        exact ⟨p1, p2⟩
      obtain ⟨hl1, hl2⟩ := hlen
      obtain ⟨gu, cu, hvk, hru⟩ := HVk.out.shape hl (fun e => by rw [e] at hl1; simp at hl1)
      have hcell : wr.cell? ⟨gv, k, none⟩ = some (.slice (some ⟨gu, 0, none⟩) l.length cu) := by
        obtain ⟨i1, i2⟩ := List.getElem?_eq_some_iff.1 hvk
        obtain ⟨_, _, _, _, _, hc, _⟩ := HVk.out.row.at
        rw [hc k i1, i2]
      have HVK := Lib.hid hvk
      obtain ⟨p, hp⟩ : ∃ p, p = l.length := ⟨_, rfl⟩
      have HP := Lib.hid hp
      rw [← hp] at hcell hl1 hl2
      clear hl hlx hlead hvk hru hp
      go_wp2
      go_loopw [24] (fun i wr => ∃ (j : Nat) (F : Nat → Nat), j ≤ p ∧ i = .int .i64 j ∧ Idxd f n k j F ∧ Rd wr w.heap.size (.slice (some ⟨w.heap.size, 0, none⟩) n n) (lst n F) ∧ LLv wr w1.heap.size (.slice (some ⟨gv, 0, none⟩) m cv) vs (cycs f n) ∧ Below w.heap.size w wr) (fun i _ => p - (intOf i).toNat)
      case atStart => exact ⟨0, F, Nat.zero_le _, rfl, HI.out, HRk.out, HVk.out, HBk.out⟩
      case round =>
        obtain ⟨j, F, hj, rfl, hI, hr, hv, hb⟩ := hrel
        have HIj := Lib.hid hI
        have HRj := Lib.hid hr
        have HVj := Lib.hid hv
        have HBj := Lib.hid hb
        clear hI hr hv hb
        by_cases hjp : j < p
        · obtain ⟨y, hy⟩ : ∃ y, l[j]? = some y := ⟨l[j]'(by have := HP.out; omega), by simp⟩
          have hyn := (cycs_cyc H.out.into HL.out (List.mem_of_getElem? hy)).2
          have hru := HVj.out.at' k _ l HVK.out HL.out
          have hcy : wr.cell? ⟨gu, j, none⟩ = some (.int .i64 (y : Int)) := by
            rw [hru.at.2.2.2.2.1 j (by rw [nts_len]; have := HP.out; omega)]
            obtain ⟨j1, j2⟩ := List.getElem?_eq_some_iff.1 hy
            simp [nts, j2]
          obtain ⟨hcs, hfs⟩ := HRj.out.at.2.2.2.2
          obtain ⟨q, hd⟩ : ∃ q, wr.cell? ⟨w.heap.size, y, none⟩ = some (.int .i64 q) := ⟨_, hcs y (by rw [lst_len]; omega)⟩
          have hf := hfs y
          have HT := Lib.hid (HRj.out.setL y k)
          have HIs := Lib.hid (HIj.out.step H.out.into HL.out hy)
          have HVs := Lib.hid (HVj.out.grown HT.out.2 (row_not_rd HRj.out HVj.out.row) (fun i z hz => by
            obtain ⟨l2, _, hz2⟩ := HVj.out.rd hz
            cases hq : z.ownBlock with
            | none => exact .inl rfl
            | some q =>
              right
              intro e
              simp only [Option.some.injEq] at e
              have := (hz2.lt q hq).1
              have := HGW.out
              omega))
          have HBs := Lib.hid (HBj.out.setCell (p := ⟨w.heap.size, y, none⟩) (Nat.le_refl _) (.int .i64 (k : Int)))
          clear hcs hfs hru hy
          go_wp2
          go_roundw
          case rel => exact ⟨j + 1, _, by omega, by go_num, HIs.out, HT.out.1, HVs.out, HBs.out⟩
          case measure => simp [intOf]; omega
        · obtain rfl : j = p := by omega
          have HIn := Lib.hid (Idxd.next (HP.out ▸ HIj.out) HL.out)
          go_wp2
          go_roundw
          case rel => exact ⟨k + 1, F, by omega, by go_num, HIn.out, HRj.out, HVj.out, HBj.out⟩
          case measure => simp [intOf]; omega
    · obtain rfl : k = m := by omega
      go_wp2_with fail
      refine (power_any g n cap f n _ (H.out.keep HBk.out) (by omega)).mono ?_
      rintro e w3 ⟨g3, c3, rfl, hr, hb⟩
      have HP3 := Lib.hid (hr.mono HBk.out.size)
      have HR3 := Lib.hid (HRk.out.keep hb)
      have HB3 := Lib.hid (Below.step HBk.out HBk.out.size hb)
      have HG3 := Lib.hid (show w.heap.size < g3 from by have h2 := (hr.lt g3 rfl).1; have h3 := (HRk.out.lt w.heap.size rfl).2; omega)
      have HIF := Lib.hid (fun y hc => HI.out.idx H.out.into (y := y) (by rw [← HM.out]; exact Nat.le_refl _) hc)
      clear hr hb
      go_wp2
      go_loopw [40] (fun i wr => ∃ k : Nat, k ≤ n ∧ i = .int .i64 k ∧ Rd wr w.heap.size (.slice (some ⟨g3, 0, none⟩) n c3) (lst n (fun x => if x < k then basF f n x else it f n x)) ∧ Rd wr w.heap.size (.slice (some ⟨w.heap.size, 0, none⟩) n n) (lst n F) ∧ Below w.heap.size w wr) (fun i _ => n - (intOf i).toNat)
      case atStart => exact ⟨0, Nat.zero_le _, rfl, by rw [lst_congr (G := it f n) (fun x _ => by simp)]; exact HP3.out, HR3.out, HB3.out⟩
      case round =>
        obtain ⟨k2, hk2, rfl, hp, hr, hb⟩ := hrel
        have HPk := Lib.hid hp
        have HRj := Lib.hid hr
        have HBj := Lib.hid hb
        clear hp hr hb
        by_cases hlt2 : k2 < n
        · obtain ⟨y, hy⟩ : ∃ y, y = it f n k2 := ⟨_, rfl⟩
          have hyn := it_lt H.out.into n hlt2
          rw [← hy] at hyn
          obtain ⟨hcs, hfs⟩ := HPk.out.at.2.2.2.2
          have hc1 : wr.cell? ⟨g3, k2, none⟩ = some (.int .i64 (y : Int)) := by rw [hcs k2 (by rw [lst_len]; omega), lst_at, hy]; simp
          have hf := hfs k2
          have hc2 : wr.cell? ⟨w.heap.size, y, none⟩ = some (.int .i64 ((idx f n y : Nat) : Int)) := by
            rw [HRj.out.at.2.2.2.2.1 y (by rw [lst_len]; omega), lst_at, HIF.out y (by rw [hy]; exact cyc_at hlt2)]
          have HT := Lib.hid (HPk.out.setL k2 (idx f n y))
          have HR4 := Lib.hid (HRj.out.grown HT.out.2 (.inr (fun e => by simp only [Value.ownBlock, Option.some.injEq] at e; have := HG3.out; omega)))
          have HB4 := Lib.hid (HBj.out.setCell (p := ⟨g3, k2, none⟩) (Nat.le_of_lt HG3.out) (.int .i64 ((idx f n y : Nat) : Int)))
          have HLc := Lib.hid (lst_congr (n := n) (F := fun x => if x = k2 then idx f n y else if x < k2 then basF f n x else it f n x) (G := fun x => if x < k2 + 1 then basF f n x else it f n x) (fun x _ => by
            by_cases e : x = k2
            · subst e; simp [basF, hy]
            · have : (x < k2 + 1) = (x < k2) := by apply propext; omega
              simp only [e, if_false, this]))
          clear hcs hfs hy
          go_wp2
          go_roundw
          case rel => exact ⟨k2 + 1, by omega, by go_num, by rw [← HLc.out]; exact HT.out.1, HR4.out, HB4.out⟩
          case measure => simp [intOf]; omega
        · obtain rfl : k2 = n := by omega
          have HLf := Lib.hid (lst_congr (n := k2) (F := fun x => if x < k2 then basF f k2 x else it f k2 x) (G := basF f k2) (fun x hx => if_pos hx))
          go_wp2
          go_ret
          exact ⟨_, _, rfl, by rw [← HLf.out]; exact HPk.out, HBj.out⟩


end Go.Proofs.Ytadjjmlneghklaa

/- from XGT -/
namespace Go.Proofs.Ytadjjmlneghklaa
set_option linter.unusedVariables false
set_option linter.unusedSimpArgs false

/-- The value behind a value. -/
def Fv (V M x : Nat) : Nat := (stv (bA M) (wd (bA M) V (x : Int))).toNat
/-- The place of a value's gaps. -/
def pI (V M x : Nat) : Nat := (ndr (V / 2) M).idxOf (gp (wd (bA M) V (x : Int)))
/-- The value behind a list of gaps. -/
def Uv (V M i : Nat) : Nat := (uA V M i).toNat

theorem wdx_len (V M x : Nat) : (wd (bA M) V (x : Int)).length = V := wd_len _ _ _
theorem wdx_all {M : Nat} (h1 : 1 ≤ M) (V x : Nat) : ∀ y ∈ wd (bA M) V (x : Int), 0 ≤ y ∧ y ≤ bA M - 1 := wd_all (by unfold bA; omega) _ _
theorem pI_mem {M : Nat} (h1 : 1 ≤ M) (V x : Nat) : gp (wd (bA M) V (x : Int)) ∈ ndr (V / 2) M := gp_mem rfl (wdx_len V M x) (wdx_all h1 V x)
theorem pI_lt {M : Nat} (h1 : 1 ≤ M) (V x : Nat) : pI V M x < nA V M := List.idxOf_lt_length_of_mem (pI_mem h1 V x)
theorem gA_pI {M : Nat} (h1 : 1 ≤ M) (V x : Nat) : gA V M (pI V M x) = gp (wd (bA M) V (x : Int)) := by
  have h := gA_get (pI_lt h1 V x)
  have h2 := pI_lt h1 V x
  unfold nA at h2
  rw [List.getElem?_eq_getElem h2] at h
  simp only [Option.some.injEq] at h
  rw [← h]
  exact List.getElem_idxOf h2
theorem stv_pI {M : Nat} (h1 : 1 ≤ M) (V x : Nat) : stv (bA M) (wd (bA M) V (x : Int)) = uA V M (pI V M x) := by
  unfold stv uA
  rw [wdx_len, gA_pI h1]
theorem twin {V M N : Nat} (h1 : 1 ≤ M) (h2 : M ≤ 15) (hV : V ≤ 8) (hN : bA M ^ V = (N : Int)) : Twin (Fv V M) N (fA V M) (nA V M) (pI V M) (Uv V M) where
  pl x _ := pI_lt h1 V x
  ul i hi := by
    have := uA_bd h1 h2 hV hi
    unfold Uv
    omega
  eF x _ := by unfold Fv Uv; rw [stv_pI h1]
  ef i hi := by
    have := uA_bd h1 h2 hV hi
    unfold fA pI Uv wA
    rw [Int.toNat_of_nonneg this.1]
  mono i j hi hj := by
    have a := uA_bd h1 h2 hV hi
    have b := uA_bd h1 h2 hV hj
    have c := uA_lt_iff h1 h2 hV hi hj
    unfold Uv
    rw [← c]
    omega
theorem Fv_int {V M : Nat} (h1 : 1 ≤ M) (h2 : M ≤ 15) (hV : V ≤ 8) (x : Nat) : ((Fv V M x : Nat) : Int) = stv (bA M) (wd (bA M) V (x : Int)) := by
  have := stv_bd (b := bA M) (xs := wd (bA M) V (x : Int)) (by unfold bA; omega) (by unfold bA; omega) (by rw [wdx_len]; exact hV) (wdx_all h1 V x)
  unfold Fv
  rw [Int.toNat_of_nonneg this.1]

end Go.Proofs.Ytadjjmlneghklaa

/- from XGG -/
namespace Go.Proofs.Ytadjjmlneghklaa
open Go.RowKit
set_option linter.unusedVariables false
set_option linter.unusedSimpArgs false
set_option maxRecDepth 100000

/-- The sorted step's cells, beside a block that is written. -/
def SSx (w : World) (gn g3 g1 V : Nat) (b : Int) : Prop := (∃ B0, gn < B0 ∧ SS w B0 g3 g1 V b) ∨ ∃ wm : World, wm.heap.size ≤ gn ∧ (∃ B0, SS wm B0 g3 g1 V b) ∧ Below wm.heap.size wm w
theorem SSx.ss {w : World} {gn g3 g1 V : Nat} {b : Int} (h : SSx w gn g3 g1 V b) : ∃ B0, SS w B0 g3 g1 V b := by
  rcases h with ⟨B0, _, h⟩ | ⟨wm, _, ⟨B0, h⟩, hb⟩
  · exact ⟨B0, h⟩
  · exact ⟨B0, h.keep hb⟩
theorem SSx.keep {w w' : World} {gn g3 g1 V : Nat} {b : Int} (h : SSx w gn g3 g1 V b) (hb : Below w.heap.size w w') : SSx w' gn g3 g1 V b := by
  rcases h with ⟨B0, h1, h⟩ | ⟨wm, h1, h2, h3⟩
  · exact .inl ⟨B0, h1, h.keep hb⟩
  · exact .inr ⟨wm, h1, h2, Below.step h3 h3.size hb⟩
theorem SSx.set {w : World} {gn g3 g1 V k : Nat} {b : Int} {u : Value} (h : SSx w gn g3 g1 V b) (hg : w.grownBy (w.setCell ⟨gn, k, none⟩ u) (some gn)) : SSx (w.setCell ⟨gn, k, none⟩ u) gn g3 g1 V b := by
  rcases h with ⟨B0, h1, h⟩ | ⟨wm, h1, h2, h3⟩
  · exact .inl ⟨B0, h1, h.grown hg (fun k hk => by cases hk; exact h1)⟩
  · exact .inr ⟨wm, h1, h2, h3.setCell h1 u⟩

set_option maxHeartbeats 2000000 in
theorem graph_any (V M N : Nat) (w : World) (hV : V ≤ 8) (hV1 : 1 ≤ V) (hM1 : 1 ≤ M) (hM : M ≤ 15) (hN : bA M ^ V = (N : Int)) (hN1 : 1 ≤ N) (hN2 : N ≤ 100000) :
    Calls Try.prog 36 #[shp (V : Int) (bA M)] w fun e w' => ∃ g, e = .returned (.slice (some ⟨g, 0, none⟩) N N) ∧ Mg w' g N (Fv V M) ∧ w.heap.size ≤ g ∧ Below w.heap.size w w' := by
  have HCW := Lib.hid (fun w' => countWords_any V (bA M) w' (by unfold bA; omega) (by unfold bA; omega) hV)
  rw [hN] at HCW
  have HSS := Lib.hid (fun w' => sortedStep_any V (bA M) w' (by unfold bA; omega) (by unfold bA; omega) hV hV1)
  have HFI := Lib.hid (fun x => Fv_int hM1 hM hV x)
  have HIN := Lib.hid (twin hM1 hM hV hN).intoF
  have HWD := Lib.hid (fun (x : Nat) (w' : World) (hx : x < N) => word_any V (x : Int) (bA M) w' (by unfold bA; omega) (by unfold bA; omega) hV (by omega) (by omega))
  have HST := Lib.hid (fun (x g3 g1 : Nat) (w' : World) (B0 : Nat) (h : SS w' B0 g3 g1 V (bA M)) => word_step (wd (bA M) V (x : Int)) g3 g1 (bA M) w' (B0 := B0) (by rw [wdx_len]; exact h) (by unfold bA; omega) (by unfold bA; omega) (by rw [wdx_len]; exact hV) (wdx_all hM1 V x))
  have HVA := Lib.hid (fun (x : Nat) (w' : World) => value_any (wd (bA M) V (stv (bA M) (wd (bA M) V (x : Int)))) (bA M) w' (by unfold bA; omega) (by unfold bA; omega) (wd_all (by unfold bA; omega) _ _) (by rw [wd_len]; exact hV))
  have HVV := Lib.hid (show ∀ x : Nat, vl (bA M) (wd (bA M) V (stv (bA M) (wd (bA M) V (x : Int)))) = ((Fv V M x : Nat) : Int) from fun x => by
    have h1 := stv_bd (b := bA M) (xs := wd (bA M) V (x : Int)) (by unfold bA; omega) (by unfold bA; omega) (by rw [wdx_len]; exact hV) (wdx_all hM1 V x)
    rw [wdx_len] at h1
    rw [vl_wd (by unfold bA; omega) V _ h1.1 h1.2, HFI.out])
  simp only [wdx_len] at HST
  simp only [wd_len] at HVA
  obtain ⟨b, hb⟩ : ∃ b, b = bA M := ⟨_, rfl⟩
  obtain ⟨f, hf⟩ : ∃ f, f = Fv V M := ⟨_, rfl⟩
  rw [← hf] at HIN HVV ⊢
  rw [← hb] at HCW HSS HWD HST HVA HVV ⊢
  clear hb hf hN HFI
  obtain ⟨w1, hw1⟩ : ∃ w1, w1 = w.alloc (.cells #[.int .i64 (V : Int), .int .i64 b] 45) := ⟨_, rfl⟩
  have HB1 := Lib.hid (show Below w.heap.size w w1.drew by rw [hw1]; exact (alloc_below w _).drew)
  have C0 := Lib.hid (show w1.drew.cell? ⟨w.heap.size, 0, none⟩ = some (.int .i64 (V : Int)) by rw [hw1]; simp [go_sem])
  have C1 := Lib.hid (show w1.drew.cell? ⟨w.heap.size, 1, none⟩ = some (.int .i64 b) by rw [hw1]; simp [go_sem])
  have HK := Lib.hid (show ∀ w' : World, Below w1.drew.heap.size w1.drew w' → w'.cell? ⟨w.heap.size, 0, none⟩ = some (.int .i64 (V : Int)) ∧ w'.cell? ⟨w.heap.size, 1, none⟩ = some (.int .i64 b) from fun w' hb => ⟨Below.keeps_cell hb C0.out, Below.keeps_cell hb C1.out⟩)
  have BB := Lib.hid (Below.refl w1.drew.heap.size w1.drew)
  go_enter Try.func36, Try.ntmps36
  go_wp2
  rw [← hw1]
  clear hw1
  go_region_held3 (fun w' => w'.cell? ⟨w.heap.size, 0, none⟩ = some (.int .i64 (V : Int)) ∧ w'.cell? ⟨w.heap.size, 1, none⟩ = some (.int .i64 b)) (exact HK.out _ BB.out) (first
    | (go_at_call 56; refine (HCW.out _).mono ?_; rintro e w3 ⟨rfl, hbx⟩; (try have SX := Lib.hid (SX.out.keep hbx)); (try have SK := Lib.hid (SK.out.elim fun B0 h => ⟨B0, SS.keep h hbx⟩)); (try have RN := Lib.hid (owns_keep RN.out hbx)); (try have HN2 := Lib.hid (Nat.lt_of_lt_of_le HN2.out hbx.size)); have BB := Lib.hid (Below.step BB.out BB.out.size hbx); clear hbx)
    | (go_at_call 57; refine (HSS.out _).mono ?_; rintro e w3 ⟨g3, g1, rfl, hss, hbx⟩; (first | have SX := Lib.hid (show SSx w3 gn g3 g1 V b from .inl ⟨_, HN2.out, hss⟩) | have SK := Lib.hid (show ∃ B0, SS w3 B0 g3 g1 V b from ⟨_, hss⟩)); (try have RN := Lib.hid (owns_keep RN.out hbx)); (try have HN2 := Lib.hid (Nat.lt_of_lt_of_le HN2.out hbx.size)); have BB := Lib.hid (Below.step BB.out BB.out.size hbx); clear hss hbx)
    | (refine upon_make 57 3 _ 1 8 Try.underlying57 info3 (by omega) N (by omega) ?_; intro gn w5 hge hlt hr hbx; (try have SX := Lib.hid (show SSx w5 gn g3 g1 V b from .inr ⟨_, hge, SK.out, hbx⟩)); have RN := Lib.hid hr; have HN1 := Lib.hid (Nat.le_trans BB.out.size hge); have HN2 := Lib.hid hlt; have BB := Lib.hid (Below.step BB.out BB.out.size hbx); clear hr hbx hge hlt))
  all_goals
    go_wp2
    go_loopw [13] (fun i wr => ∃ k : Nat, k ≤ N ∧ i = .int .i64 (k : Int) ∧ SSx wr gn g3 g1 V b ∧ Rd wr gn (.slice (some ⟨gn, 0, none⟩) N N) (gst N f k) ∧ Below w1.drew.heap.size w1.drew wr) (fun i _ => N - (intOf i).toNat)
    case atStart => exact ⟨0, Nat.zero_le _, rfl, SX.out, owns_zero RN.out f, BB.out⟩
    case round =>
      obtain ⟨k, hk, rfl, hsx, hrn, hbm⟩ := hrel
      have HSX := Lib.hid hsx
      have HRN := Lib.hid hrn
      have HBM := Lib.hid hbm
      clear hsx hrn hbm
      by_cases hlt : k < N
      · have SXd := Lib.hid (show SSx wr.drew gn g3 g1 V b from HSX.out.keep ((Below.refl _ _).drew))
        have RNd := Lib.hid (show Rd wr.drew gn (.slice (some ⟨gn, 0, none⟩) N N) (gst N f k) from HRN.out)
        have BMd := Lib.hid (show Below w1.drew.heap.size w1.drew wr.drew from HBM.out.drew)
        have BK := Lib.hid (Below.refl wr.drew.heap.size wr.drew)
        have HKS := Lib.hid (show ∀ w' : World, Below wr.drew.heap.size wr.drew w' → w'.cell? ⟨w.heap.size, 0, none⟩ = some (.int .i64 (V : Int)) ∧ w'.cell? ⟨w.heap.size, 1, none⟩ = some (.int .i64 b) from fun w' hb => HK.out w' (Below.step BMd.out BMd.out.size hb))
        have HGN := Lib.hid (show w.heap.size ≠ gn from fun e => by
          have h1 := HN1.out
          have h3 : w.heap.size < w1.drew.heap.size := World.block_lt_of_cell? w1.drew ⟨w.heap.size, 0, none⟩ C0.out
          omega)
        have HKT := Lib.hid (show ∀ (w' : World) (u : Value), Below wr.drew.heap.size wr.drew w' → (w'.setCell ⟨gn, k, none⟩ u).cell? ⟨w.heap.size, 0, none⟩ = some (.int .i64 (V : Int)) ∧ (w'.setCell ⟨gn, k, none⟩ u).cell? ⟨w.heap.size, 1, none⟩ = some (.int .i64 b) from fun w' u hb => by
          obtain ⟨s0, s1⟩ := HKS.out w' hb
          exact ⟨(World.cell?_setCell_other _ _ _ _ (fun e => HGN.out (congrArg Addr.block e).symm)).trans s0, (World.cell?_setCell_other _ _ _ _ (fun e => HGN.out (congrArg Addr.block e).symm)).trans s1⟩)
        have HWk := Lib.hid (fun w' => HWD.out k w' hlt)
        have HSk := Lib.hid (fun w' B0 h => HST.out k g3 g1 w' B0 h)
        have HVk := Lib.hid (fun w' => HVA.out k w')
        have HVe := HVV.out k
        rw [HVe] at HVk
        obtain ⟨D1, hD1⟩ : ∃ D, D = dw (wd b V (k : Int)) := ⟨_, rfl⟩
        obtain ⟨D2, hD2⟩ : ∃ D, D = dw (wd b V (stv b (wd b V (k : Int)))) := ⟨_, rfl⟩
        rw [← hD1] at HWk HSk
        rw [← hD2] at HSk HVk
        clear hD1 hD2 HVe
        go_wp2
        go_region_held3 (fun w' => w'.cell? ⟨w.heap.size, 0, none⟩ = some (.int .i64 (V : Int)) ∧ w'.cell? ⟨w.heap.size, 1, none⟩ = some (.int .i64 b)) (first | exact HKS.out _ BK.out | exact HKT.out _ _ BK.out) (first
          | (go_at_call 44; refine (HWk.out _).mono ?_; rintro e w6 ⟨rfl, hb6⟩; have BK := Lib.hid hb6; clear hb6)
          | (go_at_call 71; obtain ⟨B0, hss⟩ := (SXd.out.keep BK.out).ss; refine (HSk.out _ B0 hss).mono ?_; rintro e w7 ⟨rfl, hb7⟩; have BK := Lib.hid (Below.step BK.out BK.out.size hb7); clear hb7 hss)
          | (go_at_call 58; refine (HVk.out _).mono ?_; rintro e w8 ⟨rfl, hb8⟩; have BK := Lib.hid (Below.step BK.out BK.out.size hb8); have R8 := Lib.hid (RNd.out.keep BK.out); have hcn := R8.out.at.2.2.2.2.1 k (by rw [gst_len f (Nat.le_of_lt hlt)]; exact hlt); have hfn := R8.out.at.2.2.2.2.2 k; clear hb8))
        go_wp2
        go_roundw
        case rel =>
          have hst2 := R8.out.set k ((f k : Nat) : Int)
          rw [gst_set f hlt] at hst2
          exact ⟨k + 1, by omega, by go_num, (SXd.out.keep BK.out).set hst2.2, hst2.1, (Below.step BMd.out BMd.out.size BK.out).setCell HN1.out _⟩
        case measure => simp [intOf]; omega
      · obtain rfl : N = k := by omega
        have HM := Lib.hid (show Mg wr gn N f from ⟨HRN.out.at.2.2.1, fun j hj => by
            have h1 := HRN.out.at.2.2.2.2.1 j (by rw [gst_len f (Nat.le_refl _)]; exact hj)
            rw [h1]
            simp only [gst_all]
            rw [lst_at], HIN.out, hN1, by omega⟩)
        go_wp2
        go_ret
        exact ⟨gn, rfl, HM.out, Nat.le_trans HB1.out.size HN1.out, Below.step HB1.out HB1.out.size HBM.out⟩

end Go.Proofs.Ytadjjmlneghklaa

/- from XGF -/
namespace Go.Proofs.Ytadjjmlneghklaa
open Go.RowKit
set_option linter.unusedVariables false
set_option linter.unusedSimpArgs false
set_option maxRecDepth 100000

/-- The number of words, 0 for more than 100000. -/
def few (b : Int) (V : Nat) : Int := if b ^ V ≤ 100000 then b ^ V else 0

theorem gpFew_any (V : Nat) (b : Int) (w : World) (hb : 2 ≤ b) (hb' : b ≤ 16) (hV : V ≤ 8) :
    Calls Try.prog 30 #[.int .i64 (V : Int), .int .i64 b] w fun e w' => e = .returned (.int .i64 (few b V)) ∧ w = w' := by
  have HP := Lib.hid (show ∀ k, 1 ≤ b ^ k from fun k => by have := Int.pow_pos (n := b) (m := k) (by omega); omega)
  have HM := Lib.hid (show ∀ k j, k ≤ j → b ^ k ≤ b ^ j from fun k j h => by
    obtain ⟨m, rfl⟩ : ∃ m, j = k + m := ⟨j - k, by omega⟩
    rw [Int.pow_add]
    have h1 := HP.out k
    have h2 := HP.out m
    have h3 := Int.mul_le_mul_of_nonneg_left h2 (show 0 ≤ b ^ k by omega)
    rwa [Int.mul_one] at h3)
  go_enter Try.func30, Try.ntmps30
  go_wp2
  go_loop [5, 6] (fun p i => ∃ k : Nat, k ≤ V ∧ i = .int .i64 (k : Int) ∧ p = .int .i64 (b ^ k) ∧ b ^ k ≤ 100000) (fun _ i => V - (intOf i).toNat)
  case atStart => exact ⟨0, Nat.zero_le _, rfl, by rw [Int.pow_zero], by rw [Int.pow_zero]; omega⟩
  case round =>
    obtain ⟨k, hk, rfl, rfl, hle⟩ := hrel
    have HLE := Lib.hid hle
    by_cases hlt : k < V
    · have HE := Lib.hid (show b ^ (k + 1) = b ^ k * b from Int.pow_succ b k)
      have hp := HP.out k
      obtain ⟨q, hq⟩ : ∃ q, q = b ^ k := ⟨_, rfl⟩
      rw [← hq] at HE hp hle ⊢
      have hqb : q * b ≤ 1600000 := by
        have h1 : q * b ≤ 100000 * b := Int.mul_le_mul_of_nonneg_right hle (by omega)
        have h2 : (100000 : Int) * b ≤ 100000 * 16 := Int.mul_le_mul_of_nonneg_left hb' (by omega)
        omega
      have hq0 : 0 ≤ q * b := Int.mul_nonneg (by omega) (by omega)
      have HQ := Lib.hid hq
      clear hq
      by_cases hbig : 100000 < q * b
      · have HF := Lib.hid (show few b V = 0 by
          unfold few
          rw [if_neg]
          have := HM.out (k + 1) V (by omega)
          rw [HE.out] at this
          omega)
        go_wp2
        go_ret
        exact ⟨by rw [HF.out]; rfl, rfl⟩
      · go_wp2
        go_round
        case rel => exact ⟨k + 1, by omega, by go_num, by rw [HE.out], by rw [HE.out]; omega⟩
        case measure => simp [intOf]; omega
    · obtain rfl : k = V := by omega
      have HF := Lib.hid (show few b k = b ^ k from if_pos hle)
      obtain ⟨q, hq⟩ : ∃ q, q = b ^ k := ⟨_, rfl⟩
      rw [← hq] at hle HF ⊢
      clear hq
      go_wp2
      go_ret
      exact ⟨by rw [HF.out]; rfl, rfl⟩

end Go.Proofs.Ytadjjmlneghklaa

/- from XGH -/
namespace Go.Proofs.Ytadjjmlneghklaa
open Go.RowKit
set_option linter.unusedVariables false
set_option linter.unusedSimpArgs false
set_option maxRecDepth 100000

def okF (W b : Int) : Bool := okS W b && decide (b ^ W.toNat ≤ 100000)
theorem okF_yes {V : Nat} {b : Int} (h : okS (V : Int) b = true) (h2 : b ^ V ≤ 100000) : okF (V : Int) b = true := by
  unfold okF
  rw [h, Int.toNat_natCast, decide_eq_true h2]; rfl
theorem okF_many {V : Nat} {b : Int} (h2 : ¬ b ^ V ≤ 100000) : okF (V : Int) b = false := by
  unfold okF
  rw [Int.toNat_natCast, decide_eq_false h2, Bool.and_false]
theorem okF_no {W b : Int} (h : okS W b = false) : okF W b = false := by unfold okF; rw [h]; rfl

theorem hasFewWords_any (W b : Int) (w : World) :
    Calls Try.prog 35 #[shp W b] w fun e w' => e = .returned (.bool (okF W b)) ∧ Below w.heap.size w w' := by
  have HAL := Lib.hid (alloc_below w (.cells #[.int .i64 W, .int .i64 b] 45))
  have HC0 := Lib.hid (show (w.alloc (.cells #[.int .i64 W, .int .i64 b] 45)).cell? ⟨w.heap.size, 0, none⟩ = some (.int .i64 W) by simp [go_sem])
  have HC1 := Lib.hid (show (w.alloc (.cells #[.int .i64 W, .int .i64 b] 45)).cell? ⟨w.heap.size, 1, none⟩ = some (.int .i64 b) by simp [go_sem])
  by_cases hS : okS W b = true
  · obtain ⟨V, M, rfl, rfl, h1, h2, h3, h4⟩ := okS_nat hS
    have HCW := Lib.hid (fun w' => countWords_any V ((M + 1 : Nat) : Int) w' (by omega) (by omega) h2)
    obtain ⟨b, hb⟩ : ∃ b : Int, b = ((M + 1 : Nat) : Int) := ⟨_, rfl⟩
    rw [← hb] at hS HAL HC0 HC1 HCW ⊢
    have HFY := Lib.hid (fun h => okF_yes (V := V) (b := b) hS h)
    have HFN := Lib.hid (fun h => okF_many (V := V) (b := b) h)
    obtain ⟨q, hq⟩ : ∃ q, q = b ^ V := ⟨_, rfl⟩
    rw [← hq] at HCW HFY HFN
    clear hb hq
    by_cases hle : q ≤ 100000
    · have HR := Lib.hid (HFY.out hle)
      go_enter Try.func35, Try.ntmps35
      go_wp2_with (first
        | (go_at_call 51; refine (isValid_any _ _ _).mono ?_; rw [hS]; rintro e w1 ⟨rfl, hb1⟩; have B1 := Lib.hid (Below.step HAL.out HAL.out.size hb1); have c0 := Below.keeps_cell hb1 HC0.out; have c1 := Below.keeps_cell hb1 HC1.out; clear hb1)
        | (go_at_call 56; refine (HCW.out _).mono ?_; rintro e w2 ⟨rfl, hb2⟩; have B2 := Lib.hid (Below.step B1.out B1.out.size hb2); clear hb2))
      go_ret
      exact ⟨ret_bool (by rw [HR.out]; try simp [hle]), B2.out⟩
    · have HR := Lib.hid (HFN.out hle)
      go_enter Try.func35, Try.ntmps35
      go_wp2_with (first
        | (go_at_call 51; refine (isValid_any _ _ _).mono ?_; rw [hS]; rintro e w1 ⟨rfl, hb1⟩; have B1 := Lib.hid (Below.step HAL.out HAL.out.size hb1); have c0 := Below.keeps_cell hb1 HC0.out; have c1 := Below.keeps_cell hb1 HC1.out; clear hb1)
        | (go_at_call 56; refine (HCW.out _).mono ?_; rintro e w2 ⟨rfl, hb2⟩; have B2 := Lib.hid (Below.step B1.out B1.out.size hb2); clear hb2))
      go_ret
      exact ⟨ret_bool (by rw [HR.out]; try simp [hle]), B2.out⟩
  · have hS' : okS W b = false := by simpa using hS
    have HR := Lib.hid (okF_no hS')
    clear hS
    go_enter Try.func35, Try.ntmps35
    go_wp2_with (go_at_call 51; refine (isValid_any _ _ _).mono ?_; rw [hS']; rintro e w1 ⟨rfl, hb1⟩; have B1 := Lib.hid (Below.step HAL.out HAL.out.size hb1); clear hb1)
    go_ret
    exact ⟨by rw [HR.out]; rfl, B1.out⟩

/-- How many of the first k numbers are told a. -/
def cnN (g : Nat → Nat) (k a : Nat) : Nat := ((List.range k).filter fun x => g x == a).length
theorem cnN_zero (g : Nat → Nat) (a : Nat) : cnN g 0 a = 0 := by simp [cnN]
theorem cnN_step (g : Nat → Nat) (k : Nat) : (fun a => if a = g k then cnN g k (g k) + 1 else cnN g k a) = cnN g (k + 1) := by
  funext a
  unfold cnN
  rw [List.range_succ, List.filter_append]
  by_cases h : a = g k
  · subst h; simp
  · have : ¬ g k = a := fun e => h e.symm
    simp [h, this]
theorem cnN_le (g : Nat → Nat) (k a : Nat) : cnN g k a ≤ k := by
  unfold cnN
  have := List.length_filter_le (fun x => g x == a) (List.range k)
  simpa using this

theorem basF_lt {f : Nat → Nat} {n x : Nat} (h : Into f n) (hx : x < n) : basF f n x < (cycs f n).length := by
  obtain ⟨l, h1, _, _⟩ := idx_spec h (cyc_at (f := f) hx)
  exact (List.getElem?_eq_some_iff.1 h1).1

set_option maxHeartbeats 2000000 in
theorem countReaching_any (V M N : Nat) (w : World) (hV : V ≤ 8) (hV1 : 1 ≤ V) (hM1 : 1 ≤ M) (hM : M ≤ 15) (hS : okS (V : Int) (bA M) = true) (hN : bA M ^ V = (N : Int)) (hN1 : 1 ≤ N) (hN2 : N ≤ 100000) :
    Calls Try.prog 18 #[.int .i64 (V : Int), .int .i64 (bA M)] w fun e w' => ∃ v, e = .returned (.tuple #[v, .bool true]) ∧ Rd w' w.heap.size v (lst (cycs (Fv V M) N).length (cnN (basF (Fv V M) N) N)) ∧ Below w.heap.size w w' := by
  have HOK := Lib.hid (okF_yes hS (by omega))
  have HG := Lib.hid (fun w' => graph_any V M N w' hV hV1 hM1 hM hN hN1 hN2)
  have HI := Lib.hid (twin hM1 hM hV hN).intoF
  obtain ⟨f, hf⟩ : ∃ f, f = Fv V M := ⟨_, rfl⟩
  obtain ⟨b, hb⟩ : ∃ b, b = bA M := ⟨_, rfl⟩
  change Hid (∀ w', Calls _ _ #[shp (V : Int) (bA M)] w' _) at HG
  rw [← hf] at HI HG ⊢
  rw [← hb] at HOK HG ⊢
  clear hf hb hN hS
  have HCL := Lib.hid (cycsTo_len f N N)
  change Hid ((cycs f N).length ≤ N) at HCL
  obtain ⟨K, hK⟩ : ∃ K, K = (cycs f N).length := ⟨_, rfl⟩
  have HK := Lib.hid hK
  have HBL := Lib.hid (fun x (hx : x < N) => basF_lt HI.out hx)
  rw [← hK] at HCL HBL ⊢
  have hKb : K ≤ 100000 := by have := HCL.out; omega
  obtain ⟨g, hg⟩ : ∃ g, g = basF f N := ⟨_, rfl⟩
  have HBG := Lib.hid hg
  rw [← hg] at HBL ⊢
  clear hK hg
  have HAL := Lib.hid (alloc_below w (.cells #[.int .i64 (V : Int), .int .i64 b] 45))
  have HC0 := Lib.hid (show (w.alloc (.cells #[.int .i64 (V : Int), .int .i64 b] 45)).cell? ⟨w.heap.size, 0, none⟩ = some (.int .i64 (V : Int)) by simp [go_sem])
  have HC1 := Lib.hid (show (w.alloc (.cells #[.int .i64 (V : Int), .int .i64 b] 45)).cell? ⟨w.heap.size, 1, none⟩ = some (.int .i64 b) by simp [go_sem])
  go_enter Try.func18, Try.ntmps18
  go_wp2_with (go_at_call 35; refine (hasFewWords_any _ _ _).mono ?_; rw [HOK.out]; rintro e w1 ⟨rfl, hb1⟩; have B1 := Lib.hid (Below.step HAL.out HAL.out.size hb1); have c0 := Below.keeps_cell hb1 HC0.out; have c1 := Below.keeps_cell hb1 HC1.out; clear hb1)
  go_wp2_with fail
  refine (HG.out _).mono ?_
  rintro e w2 ⟨gg, rfl, hm, hge, hb2⟩
  have HM2 := Lib.hid hm
  have B2 := Lib.hid (Below.step B1.out B1.out.size hb2)
  clear hm hge hb2
  go_wp2_with fail
  refine (cycles_any gg N N f _ HM2.out).mono ?_
  rintro e w3 ⟨uc, vc, rfl, hlc, hb3⟩
  obtain ⟨ac, cc, rfl⟩ := hlc.row.lenR hlc.len
  rw [← HK.out]
  have HM3 := Lib.hid (HM2.out.keep hb3)
  have B3 := Lib.hid (Below.step B2.out B2.out.size hb3)
  clear hlc hb3
  go_wp2_with (at_make; refine wpList_mkM rfl _ _ _ Try.underlying33 rfl .i64 .i64 _ _ K rfl rfl rfl rfl (by omega) ?_; intro w4 hr4 hg4 hb4; have R4 := Lib.hid hr4; have HM4 := Lib.hid (HM3.out.keep hb4); have B4 := Lib.hid (Below.step B3.out B3.out.size hb4); clear hr4 hg4 hb4)
  refine (basins_any gg N N f _ HM4.out).mono ?_
  rintro e w5 ⟨g2, c2, rfl, hr5, hb5⟩
  have R5 := Lib.hid (R4.out.keep hb5)
  have HNE := Lib.hid (show g2 ≠ w3.heap.size from fun e => by
    have h1 := (hr5.lt g2 rfl).1
    have h2 := (R4.out.lt w3.heap.size rfl).2
    omega)
  rw [← HBG.out] at hr5
  have L5 := Lib.hid hr5
  have B5 := Lib.hid (Below.step B4.out B4.out.size hb5)
  have HB0 := Lib.hid B3.out.size
  clear hr5 hb5
  go_wp2
  go_loopw [26] (fun i wr => ∃ k : Nat, k ≤ N ∧ i = .int .i64 (k : Int) ∧ Rd wr w3.heap.size (.slice (some ⟨w3.heap.size, 0, none⟩) K K) (lst K (cnN g k)) ∧ Rd wr w4.heap.size (.slice (some ⟨g2, 0, none⟩) N c2) (lst N g) ∧ Below w.heap.size w wr) (fun i _ => N - (intOf i).toNat)
  case atStart => exact ⟨0, Nat.zero_le _, rfl, by rw [lst_congr (G := fun _ => 0) (fun x _ => cnN_zero g x)]; exact R5.out, L5.out, B5.out⟩
  case round =>
    obtain ⟨k, hk, rfl, hr, hl, hb⟩ := hrel
    have HR := Lib.hid hr
    have HL := Lib.hid hl
    have HB := Lib.hid hb
    clear hr hl hb
    by_cases hlt : k < N
    · have hcb : wr.cell? ⟨g2, k, none⟩ = some (.int .i64 ((g k : Nat) : Int)) := by rw [HL.out.at.2.2.2.2.1 k (by rw [lst_len]; exact hlt), lst_at]
      have hqK := HBL.out k hlt
      have HCS := Lib.hid (cnN_step g k)
      have hcl := cnN_le g k (g k)
      obtain ⟨q, hq⟩ : ∃ q, q = g k := ⟨_, rfl⟩
      rw [← hq] at hcb hqK HCS hcl
      have hcc : wr.cell? ⟨w3.heap.size, q, none⟩ = some (.int .i64 ((cnN g k q : Nat) : Int)) := by rw [HR.out.at.2.2.2.2.1 q (by rw [lst_len]; exact hqK), lst_at]
      have hcf := HR.out.at.2.2.2.2.2 q
      obtain ⟨c, hc⟩ : ∃ c, c = cnN g k q := ⟨_, rfl⟩
      rw [← hc] at hcc HCS hcl
      have HS := Lib.hid (HR.out.setL q (c + 1))
      rw [HCS.out] at HS
      have ej : ((c + 1 : Nat) : Int) = (c : Int) + 1 := by omega
      rw [ej] at HS
      clear hq hc ej
      go_wp2
      go_roundw
      case rel => exact ⟨k + 1, by omega, by go_num, HS.out.1, HL.out.grown HS.out.2 (.inr (fun e => by simp only [Value.ownBlock, Option.some.injEq] at e; exact HNE.out e)), HB.out.setCell HB0.out _⟩
      case measure => simp [intOf]; omega
    · obtain rfl : k = N := by omega
      go_wp2
      go_ret2
      exact ⟨_, rfl, HR.out.mono HB0.out, HB.out⟩

end Go.Proofs.Ytadjjmlneghklaa

/- from XGI -/
namespace Go.Proofs.Ytadjjmlneghklaa
open Go.RowKit
set_option linter.unusedVariables false
set_option linter.unusedSimpArgs false
set_option maxRecDepth 100000

/-- The first place of the greatest of the first k numbers. -/
def mxI (D : Nat → Nat) : Nat → Nat
  | 0 => 0
  | k + 1 => if D (mxI D k) < D k then k else mxI D k
theorem mxI_succ (D : Nat → Nat) (k : Nat) : mxI D (k + 1) = if D (mxI D k) < D k then k else mxI D k := rfl
theorem mxI_one (D : Nat → Nat) : mxI D 1 = 0 := by rw [mxI_succ]; show (if D 0 < D 0 then 0 else 0) = 0; split <;> rfl
theorem mxI_lt (D : Nat → Nat) : ∀ k, mxI D (k + 1) ≤ k
  | 0 => by rw [mxI_one]; exact Nat.le_refl _
  | k + 1 => by
    have := mxI_lt D k
    rw [mxI_succ]
    split <;> omega
theorem mxI_max (D : Nat → Nat) : ∀ k j, j < k → D j ≤ D (mxI D k)
  | 0, j, h => by omega
  | k + 1, j, h => by
    have ih := mxI_max D k
    rw [mxI_succ]
    by_cases e : j = k
    · subst e; split <;> omega
    · have := ih j (by omega)
      split <;> omega
theorem mxI_first (D : Nat → Nat) : ∀ k j, j < mxI D k → D j < D (mxI D k)
  | 0, j, h => by unfold mxI at h; omega
  | k + 1, j, h => by
    have ih := mxI_first D k
    have im := mxI_max D k
    rw [mxI_succ] at h ⊢
    split at h
    · rename_i hc
      rw [if_pos hc]
      have := im j h
      omega
    · rename_i hc
      rw [if_neg hc]
      exact ih j h
theorem lst_D (N : Nat) (D : Nat → Nat) {j : Nat} (h : j < N) : (lst N D).getD j 0 = ((D j : Nat) : Int) := by
  rw [List.getD_eq_getElem?_getD, List.getElem?_eq_getElem (by rw [lst_len]; exact h)]
  exact lst_at _ _ _ _
theorem max_lst (N : Nat) (D : Nat → Nat) : ∀ k, k < N → Lib.maxOf ((lst N D).take (k + 1)) = ((D (mxI D (k + 1)) : Nat) : Int)
  | 0, h => by rw [Lib.maxOf_one, lst_D N D h, mxI_one]
  | k + 1, h => by
    rw [Lib.maxOf_step _ (k + 1) (by omega) (by rw [lst_len]; exact h), max_lst N D k (by omega), lst_D N D h, mxI_succ D (k + 1)]
    split <;> omega
theorem idx_lst (N : Nat) (D : Nat → Nat) (h : 1 ≤ N) : Lib.idxOf ((lst N D).take N) ((D (mxI D N) : Nat) : Int) = (mxI D N : Int) := by
  obtain ⟨k, rfl⟩ : ∃ k, N = k + 1 := ⟨N - 1, by omega⟩
  have hl := mxI_lt D k
  exact Lib.idxOf_hit _ (k + 1) (mxI D (k + 1)) _ (by omega) (by rw [lst_len]; exact Nat.le_refl _) (lst_D _ D (by omega)) (fun j hj => by
    rw [lst_D _ D (by omega)]
    have := mxI_first D (k + 1) j hj
    omega)

set_option maxHeartbeats 2000000 in
theorem longestTail_any (V M N : Nat) (w : World) (hV : V ≤ 8) (hV1 : 1 ≤ V) (hM1 : 1 ≤ M) (hM : M ≤ 15) (hS : okS (V : Int) (bA M) = true) (hN : bA M ^ V = (N : Int)) (hN1 : 1 ≤ N) (hN2 : N ≤ 100000) :
    Calls Try.prog 23 #[.int .i64 (V : Int), .int .i64 (bA M)] w fun e w' => ∃ v, e = .returned (.tuple #[.int .i64 ((dep (Fv V M) N (mxI (dep (Fv V M) N) N) : Nat) : Int), v, .bool true]) ∧ Rd w' w.heap.size v (wd (bA M) V ((mxI (dep (Fv V M) N) N : Nat) : Int)) ∧ Below w.heap.size w w' := by
  have HOK := Lib.hid (okF_yes hS (by omega))
  have HG := Lib.hid (fun w' => graph_any V M N w' hV hV1 hM1 hM hN hN1 hN2)
  obtain ⟨D, hD⟩ : ∃ D, D = dep (Fv V M) N := ⟨_, rfl⟩
  have HD := Lib.hid hD
  rw [← hD]
  clear hD
  have HMX := Lib.hid (show Lib.maxOf ((lst N D).take N) = ((D (mxI D N) : Nat) : Int) by
    obtain ⟨k, rfl⟩ : ∃ k, N = k + 1 := ⟨N - 1, by omega⟩
    exact max_lst (k + 1) D k (by omega))
  have HIX := Lib.hid (idx_lst N D hN1)
  have hjN : mxI D N < N := by
    obtain ⟨k, rfl⟩ : ∃ k, N = k + 1 := ⟨N - 1, by omega⟩
    have := mxI_lt D k
    omega
  obtain ⟨j, hj⟩ : ∃ j, j = mxI D N := ⟨_, rfl⟩
  rw [← hj] at HMX HIX hjN ⊢
  obtain ⟨T, hT⟩ : ∃ T : Int, T = ((D j : Nat) : Int) := ⟨_, rfl⟩
  rw [← hT] at HMX HIX ⊢
  clear hT hj
  have HWD := Lib.hid (fun w' => word_any V (j : Int) (bA M) w' (by unfold bA; omega) (by unfold bA; omega) hV (by omega) (by omega))
  have HLI := Lib.hid (fun w' => list_any (wd (bA M) V (j : Int)) (bA M) w' (by rw [wd_len]; exact hV))
  simp only [wd_len] at HLI
  obtain ⟨f, hf⟩ : ∃ f, f = Fv V M := ⟨_, rfl⟩
  obtain ⟨b, hb⟩ : ∃ b, b = bA M := ⟨_, rfl⟩
  change Hid (∀ w', Calls _ _ #[shp (V : Int) (bA M)] w' _) at HG
  rw [← hf] at HG HD
  rw [← hb] at HOK HG HWD HLI ⊢
  clear hf hb hN hS
  obtain ⟨A, hA⟩ : ∃ A, A = dw (wd b V (j : Int)) := ⟨_, rfl⟩
  rw [← hA] at HWD HLI
  clear hA
  have HAL := Lib.hid (alloc_below w (.cells #[.int .i64 (V : Int), .int .i64 b] 45))
  have HC0 := Lib.hid (show (w.alloc (.cells #[.int .i64 (V : Int), .int .i64 b] 45)).cell? ⟨w.heap.size, 0, none⟩ = some (.int .i64 (V : Int)) by simp [go_sem])
  have HC1 := Lib.hid (show (w.alloc (.cells #[.int .i64 (V : Int), .int .i64 b] 45)).cell? ⟨w.heap.size, 1, none⟩ = some (.int .i64 b) by simp [go_sem])
  go_enter Try.func23, Try.ntmps23
  go_wp2_with (go_at_call 35; refine (hasFewWords_any _ _ _).mono ?_; rw [HOK.out]; rintro e w1 ⟨rfl, hb1⟩; have B1 := Lib.hid (Below.step HAL.out HAL.out.size hb1); have c0 := Below.keeps_cell hb1 HC0.out; have c1 := Below.keeps_cell hb1 HC1.out; clear hb1)
  have C01 := Lib.hid c0
  have C11 := Lib.hid c1
  go_wp2_with fail
  refine (HG.out _).mono ?_
  rintro e w2 ⟨gg, rfl, hm, hge, hb2⟩
  have HM2 := Lib.hid hm
  have B2 := Lib.hid (Below.step B1.out B1.out.size hb2)
  have C02 := Lib.hid (Below.keeps_cell hb2 C01.out)
  have C12 := Lib.hid (Below.keeps_cell hb2 C11.out)
  clear hm hge hb2 c0 c1
  go_wp2_with fail
  refine (depths_any gg N N f _ HM2.out).mono ?_
  rintro e w3 ⟨g2, c2, rfl, hr3, hb3⟩
  rw [← HD.out] at hr3
  have HCA := Lib.hid (show ∀ i, i < (lst N D).length → w3.cell? ⟨g2, 0 + i, none⟩ = some (.int .i64 ((lst N D).getD i 0)) from fun i hi => by
    rw [Nat.zero_add, hr3.at.2.2.2.2.1 i hi, List.getD_eq_getElem?_getD, List.getElem?_eq_getElem hi]; rfl)
  have B3 := Lib.hid (Below.step B2.out B2.out.size hb3)
  have C03 := Lib.hid (Below.keeps_cell hb3 C02.out)
  have C13 := Lib.hid (Below.keeps_cell hb3 C12.out)
  clear hr3 hb3
  have HMA := Lib.hid (Try.slices_Max_int g2 0 N c2 (lst N D) w3 (by omega) (by rw [lst_len]; exact Nat.le_refl _) (by omega) HCA.out)
  rw [HMX.out] at HMA
  have HCB := Lib.hid (show ∀ w' : World, Below w3.heap.size w3 w' → ∀ i, i < (lst N D).length → w'.cell? ⟨g2, 0 + i, none⟩ = some (.int .i64 ((lst N D).getD i 0)) from fun w' hb i hi => Below.keeps_cell hb (HCA.out i hi))
  have HIA := Lib.hid (show ∀ w' : World, Below w3.heap.size w3 w' → Calls Try.prog 45 #[.slice (some ⟨g2, 0, none⟩) N c2, .int .i64 T] w' fun e w'' => e = .returned (.int .i64 (j : Int)) ∧ w'' = w' from fun w' hb => by
    have := Try.slices_Index_int g2 0 N c2 (lst N D) T w' (by rw [lst_len]; exact Nat.le_refl _) (by omega) (HCB.out w' hb)
    rwa [HIX.out] at this)
  go_wp2_with (go_at_call 42; refine HMA.out.mono ?_; rintro e w4 ⟨rfl, rfl⟩)
  have HKQ := Lib.hid (show ∀ w' : World, Below w4.drew.heap.size w4.drew w' → w'.cell? ⟨w.heap.size, 0, none⟩ = some (.int .i64 (V : Int)) ∧ w'.cell? ⟨w.heap.size, 1, none⟩ = some (.int .i64 b) from fun w' hb => ⟨Below.keeps_cell hb C03.out, Below.keeps_cell hb C13.out⟩)
  have BK := Lib.hid (Below.refl w4.drew.heap.size w4.drew)
  go_region_held3 (fun w' => w'.cell? ⟨w.heap.size, 0, none⟩ = some (.int .i64 (V : Int)) ∧ w'.cell? ⟨w.heap.size, 1, none⟩ = some (.int .i64 b)) (exact HKQ.out _ BK.out) (first
    | (go_at_call 45; refine (HIA.out _ (((Below.refl w4.heap.size w4).drew).trans BK.out)).mono ?_; rintro e w5 ⟨rfl, rfl⟩)
    | (go_at_call 44; refine (HWD.out _).mono ?_; rintro e w6 ⟨rfl, hb6⟩; have BK := Lib.hid (Below.step BK.out BK.out.size hb6); clear hb6)
    | (go_at_call 43; refine (HLI.out _).mono ?_; rintro e w7 ⟨u, rfl, hr7, hb7⟩; have R7 := Lib.hid (hr7.mono (Nat.le_trans B3.out.size BK.out.size)); have BK := Lib.hid (Below.step BK.out BK.out.size hb7); clear hr7 hb7))
  go_wp2
  go_ret3
  exact ⟨u, rfl, R7.out, Below.step B3.out B3.out.size (((Below.refl w4.heap.size w4).drew).trans BK.out)⟩

end Go.Proofs.Ytadjjmlneghklaa

/- from XGK -/
namespace Go.Proofs.Ytadjjmlneghklaa
open Go.RowKit
set_option linter.unusedVariables false
set_option linter.unusedSimpArgs false
set_option maxRecDepth 100000

theorem owns_apart3 {e e' : TypeId} (he : e ≠ e') {w : World} {B C s s' n m : Nat} {v u : Value} {xs ys : List Value} (h : w.ownsRow B e s v n xs) (h2 : w.ownsRow C e' s' u m ys) : v.ownBlock = none ∨ v.ownBlock ≠ u.ownBlock := by
  rcases h.2 with ⟨rfl, _⟩ | ⟨g, cap, cur, rfl, _, hg, _⟩
  · exact .inl rfl
  · rcases h2.2 with ⟨rfl, _⟩ | ⟨g2, cap2, cur2, rfl, _, hg2, _⟩
    · right; simp [Value.ownBlock]
    · right
      intro e1
      simp only [Value.ownBlock, Option.some.injEq] at e1
      subst e1
      rw [hg] at hg2
      simp only [Option.some.injEq, Obj.cells.injEq] at hg2
      exact he hg2.2.1

/-- One told: gaps, least word, tail. -/
abbrev Told : Type := Value × Value × Int
def cells3 (x : Told) : List Value := [x.1, x.2.1, .int .i64 x.2.2]
def flat3 (es : List Told) : List Value := es.flatMap cells3
theorem flat3_snoc (es : List Told) (x : Told) : flat3 (es ++ [x]) = flat3 es ++ cells3 x := by
  unfold flat3; rw [List.flatMap_append]; simp
theorem flat3_len (es : List Told) : (flat3 es).length = es.length * 3 := by
  induction es with
  | nil => rfl
  | cons a t ih =>
    have : flat3 (a :: t) = cells3 a ++ flat3 t := rfl
    rw [this, List.length_append, ih]; simp [cells3]; omega
theorem flat3_at : ∀ (es : List Told) (i : Nat) (x : Told), es[i]? = some x → (flat3 es)[i * 3]? = some x.1 ∧ (flat3 es)[i * 3 + 1]? = some x.2.1 ∧ (flat3 es)[i * 3 + 2]? = some (.int .i64 x.2.2)
  | [], i, x, h => by simp at h
  | a :: t, i, x, h => by
    have hc : flat3 (a :: t) = a.1 :: a.2.1 :: .int .i64 a.2.2 :: flat3 t := rfl
    rw [hc]
    cases i with
    | zero => simp at h; subst h; exact ⟨rfl, rfl, rfl⟩
    | succ i =>
      have := flat3_at t i x (by simpa using h)
      rw [show (i + 1) * 3 = i * 3 + 1 + 1 + 1 by omega]
      simpa using this

/-- What is told of lists of gaps: each with its gaps, its least word and its tail. -/
structure Tr (w : World) (B D : Nat) (v : Value) (es : List Told) (gs ls : List (List Int)) : Prop where
  row : w.ownsRow B 53 3 v es.length (flat3 es)
  lg : es.length = gs.length
  ll : es.length = ls.length
  rg : ∀ (i : Nat) (x : Told) (l : List Int), es[i]? = some x → gs[i]? = some l → Rd w D x.1 l
  rl : ∀ (i : Nat) (x : Told) (l : List Int), es[i]? = some x → ls[i]? = some l → Rd w D x.2.1 l

theorem Tr.nil (w : World) (B D : Nat) : Tr w B D (.slice none 0 0) [] [] [] := ⟨World.ownsRow_nil w B _ _, rfl, rfl, fun i x l h => by simp at h, fun i x l h => by simp at h⟩
theorem Tr.keep {w w' : World} {B D : Nat} {v : Value} {es : List Told} {gs ls : List (List Int)} (h : Tr w B D v es gs ls) (hb : Below w.heap.size w w') : Tr w' B D v es gs ls :=
  ⟨owns_keep h.row hb, h.lg, h.ll, fun i x l hx hl => (h.rg i x l hx hl).keep hb, fun i x l hx hl => (h.rl i x l hx hl).keep hb⟩
theorem Tr.mono {w : World} {B C D : Nat} {v : Value} {es : List Told} {gs ls : List (List Int)} (h : Tr w B D v es gs ls) (hC : C ≤ B) : Tr w C D v es gs ls := by
  refine ⟨⟨h.row.1, ?_⟩, h.lg, h.ll, h.rg, h.rl⟩
  rcases h.row.2 with h2 | ⟨g, cap, cur, hv, hg, r⟩
  · exact .inl h2
  · exact .inr ⟨g, cap, cur, hv, Nat.le_trans hC hg, r⟩
theorem Tr.snoc {w w' : World} {B D : Nat} {v v' : Value} {es : List Told} {gs ls : List (List Int)} {x : Told} {g l : List Int} (h : Tr w B D v es gs ls) (hg : Rd w D x.1 g) (hl : Rd w D x.2.1 l)
    (hr : w'.ownsRow B 53 3 v' (es ++ [x]).length (flat3 (es ++ [x]))) (hgr : w.grownBy w' v.ownBlock) : Tr w' B D v' (es ++ [x]) (gs ++ [g]) (ls ++ [l]) := by
  have hk : ∀ {z : Value} {m : List Int}, Rd w D z m → Rd w' D z m := fun hz => hz.grown hgr (owns_apart3 (by decide) hz h.row)
  have hs : ∀ (ms : List (List Int)) (m : List Int) (P : Told → Value), es.length = ms.length → (∀ (i : Nat) (y : Told) (n : List Int), es[i]? = some y → ms[i]? = some n → Rd w D (P y) n) → Rd w D (P x) m →
      ∀ (i : Nat) (y : Told) (n : List Int), (es ++ [x])[i]? = some y → (ms ++ [m])[i]? = some n → Rd w' D (P y) n := by
    intro ms m P hlen hall hx i y n hy hn
    by_cases hi : i < es.length
    · rw [List.getElem?_append_left hi] at hy
      rw [List.getElem?_append_left (by omega)] at hn
      exact hk (hall i y n hy hn)
    · have hi2 : i < (es ++ [x]).length := (List.getElem?_eq_some_iff.1 hy).1
      rw [List.length_append, List.length_singleton] at hi2
      obtain rfl : i = es.length := by omega
      rw [List.getElem?_append_right (Nat.le_refl _), Nat.sub_self] at hy
      rw [List.getElem?_append_right (by omega), show es.length - ms.length = 0 by omega] at hn
      simp only [List.getElem?_cons_zero, Option.some.injEq] at hy hn
      subst hy; subst hn
      exact hk hx
  exact ⟨hr, by simp [h.lg], by simp [h.ll], hs gs g (fun y => y.1) h.lg h.rg hg, hs ls l (fun y => y.2.1) h.ll h.rl hl⟩

theorem infoT3 : (Try.prog.info? 53).map (fun i => (i.zero, i.size, i.bytes)) = some (some (.agg #[.slice none 0 0, .slice none 0 0, .int .i64 0]), 3, 56) := by kernel_rfl

/-- One told behind others. -/
theorem wpList_appT3 {w : World} {ops : Array Oper} {rest : List Oper} {o : Oper} {a : Act} {Q : Exit → Act → World → Prop} (hgd : o.guard = none) (s x : Operand)
    (ho : o.op = .call { callee := .builtin .append, args := #[s, x], argTypes := #[50, 50] })
    (B g : Nat) (v : Value) (es : List Told) (z : Told) (hs : a.eval s = v) (hx : a.eval x = .slice (some ⟨g, 0, none⟩) 1 1) (hv : w.ownsRow B 53 3 v es.length (flat3 es))
    (h0 : w.cell? ⟨g, 0, none⟩ = some z.1) (h1 : w.cell? ⟨g, 1, none⟩ = some z.2.1) (h2 : w.cell? ⟨g, 2, none⟩ = some (.int .i64 z.2.2)) (hz : z.1.oneCell' = true) (hz2 : z.2.1.oneCell' = true) (hlen : es.length ≤ 100000) (hB : B ≤ w.heap.size)
    (h : ∀ v' w', w'.ownsRow B 53 3 v' (es ++ [z]).length (flat3 (es ++ [z])) → w.grownBy w' v.ownBlock → Below B w w' → wpList Try.prog ops Q rest (a.put o.dst v') w') : wpList Try.prog ops Q (o :: rest) a w := by
  obtain ⟨i0, hi, hz0, hz1, hz3⟩ := info_parts infoT3
  have hbel : ∀ w', w.grownBy w' v.ownBlock → Below B w w' := fun w' hg => (Below.refl _ _).grown hg hB (fun k hk => (World.ownsRow.lt hv k hk).1)
  refine wpList_append_own w hgd s x 50 ho B 53 i0 _ 3 56 Try.underlying50 hi hz0 hz1 hz3 rfl (by decide) v es.length _ hs hv ⟨g, 0, none⟩ 1 1 (cells3 z) hx rfl ?_ ?_ (by unfold maxLen; omega) (by omega) hB ?_
  · intro j q hj
    rw [show (⟨g, 0, none⟩ : Addr).add j = ⟨g, 0 + j, none⟩ by unfold Addr.add; split <;> simp_all, Nat.zero_add]
    match j, hj with
    | 0, hj => simp [cells3] at hj; subst hj; exact h0
    | 1, hj => simp [cells3] at hj; subst hj; exact h1
    | 2, hj => simp [cells3] at hj; subst hj; exact h2
    | j + 3, hj => simp [cells3] at hj
  · intro q hq
    simp [cells3] at hq
    rcases hq with rfl | rfl | rfl
    · exact hz
    · exact hz2
    · rfl
  · intro v' w' h3 h4 _
    refine h v' w' ?_ h4 (hbel w' h4)
    rw [flat3_snoc, List.length_append, List.length_singleton]
    exact h3

end Go.Proofs.Ytadjjmlneghklaa

/- from XGL -/
namespace Go.Proofs.Ytadjjmlneghklaa
open Go.RowKit
set_option linter.unusedVariables false
set_option linter.unusedSimpArgs false
set_option maxRecDepth 100000

theorem tl_dep {f : Nat → Nat} {n i L T : Nat} (h : Into f n) (hi : i < n) (hTL : T < L) (hne : ∀ a b, a < b → b < L → it f a i ≠ it f b i) (hnt : ∀ a, a < T → it f a i ≠ it f L i) (hyt : it f T i = it f L i) : dep f n i = T := by
  refine dep_eq hi ?_ fun j hj => ?_
  · refine cyc_of_per h (it_lt h T hi) (show 1 ≤ L - T by omega) ?_
    rw [← it_add, show L - T + T = L by omega, hyt]
  · rw [← Bool.not_eq_true]
    intro hc
    obtain ⟨y, hy⟩ : ∃ y, y = it f j i := ⟨_, rfl⟩
    rw [← hy] at hc
    obtain ⟨p1, p2, p3, p4⟩ := per_spec h hc
    have ea : ∀ a, it f a y = it f (a + j) i := fun a => by rw [hy, ← it_add]
    by_cases hp : j + per f n y < L
    · refine hne j (j + per f n y) (by omega) hp ?_
      rw [← hy, Nat.add_comm, ← ea, p3]
    · have e1 : it f (T - j) y = it f (L - j) y := by
        rw [ea, ea, show T - j + j = T by omega, show L - j + j = L by omega, hyt]
      by_cases hq : L - j < per f n y
      · exact per_inj h hc (show T - j < L - j by omega) hq e1
      · have e2 : L - j = per f n y := by omega
        refine hnt j hj ?_
        rw [← hy, show L = L - j + j by omega, ← ea, e2, p3]

/-- The cycles' first numbers. -/
def LD (f : Nat → Nat) (n : Nat) : List Nat := (List.range n).filter (lead f n)
theorem LD_len (f : Nat → Nat) (n : Nat) : (LD f n).length = (cycs f n).length := by unfold cycs cycsTo LD; rw [List.length_map]
theorem bas_lo {f : Nat → Nat} {n i : Nat} (h : Into f n) (hi : i < n) : ∃ m, (LD f n)[basF f n i]? = some m ∧ Lo f n i m := by
  obtain ⟨l, h1, h2, _⟩ := idx_spec h (cyc_at (f := f) hi)
  obtain ⟨x, hx, rfl, hl, _⟩ := cycs_get h1
  refine ⟨x, hx, hl, ?_⟩
  have hcx := ((lead_iff h).1 hl).1
  obtain ⟨hb, _⟩ := rnd_back h hcx h2
  obtain ⟨k, _, hk⟩ := mem_rnd.1 hb
  exact ⟨k + n, by rw [it_add, hk]⟩
theorem bas_iff {f : Nat → Nat} {n i m k : Nat} (h : Into f n) (hi : i < n) (hm : Lo f n i m) (hk : k < (LD f n).length) : (LD f n)[k]? = some m ↔ basF f n i = k := by
  obtain ⟨m', h1, h2⟩ := bas_lo h hi
  obtain rfl := Lo.uniq h hm h2
  constructor
  · intro h3
    obtain ⟨a1, a2⟩ := List.getElem?_eq_some_iff.1 h1
    obtain ⟨b1, b2⟩ := List.getElem?_eq_some_iff.1 h3
    have hn : (LD f n).Pairwise (· < ·) := List.pairwise_lt_range.filter _
    have hp := List.pairwise_iff_getElem.1 hn
    by_cases e : basF f n i = k
    · exact e
    · rcases Nat.lt_or_gt_of_ne e with hlt | hgt
      · have := hp _ _ a1 b1 hlt; omega
      · have := hp _ _ b1 a1 hgt; omega
  · rintro rfl; exact h1

/-- The model's run behind the word of list i: its tail. -/
theorem gpRun_wA {V M : Nat} (h1 : 1 ≤ M) (h2 : M ≤ 15) (hV : V ≤ 8) {i : Nat} (hi : i < nA V M) (u : Value) (B : Nat) (w : World) (h : Rd w B u (wA V M i)) :
    Calls Try.prog 54 #[u, .int .i64 (bA M)] w fun e w' => ∃ v, e = .returned (.tuple #[v, .int .i64 ((dep (fA V M) (nA V M) i : Nat) : Int)]) ∧ Below w.heap.size w w' := by
  obtain ⟨u1, u2⟩ := uA_bd h1 h2 hV hi
  have hR := rn_of (V := V) (M := M) (v := (uA V M i).toNat) (b := bA M) rfl h1 h2 hV (by rw [show (((uA V M i).toNat : Nat) : Int) = uA V M i by omega]; exact u2)
  have hF := rn_wA h1 h2 hV hi
  have hin := fA_into (V := V) h1
  have hinj : ∀ a b, rw' (bA M) V (uA V M i).toNat a = rw' (bA M) V (uA V M i).toNat b → it (fA V M) a i = it (fA V M) b i := fun a b e => by
    rw [hF, hF] at e
    exact wA_inj h1 h2 hV (it_lt hin a hi) (it_lt hin b hi) e
  have hd := tl_dep hin hi hR.tl (fun a b hab hb e => hR.ne a b hab hb (by rw [hF, hF, e])) (fun a ha e => hR.nt a ha (by rw [hF, hF, e])) (hinj _ _ hR.yt)
  refine (gpRun_any u _ _ _ V (bA M) B w (by rw [hF]; exact h) hR (by unfold bA; omega) (by unfold bA; omega) hV).mono ?_
  rintro e w' ⟨g, c, vs, rfl, _, hb⟩
  exact ⟨_, by rw [hd], hb⟩

end Go.Proofs.Ytadjjmlneghklaa

/- from XGM -/
namespace Go.Proofs.Ytadjjmlneghklaa
open Go.RowKit
set_option linter.unusedVariables false
set_option linter.unusedSimpArgs false
set_option maxRecDepth 100000

theorem snoc_all {α : Type} {P : Nat → α → Prop} {xs : List α} {x : α} {k : Nat} (hk : xs.length = k) (h : ∀ i y, xs[i]? = some y → P i y) (hx : P k x) : ∀ i y, (xs ++ [x])[i]? = some y → P i y := by
  intro i y hy
  by_cases hi : i < xs.length
  · rw [List.getElem?_append_left hi] at hy
    exact h i y hy
  · have h2 : i < (xs ++ [x]).length := (List.getElem?_eq_some_iff.1 hy).1
    rw [List.length_append, List.length_singleton] at h2
    obtain rfl : i = xs.length := by omega
    rw [List.getElem?_append_right (Nat.le_refl _), Nat.sub_self] at hy
    simp only [List.getElem?_cons_zero, Option.some.injEq] at hy
    subst hy
    rw [hk]; exact hx

set_option maxHeartbeats 2000000 in
theorem gpTails_any (V M : Nat) (w : World) (hV : V ≤ 8) (hV1 : 1 ≤ V) (hM1 : 1 ≤ M) (hM : M ≤ 15) :
    Calls Try.prog 31 #[.int .i64 (V : Int), .int .i64 (bA M)] w fun e w' => ∃ (v : Value) (es : List Told) (ms : List Nat), e = .returned v ∧ Tr w' w.heap.size w.heap.size v es (ndr (V / 2) M) (ms.map (wA V M)) ∧ (∀ (i m : Nat), ms[i]? = some m → Lo (fA V M) (nA V M) i m) ∧
      (∀ (i : Nat) (x : Told), es[i]? = some x → x.2.2 = ((dep (fA V M) (nA V M) i : Nat) : Int)) ∧ Below w.heap.size w w' := by
  have HGA := Lib.hid (fun w' => gpAll_any (V / 2) (V / 2) M [] (.slice none 0 0) 0 w' (Rd.nil _ _) (by simp) (by omega) hM)
  have HE := Lib.hid (show (ndr (V / 2) M).map (fun l => [] ++ l) = ndr (V / 2) M by simp)
  rw [HE.out] at HGA
  obtain ⟨N, hN⟩ : ∃ N, N = nA V M := ⟨_, rfl⟩
  obtain ⟨F, hF⟩ : ∃ F, F = wA V M := ⟨_, rfl⟩
  obtain ⟨f, hf⟩ : ∃ f, f = fA V M := ⟨_, rfl⟩
  obtain ⟨b, hb⟩ : ∃ b, b = bA M := ⟨_, rfl⟩
  have hNb : N ≤ 3876 := by rw [hN]; exact nA_bd hV hM
  have hb2 : 2 ≤ b := by rw [hb]; unfold bA; omega
  have hb16 : b ≤ 16 := by rw [hb]; unfold bA; omega
  have HCY := Lib.hid (show ∀ i, i < N → ∃ m, Lo f N i m ∧ ∀ (u : Value) (B : Nat) (w : World), Rd w B u (F i) → Calls Try.prog 40 #[u, .int .i64 b] w fun e w' => ∃ u vs, e = .returned u ∧ LLi w' w.heap.size u vs ((rnd f N m).map F) ∧ Below w.heap.size w w' from fun i hi => by
    rw [hf, hN, hF, hb]; exact gpCycle_wA hM1 hM hV (by rw [← hN]; exact hi))
  have HRU := Lib.hid (show ∀ (i : Nat) (u : Value) (B : Nat) (w : World), i < N → Rd w B u (F i) → Calls Try.prog 54 #[u, .int .i64 b] w fun e w' => ∃ v, e = .returned (.tuple #[v, .int .i64 ((dep f N i : Nat) : Int)]) ∧ Below w.heap.size w w' from fun i u B w hi h => by
    rw [hf, hN, hb]; exact gpRun_wA hM1 hM hV (by rw [← hN]; exact hi) u B w (by rw [← hF]; exact h))
  have HBY := Lib.hid (show ∀ (i : Nat) (v : Value) (B : Nat) (w : World), i < N → Rd w B v (gA V M i) → Calls Try.prog 49 #[v, .int .i64 (V : Int), .int .i64 b] w fun e w' => ∃ u, e = .returned u ∧ Rd w' w.heap.size u (F i) ∧ Below w.heap.size w w' from fun i v B w hi h => by
    have hg := gA_of (show i < nA V M by rw [← hN]; exact hi)
    have := gpBy_any v (gA V M i) V b B w h hb2 hb16 hV hg.1 (by rw [hb]; exact hg.2.1) (nr_of hg.2.2)
    rw [hF]
    have e : wd b V (gv b V (gA V M i)) = wA V M i := by rw [hb]; rfl
    rw [e] at this
    exact this)
  have HFL := Lib.hid (show ∀ j, (F j).length = V from fun j => by rw [hF, wA_len])
  have HGT := Lib.hid (show ∀ i, i < N → (ndr (V / 2) M)[i]? = some (gA V M i) from fun i hi => gA_get (by rw [← hN]; exact hi))
  have HNN := Lib.hid (show (ndr (V / 2) M).length = N by rw [hN]; rfl)
  have HBM := Lib.hid (show b - 1 = (M : Int) by rw [hb]; unfold bA; omega)
  have HK := Lib.hid (show (V : Int) / 2 = ((V / 2 : Nat) : Int) by omega)
  obtain ⟨LS, hLS⟩ : ∃ LS, LS = ndr (V / 2) M := ⟨_, rfl⟩
  rw [← hLS] at HGA HGT HNN
  rw [← hN, ← hF, ← hf, ← hb, ← hLS]
  clear hLS hN hF hf hb HE
  go_enter Try.func31, Try.ntmps31
  go_wp2_with fail
  rw [HBM.out, HK.out]
  refine (HGA.out _).mono ?_
  rintro e w1 ⟨ug, vg, rfl, hg, hb1⟩
  have LG := Lib.hid hg
  have B1 := Lib.hid hb1
  have HVG := Lib.hid (show vg.length = N by rw [hg.len, HNN.out])
  obtain ⟨ag, cg, rfl⟩ := hg.row.lenR HVG.out
  clear hg hb1
  go_wp2
  go_loopw [5, 17] (fun o i wr => ∃ (k : Nat) (es : List Told) (ms : List Nat), k ≤ N ∧ i = .int .i64 (k : Int) ∧ Tr wr w1.heap.size w.heap.size o es (LS.take k) (ms.map F) ∧ Hid (∀ (i m : Nat), ms[i]? = some m → Lo f N i m) ∧ Hid (∀ (i : Nat) (x : Told), es[i]? = some x → x.2.2 = ((dep f N i : Nat) : Int)) ∧ es.length = k ∧ ms.length = k ∧ Below w1.heap.size w1 wr) (fun _ i _ => N - (intOf i).toNat)
  case atStart => exact ⟨0, [], [], Nat.zero_le _, rfl, by rw [List.take_zero]; exact Tr.nil _ _ _, Lib.hid (fun i m h => by simp at h), Lib.hid (fun i x h => by simp at h), rfl, rfl, Below.refl _ _⟩
  case round =>
    obtain ⟨k, es, ms, hk, rfl, htr, HLO, HDE, hes, hms, hbl⟩ := hrel
    have TR := Lib.hid htr
    have HB := Lib.hid hbl
    have LGr := Lib.hid (LG.out.keep hbl)
    have HES := Lib.hid hes
    have HMS := Lib.hid hms
    clear htr hbl hes hms
    by_cases hlt : k < N
    · obtain ⟨z, hz⟩ : ∃ z, vg[k]? = some z := ⟨vg[k]'(by rw [HVG.out]; exact hlt), by simp⟩
      obtain ⟨gg, rfl⟩ : ∃ gg, ag = some ⟨gg, 0, none⟩ := by
        rcases LGr.out.row.cases with ⟨he, h0⟩ | ⟨g0, c0, he⟩
        · simp only [Value.slice.injEq] at he; omega
        · simp only [Value.slice.injEq] at he; exact ⟨g0, he.1⟩
      have hcell : wr.cell? ⟨gg, k, none⟩ = some z := LGr.out.f.cell hz
      have hrz := LGr.out.at' k z _ hz (HGT.out k hlt)
      have HRZ := Lib.hid hrz
      obtain ⟨az, cz, rfl⟩ := hrz.shape'
      obtain ⟨m0, hlo, hcy⟩ := HCY.out k hlt
      have HL0 := Lib.hid hlo
      have HCK := Lib.hid (show ∀ (u : Value) (B : Nat) (w' : World), Rd w' B u (F k) → Calls Try.prog 40 #[u, .int .i64 b] w' fun e w'' => ∃ (g8 P c8 : Nat) (ay : Option Addr) (cy : Nat), e = .returned (.slice (some ⟨g8, 0, none⟩) P c8) ∧ 0 < P ∧ w''.cell? ⟨g8, 0, none⟩ = some (.slice ay (F m0).length cy) ∧ Rd w'' w'.heap.size (.slice ay (F m0).length cy) (F m0) ∧ Below w'.heap.size w' w'' from fun u B w' h => (hcy u B w' h).mono (by
        rintro e w4 ⟨u4, vs4, rfl, hl4, hb4⟩
        have hv4 : vs4.length = per f N m0 := by rw [hl4.len, List.length_map, rnd_len]
        have hP0 : 0 < per f N m0 := by unfold per; omega
        obtain ⟨a8, c8, rfl⟩ := hl4.row.lenR hv4
        obtain ⟨g8, rfl⟩ : ∃ g8, a8 = some ⟨g8, 0, none⟩ := by
          rcases hl4.row.cases with ⟨he, h0⟩ | ⟨g0, c0, he⟩
          · rw [h0] at hv4; simp at hv4; omega
          · simp only [Value.slice.injEq] at he; exact ⟨g0, he.1⟩
        obtain ⟨y, hy⟩ : ∃ y, vs4[0]? = some y := ⟨vs4[0]'(by rw [hv4]; exact hP0), by simp⟩
        have hry := hl4.at' 0 y (F m0) hy (by
          unfold rnd
          rw [List.map_map, List.getElem?_map, List.getElem?_range hP0]; rfl)
        have hc8 : w4.cell? ⟨g8, 0, none⟩ = some y := LLf.cell hl4.f hy
        obtain ⟨ay, cy, rfl⟩ := hry.shape'
        exact ⟨g8, _, c8, ay, cy, rfl, hP0, hc8, hry, hb4⟩))
      have HTK := Lib.hid (show LS.take (k + 1) = LS.take k ++ [gA V M k] by
        rw [List.take_add_one, HGT.out k hlt]; rfl)
      obtain ⟨T, hT⟩ : ∃ T : Int, T = ((dep f N k : Nat) : Int) := ⟨_, rfl⟩
      have HT := Lib.hid hT
      have HRK := Lib.hid (fun u B w h => HRU.out k u B w hlt h)
      rw [← hT] at HRK
      clear hz hrz hlo hcy hT
      go_wp2_with (first
        | (go_at_call 49; refine (HBY.out k _ _ _ hlt HRZ.out).mono ?_; rintro e w2 ⟨u2, rfl, hr2, hb2⟩; have R2 := Lib.hid hr2; have B2 := Lib.hid (Below.step HB.out HB.out.size hb2); have TR2 := Lib.hid (TR.out.keep hb2); have Z2 := Lib.hid (HRZ.out.keep hb2); clear hr2 hb2)
        | (go_at_call 54; refine (HRK.out _ _ _ R2.out).mono ?_; rintro e w3 ⟨u3, rfl, hb3⟩; have R3 := Lib.hid (R2.out.keep hb3); have B3 := Lib.hid (Below.step B2.out B2.out.size hb3); have TR3 := Lib.hid (TR2.out.keep hb3); have Z3 := Lib.hid (Z2.out.keep hb3); clear hb3)
        | (go_at_call 40; refine (HCK.out _ _ _ R3.out).mono ?_; rintro e w4 ⟨g8, P, c8, ay, cy, rfl, hP0, hc8, hry, hb4⟩; have S4 := Lib.hid (show w.heap.size ≤ w3.heap.size from Nat.le_trans B1.out.size B3.out.size); have RY := Lib.hid (hry.mono S4.out); have B4 := Lib.hid (Below.step B3.out B3.out.size hb4); have TR4 := Lib.hid (TR3.out.keep hb4); have Z4 := Lib.hid (Z3.out.keep hb4); clear hry hb4)
        | (at_builtin; refine wpList_appT3 rfl (.tmp 31) (.tmp 40) rfl w1.heap.size w4.heap.size _ es (.slice az (gA V M k).length cz, .slice ay (F m0).length cy, T) rfl rfl (World.ownsRow.alloc TR4.out.row _) (by simp [go_sem]) (by simp [go_sem]) (by simp [go_sem]) rfl rfl (by rw [HES.out]; omega) (by have := B4.out.size; simp; omega) ?_; intro v5 w5 hr5 hg5 hb5; have N5 := Lib.hid (Tr.snoc (TR4.out.keep (alloc_below w4 _)) (Z4.out.alloc _) (RY.out.alloc _) hr5 hg5); have B5 := Lib.hid ((B4.out.alloc B4.out.size _).trans hb5); clear hr5 hg5 hb5))
      go_roundw
      case rel => exact ⟨k + 1, es ++ [(.slice az (gA V M k).length cz, .slice ay (F m0).length cy, T)], ms ++ [m0], by omega, by go_num, by rw [HTK.out, List.map_append]; exact N5.out, Lib.hid (snoc_all HMS.out HLO.out HL0.out), Lib.hid (snoc_all HES.out HDE.out HT.out), by simp [HES.out], by simp [HMS.out], B5.out⟩
      case measure => simp [intOf]; omega
    · obtain rfl : k = N := by omega
      go_wp2
      go_ret
      refine ⟨_, es, ms, rfl, ?_, HLO.out, HDE.out, Below.step B1.out B1.out.size HB.out⟩
      have := TR.out.mono B1.out.size
      rwa [List.take_of_length_le (by rw [HNN.out]; exact Nat.le_refl _)] at this

end Go.Proofs.Ytadjjmlneghklaa

/- from XGN -/
namespace Go.Proofs.Ytadjjmlneghklaa
open Go.RowKit
set_option linter.unusedVariables false
set_option linter.unusedSimpArgs false
set_option maxRecDepth 100000

theorem set_pair {w : World} {s : Nat} {y0 y1 x0 x1 : Value} (h0 : w.cell? ⟨s, 0, none⟩ = some y0) (h1 : w.cell? ⟨s, 1, none⟩ = some y1) :
    ((w.setCell ⟨s, 0, none⟩ x0).setCell ⟨s, 1, none⟩ x1).cell? ⟨s, 0, none⟩ = some x0 ∧ ((w.setCell ⟨s, 0, none⟩ x0).setCell ⟨s, 1, none⟩ x1).cell? ⟨s, 1, none⟩ = some x1 := by
  have hne : (⟨s, 0, none⟩ : Addr) ≠ ⟨s, 1, none⟩ := fun e => by simp at e
  constructor
  · rw [World.cell?_setCell_other _ _ _ _ (Ne.symm hne)]
    exact World.cell?_setCell_same _ _ _ h0
  · exact World.cell?_setCell_same _ _ _ ((World.cell?_setCell_other _ _ _ _ hne).trans h1)


theorem infoT3s : (Try.prog.info? 53).map (·.size) = some 3 := by kernel_rfl
theorem loadVar_trip (w : World) (s : Nat) (x0 x1 x2 : Value) (h0 : w.cell? ⟨s, 0, none⟩ = some x0) (h1 : w.cell? ⟨s, 1, none⟩ = some x1) (h2 : w.cell? ⟨s, 2, none⟩ = some x2) : (loadVar 53 ⟨s, 0, none⟩).run Try.prog w = .ok (.agg #[x0, x1, x2]) w := by
  have hl : (loadCells ⟨s, 0, none⟩ ([x0, x1, x2] : List Value).length).run Try.prog w = .ok ([x0, x1, x2] : List Value).toArray w :=
    run_loadCells_list (P := Try.prog) w ⟨s, 0, none⟩ [x0, x1, x2] (fun j v hv => by
      have hadd : (⟨s, 0, none⟩ : Addr).add j = ⟨s, j, none⟩ := by unfold Addr.add; split <;> simp_all
      rw [hadd]
      match j, hv with
      | 0, hv => simp at hv; subst hv; exact h0
      | 1, hv => simp at hv; subst hv; exact h1
      | 2, hv => simp at hv; subst hv; exact h2
      | j + 3, hv => simp at hv)
  have hi := infoT3s
  cases hq : Try.prog.info? 53 with
  | none => simp [hq] at hi
  | some i =>
    have hs : i.size = 3 := by simpa [hq] using hi
    have hagg : (isAgg 53).run Try.prog w = .ok true w := by
      unfold isAgg
      rw [Sem.run_bind, run_underlying Try.underlying53 w]
      rfl
    simp only [List.length_cons, List.length_nil, Nat.zero_add, Nat.reduceAdd] at hl
    simp [loadVar, Sem.run_bind, hagg, sizeOf, typeInfo, hq, hs, hl]

theorem results_cell_one {P : Program} {fn : Func} {p : Tmp} {ty : TypeId} (h : fn.results = #[.cell p ty]) (tmps : Array Value) (w : World) (s : Nat) (v : Value) (hp : tmps.getD p undef = .pointer (some ⟨s, 0, none⟩)) (hl : (loadVar ty ⟨s, 0, none⟩).run P w = .ok v w) :
    (results fn tmps).run P w = .ok v w := by
  have hp' : tmps[p]?.getD undef = .pointer (some ⟨s, 0, none⟩) := by simpa using hp
  simp [results, h, hp', asAddr, hl]

theorem ret_trip {fn : Func} {p : Tmp} (h : fn.results = #[.cell p 53]) (tmps : Array Value) (w : World) (s : Nat) (x0 x1 x2 : Value)
    (hp : tmps.getD p undef = .pointer (some ⟨s, 0, none⟩)) (h0 : w.cell? ⟨s, 0, none⟩ = some x0) (h1 : w.cell? ⟨s, 1, none⟩ = some x1) (h2 : w.cell? ⟨s, 2, none⟩ = some x2) :
    (results fn tmps).run Try.prog w = .ok (.agg #[x0, x1, x2]) w := results_cell_one h tmps w s _ hp (loadVar_trip w s x0 x1 x2 h0 h1 h2)

theorem set_trip {w : World} {s : Nat} {y0 y1 y2 x0 x1 x2 : Value} (h0 : w.cell? ⟨s, 0, none⟩ = some y0) (h1 : w.cell? ⟨s, 1, none⟩ = some y1) (h2 : w.cell? ⟨s, 2, none⟩ = some y2) :
    (((w.setCell ⟨s, 0, none⟩ x0).setCell ⟨s, 1, none⟩ x1).setCell ⟨s, 2, none⟩ x2).cell? ⟨s, 0, none⟩ = some x0 ∧ (((w.setCell ⟨s, 0, none⟩ x0).setCell ⟨s, 1, none⟩ x1).setCell ⟨s, 2, none⟩ x2).cell? ⟨s, 1, none⟩ = some x1 ∧
      (((w.setCell ⟨s, 0, none⟩ x0).setCell ⟨s, 1, none⟩ x1).setCell ⟨s, 2, none⟩ x2).cell? ⟨s, 2, none⟩ = some x2 := by
  have hp := set_pair (x0 := x0) (x1 := x1) h0 h1
  have n0 : (⟨s, 2, none⟩ : Addr) ≠ ⟨s, 0, none⟩ := fun e => by simp at e
  have n1 : (⟨s, 2, none⟩ : Addr) ≠ ⟨s, 1, none⟩ := fun e => by simp at e
  refine ⟨?_, ?_, ?_⟩
  · rw [World.cell?_setCell_other _ _ _ _ n0]; exact hp.1
  · rw [World.cell?_setCell_other _ _ _ _ n1]; exact hp.2
  · refine World.cell?_setCell_same _ _ _ (u := y2) ?_
    rw [World.cell?_setCell_other _ _ _ _ n1.symm, World.cell?_setCell_other _ _ _ _ n0.symm]
    exact h2
theorem Tr.cells {w : World} {B D g n c : Nat} {es : List Told} {gs ls : List (List Int)} (h : Tr w B D (.slice (some ⟨g, 0, none⟩) n c) es gs ls) {i : Nat} {x : Told} (hx : es[i]? = some x) :
    w.cell? ⟨g, i * 3, none⟩ = some x.1 ∧ w.cell? ⟨g, i * 3 + 1, none⟩ = some x.2.1 ∧ w.cell? ⟨g, i * 3 + 2, none⟩ = some (.int .i64 x.2.2) := by
  obtain ⟨a0, a1, a2⟩ := flat3_at es i x hx
  have hi := (List.getElem?_eq_some_iff.1 hx).1
  have hl := flat3_len es
  rcases h.row.2 with ⟨h1, _⟩ | ⟨g', cap', cur, hv, hg, hh, hn, hm, hc, ht⟩
  · simp at h1
  · simp only [Value.slice.injEq, Option.some.injEq, Addr.mk.injEq, and_true, true_and] at hv
    obtain ⟨rfl, rfl, rfl⟩ := hv
    have hcell : ∀ j (u : Value), (flat3 es)[j]? = some u → w.cell? ⟨g, j, none⟩ = some u := fun j u hj => by
      have hjl := (List.getElem?_eq_some_iff.1 hj).1
      rw [← ht, List.getElem?_take_of_lt (by omega), Array.getElem?_toList] at hj
      simp [World.cell?, hh, hj]
    exact ⟨hcell _ _ a0, hcell _ _ a1, hcell _ _ a2⟩
theorem Tr.slice {w : World} {B D : Nat} {v : Value} {es : List Told} {gs ls : List (List Int)} (h : Tr w B D v es gs ls) (h0 : 0 < es.length) : ∃ g c, v = .slice (some ⟨g, 0, none⟩) es.length c := by
  rcases h.row.2 with ⟨_, h1⟩ | ⟨g', cap', cur, hv, _⟩
  · omega
  · exact ⟨g', cap', hv⟩

set_option maxHeartbeats 2000000 in
theorem gpTold_any (v u : Value) (es : List Told) (gs ls : List (List Int)) (xs : List Int) (k : Nat) (x : Told) (B D : Nat) (b : Int) (w : World) (h : Tr w B D v es gs ls) (hu : Sl w u xs) (hl : xs.length ≤ 8) (hb : b ≤ 16) (hx : ∀ y ∈ xs, 0 ≤ y ∧ y ≤ b - 1)
    (hk : es[k]? = some x) (hkb : es.length ≤ 100000) (hg : gs[k]? = some (gp xs)) (hne : ∀ j, j < k → gs[j]? ≠ some (gp xs)) (hgl : ∀ g ∈ gs, g.length ≤ 8) :
    Calls Try.prog 32 #[v, u] w fun e w' => e = .returned (.agg #[x.1, x.2.1, .int .i64 x.2.2]) ∧ Below w.heap.size w w' := by
  have hkl := (List.getElem?_eq_some_iff.1 hk).1
  obtain ⟨g0, c0, rfl⟩ := h.slice (by omega)
  obtain ⟨w1, hw1⟩ : ∃ w1, w1 = w.alloc (.cells #[.slice none 0 0, .slice none 0 0, .int .i64 0] 53) := ⟨_, rfl⟩
  have hb1 : Below w.heap.size w w1 := by rw [hw1]; exact alloc_below w _
  have R0 := Lib.hid (show w1.cell? ⟨w.heap.size, 0, none⟩ = some (.slice none 0 0) by rw [hw1]; simp [go_sem])
  have R1 := Lib.hid (show w1.cell? ⟨w.heap.size, 1, none⟩ = some (.slice none 0 0) by rw [hw1]; simp [go_sem])
  have R2 := Lib.hid (show w1.cell? ⟨w.heap.size, 2, none⟩ = some (.int .i64 0) by rw [hw1]; simp [go_sem])
  have hh : w1.heap[w.heap.size]? = some (.cells #[.slice none 0 0, .slice none 0 0, .int .i64 0] 53 (0, 0)) := by rw [hw1]; exact heap_alloc_new w _
  have HFZ := Lib.hid (show ∀ w' : World, Below w1.heap.size w1 w' → ∀ j, w'.frozen? ⟨w.heap.size, j, none⟩ = false from fun w' hb j => by
    have h1 := hb.block w.heap.size (Array.getElem?_eq_some_iff.1 hh).1
    simp [World.frozen?, h1, hh])
  have HGP := Lib.hid (gpGaps_any u xs b w1 (hu.keep hb1) hl hb hx)
  have TR := Lib.hid (h.keep hb1)
  have B1 := Lib.hid hb1
  have HGL := Lib.hid hgl
  have HNE := Lib.hid hne
  have HG := Lib.hid hg
  have HKX := Lib.hid hk
  have HGX := Lib.hid (show (gp xs).length ≤ 8 from hgl _ (List.mem_of_getElem? hg))
  obtain ⟨N, hN⟩ : ∃ N, N = es.length := ⟨_, rfl⟩
  have HN := Lib.hid hN
  rw [← hN] at hkl hkb TR ⊢
  clear h hu hx hgl hne hg hk hb1 hN hh
  go_enter Try.func32, Try.ntmps32
  go_wp2_with fail
  rw [← hw1]
  clear hw1
  refine HGP.out.mono ?_
  rintro e w2 ⟨ug, rfl, hr2, hb2⟩
  have HU := Lib.hid hr2
  have TR2 := Lib.hid (TR.out.keep hb2)
  have B2 := Lib.hid (Below.step B1.out B1.out.size hb2)
  have B12 := Lib.hid hb2
  have R02 := Lib.hid (Below.keeps_cell hb2 R0.out)
  have R12 := Lib.hid (Below.keeps_cell hb2 R1.out)
  have R22 := Lib.hid (Below.keeps_cell hb2 R2.out)
  clear hr2 hb2
  go_wp2
  go_loopw [6] (fun i wr => ∃ j : Nat, j ≤ k ∧ i = .int .i64 (j : Int) ∧ Below w2.heap.size w2 wr) (fun i _ => k - (intOf i).toNat)
  case atStart => exact ⟨0, Nat.zero_le _, rfl, Below.refl _ _⟩
  case round =>
    obtain ⟨j, hj, rfl, hbr⟩ := hrel
    have HB := Lib.hid hbr
    have TRr := Lib.hid (TR2.out.keep hbr)
    have HUr := Lib.hid (HU.out.keep hbr)
    have R03 := Lib.hid (Below.keeps_cell hbr R02.out)
    have R13 := Lib.hid (Below.keeps_cell hbr R12.out)
    have R23 := Lib.hid (Below.keeps_cell hbr R22.out)
    clear hbr
    have hjN : j < N := by omega
    obtain ⟨y, hy⟩ : ∃ y, es[j]? = some y := ⟨es[j]'(by rw [← HN.out]; exact hjN), by simp⟩
    obtain ⟨g, hg⟩ : ∃ g, gs[j]? = some g := ⟨gs[j]'(by rw [← TRr.out.lg, ← HN.out]; exact hjN), by simp⟩
    obtain ⟨c0, c1, c2⟩ := TRr.out.cells hy
    have HRG := Lib.hid (TRr.out.rg j y g hy hg)
    have HGY := Lib.hid (HGL.out g (List.mem_of_getElem? hg))
    have HS := Lib.hid (l1Same_any y.1 ug g (gp xs) wr HRG.out.sl HUr.out.sl (by have := HGY.out; omega) (by have := HGX.out; omega))
    by_cases hjk : j < k
    · have HD := Lib.hid (show decide (g = gp xs) = false from decide_eq_false (fun e => HNE.out j hjk (by rw [hg, e])))
      rw [HD.out] at HS
      obtain ⟨y0, hy0⟩ : ∃ y0, y0 = y.1 := ⟨_, rfl⟩
      rw [← hy0] at c0 HS
      clear hy hg hy0 c1 c2
      go_wp2_with (go_at_call 34; refine HS.out.mono ?_; rintro e w3 ⟨rfl, hb3⟩; have B3 := Lib.hid (Below.step HB.out HB.out.size hb3); clear hb3)
      go_roundw
      case rel => exact ⟨j + 1, by omega, by go_num, B3.out⟩
      case measure => simp [intOf]; omega
    · obtain rfl : j = k := by omega
      have HD := Lib.hid (show decide (g = gp xs) = true from decide_eq_true (by have h1 := HG.out; rw [hg] at h1; exact Option.some.inj h1))
      rw [HD.out] at HS
      obtain rfl : y = x := by have h1 := HKX.out; rw [hy] at h1; exact Option.some.inj h1
      obtain ⟨l, hl2⟩ : ∃ l, ls[j]? = some l := ⟨ls[j]'(by rw [← TRr.out.ll, ← HN.out]; exact hjN), by simp⟩
      have hrl := TRr.out.rl j y l hy hl2
      have hrg := HRG.out
      obtain ⟨x0, x1, x2⟩ := y
      simp only at c0 c1 c2 HS hrl hrg
      obtain ⟨p0, q0, rfl⟩ := hrg.shape'
      obtain ⟨p1, q1, rfl⟩ := hrl.shape'
      have C0 := Lib.hid c0
      have C1 := Lib.hid c1
      have C2 := Lib.hid c2
      clear hy hg c1 c2 hrl hrg HRG HKX
      go_wp2_with (go_at_call 34; refine HS.out.mono ?_; rintro e w3 ⟨rfl, hb3⟩; have B3 := Lib.hid (Below.step B2.out B2.out.size (Below.step HB.out HB.out.size hb3)); have e0 := Below.keeps_cell hb3 C0.out; have e1 := Below.keeps_cell hb3 C1.out; have e2 := Below.keeps_cell hb3 C2.out; have f0 := Below.keeps_cell hb3 R03.out; have f1 := Below.keeps_cell hb3 R13.out; have f2 := Below.keeps_cell hb3 R23.out; have z0 := HFZ.out _ (Below.step B12.out B12.out.size (Below.step HB.out HB.out.size hb3)) 0; have z1 := HFZ.out _ (Below.step B12.out B12.out.size (Below.step HB.out HB.out.size hb3)) 1; have z2 := HFZ.out _ (Below.step B12.out B12.out.size (Below.step HB.out HB.out.size hb3)) 2; clear hb3)
      have hst := set_trip (x0 := .slice p0 g.length q0) (x1 := .slice p1 l.length q1) (x2 := .int .i64 x2) f0 f1 f2
      have hb' : Below w.heap.size w (((w3.setCell ⟨w.heap.size, 0, none⟩ (.slice p0 g.length q0)).setCell ⟨w.heap.size, 1, none⟩ (.slice p1 l.length q1)).setCell ⟨w.heap.size, 2, none⟩ (.int .i64 x2)) := ((B3.out.setCell (Nat.le_refl _) _).setCell (Nat.le_refl _) _).setCell (Nat.le_refl _) _
      refine bodyPost_ret (ret_trip rfl _ _ w.heap.size _ _ _ rfl hst.1 hst.2.1 hst.2.2) rfl ?_
      exact ⟨rfl, hb'⟩

end Go.Proofs.Ytadjjmlneghklaa

/- from XGP -/
namespace Go.Proofs.Ytadjjmlneghklaa
open Go.RowKit
set_option linter.unusedVariables false
set_option linter.unusedSimpArgs false

theorem pI_first {V M : Nat} (h1 : 1 ≤ M) (h2 : M ≤ 15) (hV : V ≤ 8) (x : Nat) : ∀ j, j < pI V M x → (ndr (V / 2) M)[j]? ≠ some (gp (wd (bA M) V (x : Int))) := by
  intro j hj e
  have hp := pI_lt h1 V x
  have hjn : j < nA V M := by omega
  rw [gA_get hjn] at e
  have e1 : gA V M j = gA V M (pI V M x) := by rw [gA_pI h1]; exact Option.some.inj e
  have e2 : uA V M j = uA V M (pI V M x) := by unfold uA; rw [e1]
  have := uA_inj h1 h2 hV hjn hp e2
  omega
theorem pI_get {V M : Nat} (h1 : 1 ≤ M) (x : Nat) : (ndr (V / 2) M)[pI V M x]? = some (gp (wd (bA M) V (x : Int))) := by
  rw [gA_get (pI_lt h1 V x), gA_pI h1]
theorem ndr_short {V M : Nat} (hV : V ≤ 8) : ∀ g ∈ ndr (V / 2) M, g.length ≤ 8 := fun g hg => by
  rw [ndr_all _ _ g hg]; omega

/-- The cycle in which a run ends, by the map behind it. -/
theorem bas_twin {F f p U : Nat → Nat} {N n x : Nat} (tw : Twin F N f n p U) (hx : x < N) : basF F N x = basF f n (p x) := by
  obtain ⟨m, h1, h2⟩ := bas_lo tw.intof (tw.pl x hx)
  have hl : LD F N = (LD f n).map U := tw.leads
  have h3 : (LD F N)[basF f n (p x)]? = some (U m) := by rw [hl, List.getElem?_map, h1]; rfl
  exact (bas_iff tw.intoF hx (tw.lo hx h2) (List.getElem?_eq_some_iff.1 h3).1).1 h3

theorem few_in {V M N : Nat} (hN : bA M ^ V = (N : Int)) (hN2 : N ≤ 100000) : few (bA M) V = (N : Int) := by
  unfold few
  rw [hN, if_pos (by omega)]
theorem few_many {V : Nat} {b : Int} (h : ¬ b ^ V ≤ 100000) : few b V = 0 := if_neg h

/-- The model's told tail of a word is its depth. -/
theorem tail_told {F f p U : Nat → Nat} {N n x m : Nat} (tw : Twin F N f n p U) (hx : x < N) (hm : Lo f n (p x) m) :
    dep F N x = if dep f n (p x) = 0 ∧ ∃ i ∈ rnd f n m, x = U i then 0 else dep f n (p x) + 1 := by
  by_cases hc : cyc F N x = true
  · rw [if_pos ((tw.cyc_iff_lo hx hm).1 hc), tw.dep0 hx hc]
  · rw [if_neg (fun h => hc ((tw.cyc_iff_lo hx hm).2 h)), tw.depS hx (by simpa using hc)]

end Go.Proofs.Ytadjjmlneghklaa

/- from XGQ -/
namespace Go.Proofs.Ytadjjmlneghklaa
open Go.RowKit
set_option linter.unusedVariables false
set_option linter.unusedSimpArgs false
set_option maxRecDepth 100000

theorem cnN_at (g : Nat → Nat) (k c : Nat) : cnN g (k + 1) c = if g k = c then cnN g k c + 1 else cnN g k c := by
  rw [← cnN_step]
  by_cases h : g k = c
  · subst h; simp
  · rw [if_neg h]
    exact if_neg (fun e => h e.symm)
theorem part_yes (g : Nat → Nat) {k c K : Nat} (h : g k = c) : lst K (fun x => if x = c then cnN g k c + 1 else if x < c then cnN g (k + 1) x else cnN g k x) = lst K (fun x => if x < c + 1 then cnN g (k + 1) x else cnN g k x) := lst_congr fun x _ => by
  by_cases e : x = c
  · subst e
    rw [if_pos rfl, if_pos (Nat.lt_succ_self _), cnN_at, if_pos h]
  · rw [if_neg e]
    by_cases hx : x < c
    · rw [if_pos hx, if_pos (by omega)]
    · rw [if_neg hx, if_neg (by omega)]
theorem part_no (g : Nat → Nat) {k c K : Nat} (h : ¬ g k = c) : lst K (fun x => if x < c then cnN g (k + 1) x else cnN g k x) = lst K (fun x => if x < c + 1 then cnN g (k + 1) x else cnN g k x) := lst_congr fun x _ => by
  by_cases e : x = c
  · subst e
    rw [if_neg (Nat.lt_irrefl _), if_pos (Nat.lt_succ_self _), cnN_at, if_neg h]
  · by_cases hx : x < c
    · rw [if_pos hx, if_pos (by omega)]
    · rw [if_neg hx, if_neg (by omega)]

set_option maxHeartbeats 4000000 in
theorem specCount_any (V M N : Nat) (w : World) (hV : V ≤ 8) (hV1 : 1 ≤ V) (hM1 : 1 ≤ M) (hM : M ≤ 15) (hS : okS (V : Int) (bA M) = true) (hN : bA M ^ V = (N : Int)) (hN1 : 1 ≤ N) (hN2 : N ≤ 100000) :
    Calls Try.prog 17 #[.int .i64 (V : Int), .int .i64 (bA M)] w fun e w' => ∃ v, e = .returned (.tuple #[v, .bool true]) ∧ Rd w' w.heap.size v (lst (cycs (fA V M) (nA V M)).length (cnN (fun x => basF (fA V M) (nA V M) (pI V M x)) N)) ∧ Below w.heap.size w w' := by
  have HAS := Lib.hid (fun w' => gpAsked_any (V : Int) (bA M) w')
  rw [hS] at HAS
  have HFW := Lib.hid (fun w' => gpFew_any V (bA M) w' (by unfold bA; omega) (by unfold bA; omega) hV)
  rw [few_in hN hN2] at HFW
  have HCY := Lib.hid (fun w' => gpCycles_any V M w' hV hV1 hM1 hM)
  have HTL := Lib.hid (fun w' => gpTails_any V M w' hV hV1 hM1 hM)
  have HGW := Lib.hid (fun (x : Nat) (w' : World) (hx : x < N) => gpWith_any V (x : Int) (bA M) w' (by unfold bA; omega) (by unfold bA; omega) hV (by omega) (by omega))
  have HTD := Lib.hid (show ∀ (x : Nat) (w' : World) (B D : Nat) (v u : Value) (es : List Told) (ls : List (List Int)) (e0 : Told), Tr w' B D v es (ndr (V / 2) M) ls → Sl w' u (wd (bA M) V (x : Int)) → es[pI V M x]? = some e0 → es.length ≤ 3876 →
      Calls Try.prog 32 #[v, u] w' fun e w'' => e = .returned (.agg #[e0.1, e0.2.1, .int .i64 e0.2.2]) ∧ Below w'.heap.size w' w'' from fun x w' B D v u es ls e0 h hu hk hl =>
    gpTold_any v u es _ ls (wd (bA M) V (x : Int)) (pI V M x) e0 B D (bA M) w' h hu (by rw [wdx_len]; exact hV) (by unfold bA; omega) (wdx_all hM1 V x) hk (by omega) (pI_get hM1 x) (pI_first hM1 hM hV x) (ndr_short hV))
  have HNA := Lib.hid (nA_bd hV hM)
  have HPI := Lib.hid (fun x => pI_lt hM1 V x)
  have HIN := Lib.hid (fA_into (V := V) hM1)
  have HWI := Lib.hid (fun (i j : Nat) (hi : i < nA V M) (hj : j < nA V M) (h : wA V M i = wA V M j) => wA_inj hM1 hM hV hi hj h)
  have HWL := Lib.hid (fun j => wA_len V M j)
  have HLN := Lib.hid (show (ndr (V / 2) M).length = nA V M from rfl)
  have hCL := cycsTo_len (fA V M) (nA V M) (nA V M)
  change (cycs (fA V M) (nA V M)).length ≤ nA V M at hCL
  obtain ⟨n, hn⟩ : ∃ n, n = nA V M := ⟨_, rfl⟩
  obtain ⟨F, hF⟩ : ∃ F, F = wA V M := ⟨_, rfl⟩
  obtain ⟨f, hf⟩ : ∃ f, f = fA V M := ⟨_, rfl⟩
  obtain ⟨p, hp⟩ : ∃ p, p = pI V M := ⟨_, rfl⟩
  obtain ⟨b, hb⟩ : ∃ b, b = bA M := ⟨_, rfl⟩
  obtain ⟨LS, hLS⟩ : ∃ LS, LS = ndr (V / 2) M := ⟨_, rfl⟩
  have hg : (fun x => basF (fA V M) (nA V M) (pI V M x)) = fun x => basF f n (p x) := by rw [hf, hn, hp]
  rw [hg]
  rw [← hn, ← hF, ← hf, ← hb, ← hLS] at HTL
  rw [← hn, ← hF, ← hf, ← hb] at HCY
  rw [← hb, ← hp, ← hLS] at HTD
  rw [← hn] at HNA HLN
  rw [← hn, ← hp] at HPI
  rw [← hn, ← hf] at HIN hCL ⊢
  rw [← hn, ← hF] at HWI
  rw [← hF] at HWL
  rw [← hb] at HAS HFW HGW ⊢
  rw [← hLS] at HLN
  obtain ⟨g, hgg⟩ : ∃ g : Nat → Nat, g = fun x => basF f n (p x) := ⟨_, rfl⟩
  rw [← hgg]
  have HGG := Lib.hid hgg
  obtain ⟨K, hK⟩ : ∃ K, K = (cycs f n).length := ⟨_, rfl⟩
  have HKK := Lib.hid hK
  rw [← hK] at hCL ⊢
  have hKb : K ≤ 3876 := by have := HNA.out; omega
  clear hn hF hf hp hb hLS hg hgg hK hN hS
  have hN0 : ¬ (N : Int) = 0 := by omega
  go_enter Try.func17, Try.ntmps17
  go_wp2_with (first | (go_at_call 24; refine (HAS.out _).mono ?_; rintro e w1 ⟨rfl, rfl⟩) | (go_at_call 30; refine (HFW.out _).mono ?_; rintro e w1 ⟨rfl, rfl⟩))
  refine (HCY.out _).mono ?_
  rintro e w1 ⟨u6, v6, rfl, hx6, hb1⟩
  have HV6 := Lib.hid (show v6.length = K by rw [hx6.len, List.length_map, HKK.out])
  obtain ⟨a6, c6, rfl⟩ := hx6.row.lenR HV6.out
  have LX1 := Lib.hid hx6
  have B1 := Lib.hid hb1
  clear hx6 hb1
  go_wp2_with fail
  refine (HTL.out _).mono ?_
  rintro e w2 ⟨u7, es, ms, rfl, htr, hlo, hde, hb2⟩
  have TR := Lib.hid htr
  have HLO := Lib.hid hlo
  have LX := Lib.hid (LX1.out.keep hb2)
  have B2 := Lib.hid (Below.step B1.out B1.out.size hb2)
  clear htr hlo hde hb2
  go_wp2_with (at_make; refine wpList_mkM rfl _ _ _ Try.underlying33 rfl .i64 .i64 _ _ K rfl rfl rfl rfl (by omega) ?_; intro w3 hr3 hg3 hb3; have R3 := Lib.hid hr3; have B3 := Lib.hid hb3; clear hr3 hg3 hb3)
  have HTS := Lib.hid (show es.length = n by rw [TR.out.lg, HLN.out])
  have HEL := Lib.hid (show es.length ≤ 3876 by rw [HTS.out]; exact HNA.out)
  have HML := Lib.hid (show ms.length = n by have h1 := TR.out.ll; rw [List.length_map] at h1; rw [← h1]; exact HTS.out)
  go_loopw [9] (fun i wr => ∃ k : Nat, k ≤ N ∧ i = .int .i64 (k : Int) ∧ Rd wr w2.heap.size (.slice (some ⟨w2.heap.size, 0, none⟩) K K) (lst K (cnN g k)) ∧ Below w2.heap.size w2 wr) (fun i _ => N - (intOf i).toNat)
  case atStart => exact ⟨0, Nat.zero_le _, rfl, by rw [lst_congr (G := fun _ => 0) (fun x _ => cnN_zero g x)]; exact R3.out, B3.out⟩
  case round =>
    obtain ⟨k, hk, rfl, hr, hb⟩ := hrel
    have HR := Lib.hid hr
    have HB := Lib.hid hb
    have TRk := Lib.hid (TR.out.keep hb)
    clear hr hb
    by_cases hlt : k < N
    · have hpk := HPI.out k
      obtain ⟨e0, he0⟩ : ∃ e0, es[p k]? = some e0 := ⟨es[p k]'(by rw [HTS.out]; exact hpk), by simp⟩
      obtain ⟨m, hm⟩ : ∃ m, ms[p k]? = some m := ⟨ms[p k]'(by rw [HML.out]; exact hpk), by simp⟩
      obtain ⟨gl, hgl⟩ : ∃ gl, LS[p k]? = some gl := ⟨LS[p k]'(by rw [HLN.out]; exact hpk), by simp⟩
      have HLm := Lib.hid (HLO.out (p k) m hm)
      have hRG := TRk.out.rg (p k) e0 gl he0 hgl
      have hRL := TRk.out.rl (p k) e0 (F m) he0 (by rw [List.getElem?_map, hm]; rfl)
      obtain ⟨x0, x1, T⟩ := e0
      simp only at hRG hRL
      obtain ⟨p0, q0, rfl⟩ := hRG.shape'
      obtain ⟨p1, q1, rfl⟩ := hRL.shape'
      have HE0 := Lib.hid he0
      have RL := Lib.hid hRL
      have HRLA := Lib.hid (show ∀ W : World, Below w2.heap.size w2 W → Rd W w1.heap.size (.slice p1 (F m).length q1) (F m) from fun W hb => (TR.out.rl (p k) _ (F m) he0 (by rw [List.getElem?_map, hm]; rfl)).keep hb)
      have HGK := Lib.hid (show g k = basF f n (p k) by rw [HGG.out])
      have HBK := Lib.hid (show g k < K by rw [HGG.out, HKK.out]; exact basF_lt HIN.out hpk)
      have HEQ := Lib.hid (show ∀ c y, c < K → (LD f n)[c]? = some y → (F y = F m ↔ g k = c) from fun c y hc hy => by
        rw [HGK.out, ← bas_iff HIN.out hpk HLm.out (by rw [LD_len, ← HKK.out]; exact hc), hy]
        have hyn : y < n := List.mem_range.1 (List.mem_filter.1 (List.mem_of_getElem? hy)).1
        have hmn : m < n := by obtain ⟨_, t, ht⟩ := HLm.out; rw [← ht]; exact it_lt HIN.out t hpk
        constructor
        · intro e; rw [HWI.out y m hyn hmn e]
        · intro e; rw [Option.some.inj e])
      clear he0 hm hgl hRG hRL hpk
      go_wp2_with (first
        | (go_at_call 30; refine (HFW.out _).mono ?_; rintro e w4 ⟨rfl, rfl⟩)
        | (go_at_call 33; refine (HGW.out k _ hlt).mono ?_; rintro e w4 ⟨u4, rfl, hr4, hb4⟩; have R4 := Lib.hid hr4; have B4 := Lib.hid (Below.step HB.out HB.out.size hb4); have HR4 := Lib.hid (HR.out.keep hb4); have TR4 := Lib.hid (TRk.out.keep hb4); have RL4 := Lib.hid (RL.out.keep hb4); clear hr4 hb4)
        | (go_at_call 32; refine (HTD.out k _ _ _ _ _ _ _ _ TR4.out R4.out.sl HE0.out HEL.out).mono ?_; rintro e w5 ⟨rfl, hb5⟩; have B5 := Lib.hid (Below.step B4.out B4.out.size hb5); have HR5 := Lib.hid (HR4.out.keep hb5); have RL5 := Lib.hid (RL4.out.keep hb5); clear hb5))
      have B6 := Lib.hid (B5.out.alloc B5.out.size (.cells #[.slice p0 gl.length q0, .slice p1 (F m).length q1, .int .i64 T] 53))
      have HR6 := Lib.hid (HR5.out.alloc (.cells #[.slice p0 gl.length q0, .slice p1 (F m).length q1, .int .i64 T] 53))
      have C6 := Lib.hid (show (w5.alloc (.cells #[.slice p0 gl.length q0, .slice p1 (F m).length q1, .int .i64 T] 53)).cell? ⟨w5.heap.size, 1, none⟩ = some (.slice p1 (F m).length q1) by simp [go_sem])
      have HGC := Lib.hid (show w5.heap.size ≠ w2.heap.size from fun e => by have := (HR5.out.lt w2.heap.size rfl).2; omega)
      obtain ⟨w6, hw6⟩ : ∃ w6, w6 = w5.alloc (.cells #[.slice p0 gl.length q0, .slice p1 (F m).length q1, .int .i64 T] 53) := ⟨_, rfl⟩
      rw [← hw6] at B6 HR6 C6 ⊢
      clear hw6
      obtain ⟨ga, hga⟩ : ∃ ga, ga = w5.heap.size := ⟨_, rfl⟩
      rw [← hga] at C6 HGC ⊢
      clear hga
      go_loopw [47] (fun i wr => ∃ c : Nat, c ≤ K ∧ i = .int .i64 (c : Int) ∧ Rd wr w2.heap.size (.slice (some ⟨w2.heap.size, 0, none⟩) K K) (lst K (fun a => if a < c then cnN g (k + 1) a else cnN g k a)) ∧ wr.cell? ⟨ga, 1, none⟩ = some (.slice p1 (F m).length q1) ∧ Below w2.heap.size w2 wr) (fun i _ => K - (intOf i).toNat)
      case atStart => exact ⟨0, Nat.zero_le _, rfl, by rw [lst_congr (G := cnN g k) (fun x _ => by simp)]; exact HR6.out, C6.out, B6.out⟩
      case round =>
        rename World => wc
        obtain ⟨c, hc, rfl, hr, hcc, hb⟩ := hrel
        have HRc := Lib.hid hr
        have HCc := Lib.hid hcc
        have HBc := Lib.hid hb
        clear hr hcc hb
        by_cases hcl : c < K
        · obtain ⟨z, hz⟩ : ∃ z, v6[c]? = some z := ⟨v6[c]'(by rw [HV6.out]; exact hcl), by simp⟩
          obtain ⟨y, hy⟩ : ∃ y, (LD f n)[c]? = some y := ⟨(LD f n)[c]'(by rw [LD_len, ← HKK.out]; exact hcl), by simp⟩
          have LXc := LX.out.keep HBc.out
          obtain ⟨g6, rfl⟩ : ∃ g6, a6 = some ⟨g6, 0, none⟩ := by
            rcases LXc.row.cases with ⟨he, h0⟩ | ⟨g0, c0, he⟩
            · simp only [Value.slice.injEq] at he; omega
            · simp only [Value.slice.injEq] at he; exact ⟨g0, he.1⟩
          obtain ⟨us, hus⟩ := LXc.at' c z ((rnd f n y).map F) hz (by
            show (((LD f n).map (rnd f n)).map fun c => c.map F)[c]? = _
            rw [List.getElem?_map, List.getElem?_map, hy]; rfl)
          have hul : us.length = per f n y := by rw [hus.len, List.length_map, rnd_len]
          have hP0 : 0 < per f n y := by unfold per; omega
          obtain ⟨az, cz, rfl⟩ := hus.row.lenR hul
          obtain ⟨gz, rfl⟩ : ∃ gz, az = some ⟨gz, 0, none⟩ := by
            rcases hus.row.cases with ⟨he, h0⟩ | ⟨g0, c0, he⟩
            · rw [h0] at hul; simp at hul; omega
            · simp only [Value.slice.injEq] at he; exact ⟨g0, he.1⟩
          obtain ⟨t, ht⟩ : ∃ t, us[0]? = some t := ⟨us[0]'(by rw [hul]; exact hP0), by simp⟩
          have hrt := hus.at' 0 t (F y) ht (by
            unfold rnd
            rw [List.map_map, List.getElem?_map, List.getElem?_range hP0]; rfl)
          have hct : wc.cell? ⟨gz, 0, none⟩ = some t := LLf.cell hus.f ht
          have hcz : wc.cell? ⟨g6, c, none⟩ = some (.slice (some ⟨gz, 0, none⟩) (per f n y) cz) := by
            obtain ⟨i1, i2⟩ := List.getElem?_eq_some_iff.1 hz
            rw [LXc.row.at.2.2.2.2.2.1 c i1, i2]
          obtain ⟨ay, cy, rfl⟩ := hrt.shape'
          obtain ⟨P, hP⟩ : ∃ P, P = per f n y := ⟨_, rfl⟩
          rw [← hP] at hcz hP0
          have HFE := Lib.hid (HEQ.out c y hcl hy)
          have HSAME := Lib.hid (l1Same_any (.slice ay (F y).length cy) (.slice p1 (F m).length q1) (F y) (F m) wc.drew (hrt.keep ((Below.refl _ _).drew)).sl ((HRLA.out _ HBc.out).keep ((Below.refl _ _).drew)).sl (by rw [HWL.out]; omega) (by rw [HWL.out]; omega))
          have hcg := HCc.out
          clear hz hy LXc hus hul ht hrt hP
          by_cases hgk : g k = c
          · have hd : decide (F y = F m) = true := decide_eq_true (HFE.out.2 hgk)
            rw [hd] at HSAME
            have HPY := Lib.hid (part_yes g (K := K) hgk)
            clear hd hgk
            go_wp2_with fail
            go_region_held3 (fun w' => w'.cell? ⟨gz, 0, none⟩ = some (.slice ay (F y).length cy) ∧ w'.cell? ⟨ga, 1, none⟩ = some (.slice p1 (F m).length q1)) (first | exact ⟨hct, hcg⟩ | exact ⟨d0, d1⟩) (first | (go_at_call 34; refine HSAME.out.mono ?_; rintro e w7 ⟨rfl, hb7⟩; have hb8 : Below wc.heap.size wc w7 := ((Below.refl wc.heap.size wc).drew).trans hb7; have d0 := Below.keeps_cell hb8 hct; have d1 := Below.keeps_cell hb8 hcg; have B7 := Lib.hid (Below.step HBc.out HBc.out.size hb8); have HR7 := Lib.hid (HRc.out.keep hb8); clear hb7 hb8))
            have hcq : w7.cell? ⟨w2.heap.size, c, none⟩ = some (.int .i64 ((cnN g k c : Nat) : Int)) := by rw [HR7.out.at.2.2.2.2.1 c (by rw [lst_len]; exact hcl), lst_at]; simp
            have hcf := HR7.out.at.2.2.2.2.2 c
            have hle := cnN_le g k c
            have HS := Lib.hid (HR7.out.setL c (cnN g k c + 1))
            rw [HPY.out] at HS
            obtain ⟨q, hq⟩ : ∃ q, q = cnN g k c := ⟨_, rfl⟩
            rw [← hq] at hcq hle HS
            have ej : ((q + 1 : Nat) : Int) = (q : Int) + 1 := by omega
            rw [ej] at HS
            have D1 := Lib.hid d1
            clear hq ej d0
            go_wp2
            go_roundw
            case rel => exact ⟨c + 1, by omega, by go_num, HS.out.1, (World.cell?_setCell_other _ _ _ _ (fun e => HGC.out (congrArg Addr.block e).symm)).trans D1.out, B7.out.setCell (Nat.le_refl _) _⟩
            case measure => simp [intOf]; omega
          · have hd : decide (F y = F m) = false := decide_eq_false (fun e => hgk (HFE.out.1 e))
            rw [hd] at HSAME
            have HPN := Lib.hid (part_no g (K := K) hgk)
            clear hd hgk
            go_wp2_with fail
            go_region_held3 (fun w' => w'.cell? ⟨gz, 0, none⟩ = some (.slice ay (F y).length cy) ∧ w'.cell? ⟨ga, 1, none⟩ = some (.slice p1 (F m).length q1)) (first | exact ⟨hct, hcg⟩ | exact ⟨d0, d1⟩) (first | (go_at_call 34; refine HSAME.out.mono ?_; rintro e w7 ⟨rfl, hb7⟩; have hb8 : Below wc.heap.size wc w7 := ((Below.refl wc.heap.size wc).drew).trans hb7; have d0 := Below.keeps_cell hb8 hct; have d1 := Below.keeps_cell hb8 hcg; have B7 := Lib.hid (Below.step HBc.out HBc.out.size hb8); have HR7 := Lib.hid (HRc.out.keep hb8); clear hb7 hb8))
            have D1 := Lib.hid d1
            clear d0
            go_wp2
            go_roundw
            case rel => exact ⟨c + 1, by omega, by go_num, by rw [← HPN.out]; exact HR7.out, D1.out, B7.out⟩
            case measure => simp [intOf]; omega
        · obtain rfl : c = K := by omega
          go_wp2
          go_roundw
          case rel => exact ⟨k + 1, by omega, by go_num, by rw [lst_congr (G := fun a => if a < c then cnN g (k + 1) a else cnN g k a) (fun x hx => by rw [if_pos hx])]; exact HRc.out, HBc.out⟩
          case measure => simp [intOf]; omega
    · obtain rfl : k = N := by omega
      have hkk : decide ((k : Int) < (k : Int)) = false := decide_eq_false (by omega)
      go_wp2_with (go_at_call 30; refine (HFW.out _).mono ?_; rintro e w4 ⟨rfl, rfl⟩)
      go_ret2
      exact ⟨_, rfl, HR.out.mono B2.out.size, Below.step B2.out B2.out.size HB.out⟩

end Go.Proofs.Ytadjjmlneghklaa

/- from XGS -/
namespace Go.Proofs.Ytadjjmlneghklaa
open Go.RowKit
set_option linter.unusedVariables false
set_option linter.unusedSimpArgs false
set_option maxRecDepth 100000

def OK_CountReaching (W b : Int) : Bool := okF W b
def LF_CountReaching (W b : Int) : List Int := if okF W b = true then lst (cycs (fA W.toNat (b.toNat - 1)) (nA W.toNat (b.toNat - 1))).length (cnN (fun x => basF (fA W.toNat (b.toNat - 1)) (nA W.toNat (b.toNat - 1)) (pI W.toNat (b.toNat - 1) x)) (b ^ W.toNat).toNat) else []

theorem okF_nat {W b : Int} (h : okF W b = true) : ∃ V M N : Nat, W = (V : Int) ∧ b = bA M ∧ 1 ≤ V ∧ V ≤ 8 ∧ 1 ≤ M ∧ M ≤ 15 ∧ bA M ^ V = (N : Int) ∧ 1 ≤ N ∧ N ≤ 100000 ∧ okS (V : Int) (bA M) = true := by
  unfold okF at h
  rw [Bool.and_eq_true, decide_eq_true_eq] at h
  obtain ⟨V, M, rfl, rfl, h1, h2, h3, h4⟩ := okS_nat h.1
  have hp := Int.pow_pos (n := bA M) (m := V) (by unfold bA; omega)
  have h5 := h.2
  rw [Int.toNat_natCast] at h5
  refine ⟨V, M, (bA M ^ V).toNat, rfl, rfl, h1, h2, h3, h4, ?_, ?_, ?_, h.1⟩
  · omega
  · omega
  · have h6 : bA M ^ V ≤ 100000 := h5
    omega
theorem lf_count {V M N : Nat} (h : okF (V : Int) (bA M) = true) (hN : bA M ^ V = (N : Int)) : LF_CountReaching (V : Int) (bA M) = lst (cycs (fA V M) (nA V M)).length (cnN (fun x => basF (fA V M) (nA V M) (pI V M x)) N) := by
  unfold LF_CountReaching
  rw [if_pos h, Int.toNat_natCast, show (bA M).toNat - 1 = M by unfold bA; omega, hN, Int.toNat_natCast]
theorem lf_count_no {W b : Int} (h : okF W b = false) : LF_CountReaching W b = [] := by unfold LF_CountReaching; rw [h]; rfl
theorem LF_CountReaching_len (W b : Int) : (LF_CountReaching W b).length ≤ 2000000 := by
  by_cases h : okF W b = true
  · obtain ⟨V, M, N, rfl, rfl, h1, h2, h3, h4, hN, _⟩ := okF_nat h
    rw [lf_count h hN, lst_len]
    have a := cycsTo_len (fA V M) (nA V M) (nA V M)
    have c := nA_bd (M := M) h2 h4
    unfold cycs
    omega
  · rw [lf_count_no (by simpa using h)]; simp

theorem cn_twin {F f p U : Nat → Nat} {N n : Nat} (tw : Twin F N f n p U) (a : Nat) : cnN (basF F N) N a = cnN (fun x => basF f n (p x)) N a := by
  unfold cnN
  congr 1
  refine List.filter_congr fun x hx => ?_
  rw [bas_twin tw (List.mem_range.1 hx)]

theorem impl_CountReaching (a0 a1 : Int) (w : World) :
    Calls Try.prog 18 #[.int .i64 a0, .int .i64 a1] w fun e w' => ∃ v, e = .returned (.tuple #[v, .bool (OK_CountReaching a0 a1)]) ∧ Rd w' w.heap.size v (LF_CountReaching a0 a1) ∧ Below w.heap.size w w' := by
  by_cases h : okF a0 a1 = true
  · obtain ⟨V, M, N, rfl, rfl, h1, h2, h3, h4, hN, hN1, hN2, hS⟩ := okF_nat h
    rw [lf_count h hN, show OK_CountReaching (V : Int) (bA M) = true from h]
    have tw := twin h3 h4 h2 hN
    refine (countReaching_any V M N w h2 h1 h3 h4 hS hN hN1 hN2).mono ?_
    rintro e w' ⟨v, rfl, hr, hb⟩
    rw [tw.cycles_len, lst_congr (G := cnN (fun x => basF (fA V M) (nA V M) (pI V M x)) N) (fun a _ => cn_twin tw a)] at hr
    exact ⟨v, rfl, hr, hb⟩
  · have hf : okF a0 a1 = false := by simpa using h
    have HL := Lib.hid (lf_count_no hf)
    have HO := Lib.hid (show OK_CountReaching a0 a1 = false from hf)
    have HW := Lib.hid (fun w' => hasFewWords_any a0 a1 w')
    rw [hf] at HW
    have HAL := Lib.hid (alloc_below w (.cells #[.int .i64 a0, .int .i64 a1] 45))
    clear h hf
    go_enter Try.func18, Try.ntmps18
    go_wp2_with (go_at_call 35; refine (HW.out _).mono ?_; rintro e w1 ⟨rfl, hb1⟩; have B1 := Lib.hid (Below.step HAL.out HAL.out.size hb1); clear hb1)
    go_ret2
    exact ⟨_, by rw [HO.out]; rfl, by rw [HL.out]; exact Rd.nil _ _, B1.out⟩

theorem spec_CountReaching (a0 a1 : Int) (w : World) :
    Calls Try.prog 17 #[.int .i64 a0, .int .i64 a1] w fun e w' => ∃ v, e = .returned (.tuple #[v, .bool (OK_CountReaching a0 a1)]) ∧ Rd w' w.heap.size v (LF_CountReaching a0 a1) ∧ Below w.heap.size w w' := by
  by_cases h : okF a0 a1 = true
  · obtain ⟨V, M, N, rfl, rfl, h1, h2, h3, h4, hN, hN1, hN2, hS⟩ := okF_nat h
    rw [lf_count h hN, show OK_CountReaching (V : Int) (bA M) = true from h]
    exact specCount_any V M N w h2 h1 h3 h4 hS hN hN1 hN2
  · have hf : okF a0 a1 = false := by simpa using h
    have HL := Lib.hid (lf_count_no hf)
    have HO := Lib.hid (show OK_CountReaching a0 a1 = false from hf)
    have HAS := Lib.hid (fun w' => gpAsked_any a0 a1 w')
    by_cases hS : okS a0 a1 = true
    · obtain ⟨V, M, rfl, rfl, h1, h2, h3, h4⟩ := okS_nat hS
      rw [hS] at HAS
      have HFW := Lib.hid (fun w' => gpFew_any V ((M + 1 : Nat) : Int) w' (by omega) (by omega) h2)
      have hm : ¬ ((M + 1 : Nat) : Int) ^ V ≤ 100000 := fun hle => by
        rw [okF_yes hS hle] at hf; cases hf
      rw [few_many hm] at HFW
      obtain ⟨b, hb⟩ : ∃ b : Int, b = ((M + 1 : Nat) : Int) := ⟨_, rfl⟩
      rw [← hb] at HAS HFW HL HO ⊢
      clear h hf hS hm hb
      go_enter Try.func17, Try.ntmps17
      go_wp2_with (first | (go_at_call 24; refine (HAS.out _).mono ?_; rintro e w1 ⟨rfl, rfl⟩) | (go_at_call 30; refine (HFW.out _).mono ?_; rintro e w1 ⟨rfl, rfl⟩))
      go_ret2
      exact ⟨_, by rw [HO.out]; rfl, by rw [HL.out]; exact Rd.nil _ _, Below.refl _ _⟩
    · rw [show okS a0 a1 = false by simpa using hS] at HAS
      clear h hf hS
      go_enter Try.func17, Try.ntmps17
      go_wp2_with (go_at_call 24; refine (HAS.out _).mono ?_; rintro e w1 ⟨rfl, rfl⟩)
      go_ret2
      exact ⟨_, by rw [HO.out]; rfl, by rw [HL.out]; exact Rd.nil _ _, Below.refl _ _⟩

end Go.Proofs.Ytadjjmlneghklaa

/- from XGU -/
namespace Go.Proofs.Ytadjjmlneghklaa
open Go.RowKit
set_option linter.unusedVariables false
set_option linter.unusedSimpArgs false
set_option maxRecDepth 100000

/-- The greatest of the first k numbers, -1 of none, and the word of its first place. -/
def mostK (D : Nat → Nat) (k : Nat) : Int := if k = 0 then -1 else ((D (mxI D k) : Nat) : Int)
def bestK (D : Nat → Nat) (b : Int) (V k : Nat) : List Int := if k = 0 then [] else wd b V ((mxI D k : Nat) : Int)
theorem mostK_hit {D : Nat → Nat} {b : Int} {V k : Nat} (h : mostK D k < ((D k : Nat) : Int)) : mostK D (k + 1) = ((D k : Nat) : Int) ∧ bestK D b V (k + 1) = wd b V (k : Int) := by
  have e : mxI D (k + 1) = k := by
    by_cases hk : k = 0
    · subst hk; exact mxI_one D
    · unfold mostK at h
      rw [if_neg hk] at h
      rw [mxI_succ, if_pos (by omega)]
  unfold mostK bestK
  rw [if_neg (by omega), if_neg (by omega), e]
  exact ⟨rfl, rfl⟩
theorem mostK_miss {D : Nat → Nat} {b : Int} {V k : Nat} (h : ¬ mostK D k < ((D k : Nat) : Int)) : mostK D (k + 1) = mostK D k ∧ bestK D b V (k + 1) = bestK D b V k := by
  have hk : k ≠ 0 := fun c => by
    subst c
    apply h
    show (-1 : Int) < _
    omega
  unfold mostK at h
  rw [if_neg hk] at h
  have e : mxI D (k + 1) = mxI D k := by rw [mxI_succ, if_neg (by omega)]
  have a : k + 1 ≠ 0 := by omega
  unfold mostK bestK
  rw [if_neg a, if_neg a, if_neg hk, if_neg hk, e]
  exact ⟨rfl, rfl⟩
theorem mostK_bd {D : Nat → Nat} (h : ∀ x, D x ≤ 100000) (k : Nat) : -1 ≤ mostK D k ∧ mostK D k ≤ 100000 := by
  unfold mostK
  split
  · omega
  · have := h (mxI D k); omega

theorem fst_le : ∀ (N : Nat) (p : Nat → Bool), fst p N ≤ N + 1
  | 0, p => by unfold fst; split <;> omega
  | N + 1, p => by
    have := fst_le N (fun k => p (k + 1))
    unfold fst
    split <;> omega
/-- A word lies on its cycle of lists of gaps exactly if its value is one of theirs. -/
theorem on_cycle {V M N x m : Nat} (h1 : 1 ≤ M) (h2 : M ≤ 15) (hV : V ≤ 8) (hN : bA M ^ V = (N : Int)) (hx : x < N) (hm : m < nA V M) (hin : Into (fA V M) (nA V M)) :
    (∃ i ∈ rnd (fA V M) (nA V M) m, x = Uv V M i) ↔ wd (bA M) V (x : Int) ∈ (rnd (fA V M) (nA V M) m).map (wA V M) := by
  have hlt : ∀ i ∈ rnd (fA V M) (nA V M) m, i < nA V M := fun i hi => by
    obtain ⟨j, _, hj⟩ := mem_rnd.1 hi
    rw [← hj]; exact it_lt hin j hm
  rw [List.mem_map]
  constructor
  · rintro ⟨i, hi, he⟩
    refine ⟨i, hi, ?_⟩
    have hb := uA_bd h1 h2 hV (hlt i hi)
    unfold wA
    rw [he]
    congr 1
    unfold Uv
    omega
  · rintro ⟨i, hi, he⟩
    refine ⟨i, hi, ?_⟩
    have hb := uA_bd h1 h2 hV (hlt i hi)
    unfold wA at he
    have e1 := vl_wd (b := bA M) (by unfold bA; omega) V (uA V M i) hb.1 hb.2
    have e2 := vl_wd (b := bA M) (by unfold bA; omega) V (x : Int) (by omega) (by rw [hN]; omega)
    rw [he, e2] at e1
    unfold Uv
    omega

theorem fw_bd {F : Nat → Nat} {N : Nat} (hN : N ≤ 100000) (h0 : ∀ x, ¬ x < N → dep F N x ≤ 100000) : ∀ x, dep F N x ≤ 100000 := fun x => by
  by_cases h : x < N
  · have := (dep_spec (f := F) h).1; omega
  · exact h0 x h

set_option maxHeartbeats 4000000 in
theorem specLongest_any (V M N : Nat) (w : World) (hV : V ≤ 8) (hV1 : 1 ≤ V) (hM1 : 1 ≤ M) (hM : M ≤ 15) (hS : okS (V : Int) (bA M) = true) (hN : bA M ^ V = (N : Int)) (hN1 : 1 ≤ N) (hN2 : N ≤ 100000) :
    Calls Try.prog 22 #[.int .i64 (V : Int), .int .i64 (bA M)] w fun e w' => ∃ v, e = .returned (.tuple #[.int .i64 (mostK (dep (Fv V M) N) N), v, .bool true]) ∧ Rd w' w.heap.size v (bestK (dep (Fv V M) N) (bA M) V N) ∧ Below w.heap.size w w' := by
  have tw := twin hM1 hM hV hN
  have HAS := Lib.hid (fun w' => gpAsked_any (V : Int) (bA M) w')
  rw [hS] at HAS
  have HFW := Lib.hid (fun w' => gpFew_any V (bA M) w' (by unfold bA; omega) (by unfold bA; omega) hV)
  rw [few_in hN hN2] at HFW
  have HTL := Lib.hid (fun w' => gpTails_any V M w' hV hV1 hM1 hM)
  have HGW := Lib.hid (fun (x : Nat) (w' : World) (hx : x < N) => gpWith_any V (x : Int) (bA M) w' (by unfold bA; omega) (by unfold bA; omega) hV (by omega) (by omega))
  have HTD := Lib.hid (show ∀ (x : Nat) (w' : World) (B D : Nat) (v u : Value) (es : List Told) (ls : List (List Int)) (e0 : Told), Tr w' B D v es (ndr (V / 2) M) ls → Sl w' u (wd (bA M) V (x : Int)) → es[pI V M x]? = some e0 → es.length ≤ 3876 →
      Calls Try.prog 32 #[v, u] w' fun e w'' => e = .returned (.agg #[e0.1, e0.2.1, .int .i64 e0.2.2]) ∧ Below w'.heap.size w' w'' from fun x w' B D v u es ls e0 h hu hk hl =>
    gpTold_any v u es _ ls (wd (bA M) V (x : Int)) (pI V M x) e0 B D (bA M) w' h hu (by rw [wdx_len]; exact hV) (by unfold bA; omega) (wdx_all hM1 V x) hk (by omega) (pI_get hM1 x) (pI_first hM1 hM hV x) (ndr_short hV))
  have HNA := Lib.hid (nA_bd hV hM)
  have HPI := Lib.hid (fun x => pI_lt hM1 V x)
  have HIN := Lib.hid (fA_into (V := V) hM1)
  have HLN := Lib.hid (show (ndr (V / 2) M).length = nA V M from rfl)
  have hlo : ∀ {x m : Nat}, Lo (fA V M) (nA V M) (pI V M x) m → m < nA V M := fun {x m} h => by obtain ⟨_, t, ht⟩ := h; rw [← ht]; exact it_lt HIN.out t (HPI.out x)
  have HCYC := Lib.hid (show ∀ (x m : Nat), Lo (fA V M) (nA V M) (pI V M x) m → ∀ (u : Value) (B : Nat) (w' : World), Rd w' B u (wA V M m) → Calls Try.prog 40 #[u, .int .i64 (bA M)] w' fun e w'' => ∃ u vs, e = .returned u ∧ LLi w'' w'.heap.size u vs ((rnd (fA V M) (nA V M) m).map (wA V M)) ∧ Below w'.heap.size w' w'' from fun x m h => by
    obtain ⟨m', hm', hc⟩ := gpCycle_wA hM1 hM hV (hlo h)
    obtain rfl : m' = m := Lo.uniq HIN.out hm' (Lo.self h.1)
    exact hc)
  have HFD := Lib.hid (show ∀ (x m : Nat) (w' : World) (B : Nat) (v u : Value) (vs : List Value), m < nA V M → LLi w' B v vs ((rnd (fA V M) (nA V M) m).map (wA V M)) → Sl w' u (wd (bA M) V (x : Int)) → Calls Try.prog 39 #[v, u] w' fun e w'' => (∃ z : Int, e = .returned (.int .i64 z) ∧ ((wd (bA M) V (x : Int) ∈ (rnd (fA V M) (nA V M) m).map (wA V M) ∧ 0 ≤ z) ∨ (wd (bA M) V (x : Int) ∉ (rnd (fA V M) (nA V M) m).map (wA V M) ∧ z < 0))) ∧ Below w'.heap.size w' w'' from fun x m w' B v u vs hm h hu => by
    obtain ⟨ls, hls⟩ : ∃ ls, ls = (rnd (fA V M) (nA V M) m).map (wA V M) := ⟨_, rfl⟩
    obtain ⟨y, hy⟩ : ∃ y, y = wd (bA M) V (x : Int) := ⟨_, rfl⟩
    rw [← hls] at h
    rw [← hy] at hu
    rw [← hls, ← hy]
    have hl8 : ∀ l ∈ ls, l.length ≤ 8 := fun l hl => by
      rw [hls] at hl
      obtain ⟨i, _, rfl⟩ := List.mem_map.1 hl
      rw [wA_len]; exact hV
    have hln : ls.length ≤ 100000 := by
      rw [hls, List.length_map, rnd_len]
      have hp : per (fA V M) (nA V M) m ≤ nA V M + 2 := Nat.succ_le_succ (fst_le _ _)
      have := HNA.out
      omega
    have hno : ∀ j, j < ls.idxOf y → ls[j]? ≠ some y := fun j hj e => by
      have h1 := (List.getElem?_eq_some_iff.1 e)
      obtain ⟨h2, h3⟩ := h1
      have := List.not_of_lt_findIdx (p := (· == y)) hj
      simp [h3] at this
    refine (gpFind_any v u vs ls y (ls.idxOf y) B w' h hu (by rw [hy, wdx_len]; exact hV) hl8 List.idxOf_le_length hno (fun ht => by rw [List.getElem?_eq_getElem ht]; congr 1; exact List.getElem_idxOf ht) hln).mono ?_
    rintro e w'' ⟨rfl, hb⟩
    refine ⟨⟨_, rfl, ?_⟩, hb⟩
    by_cases hin : y ∈ ls
    · exact .inl ⟨hin, by rw [if_pos (List.idxOf_lt_length_of_mem hin)]; omega⟩
    · refine .inr ⟨hin, ?_⟩
      rw [if_neg (fun c => hin (List.idxOf_lt_length_iff.1 c))]
      omega)
  have HTT := Lib.hid (show ∀ x m, x < N → Lo (fA V M) (nA V M) (pI V M x) m → dep (Fv V M) N x = if dep (fA V M) (nA V M) (pI V M x) = 0 ∧ wd (bA M) V (x : Int) ∈ (rnd (fA V M) (nA V M) m).map (wA V M) then 0 else dep (fA V M) (nA V M) (pI V M x) + 1 from fun x m hx hm => by
    rw [tail_told tw hx hm]
    have h3 := on_cycle (x := x) hM1 hM hV hN hx (hlo hm) HIN.out
    by_cases hc : dep (fA V M) (nA V M) (pI V M x) = 0 ∧ ∃ i ∈ rnd (fA V M) (nA V M) m, x = Uv V M i
    · rw [if_pos hc, if_pos ⟨hc.1, h3.1 hc.2⟩]
    · rw [if_neg hc, if_neg (fun c => hc ⟨c.1, h3.2 c.2⟩)])
  have HMN := Lib.hid (fun (x m : Nat) (h : Lo (fA V M) (nA V M) (pI V M x) m) => hlo h)
  have HDB := Lib.hid (show ∀ x, x < N → dep (Fv V M) N x ≤ 100000 from fun x hx => by have := (dep_spec (f := Fv V M) hx).1; omega)
  clear hlo tw
  obtain ⟨n, hn⟩ : ∃ n, n = nA V M := ⟨_, rfl⟩
  obtain ⟨F, hF⟩ : ∃ F, F = wA V M := ⟨_, rfl⟩
  obtain ⟨f, hf⟩ : ∃ f, f = fA V M := ⟨_, rfl⟩
  obtain ⟨p, hp⟩ : ∃ p, p = pI V M := ⟨_, rfl⟩
  obtain ⟨b, hb⟩ : ∃ b, b = bA M := ⟨_, rfl⟩
  obtain ⟨LS, hLS⟩ : ∃ LS, LS = ndr (V / 2) M := ⟨_, rfl⟩
  obtain ⟨D, hD⟩ : ∃ D, D = dep (Fv V M) N := ⟨_, rfl⟩
  rw [← hn, ← hF, ← hf, ← hb, ← hLS] at HTL
  rw [← hb, ← hp, ← hLS] at HTD
  rw [← hn] at HNA HLN
  rw [← hn, ← hp] at HPI
  rw [← hn, ← hf] at HIN
  rw [← hn, ← hf, ← hp, ← hF, ← hb] at HCYC
  rw [← hn, ← hf, ← hF, ← hb] at HFD
  rw [← hD, ← hn, ← hf, ← hp, ← hF, ← hb] at HTT
  rw [← hn, ← hf, ← hp] at HMN
  rw [← hD] at HDB ⊢
  rw [← hb] at HAS HFW HGW ⊢
  rw [← hLS] at HLN
  clear hn hF hf hp hb hLS hD hN hS
  have hN0 : ¬ (N : Int) = 0 := by omega
  go_enter Try.func22, Try.ntmps22
  go_wp2_with (first | (go_at_call 24; refine (HAS.out _).mono ?_; rintro e w1 ⟨rfl, rfl⟩) | (go_at_call 30; refine (HFW.out _).mono ?_; rintro e w1 ⟨rfl, rfl⟩))
  refine (HTL.out _).mono ?_
  rintro e w2 ⟨u7, es, ms, rfl, htr, hlo, hde, hb2⟩
  have TR := Lib.hid htr
  have HLO := Lib.hid hlo
  have HDE := Lib.hid hde
  have B2 := Lib.hid hb2
  have HTS := Lib.hid (show es.length = n by rw [TR.out.lg, HLN.out])
  have HEL := Lib.hid (show es.length ≤ 3876 by rw [HTS.out]; exact HNA.out)
  have HML := Lib.hid (show ms.length = n by have h1 := TR.out.ll; rw [List.length_map] at h1; rw [← h1]; exact HTS.out)
  clear htr hlo hde hb2
  go_wp2
  go_loopw [8, 9, 10] (fun mo be i wr => ∃ (k : Nat) (mk : Int), k ≤ N ∧ i = .int .i64 (k : Int) ∧ mo = .int .i64 mk ∧ Hid (mk = mostK D k) ∧ -1 ≤ mk ∧ mk ≤ 100000 ∧ Rd wr w2.heap.size be (bestK D b V k) ∧ Below w2.heap.size w2 wr) (fun _ _ i _ => N - (intOf i).toNat)
  case atStart => exact ⟨0, -1, Nat.zero_le _, rfl, rfl, Lib.hid rfl, by omega, by omega, Rd.nil _ _, Below.refl _ _⟩
  case round =>
    obtain ⟨k, mk, hk, rfl, rfl, HMK, mk0, mk1, hr, hb⟩ := hrel
    have HR := Lib.hid hr
    have HB := Lib.hid hb
    have TRk := Lib.hid (TR.out.keep hb)
    clear hr hb
    by_cases hlt : k < N
    · have hpk := HPI.out k
      obtain ⟨e0, he0⟩ : ∃ e0, es[p k]? = some e0 := ⟨es[p k]'(by rw [HTS.out]; exact hpk), by simp⟩
      obtain ⟨m, hm⟩ : ∃ m, ms[p k]? = some m := ⟨ms[p k]'(by rw [HML.out]; exact hpk), by simp⟩
      obtain ⟨gl, hgl⟩ : ∃ gl, LS[p k]? = some gl := ⟨LS[p k]'(by rw [HLN.out]; exact hpk), by simp⟩
      have HLm := Lib.hid (HLO.out (p k) m hm)
      have hRG := TRk.out.rg (p k) e0 gl he0 hgl
      have hRL := TRk.out.rl (p k) e0 (F m) he0 (by rw [List.getElem?_map, hm]; rfl)
      have hT := HDE.out (p k) e0 he0
      obtain ⟨x0, x1, T⟩ := e0
      simp only at hRG hRL hT
      obtain ⟨p0, q0, rfl⟩ := hRG.shape'
      obtain ⟨p1, q1, rfl⟩ := hRL.shape'
      have HE0 := Lib.hid he0
      have RL := Lib.hid hRL
      have HTK := Lib.hid (HTT.out k m hlt HLm.out)
      have HDK := Lib.hid (HDB.out k hlt)
      have HHIT := Lib.hid (fun h => mostK_hit (D := D) (b := b) (V := V) (k := k) h)
      have HMIS := Lib.hid (fun h => mostK_miss (D := D) (b := b) (V := V) (k := k) h)
      rw [← HMK.out] at HHIT HMIS
      obtain ⟨d, hd⟩ : ∃ d, d = D k := ⟨_, rfl⟩
      rw [← hd] at HTK HDK HHIT HMIS
      obtain ⟨dp, hdp⟩ : ∃ dp, dp = dep f n (p k) := ⟨_, rfl⟩
      rw [← hdp] at HTK hT
      subst hT
      have HMm := Lib.hid (HMN.out k m HLm.out)
      clear he0 hm hgl hRG hRL hpk hd hdp HMK
      have hdpb : dp ≤ 100000 := by
        have h1 := HTK.out
        have h2 := HDK.out
        split at h1
        · rename_i c; omega
        · omega
      by_cases hz : dp = 0
      · have HTK2 := Lib.hid (show d = if wd b V (k : Int) ∈ (rnd f n m).map F then 0 else 1 by
          rw [HTK.out, hz]; simp)
        subst hz
        go_wp2_with (first
          | (go_at_call 30; refine (HFW.out _).mono ?_; rintro e w4 ⟨rfl, rfl⟩)
          | (go_at_call 33; refine (HGW.out k _ hlt).mono ?_; rintro e w4 ⟨u4, rfl, hr4, hb4⟩; have R4 := Lib.hid hr4; have S4 := Lib.hid hb4.size; have B4 := Lib.hid (Below.step HB.out HB.out.size hb4); have HR4 := Lib.hid (HR.out.keep hb4); have TR4 := Lib.hid (TRk.out.keep hb4); have RL4 := Lib.hid (RL.out.keep hb4); clear hr4 hb4)
          | (go_at_call 32; refine (HTD.out k _ _ _ _ _ _ _ _ TR4.out R4.out.sl HE0.out HEL.out).mono ?_; rintro e w5 ⟨rfl, hb5⟩; have B5 := Lib.hid (Below.step B4.out B4.out.size hb5); have HR5 := Lib.hid (HR4.out.keep hb5); have RL5 := Lib.hid (RL4.out.keep hb5); have R5 := Lib.hid (R4.out.keep hb5); clear hb5)
          | (go_at_call 40; refine (HCYC.out k m HLm.out _ _ _ (RL5.out.alloc _)).mono ?_; rintro e w6 ⟨uc, vsc, rfl, hl6, hb6⟩; have L6 := Lib.hid hl6; have B6 := Lib.hid (Below.step (B5.out.alloc B5.out.size _) (B5.out.alloc B5.out.size _).size hb6); have HR6 := Lib.hid ((HR5.out.alloc _).keep hb6); have R6 := Lib.hid ((R5.out.alloc _).keep hb6); clear hl6 hb6)
          | fail)
        refine (HFD.out k m _ _ _ _ _ HMm.out L6.out R6.out.sl).mono ?_
        rintro e w7 ⟨⟨z, rfl, hzz⟩, hb7⟩
        have B7 := Lib.hid (Below.step B6.out B6.out.size hb7)
        have HR7 := Lib.hid (HR6.out.keep hb7)
        have R7 := Lib.hid (R6.out.keep hb7)
        clear hb7
        rcases hzz with ⟨hin, hz0⟩ | ⟨hin, hz0⟩
        · have hd : d = 0 := by rw [HTK2.out, if_pos hin]
          rw [hd] at HHIT HMIS
          clear hd HTK2 HTK hin
          by_cases hgt : mk < 0
          · have HX := Lib.hid (HHIT.out (by omega))
            have hgt2 : mk < (0 : Int) := hgt
            clear HHIT HMIS
            go_wp2
            go_roundw
            case rel => exact ⟨k + 1, 0, by omega, by go_num, rfl, Lib.hid (by rw [HX.out.1]; rfl), by omega, by omega, by rw [HX.out.2]; exact R7.out.mono (Nat.le_trans HB.out.size (Nat.le_refl _)), B7.out⟩
            case measure => simp [intOf]; omega
          · have HX := Lib.hid (HMIS.out (by omega))
            clear HHIT HMIS
            go_wp2
            go_roundw
            case rel => exact ⟨k + 1, mk, by omega, by go_num, rfl, Lib.hid HX.out.1.symm, mk0, mk1, by rw [HX.out.2]; exact HR7.out, B7.out⟩
            case measure => simp [intOf]; omega
        · have hd : d = 1 := by rw [HTK2.out, if_neg hin]
          rw [hd] at HHIT HMIS
          clear hd HTK2 HTK hin
          by_cases hgt : mk < 1
          · have HX := Lib.hid (HHIT.out (by omega))
            have hgt2 : mk < (1 : Int) := hgt
            clear HHIT HMIS
            go_wp2
            go_roundw
            case rel => exact ⟨k + 1, 1, by omega, by go_num, rfl, Lib.hid (by rw [HX.out.1]; rfl), by omega, by omega, by rw [HX.out.2]; exact R7.out.mono (Nat.le_trans HB.out.size (Nat.le_refl _)), B7.out⟩
            case measure => simp [intOf]; omega
          · have HX := Lib.hid (HMIS.out (by omega))
            clear HHIT HMIS
            go_wp2
            go_roundw
            case rel => exact ⟨k + 1, mk, by omega, by go_num, rfl, Lib.hid HX.out.1.symm, mk0, mk1, by rw [HX.out.2]; exact HR7.out, B7.out⟩
            case measure => simp [intOf]; omega
      · have HTK2 := Lib.hid (show d = dp + 1 by rw [HTK.out, if_neg (fun c => hz c.1)])
        have hzb : ((dp : Int) == 0) = false := beq_no (by omega)
        have hd : d = dp + 1 := HTK2.out
        have hdk : dp + 1 ≤ 100000 := by rw [← hd]; exact HDK.out
        rw [hd] at HHIT HMIS
        clear hd HTK2 HTK hz
        by_cases hgt : mk < ((dp + 1 : Nat) : Int)
        · have HX := Lib.hid (HHIT.out hgt)
          have hgt2 : mk < (dp : Int) + 1 := by omega
          clear HHIT HMIS hgt
          go_wp2_with (first | (go_at_call 30; refine (HFW.out _).mono ?_; rintro e w4 ⟨rfl, rfl⟩) | (go_at_call 33; refine (HGW.out k _ hlt).mono ?_; rintro e w4 ⟨u4, rfl, hr4, hb4⟩; have R4 := Lib.hid hr4; have B4 := Lib.hid (Below.step HB.out HB.out.size hb4); have HR4 := Lib.hid (HR.out.keep hb4); have TR4 := Lib.hid (TRk.out.keep hb4); clear hr4 hb4) | (go_at_call 32; refine (HTD.out k _ _ _ _ _ _ _ _ TR4.out R4.out.sl HE0.out HEL.out).mono ?_; rintro e w5 ⟨rfl, hb5⟩; have B5 := Lib.hid (Below.step B4.out B4.out.size hb5); have HR5 := Lib.hid (HR4.out.keep hb5); have R5 := Lib.hid (R4.out.keep hb5); clear hb5))
          go_roundw
          case rel => exact ⟨k + 1, (dp : Int) + 1, by omega, by go_num, rfl, Lib.hid (by rw [HX.out.1]; omega), by omega, by omega, by rw [HX.out.2]; exact (R5.out.alloc _).mono HB.out.size, B5.out.alloc B5.out.size _⟩
          case measure => simp [intOf]; omega
        · have HX := Lib.hid (HMIS.out hgt)
          have hgt2 : ¬ mk < (dp : Int) + 1 := by omega
          clear HHIT HMIS hgt
          go_wp2_with (first | (go_at_call 30; refine (HFW.out _).mono ?_; rintro e w4 ⟨rfl, rfl⟩) | (go_at_call 33; refine (HGW.out k _ hlt).mono ?_; rintro e w4 ⟨u4, rfl, hr4, hb4⟩; have R4 := Lib.hid hr4; have B4 := Lib.hid (Below.step HB.out HB.out.size hb4); have HR4 := Lib.hid (HR.out.keep hb4); have TR4 := Lib.hid (TRk.out.keep hb4); clear hr4 hb4) | (go_at_call 32; refine (HTD.out k _ _ _ _ _ _ _ _ TR4.out R4.out.sl HE0.out HEL.out).mono ?_; rintro e w5 ⟨rfl, hb5⟩; have B5 := Lib.hid (Below.step B4.out B4.out.size hb5); have HR5 := Lib.hid (HR4.out.keep hb5); have R5 := Lib.hid (R4.out.keep hb5); clear hb5))
          go_roundw
          case rel => exact ⟨k + 1, mk, by omega, by go_num, rfl, Lib.hid HX.out.1.symm, mk0, mk1, by rw [HX.out.2]; exact HR5.out.alloc _, B5.out.alloc B5.out.size _⟩
          case measure => simp [intOf]; omega
    · obtain rfl : k = N := by omega
      have hkk : decide ((k : Int) < (k : Int)) = false := decide_eq_false (by omega)
      go_wp2_with (go_at_call 30; refine (HFW.out _).mono ?_; rintro e w4 ⟨rfl, rfl⟩)
      go_ret3
      exact ⟨_, by rw [← HMK.out]; rfl, HR.out.mono B2.out.size, Below.step B2.out B2.out.size HB.out⟩

end Go.Proofs.Ytadjjmlneghklaa

/- from XGV -/
namespace Go.Proofs.Ytadjjmlneghklaa
open Go.RowKit
set_option linter.unusedVariables false
set_option linter.unusedSimpArgs false
set_option maxRecDepth 100000

def OK_LongestTail (W b : Int) : Bool := okF W b
def DN (W b : Int) : Nat → Nat := dep (Fv W.toNat (b.toNat - 1)) (b ^ W.toNat).toNat
def RT_LongestTail (W b : Int) : Int := if okF W b = true then mostK (DN W b) (b ^ W.toNat).toNat else 0
def LF_LongestTail (W b : Int) : List Int := if okF W b = true then bestK (DN W b) b W.toNat (b ^ W.toNat).toNat else []
theorem lt_yes {V M N : Nat} (h : okF (V : Int) (bA M) = true) (hN : bA M ^ V = (N : Int)) : RT_LongestTail (V : Int) (bA M) = mostK (dep (Fv V M) N) N ∧ LF_LongestTail (V : Int) (bA M) = bestK (dep (Fv V M) N) (bA M) V N := by
  unfold RT_LongestTail LF_LongestTail DN
  rw [if_pos h, if_pos h, Int.toNat_natCast, show (bA M).toNat - 1 = M by unfold bA; omega, hN, Int.toNat_natCast]
  exact ⟨rfl, rfl⟩
theorem lt_no {W b : Int} (h : okF W b = false) : RT_LongestTail W b = 0 ∧ LF_LongestTail W b = [] := by
  unfold RT_LongestTail LF_LongestTail
  rw [h]
  exact ⟨rfl, rfl⟩
theorem LF_LongestTail_len (W b : Int) : (LF_LongestTail W b).length ≤ 2000000 := by
  by_cases h : okF W b = true
  · obtain ⟨V, M, N, rfl, rfl, h1, h2, h3, h4, hN, _⟩ := okF_nat h
    rw [(lt_yes h hN).2]
    unfold bestK
    split
    · simp
    · rw [wd_len]; omega
  · rw [(lt_no (by simpa using h)).2]; simp

theorem impl_LongestTail (a0 a1 : Int) (w : World) :
    Calls Try.prog 23 #[.int .i64 a0, .int .i64 a1] w fun e w' => ∃ v, e = .returned (.tuple #[.int .i64 (RT_LongestTail a0 a1), v, .bool (OK_LongestTail a0 a1)]) ∧ Rd w' w.heap.size v (LF_LongestTail a0 a1) ∧ Below w.heap.size w w' := by
  by_cases h : okF a0 a1 = true
  · obtain ⟨V, M, N, rfl, rfl, h1, h2, h3, h4, hN, hN1, hN2, hS⟩ := okF_nat h
    rw [(lt_yes h hN).1, (lt_yes h hN).2, show OK_LongestTail (V : Int) (bA M) = true from h]
    unfold mostK bestK
    rw [if_neg (by omega), if_neg (by omega)]
    exact longestTail_any V M N w h2 h1 h3 h4 hS hN hN1 hN2
  · have hf : okF a0 a1 = false := by simpa using h
    have HL := Lib.hid (lt_no hf)
    have HO := Lib.hid (show OK_LongestTail a0 a1 = false from hf)
    have HW := Lib.hid (fun w' => hasFewWords_any a0 a1 w')
    rw [hf] at HW
    have HAL := Lib.hid (alloc_below w (.cells #[.int .i64 a0, .int .i64 a1] 45))
    rw [HL.out.1, HL.out.2, HO.out]
    clear h hf
    go_enter Try.func23, Try.ntmps23
    go_wp2_with (go_at_call 35; refine (HW.out _).mono ?_; rintro e w1 ⟨rfl, hb1⟩; have B1 := Lib.hid (Below.step HAL.out HAL.out.size hb1); clear hb1)
    go_ret3
    exact ⟨_, rfl, Rd.nil _ _, B1.out⟩

theorem spec_LongestTail (a0 a1 : Int) (w : World) :
    Calls Try.prog 22 #[.int .i64 a0, .int .i64 a1] w fun e w' => ∃ v, e = .returned (.tuple #[.int .i64 (RT_LongestTail a0 a1), v, .bool (OK_LongestTail a0 a1)]) ∧ Rd w' w.heap.size v (LF_LongestTail a0 a1) ∧ Below w.heap.size w w' := by
  by_cases h : okF a0 a1 = true
  · obtain ⟨V, M, N, rfl, rfl, h1, h2, h3, h4, hN, hN1, hN2, hS⟩ := okF_nat h
    rw [(lt_yes h hN).1, (lt_yes h hN).2, show OK_LongestTail (V : Int) (bA M) = true from h]
    exact specLongest_any V M N w h2 h1 h3 h4 hS hN hN1 hN2
  · have hf : okF a0 a1 = false := by simpa using h
    have HL := Lib.hid (lt_no hf)
    have HO := Lib.hid (show OK_LongestTail a0 a1 = false from hf)
    rw [HL.out.1, HL.out.2, HO.out]
    have HAS := Lib.hid (fun w' => gpAsked_any a0 a1 w')
    by_cases hS : okS a0 a1 = true
    · obtain ⟨V, M, rfl, rfl, h1, h2, h3, h4⟩ := okS_nat hS
      rw [hS] at HAS
      have HFW := Lib.hid (fun w' => gpFew_any V ((M + 1 : Nat) : Int) w' (by omega) (by omega) h2)
      have hm : ¬ ((M + 1 : Nat) : Int) ^ V ≤ 100000 := fun hle => by
        rw [okF_yes hS hle] at hf; cases hf
      rw [few_many hm] at HFW
      obtain ⟨b, hb⟩ : ∃ b : Int, b = ((M + 1 : Nat) : Int) := ⟨_, rfl⟩
      rw [← hb] at HAS HFW ⊢
      clear h hf hS hm hb HL HO
      go_enter Try.func22, Try.ntmps22
      go_wp2_with (first | (go_at_call 24; refine (HAS.out _).mono ?_; rintro e w1 ⟨rfl, rfl⟩) | (go_at_call 30; refine (HFW.out _).mono ?_; rintro e w1 ⟨rfl, rfl⟩))
      go_ret3
      exact ⟨_, rfl, Rd.nil _ _, Below.refl _ _⟩
    · rw [show okS a0 a1 = false by simpa using hS] at HAS
      clear h hf hS HL HO
      go_enter Try.func22, Try.ntmps22
      go_wp2_with (go_at_call 24; refine (HAS.out _).mono ?_; rintro e w1 ⟨rfl, rfl⟩)
      go_ret3
      exact ⟨_, rfl, Rd.nil _ _, Below.refl _ _⟩

end Go.Proofs.Ytadjjmlneghklaa

/- from XPLLongestTail -/
namespace Go.Proofs.Ytadjjmlneghklaa
open Go.RowKit
set_option linter.unusedVariables false
set_option linter.unusedSimpArgs false

theorem law_LongestTail (a0 : Int) (a1 : Int) (W : World) :
    Calls Try.prog 6 #[.int .i64 a0, .int .i64 a1] W fun e w' => e = .returned (.bool true) ∧ Below W.heap.size W w' := by
  obtain ⟨rs, hxs⟩ : ∃ rs, rs = LF_LongestTail  a0 a1 := ⟨_, rfl⟩
  have hl : rs.length ≤ 2000000 := by rw [hxs]; exact LF_LongestTail_len  a0 a1
  have HX := Lib.hid hxs
  clear hxs
  go_enter Try.func6, Try.ntmps6
  go_wp2_with fail
  refine (spec_LongestTail   a0 a1  _  ).mono ?_
  rintro e w1 ⟨u2, rfl, hr, hb⟩
  rw [← HX.out] at hr
  have B3 := Lib.hid hb
  have R4 := Lib.hid hr
  clear hr hb
  go_wp2_with fail
  refine (impl_LongestTail   a0 a1  _  ).mono ?_
  rintro e w5 ⟨u6, rfl, hr, hb⟩
  rw [← HX.out] at hr
  have A7 := Lib.hid (Rd.apart (fun k hk => (R4.out.lt k hk).2) hr)
  have R8 := Lib.hid (R4.out.keep hb)
  have B9 := Lib.hid (Below.step B3.out B3.out.size hb)
  have R10 := Lib.hid (hr.mono B3.out.size)
  clear hr hb
  go_wp2_with fail
  refine (eqIntS_any _ _ rs rs _ R10.out.sl R8.out.sl (by omega) (by omega)).mono ?_
  rintro e w11 ⟨rfl, hb⟩
  have R12 := Lib.hid (R8.out.keep hb)
  have R13 := Lib.hid (R10.out.keep hb)
  have B14 := Lib.hid (Below.step B9.out B9.out.size hb)
  clear hb
  go_wp2_with fail
  refine (markIntS_any _ rs _ _ _ R13.out B14.out.size (by omega) (by omega) (by omega)).mono ?_
  rintro e w15 ⟨rfl, hr, hg⟩
  have R16 := Lib.hid (R12.out.grown hg A7.out)
  have B17 := Lib.hid (B14.out.grown hg B14.out.size (fun k hk => (R13.out.lt k hk).1))
  have R18 := Lib.hid hr
  clear hr hg
  go_wp2_with fail
  refine (heldIntS_any _ _ _ _ _ R18.out (by omega) (by omega) (by omega)).mono ?_
  rintro e w19 ⟨rfl, rfl⟩
  go_wp2_with fail
  refine (impl_LongestTail   a0 a1  _  ).mono ?_
  rintro e w20 ⟨u21, rfl, hr, hb⟩
  rw [← HX.out] at hr
  have A22 := Lib.hid (Rd.apart (fun k hk => (R16.out.lt k hk).2) hr)
  have A23 := Lib.hid (Rd.apart (fun k hk => (R18.out.lt k hk).2) hr)
  have R24 := Lib.hid (R16.out.keep hb)
  have R25 := Lib.hid (R18.out.keep hb)
  have B26 := Lib.hid (Below.step B17.out B17.out.size hb)
  have R27 := Lib.hid (hr.mono B17.out.size)
  clear hr hb
  go_wp2_with fail
  refine (eqIntS_any _ _ rs rs _ R27.out.sl R24.out.sl (by omega) (by omega)).mono ?_
  rintro e w28 ⟨rfl, hb⟩
  have R29 := Lib.hid (R24.out.keep hb)
  have R30 := Lib.hid (R25.out.keep hb)
  have R31 := Lib.hid (R27.out.keep hb)
  have B32 := Lib.hid (Below.step B26.out B26.out.size hb)
  clear hb
  go_wp2_with fail
  refine (heldIntS_any _ _ _ _ _ R30.out (by omega) (by omega) (by omega)).mono ?_
  rintro e w33 ⟨rfl, rfl⟩
  go_wp2
  go_ret
  exact ⟨rfl, B32.out⟩

end Go.Proofs.Ytadjjmlneghklaa
