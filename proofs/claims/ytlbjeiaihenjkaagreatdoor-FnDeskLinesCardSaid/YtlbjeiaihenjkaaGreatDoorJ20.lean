/-
  Joint text of VE, S6, VC: what each proves stands ahead of it.
-/
import Derived.Test.YtlbjeiaihenjkaaGreatDoorJ19
import Derived.Shelf.Strings.Builder1
import Derived.Shelf.Strings.Builder2
import Derived.Shelf.Strings.OnBuilder
import Derived.Shelf.Small.Utf8
import Derived.Shelf.Small.Strs
import Derived.Shelf.Small.Wraps
import Derived.Shelf.Strconv.Itoa0
import Derived.Shelf.Strconv.Itoa1
import Derived.Shelf.LaysM
import Derived.Shelf.Strconv.Itoa2
import Derived.Shelf.Strconv.Itoa3
import Derived.Shelf.Strings.Search1
import Derived.Shelf.Strings.Search2
import Derived.Shelf.Strings.Search3
import Derived.Shelf.Strings.Count
import Derived.Shelf.Strings.Shaped
import Derived.Shelf.Sort.Plain
import Derived.Shelf.Strings.Split
import Derived.Shelf.Strings.SplitShaped
import Derived.Shelf.Strings.Runes
import Derived.Shelf.Strings.AsciiSet
import Derived.Shelf.Bits.Mul64
import Derived.Shelf.Unicode.DecodeSlow
import Derived.Shelf.Slices.Turned
import Derived.Ground.Names2Prog
import Derived.Shelf.Slices.Clone
import Derived.Shelf.Slices.CompactI
import Derived.Test.YtlbjeiaihenjkaaGreatDoorProg
import Derived.Test.YtlbjeiaihenjkaaGreatDoorJ18
import Derived.Test.YtlbjeiaihenjkaaGreatDoorJ13
import Derived.Test.YtlbjeiaihenjkaaGreatDoorJ14
/- from VE: Numbers that are their own power sums: the model's search, whole.  -/
namespace Go.Proofs.YtlbjeiaihenjkaaGreatDoor
open Go.RowKit
set_option linter.unusedVariables false
set_option linter.unusedSimpArgs false
set_option maxRecDepth 100000

theorem cnt_at (b : Nat) (ds : List Nat) (k : Nat) (hk : k < b) : (cnt (b : Int) (ints3 ds)).set k ((cnt (b : Int) (ints3 ds)).getD k 0 + 1) = cnt (b : Int) (ints3 (ds ++ [k])) := by
  rw [cnt_snoc]
  rfl

set_option maxHeartbeats 1000000 in
theorem try_any (gw b p B : Nat) (hb : 2 ≤ b) (hb' : b ≤ 10) (hp : 1 ≤ p) (hp' : p ≤ 6) : ∀ (n m gc cc : Nat) (ds : List Nat) (v : Value) (fs : List Int) (w : World), m < b → (∀ d ∈ ds, d < b) → ds.length + n ≤ 8 →
    Srch w gw b p v → Rd w B v fs → fs.Pairwise (· < ·) → (∀ z ∈ fs, z ∈ ownL b p) → Rd w B (.slice (some ⟨gc, 0, none⟩) b cc) (cnt (b : Int) (ints3 ds)) → B ≤ w.heap.size →
    Calls Tryz.prog 157 #[.pointer (some ⟨gw, 0, none⟩), .int .i64 (n : Int), .int .i64 (m : Int), .int .i64 ((psn p ds : Nat) : Int), .slice (some ⟨gc, 0, none⟩) b cc] w fun e w' => e = .returned (.tuple #[]) ∧
      ∃ v' fs', Srch w' gw b p v' ∧ Rd w' B v' fs' ∧ fs'.Pairwise (· < ·) ∧ (∀ z, z ∈ fs' ↔ z ∈ fs ∨ Fnd b p n m (psn p ds) (cnt (b : Int) (ints3 ds)) z) ∧ w.grownBy w' (some gw) := by
  intro n
  induction n with
  | zero =>
    intro m gc cc ds v fs w hm hds hdl hS hF hR hO hC hB
    refine (try_leaf gw b p gc cc B ds (m : Int) v fs w hb hb' hp hp' hds (by omega) hS hF hR hO hC hB).mono ?_
    rintro e w' ⟨rfl, v', fs', h1, h2, h3, h4, h5⟩
    exact ⟨rfl, v', fs', h1, h2, h3, fun z => (h4 z).trans (or_congr Iff.rfl (fnd_zero.trans fnd_zero.symm)), h5⟩
  | succ n ih =>
    intro m gc cc ds v fs w hm hds hdl hS hF hR hO hC hB
    have IH := Lib.hid ih
    have HS := Lib.hid hS
    have HF := Lib.hid hF
    have HR := Lib.hid hR
    have HO := Lib.hid hO
    have HC := Lib.hid hC
    have HDS := Lib.hid hds
    have hsm := psn_le (p := p) hp' ds (fun d hd => by have := hds d hd; omega)
    obtain ⟨N, hN⟩ : ∃ N, N = n + 1 := ⟨_, rfl⟩
    have hNi : (N : Int) - 1 = (n : Int) := by omega
    have hz : ((N : Int) == 0) = false := beq_no (by omega)
    have HFS := Lib.hid (show ∀ z, Fnd b p (n + 1) m (psn p ds) (cnt (b : Int) (ints3 ds)) z ↔ ∃ d, d < m + 1 ∧ Fnd b p n d (psn p (ds ++ [d])) (cnt (b : Int) (ints3 (ds ++ [d]))) z from fun z => by
      rw [fnd_succ]
      simp only [psn_snoc, cnt_snoc])
    rw [← hN] at HFS ⊢
    have hdn : ds.length + n + 1 ≤ 8 := by omega
    have HCB := Lib.hid (show ∀ y ∈ cnt (b : Int) (ints3 ds), 0 ≤ y ∧ y ≤ (0 : Int) + (ints3 ds).length from cnt_bd b (ints3 ds) _ 0 (fun y hy => by have := (List.mem_replicate.1 hy).2; omega) (by omega))
    have HCL := Lib.hid (show (cnt (b : Int) (ints3 ds)).length = b by rw [cnt_len]; rfl)
    have HCS := Lib.hid (cnt_at b ds)
    have HPS := Lib.hid (psn_snoc p ds)
    have HIL := Lib.hid (ints_len3 ds)
    obtain ⟨S, hSS⟩ : ∃ S, S = psn p ds := ⟨_, rfl⟩
    obtain ⟨cs, hcs⟩ : ∃ cs, cs = cnt (b : Int) (ints3 ds) := ⟨_, rfl⟩
    rw [← hSS] at hsm HPS HFS ⊢
    rw [← hcs] at HC HCB HCL HCS HFS ⊢
    clear hS hF hR hO hC hds ih hN hSS hcs hdl
    go_enter Tryz.func157, Tryz.ntmps157
    go_wp2
    go_loopw [10] (fun i wr => ∃ (k : Nat) (v' : Value) (fs' : List Int), k ≤ m + 1 ∧ i = .int .i64 (k : Int) ∧ Srch wr gw b p v' ∧ Rd wr B v' fs' ∧ fs'.Pairwise (· < ·) ∧ (∀ z ∈ fs', z ∈ ownL b p) ∧ Hid (∀ z, z ∈ fs' ↔ z ∈ fs ∨ ∃ d, d < k ∧ Fnd b p n d (psn p (ds ++ [d])) (cnt (b : Int) (ints3 (ds ++ [d]))) z) ∧ w.grownBy wr (some gw)) (fun i _ => m + 1 - (intOf i).toNat)
    case atStart => exact ⟨0, v, fs, Nat.zero_le _, rfl, HS.out, HF.out, HR.out, HO.out, Lib.hid (fun z => ⟨.inl, fun h => h.elim id (fun ⟨d, hd, _⟩ => absurd hd (Nat.not_lt_zero _))⟩), gw_refl w gw⟩
    case round =>
      obtain ⟨k, v', fs', hk, rfl, hS', hF', hR', hO', HM, hg⟩ := hrel
      have HSr := Lib.hid hS'
      have HFr := Lib.hid hF'
      have HRr := Lib.hid hR'
      have HOr := Lib.hid hO'
      have HG := Lib.hid hg
      have HCr := Lib.hid (gw_rd HS.out HC.out hg)
      have hBr := Nat.le_trans hB hg.size
      clear hS' hF' hR' hO' hg
      by_cases hlt : k < m + 1
      · have hkb : k < b := by omega
        go_wp2_with fail
        refine (l1Own_any _ cs _ B HCr.out (by rw [HCL.out]; omega)).mono ?_
        rintro e w1 ⟨u1, rfl, hr1, hb1⟩
        obtain ⟨g1, c1, rfl⟩ : ∃ g1 c1, u1 = .slice (some ⟨g1, 0, none⟩) b c1 := by
          rcases hr1.cases with ⟨_, hx⟩ | ⟨g1, c1, hu, _⟩
          · have := HCL.out; rw [hx] at this; simp at this; omega
          · rw [HCL.out] at hu; exact ⟨g1, c1, hu⟩
        have hkl : k < cs.length := by rw [HCL.out]; exact hkb
        have hcell := hr1.at.2.2.2.2.1 k hkl
        have hf1 := hr1.at.2.2.2.2.2 k
        have hg1 := hr1.at.2.1
        obtain ⟨y, hy⟩ : ∃ y, y = cs[k] := ⟨_, rfl⟩
        have hyb : 0 ≤ y ∧ y ≤ 8 := by have := HCB.out y (by rw [hy]; exact List.getElem_mem _); rw [HIL.out] at this; omega
        obtain ⟨hy0, hy1⟩ := hyb
        have HCK := Lib.hid (show cs.set k (y + 1) = cnt (b : Int) (ints3 (ds ++ [k])) by rw [← HCS.out k hkb, hy, List.getD_eq_getElem?_getD, List.getElem?_eq_getElem hkl]; rfl)
        rw [← hy] at hcell
        have S1 := Lib.hid (HSr.out.keep hb1)
        have hgne : gw ≠ g1 := fun e => (S1.out.apart hr1) (by rw [e]; rfl)
        have R2 := Lib.hid ((hr1.set k (y + 1)).1.mono hBr)
        rw [HCK.out] at R2
        have S2 := Lib.hid (S1.out.other (g := g1) (j := k) (u := .int .i64 (y + 1)) hgne)
        have B2 := Lib.hid (hb1.setCell (p := ⟨g1, k, none⟩) hg1 (.int .i64 (y + 1)))
        have F2 := Lib.hid (HFr.out.keep B2.out)
        have hcp := S2.out.c1
        have hB2 := Nat.le_trans hBr B2.out.size
        obtain ⟨u, hu⟩ : ∃ u, u = k ^ p := ⟨_, rfl⟩
        have hub : u ≤ 531441 := by
          rw [hu]
          have h1 := Nat.pow_le_pow_left (show k ≤ 9 by omega) p
          have h2 := Nat.pow_le_pow_right (show 0 < 9 by omega) hp'
          have h3 : 9 ^ 6 = 531441 := by decide
          omega
        obtain ⟨T, hT⟩ : ∃ T, T = psn p (ds ++ [k]) := ⟨_, rfl⟩
        have hST : (S : Int) + (u : Int) = (T : Int) := by rw [hT, HPS.out, hu]; push_cast; rfl
        have HPW := Lib.hid (show ∀ w' : World, Calls Tryz.prog 206 #[.int .i64 (k : Int), .int .i64 (p : Int)] w' fun e w'' => e = .returned (.int .i64 (u : Int)) ∧ w'' = w' from fun w' => by
          rw [hu]; exact (pwOf_any k p w' (by omega) (by omega)).mono (fun e w'' h => ⟨h.1, h.2.symm⟩))
        have HIH := Lib.hid (IH.out k g1 c1 (ds ++ [k]) v' fs' _ hkb (fun d hd => by
          rcases List.mem_append.1 hd with hd | hd
          · exact HDS.out d hd
          · rw [List.mem_singleton.1 hd]; exact hkb) (by simp; omega) S2.out F2.out HRr.out HOr.out R2.out hB2)
        rw [← hT] at HIH
        have HTT := Lib.hid hT
        have hSb : S ≤ 5000000 := by omega
        clear hr1 hb1 hy hu hT
        go_wp2_with (go_at_call 206; refine (HPW.out _).mono ?_; rintro e w3 ⟨rfl, rfl⟩)
        refine HIH.out.mono ?_
        rintro e w3 ⟨rfl, v3, fs3, hS3, hF3, hR3, hM3, hg3⟩
        have S3 := Lib.hid hS3
        have F3 := Lib.hid hF3
        have R3 := Lib.hid hR3
        have M3 := Lib.hid hM3
        have HGw := Lib.hid (grown_trans (gw_below HG.out B2.out) hg3)
        have O3 := Lib.hid (show ∀ z ∈ fs3, z ∈ ownL b p from fun z hz => by
          rcases (hM3 z).1 hz with h | h
          · exact HOr.out z h
          · rw [HTT.out] at h
            exact fnd_own hb (by omega) hp (by omega) (fun d hd => by
              rcases List.mem_append.1 hd with hd | hd
              · exact HDS.out d hd
              · rw [List.mem_singleton.1 hd]; exact hkb) hkb h)
        have HMN := Lib.hid (show ∀ z, z ∈ fs3 ↔ z ∈ fs ∨ ∃ d, d < k + 1 ∧ Fnd b p n d (psn p (ds ++ [d])) (cnt (b : Int) (ints3 (ds ++ [d]))) z from fun z => by
          rw [hM3 z, HM.out z, HTT.out]
          constructor
          · rintro ((h | ⟨d, hd, h⟩) | h)
            · exact .inl h
            · exact .inr ⟨d, by omega, h⟩
            · exact .inr ⟨k, by omega, h⟩
          · rintro (h | ⟨d, hd, h⟩)
            · exact .inl (.inl h)
            · by_cases e : d = k
              · subst e; exact .inr h
              · exact .inl (.inr ⟨d, by omega, h⟩))
        clear hS3 hF3 hR3 hM3 hg3
        go_wp2
        go_roundw
        case rel => exact ⟨k + 1, v3, fs3, by omega, by go_num, S3.out, F3.out, R3.out, O3.out, HMN, HGw.out⟩
        case measure => simp [intOf]; omega
      · obtain rfl : k = m + 1 := by omega
        go_wp2
        first
          | go_end0
          | (refine bodyPost_ret (results_none rfl _ _ _) rfl ?_)
        exact ⟨rfl, v', fs', HSr.out, HFr.out, HRr.out, fun z => (HM.out z).trans (or_congr Iff.rfl (HFS.out z).symm), HG.out⟩

end Go.Proofs.YtlbjeiaihenjkaaGreatDoor

/- from S6: DERIVED: THE SHELF's CONTRACTS AT THIS DUMP, IN PLAIN WORDS (tools/lay-plain.mjs out of 'TryzShelf.lean', which tools/lay-shelf.mjs wrote): THE SAME DECLARATIONS UNDER THE SAME NAMES: 'import', 'namespace', 'open', 'def', 'theorem' AND NOTHING ELSE: no command of the shelf's: FOR A HAND-IN. Each laying: the table of numbers ('.._ren') and one theorem, a field a fact of the dump's own or the kernel's comparison; each contract: ONE APPLICATION.  -/
namespace Go.Proofs
open Go.Shelf
def Tryz.laysNm220_ren : Go.Shelf.Ren := ⟨fun | 20 => 269 | n => n, fun | 22 => 38 | 3 => 3 | 4 => 4 | 0 => 0 | n => n, fun | n => n⟩
theorem Tryz.laysNm220 : Go.Proofs.Lays2.n20 Tryz.prog Tryz.laysNm220_ren := {
  mixed := by kernel_rfl
  f20 := Tryz.func269.trans (congrArg some (by kernel_rfl))
  t0 := Tryz.underlying0
  a0 := Tryz.isAgg0
  z0 := Tryz.sizeOf0
  v0 := Tryz.zeroValue0
  t3 := Tryz.underlying3
  a3 := Tryz.isAgg3
  z3 := Tryz.sizeOf3
  v3 := Tryz.zeroValue3
  t4 := Tryz.underlying4
  a4 := Tryz.isAgg4
  z4 := Tryz.sizeOf4
  v4 := Tryz.zeroValue4
  t22 := Tryz.underlying38
  a22 := Tryz.isAgg38
  z22 := Tryz.sizeOf38
  v22 := Tryz.zeroValue38
  i3 := by kernel_rfl }
open Go.RowKit Go.Lib Go.Sort in
/-- slices.Compact at []int: "Compact replaces consecutive runs of equal elements with a single copy. This is like the uniq command found on Unix. Compact modifies the contents of the slice s and returns the modified slice, which may have a smaller length. Compact zeroes the elements between the new length and the original length. The result preserves the nilness of s.": IT RETURNS THE SLICE CUT TO 'Lib.compact zs'; ITS CELLS HOLD 'Lib.compact zs', THEN ZERO VALUES up to the old length; all else is as it was, but for the count of draws. IN THE WORDS OF slices.Sort's CONTRACT ('Holds', 'putRow'): so the everyday 'slices.Sort(xs); xs = slices.Compact(xs)' goes from the one contract to the other. It asks 'zs.length ≤ cap' (every slice's: the reslicing 's[:k]' looks at it). Length 0, nil: '.._empty'. (LAID: no walk: one application.) -/
theorem Tryz.slices_Compact_int (blk off cap : Nat) (zs : List Int) (w : World) (hH : Holds (Value.int .i64) w blk off zs.toArray) (hsz : zs.length ≤ 9223372036854775807) (hcap : zs.length ≤ cap) :
    Calls Tryz.prog 269 #[.slice (some ⟨blk, off, none⟩) zs.length cap] w fun e w' => e = .returned (.slice (some ⟨blk, off, none⟩) (Lib.compact zs).length cap) ∧ ∃ q, w' = putRow (Value.int .i64) (Sort.ahead w q) blk off (Lib.compact zs ++ List.replicate (zs.length - (Lib.compact zs).length) 0).toArray := Any.slices_Compact_int Tryz.laysNm220 blk off cap zs w hH hsz hcap
end Go.Proofs

/- from VC: Numbers that are their own power sums: the program's search.  -/
namespace Go.Proofs.YtlbjeiaihenjkaaGreatDoor
open Go.RowKit
set_option linter.unusedVariables false
set_option linter.unusedSimpArgs false
set_option maxRecDepth 100000

theorem grow_none (w : World) : Go.Sort.grow w #[] = w := by simp [Go.Sort.grow]

theorem compact_any (g n cap : Nat) (xs : List Int) (B : Nat) (w : World) (h : Rd w B (.slice (some ⟨g, 0, none⟩) n cap) xs) (hl : xs.length ≤ 2000000) :
    Calls Tryz.prog 269 #[.slice (some ⟨g, 0, none⟩) n cap] w fun e w' => e = .returned (.slice (some ⟨g, 0, none⟩) (Lib.compact xs).length cap) ∧ Rd w' B (.slice (some ⟨g, 0, none⟩) (Lib.compact xs).length cap) (Lib.compact xs) ∧ w.grownBy w' (some g) := by
  obtain ⟨rfl, _⟩ := h.at
  rcases h.2 with ⟨h1, _⟩ | ⟨g', cap', cur, hv, hg, hh, hn, hm, hc, ht⟩
  · simp at h1
  · simp only [Value.slice.injEq, Option.some.injEq, Addr.mk.injEq, and_true, true_and] at hv
    obtain ⟨rfl, rfl⟩ := hv
    have hle : (Lib.compact xs).length ≤ xs.length := by
      unfold Lib.compact Lib.compactUpTo
      rw [List.length_map]
      have := List.length_filter_le (Lib.keeps xs.toArray) (List.range xs.length)
      rwa [List.length_range] at this
    refine (Tryz.slices_Compact_int g 0 cap xs w (holds_of_blockI hh (by simpa using ht)) (by omega) hn).mono ?_
    rintro e w' ⟨rfl, q, rfl⟩
    obtain ⟨zz, hz⟩ : ∃ zz, zz = Lib.compact xs ++ List.replicate (xs.length - (Lib.compact xs).length) 0 := ⟨_, rfl⟩
    have hzl : zz.length = xs.length := by rw [hz]; simp; omega
    rw [← hz]
    have h3 := ownsRow_sortedI (w := w) (base := B) (n := q) (os := #[]) (ts := zz) hzl hg hh hn hm hc
    have h4 := grownBy_sortedI (w := w) (g := g) (n := q) (os := #[]) zz.toArray
    rw [grow_none] at h3 h4
    have h5 : Rd (Go.Sort.putRow (Value.int .i64) (Go.Sort.ahead w q) g 0 zz.toArray) B (.slice (some ⟨g, 0, none⟩) xs.length cap) zz := by
      unfold Rd
      rw [hzl]
      exact h3
    have h6 := h5.take3 (Lib.compact xs).length (by omega)
    have h7 : zz.take (Lib.compact xs).length = Lib.compact xs := by rw [hz, List.take_append_of_le_length (Nat.le_refl _), List.take_of_length_le (Nat.le_refl _)]
    rw [h7] at h6
    exact ⟨rfl, h6, h4⟩

theorem pow6 {x p : Nat} (hx : x ≤ 9) (hp : p ≤ 6) : x ^ p ≤ 531441 := by
  have h1 := Nat.pow_le_pow_left hx p
  have h2 := Nat.pow_le_pow_right (show 0 < 9 by omega) hp
  have h3 : 9 ^ 6 = 531441 := by decide
  omega

theorem ow_zero_yes {b p s m : Nat} (h : ps b p s = s) : ow b p 0 s m = [(s : Int)] := by
  have h0 : ow b p 0 s m = if ps b p s = s then [(s : Int)] else [] := rfl
  rw [h0, if_pos h]
theorem ow_zero_no {b p s m : Nat} (h : ps b p s ≠ s) : ow b p 0 s m = [] := by
  have h0 : ow b p 0 s m = if ps b p s = s then [(s : Int)] else [] := rfl
  rw [h0, if_neg h]

theorem ownWith_any (g c b p : Nat) (hb : 2 ≤ b) (hb' : b ≤ 10) (hp : 1 ≤ p) (hp' : p ≤ 6) : ∀ (n s m : Nat) (w : World), Tp w g b p → n ≤ 8 → m < b → s + n * 531441 ≤ 1000000000 →
    Calls Tryz.prog 267 #[.slice (some ⟨g, 0, none⟩) b c, .int .i64 (s : Int), .int .i64 (n : Int), .int .i64 (m : Int)] w fun e w' => ∃ u, e = .returned u ∧ Rd w' w.heap.size u (ow b p n s m) ∧ Below w.heap.size w w' := by
  intro n
  induction n with
  | zero =>
    intro s m w hT hn hm hs
    have HT := Lib.hid hT
    by_cases he : ps b p s = s
    · have HE := Lib.hid he
      have HO := Lib.hid (ow_zero_yes (m := m) he)
      have HS := Lib.hid (sumP_any g c b p s · · hb (by omega) hp (by omega) (by omega))
      rw [he] at HS
      have hz : ((s : Int) == (s : Int)) = true := beq_yes rfl
      clear hT he
      go_enter Tryz.func267, Tryz.ntmps267
      go_wp2_with (go_at_call 244; refine (HS.out _ HT.out).mono ?_; rintro e w1 ⟨rfl, hb1⟩; have HB1 := Lib.hid hb1; clear hb1)
      go_ret
      exact ⟨_, rfl, by rw [HO.out]; exact (Rd.litB _ _ _ HB1.out.size), HB1.out.alloc HB1.out.size _⟩
    · have HO := Lib.hid (ow_zero_no (m := m) he)
      have HS := Lib.hid (sumP_any g c b p s · · hb (by omega) hp (by omega) (by omega))
      obtain ⟨x, hx⟩ : ∃ x, x = ps b p s := ⟨_, rfl⟩
      rw [← hx] at HS he
      have hz : ((x : Int) == (s : Int)) = false := beq_no (by omega)
      clear hT he hx
      go_enter Tryz.func267, Tryz.ntmps267
      go_wp2_with (go_at_call 244; refine (HS.out _ HT.out).mono ?_; rintro e w1 ⟨rfl, hb1⟩; have HB1 := Lib.hid hb1; clear hb1)
      go_ret
      exact ⟨_, rfl, by rw [HO.out]; exact Rd.nil _ _, HB1.out⟩
  | succ n ih =>
    intro s m w hT hn hm hs
    have HT := Lib.hid hT
    have IH := Lib.hid ih
    obtain ⟨N, hN⟩ : ∃ N, N = n + 1 := ⟨_, rfl⟩
    have hNi : (N : Int) - 1 = (n : Int) := by omega
    have hz : ((N : Int) == 0) = false := beq_no (by omega)
    have HO := Lib.hid (ow_succ b p n s m)
    have hNn : n + 1 ≤ 8 := hn
    rw [← hN] at HO hs ⊢
    have hs2 : s + n * 531441 + 531441 ≤ 1000000000 := by rw [hN] at hs; omega
    clear hT ih hN hs hn
    go_enter Tryz.func267, Tryz.ntmps267
    go_wp2
    go_loopw [9, 22] (fun o i wr => ∃ k : Nat, k ≤ m + 1 ∧ i = .int .i64 (k : Int) ∧ Rd wr w.heap.size o (owTo b p n s k) ∧ Below w.heap.size w wr) (fun _ i _ => m + 1 - (intOf i).toNat)
    case atStart => exact ⟨0, Nat.zero_le _, rfl, Rd.nil _ _, Below.refl _ _⟩
    case round =>
      obtain ⟨k, hk, rfl, hr, hbl⟩ := hrel
      have HR := Lib.hid hr
      have HB := Lib.hid hbl
      have HTr := Lib.hid (HT.out.keep hbl)
      have hsz := hbl.size
      clear hr hbl
      by_cases hlt : k < m + 1
      · have hct := HTr.out.cell k (by omega)
        obtain ⟨u, hu⟩ : ∃ u, u = k ^ p := ⟨_, rfl⟩
        have hub : u ≤ 531441 := by rw [hu]; exact pow6 (by omega) hp'
        obtain ⟨t, ht⟩ : ∃ t, t = s + u := ⟨_, rfl⟩
        have hsu : (s : Int) + (u : Int) = (t : Int) := by omega
        have HST := Lib.hid (owTo_succ b p n s k)
        rw [← hu, ← ht] at HST
        have hl1 := owTo_len8 (b := b) (p := p) (s := s) (m := m) hNn (by omega) hk
        have hl2 := Nat.le_trans (ow_len b p n t k) (ct_bd (by omega) (show k ≤ 9 by omega))
        have HIH := Lib.hid (fun w' (h : Tp w' g b p) => IH.out t k w' h (by omega) (by omega) (by omega))
        obtain ⟨ys, hys⟩ : ∃ ys, ys = ow b p n t k := ⟨_, rfl⟩
        obtain ⟨xs, hxs⟩ : ∃ xs, xs = owTo b p n s k := ⟨_, rfl⟩
        rw [← hu] at hct
        rw [← hys] at hl2 HIH HST
        rw [← hxs] at hl1 HST HR
        clear hu ht hys hxs
        go_wp2_with fail
        refine (HIH.out _ HTr.out).mono ?_
        rintro e w1 ⟨v1, rfl, hr1, hb1⟩
        have HR1 := Lib.hid hr1
        have HRo := Lib.hid (HR.out.keep hb1)
        have HB1 := Lib.hid (Below.step HB.out hsz hb1)
        clear hr1 hb1
        go_wp2_with (at_builtin; refine wpList_appR rfl _ _ rfl w.heap.size _ _ _ xs ys rfl rfl HRo.out HR1.out (by omega) HB1.out.size ?_; intro v2 w2 hr2 hg2 hb2; have HR2 := Lib.hid hr2; have HB2 := Lib.hid (HB1.out.trans hb2); clear hr2 hg2 hb2)
        go_roundw
        case rel => exact ⟨k + 1, by omega, by go_num, by rw [HST.out]; exact HR2.out, HB2.out⟩
        case measure => simp [intOf]; omega
      · obtain rfl : k = m + 1 := by omega
        go_wp2
        go_ret
        exact ⟨_, rfl, by rw [HO.out]; exact HR.out, HB.out⟩

theorem ow_ne {b p : Nat} (hb : 2 ≤ b) (hb' : b ≤ 16) (hp : 1 ≤ p) (hp' : p ≤ 8) : ow b p (places b p) 0 (b - 1) ≠ [] := by
  intro h
  have := (mem_own hb hb' hp hp' 0).2 ⟨0, rfl, ps_zero b p⟩
  rw [h] at this
  simp at this

theorem ownP_any (g c b p : Nat) (w : World) (hT : Tp w g b p) (hb : 2 ≤ b) (hb' : b ≤ 10) (hp : 1 ≤ p) (hp' : p ≤ 6) :
    Calls Tryz.prog 246 #[.slice (some ⟨g, 0, none⟩) b c] w fun e w' => ∃ gu cu, e = .returned (.slice (some ⟨gu, 0, none⟩) (ownL b p).length cu) ∧ Rd w' w.heap.size (.slice (some ⟨gu, 0, none⟩) (ownL b p).length cu) (ownL b p) ∧ Below w.heap.size w w' := by
  have HT := Lib.hid hT
  have h1 := (ff_spec hb (by omega) hp (by omega)).1
  have h2 := places_bd hb hb' hp hp'
  have HFP := Lib.hid (show ∀ w' : World, Tp w' g b p → Calls Tryz.prog 268 #[.slice (some ⟨g, 0, none⟩) b c] w' fun e w'' => e = .returned (.int .i64 ((ff b p : Nat) : Int)) ∧ w'' = w' from fun w' h => (fallsP_any g c b p w' h hb (by omega) hp (by omega)).mono (fun e w'' h => ⟨h.1, h.2.symm⟩))
  obtain ⟨z, hz⟩ : ∃ z, z = ff b p := ⟨_, rfl⟩
  obtain ⟨K, hK⟩ : ∃ K, K = places b p := ⟨_, rfl⟩
  have hzK : (z : Int) - 1 = (K : Int) := by rw [hK, hz]; unfold places; omega
  have HOW := Lib.hid (fun w' h => ownWith_any g c b p hb hb' hp hp' K 0 (b - 1) w' h (by rw [hK]; exact h2) (by omega) (by rw [← hK] at h2; omega))
  have HNE := Lib.hid (ow_ne hb (show b ≤ 16 by omega) hp (show p ≤ 8 by omega))
  have HOL := Lib.hid (show ownL b p = Lib.compact (srt (ow b p K 0 (b - 1))) by rw [hK]; rfl)
  have hl := Nat.le_trans (ow_len b p K 0 (b - 1)) (ct_bd (by rw [hK]; exact h2) (show b - 1 ≤ 9 by omega))
  have hb1 : (b : Int) - 1 = ((b - 1 : Nat) : Int) := by omega
  rw [← hz] at HFP h1
  rw [← hK] at HNE h2
  obtain ⟨xs, hxs⟩ : ∃ xs, xs = ow b p K 0 (b - 1) := ⟨_, rfl⟩
  rw [← hxs] at HOW HNE HOL hl
  clear hT hz hK hxs
  go_enter Tryz.func246, Tryz.ntmps246
  go_wp2_with (go_at_call 268; refine (HFP.out _ HT.out).mono ?_; rintro e w1 ⟨rfl, rfl⟩)
  refine (HOW.out _ HT.out).mono ?_
  rintro e w1 ⟨u, rfl, hr, hb1'⟩
  obtain ⟨gu, cu, rfl⟩ : ∃ gu cu, u = .slice (some ⟨gu, 0, none⟩) xs.length cu := by
    rcases hr.cases with ⟨_, hx⟩ | ⟨gu, cu, hu, _⟩
    · exact absurd hx HNE.out
    · exact ⟨gu, cu, hu⟩
  have HR := Lib.hid hr
  have HB := Lib.hid hb1'
  have hgB := hr.at.2.1
  clear hr hb1'
  go_wp2_with fail
  refine (sort_any _ _ _ _ _ _ HR.out (by omega)).mono ?_
  rintro e w2 ⟨rfl, hr2, hg2⟩
  have HR2 := Lib.hid hr2
  have HB2 := Lib.hid (HB.out.trans (grown_below hg2 HB.out.size hgB))
  have HL2 := Lib.hid (srt_len xs)
  clear hr2 hg2
  go_wp2_with fail
  refine (compact_any _ _ _ _ _ _ HR2.out (by rw [HL2.out]; omega)).mono ?_
  rintro e w3 ⟨rfl, hr3, hg3⟩
  rw [← HOL.out] at hr3
  rw [← HOL.out]
  have HR3 := Lib.hid hr3
  have HB3 := Lib.hid (HB2.out.trans (grown_below hg3 HB2.out.size hgB))
  clear hr3 hg3
  go_wp2
  go_ret
  exact ⟨gu, cu, rfl, HR3.out, HB3.out⟩

end Go.Proofs.YtlbjeiaihenjkaaGreatDoor
