/-
  Joint text of CU: what each proves stands ahead of it.
-/
import Derived.Test.YtlbjeiaihenjkaaGreatDoorJ36
/- from CU: The model's lines that change the desk.  -/
namespace Go.Proofs.YtlbjeiaihenjkaaGreatDoor
open Go.RowKit
set_option linter.unusedVariables false
set_option linter.unusedSimpArgs false
set_option maxRecDepth 100000

theorem Gv.same {w : World} {g : Nat} {n b m : Int} {t : Tx} {nv : Value} (h : Ln w g n b m t nv) : Gv w w g n b := ⟨h.c0, h.c1, World.grownBy.refl _ _⟩
theorem give_any (g : Nat) (n b m : Int) (t : Tx) (nv : Value) (o : Option Int) (ho : ∀ z, o = some z → Num z) (hB : Bas b) (w : World) (h : Ln w g n b m t nv) :
    Calls Tryz.prog 89 #[.pointer (some ⟨g, 0, none⟩), .int .i64 (o.getD 0), .bool o.isSome] w fun e w' => e = .returned (str (becF n b o).2.2.txt) ∧ Gv w w' g (becF n b o).1 (becF n b o).2.1 := by
  cases o with
  | none =>
    refine (give_no g n b m 0 t nv w h).mono ?_
    rintro e w' ⟨rfl, rfl⟩
    exact ⟨rfl, Gv.same h⟩
  | some z => exact give_yes g n b m z t nv (ho z rfl) hB w h
/-- What happened in front of a change. -/
theorem Gv.after {w w1 w' : World} {g : Nat} {n b : Int} (hb : Below w.heap.size w w1) (h : Gv w1 w' g n b) : Gv w w' g n b := ⟨h.c0, h.c1, grown_trans' (below_grow hb _) h.grown⟩

set_option maxHeartbeats 2000000 in
theorem moved_take (g : Nat) (n b m : Int) (t : Tx) (nv : Value) (x : Tx) (hx : x = [116, 97, 107, 101]) (hm : Num m) (hB : Bas b) (w : World) (h : Ln w g n b m t nv) :
    Calls Tryz.prog 55 #[.pointer (some ⟨g, 0, none⟩), str x] w fun e w' => e = .returned (str (becF n b (some m)).2.2.txt) ∧ Gv w w' g (becF n b (some m)).1 (becF n b (some m)).2.1 := by
  have q0 : (x == [116, 97, 107, 101]) = true := by rw [hx]; rfl
  clear hx
  have HH := Lib.hid h
  have c0 := h.c0
  have c1 := h.c1
  have c2 := h.c2
  have HG := Lib.hid (fun W (hW : Ln W g n b m t nv) => give_any g n b m t nv (some m) (fun z hz => by cases hz; exact hm) hB W hW)
  obtain ⟨R, hR⟩ : ∃ R, R = (becF n b (some m)).2.2.txt := ⟨_, rfl⟩
  obtain ⟨n', hn'⟩ : ∃ n', n' = (becF n b (some m)).1 := ⟨_, rfl⟩
  obtain ⟨b', hb'⟩ : ∃ b', b' = (becF n b (some m)).2.1 := ⟨_, rfl⟩
  rw [← hR, ← hn', ← hb'] at HG ⊢
  clear hR hn' hb' hm hB h
  go_enter Tryz.func55, Tryz.ntmps55
  go_wp2
  go_region
  all_goals
    go_wp2_with fail
    refine (HG.out _ (HH.out.keep (Below.refl _ _).drew)).mono ?_
    rintro e w2 ⟨rfl, hg⟩
    have HGV := Lib.hid (Gv.after (Below.refl _ _).drew hg)
    clear hg c0 c1 c2
    go_wp2
    go_ret
    exact ⟨rfl, HGV.out⟩
set_option maxHeartbeats 2000000 in
theorem moved_reverse (g : Nat) (n b m : Int) (t : Tx) (nv : Value) (x : Tx) (hx : x = [114, 101, 118, 101, 114, 115, 101]) (hB : Bas b) (w : World) (h : Ln w g n b m t nv) :
    Calls Tryz.prog 55 #[.pointer (some ⟨g, 0, none⟩), str x] w fun e w' => e = .returned (str (becF n b (askF RReverseNumber n b)).2.2.txt) ∧ Gv w w' g (becF n b (askF RReverseNumber n b)).1 (becF n b (askF RReverseNumber n b)).2.1 := by
  have q0 : (x == [116, 97, 107, 101]) = false := by rw [hx]; rfl
  have q1 : (x == [98, 97, 115, 101]) = false := by rw [hx]; rfl
  have q2 : (x == [114, 101, 118, 101, 114, 115, 101]) = true := by rw [hx]; rfl
  clear hx
  have HH := Lib.hid h
  have c0 := h.c0
  have c1 := h.c1
  have HF := Lib.hid (fun W => spec_ReverseNumber n b W)
  have HG := Lib.hid (fun W (hW : Ln W g n b m t nv) => give_any g n b m t nv (askF RReverseNumber n b) (fun z hz => rev_rng hz) hB W hW)
  obtain ⟨O, hO⟩ : ∃ O, O = askF RReverseNumber n b := ⟨_, rfl⟩
  rw [← hO] at HF HG ⊢
  obtain ⟨z, hz⟩ : ∃ z, z = O.getD 0 := ⟨_, rfl⟩
  obtain ⟨ok, hok⟩ : ∃ ok, ok = O.isSome := ⟨_, rfl⟩
  obtain ⟨R, hR⟩ : ∃ R, R = (becF n b O).2.2.txt := ⟨_, rfl⟩
  obtain ⟨n', hn'⟩ : ∃ n', n' = (becF n b O).1 := ⟨_, rfl⟩
  obtain ⟨b', hb'⟩ : ∃ b', b' = (becF n b O).2.1 := ⟨_, rfl⟩
  have HF' := Lib.hid (show ∀ W, Calls Tryz.prog 90 #[.int .i64 n, .int .i64 b] W fun e w'' => e = .returned (.tuple #[.int .i64 z, .bool ok]) ∧ Below W.heap.size W w'' by rw [hz, hok]; exact HF.out)
  rw [← hz, ← hok, ← hR, ← hn', ← hb'] at HG
  rw [← hR, ← hn', ← hb']
  clear hR hn' hb' hz hok hO HF hB h
  go_enter Tryz.func55, Tryz.ntmps55
  go_wp2
  go_region
  all_goals
    go_wp2_with fail
    refine (HF'.out _).mono ?_
    rintro e w1 ⟨rfl, hb⟩
    have HB1 := Lib.hid (show Below w.heap.size w w1 from (Below.refl _ _).drew.trans hb)
    clear hb
    go_wp2_with fail
    refine (HG.out _ (HH.out.keep HB1.out)).mono ?_
    rintro e w2 ⟨rfl, hg⟩
    have HGV := Lib.hid (Gv.after HB1.out hg)
    clear hg c0 c1
    go_wp2
    go_ret
    exact ⟨rfl, HGV.out⟩
set_option maxHeartbeats 2000000 in
theorem moved_up (g : Nat) (n b m : Int) (t : Tx) (nv : Value) (x : Tx) (hx : x = [117, 112]) (hB : Bas b) (w : World) (h : Ln w g n b m t nv) :
    Calls Tryz.prog 55 #[.pointer (some ⟨g, 0, none⟩), str x] w fun e w' => e = .returned (str (becF n b (askF RSortedUp n b)).2.2.txt) ∧ Gv w w' g (becF n b (askF RSortedUp n b)).1 (becF n b (askF RSortedUp n b)).2.1 := by
  have q0 : (x == [116, 97, 107, 101]) = false := by rw [hx]; rfl
  have q1 : (x == [98, 97, 115, 101]) = false := by rw [hx]; rfl
  have q2 : (x == [114, 101, 118, 101, 114, 115, 101]) = false := by rw [hx]; rfl
  have q3 : (x == [117, 112]) = true := by rw [hx]; rfl
  clear hx
  have HH := Lib.hid h
  have c0 := h.c0
  have c1 := h.c1
  have HF := Lib.hid (fun W => spec_SortedUp n b W)
  have HG := Lib.hid (fun W (hW : Ln W g n b m t nv) => give_any g n b m t nv (askF RSortedUp n b) (fun z hz => up_rng hz) hB W hW)
  obtain ⟨O, hO⟩ : ∃ O, O = askF RSortedUp n b := ⟨_, rfl⟩
  rw [← hO] at HF HG ⊢
  obtain ⟨z, hz⟩ : ∃ z, z = O.getD 0 := ⟨_, rfl⟩
  obtain ⟨ok, hok⟩ : ∃ ok, ok = O.isSome := ⟨_, rfl⟩
  obtain ⟨R, hR⟩ : ∃ R, R = (becF n b O).2.2.txt := ⟨_, rfl⟩
  obtain ⟨n', hn'⟩ : ∃ n', n' = (becF n b O).1 := ⟨_, rfl⟩
  obtain ⟨b', hb'⟩ : ∃ b', b' = (becF n b O).2.1 := ⟨_, rfl⟩
  have HF' := Lib.hid (show ∀ W, Calls Tryz.prog 91 #[.int .i64 n, .int .i64 b] W fun e w'' => e = .returned (.tuple #[.int .i64 z, .bool ok]) ∧ Below W.heap.size W w'' by rw [hz, hok]; exact HF.out)
  rw [← hz, ← hok, ← hR, ← hn', ← hb'] at HG
  rw [← hR, ← hn', ← hb']
  clear hR hn' hb' hz hok hO HF hB h
  go_enter Tryz.func55, Tryz.ntmps55
  go_wp2
  go_region
  all_goals
    go_wp2_with fail
    refine (HF'.out _).mono ?_
    rintro e w1 ⟨rfl, hb⟩
    have HB1 := Lib.hid (show Below w.heap.size w w1 from (Below.refl _ _).drew.trans hb)
    clear hb
    go_wp2_with fail
    refine (HG.out _ (HH.out.keep HB1.out)).mono ?_
    rintro e w2 ⟨rfl, hg⟩
    have HGV := Lib.hid (Gv.after HB1.out hg)
    clear hg c0 c1
    go_wp2
    go_ret
    exact ⟨rfl, HGV.out⟩
set_option maxHeartbeats 2000000 in
theorem moved_down (g : Nat) (n b m : Int) (t : Tx) (nv : Value) (x : Tx) (hx : x = [100, 111, 119, 110]) (hB : Bas b) (w : World) (h : Ln w g n b m t nv) :
    Calls Tryz.prog 55 #[.pointer (some ⟨g, 0, none⟩), str x] w fun e w' => e = .returned (str (becF n b (askF RSortedDown n b)).2.2.txt) ∧ Gv w w' g (becF n b (askF RSortedDown n b)).1 (becF n b (askF RSortedDown n b)).2.1 := by
  have q0 : (x == [116, 97, 107, 101]) = false := by rw [hx]; rfl
  have q1 : (x == [98, 97, 115, 101]) = false := by rw [hx]; rfl
  have q2 : (x == [114, 101, 118, 101, 114, 115, 101]) = false := by rw [hx]; rfl
  have q3 : (x == [117, 112]) = false := by rw [hx]; rfl
  have q4 : (x == [100, 111, 119, 110]) = true := by rw [hx]; rfl
  clear hx
  have HH := Lib.hid h
  have c0 := h.c0
  have c1 := h.c1
  have HF := Lib.hid (fun W => spec_SortedDown n b W)
  have HG := Lib.hid (fun W (hW : Ln W g n b m t nv) => give_any g n b m t nv (askF RSortedDown n b) (fun z hz => down_rng hz) hB W hW)
  obtain ⟨O, hO⟩ : ∃ O, O = askF RSortedDown n b := ⟨_, rfl⟩
  rw [← hO] at HF HG ⊢
  obtain ⟨z, hz⟩ : ∃ z, z = O.getD 0 := ⟨_, rfl⟩
  obtain ⟨ok, hok⟩ : ∃ ok, ok = O.isSome := ⟨_, rfl⟩
  obtain ⟨R, hR⟩ : ∃ R, R = (becF n b O).2.2.txt := ⟨_, rfl⟩
  obtain ⟨n', hn'⟩ : ∃ n', n' = (becF n b O).1 := ⟨_, rfl⟩
  obtain ⟨b', hb'⟩ : ∃ b', b' = (becF n b O).2.1 := ⟨_, rfl⟩
  have HF' := Lib.hid (show ∀ W, Calls Tryz.prog 92 #[.int .i64 n, .int .i64 b] W fun e w'' => e = .returned (.tuple #[.int .i64 z, .bool ok]) ∧ Below W.heap.size W w'' by rw [hz, hok]; exact HF.out)
  rw [← hz, ← hok, ← hR, ← hn', ← hb'] at HG
  rw [← hR, ← hn', ← hb']
  clear hR hn' hb' hz hok hO HF hB h
  go_enter Tryz.func55, Tryz.ntmps55
  go_wp2
  go_region
  all_goals
    go_wp2_with fail
    refine (HF'.out _).mono ?_
    rintro e w1 ⟨rfl, hb⟩
    have HB1 := Lib.hid (show Below w.heap.size w w1 from (Below.refl _ _).drew.trans hb)
    clear hb
    go_wp2_with fail
    refine (HG.out _ (HH.out.keep HB1.out)).mono ?_
    rintro e w2 ⟨rfl, hg⟩
    have HGV := Lib.hid (Gv.after HB1.out hg)
    clear hg c0 c1
    go_wp2
    go_ret
    exact ⟨rfl, HGV.out⟩
set_option maxHeartbeats 2000000 in
theorem moved_step (g : Nat) (n b m : Int) (t : Tx) (nv : Value) (x : Tx) (hx : x = [115, 116, 101, 112]) (hB : Bas b) (w : World) (h : Ln w g n b m t nv) :
    Calls Tryz.prog 55 #[.pointer (some ⟨g, 0, none⟩), str x] w fun e w' => e = .returned (str (becF n b (ledW 1 n)).2.2.txt) ∧ Gv w w' g (becF n b (ledW 1 n)).1 (becF n b (ledW 1 n)).2.1 := by
  have q0 : (x == [116, 97, 107, 101]) = false := by rw [hx]; rfl
  have q1 : (x == [98, 97, 115, 101]) = false := by rw [hx]; rfl
  have q2 : (x == [114, 101, 118, 101, 114, 115, 101]) = false := by rw [hx]; rfl
  have q3 : (x == [117, 112]) = false := by rw [hx]; rfl
  have q4 : (x == [100, 111, 119, 110]) = false := by rw [hx]; rfl
  have q5 : (x == [112, 111, 119, 101, 114]) = false := by rw [hx]; rfl
  have q6 : (x == [115, 116, 101, 112]) = true := by rw [hx]; rfl
  clear hx
  have HH := Lib.hid h
  have c0 := h.c0
  have c1 := h.c1
  have HF := Lib.hid (fun W => spec_StepOf n W)
  have HG := Lib.hid (fun W (hW : Ln W g n b m t nv) => give_any g n b m t nv (ledW 1 n) (fun z hz => step_rng hz) hB W hW)
  obtain ⟨O, hO⟩ : ∃ O, O = ledW 1 n := ⟨_, rfl⟩
  rw [← hO] at HF HG ⊢
  obtain ⟨z, hz⟩ : ∃ z, z = O.getD 0 := ⟨_, rfl⟩
  obtain ⟨ok, hok⟩ : ∃ ok, ok = O.isSome := ⟨_, rfl⟩
  obtain ⟨R, hR⟩ : ∃ R, R = (becF n b O).2.2.txt := ⟨_, rfl⟩
  obtain ⟨n', hn'⟩ : ∃ n', n' = (becF n b O).1 := ⟨_, rfl⟩
  obtain ⟨b', hb'⟩ : ∃ b', b' = (becF n b O).2.1 := ⟨_, rfl⟩
  have HF' := Lib.hid (show ∀ W, Calls Tryz.prog 94 #[.int .i64 n] W fun e w'' => e = .returned (.tuple #[.int .i64 z, .bool ok]) ∧ Below W.heap.size W w'' by rw [hz, hok]; exact HF.out)
  rw [← hz, ← hok, ← hR, ← hn', ← hb'] at HG
  rw [← hR, ← hn', ← hb']
  clear hR hn' hb' hz hok hO HF hB h
  go_enter Tryz.func55, Tryz.ntmps55
  go_wp2
  go_region
  all_goals
    go_wp2_with fail
    refine (HF'.out _).mono ?_
    rintro e w1 ⟨rfl, hb⟩
    have HB1 := Lib.hid (show Below w.heap.size w w1 from (Below.refl _ _).drew.trans hb)
    clear hb
    go_wp2_with fail
    refine (HG.out _ (HH.out.keep HB1.out)).mono ?_
    rintro e w2 ⟨rfl, hg⟩
    have HGV := Lib.hid (Gv.after HB1.out hg)
    clear hg c0 c1
    go_wp2
    go_ret
    exact ⟨rfl, HGV.out⟩
set_option maxHeartbeats 2000000 in
theorem moved_short (g : Nat) (n b m : Int) (t : Tx) (nv : Value) (x : Tx) (hx : x = [115, 104, 111, 114, 116]) (hB : Bas b) (w : World) (h : Ln w g n b m t nv) :
    Calls Tryz.prog 55 #[.pointer (some ⟨g, 0, none⟩), str x] w fun e w' => e = .returned (str (becF n b (ledS n)).2.2.txt) ∧ Gv w w' g (becF n b (ledS n)).1 (becF n b (ledS n)).2.1 := by
  have q0 : (x == [116, 97, 107, 101]) = false := by rw [hx]; rfl
  have q1 : (x == [98, 97, 115, 101]) = false := by rw [hx]; rfl
  have q2 : (x == [114, 101, 118, 101, 114, 115, 101]) = false := by rw [hx]; rfl
  have q3 : (x == [117, 112]) = false := by rw [hx]; rfl
  have q4 : (x == [100, 111, 119, 110]) = false := by rw [hx]; rfl
  have q5 : (x == [112, 111, 119, 101, 114]) = false := by rw [hx]; rfl
  have q6 : (x == [115, 116, 101, 112]) = false := by rw [hx]; rfl
  have q7 : (x == [115, 104, 111, 114, 116]) = true := by rw [hx]; rfl
  clear hx
  have HH := Lib.hid h
  have c0 := h.c0
  have c1 := h.c1
  have HF := Lib.hid (fun W => spec_ShortStep n W)
  have HG := Lib.hid (fun W (hW : Ln W g n b m t nv) => give_any g n b m t nv (ledS n) (fun z hz => short_rng hz) hB W hW)
  obtain ⟨O, hO⟩ : ∃ O, O = ledS n := ⟨_, rfl⟩
  rw [← hO] at HF HG ⊢
  obtain ⟨z, hz⟩ : ∃ z, z = O.getD 0 := ⟨_, rfl⟩
  obtain ⟨ok, hok⟩ : ∃ ok, ok = O.isSome := ⟨_, rfl⟩
  obtain ⟨R, hR⟩ : ∃ R, R = (becF n b O).2.2.txt := ⟨_, rfl⟩
  obtain ⟨n', hn'⟩ : ∃ n', n' = (becF n b O).1 := ⟨_, rfl⟩
  obtain ⟨b', hb'⟩ : ∃ b', b' = (becF n b O).2.1 := ⟨_, rfl⟩
  have HF' := Lib.hid (show ∀ W, Calls Tryz.prog 95 #[.int .i64 n] W fun e w'' => e = .returned (.tuple #[.int .i64 z, .bool ok]) ∧ Below W.heap.size W w'' by rw [hz, hok]; exact HF.out)
  rw [← hz, ← hok, ← hR, ← hn', ← hb'] at HG
  rw [← hR, ← hn', ← hb']
  clear hR hn' hb' hz hok hO HF hB h
  go_enter Tryz.func55, Tryz.ntmps55
  go_wp2
  go_region
  all_goals
    go_wp2_with fail
    refine (HF'.out _).mono ?_
    rintro e w1 ⟨rfl, hb⟩
    have HB1 := Lib.hid (show Below w.heap.size w w1 from (Below.refl _ _).drew.trans hb)
    clear hb
    go_wp2_with fail
    refine (HG.out _ (HH.out.keep HB1.out)).mono ?_
    rintro e w2 ⟨rfl, hg⟩
    have HGV := Lib.hid (Gv.after HB1.out hg)
    clear hg c0 c1
    go_wp2
    go_ret
    exact ⟨rfl, HGV.out⟩
set_option maxHeartbeats 2000000 in
theorem moved_next (g : Nat) (n b m : Int) (t : Tx) (nv : Value) (x : Tx) (hx : x = [110, 101, 120, 116]) (hB : Bas b) (w : World) (h : Ln w g n b m t nv) :
    Calls Tryz.prog 55 #[.pointer (some ⟨g, 0, none⟩), str x] w fun e w' => e = .returned (str (becF n b (askF RNextPalindrome n b)).2.2.txt) ∧ Gv w w' g (becF n b (askF RNextPalindrome n b)).1 (becF n b (askF RNextPalindrome n b)).2.1 := by
  have q0 : (x == [116, 97, 107, 101]) = false := by rw [hx]; rfl
  have q1 : (x == [98, 97, 115, 101]) = false := by rw [hx]; rfl
  have q2 : (x == [114, 101, 118, 101, 114, 115, 101]) = false := by rw [hx]; rfl
  have q3 : (x == [117, 112]) = false := by rw [hx]; rfl
  have q4 : (x == [100, 111, 119, 110]) = false := by rw [hx]; rfl
  have q5 : (x == [112, 111, 119, 101, 114]) = false := by rw [hx]; rfl
  have q6 : (x == [115, 116, 101, 112]) = false := by rw [hx]; rfl
  have q7 : (x == [115, 104, 111, 114, 116]) = false := by rw [hx]; rfl
  clear hx
  have HH := Lib.hid h
  have c0 := h.c0
  have c1 := h.c1
  have HF := Lib.hid (fun W => spec_NextPalindrome n b W)
  have HG := Lib.hid (fun W (hW : Ln W g n b m t nv) => give_any g n b m t nv (askF RNextPalindrome n b) (fun z hz => next_rng hz) hB W hW)
  obtain ⟨O, hO⟩ : ∃ O, O = askF RNextPalindrome n b := ⟨_, rfl⟩
  rw [← hO] at HF HG ⊢
  obtain ⟨z, hz⟩ : ∃ z, z = O.getD 0 := ⟨_, rfl⟩
  obtain ⟨ok, hok⟩ : ∃ ok, ok = O.isSome := ⟨_, rfl⟩
  obtain ⟨R, hR⟩ : ∃ R, R = (becF n b O).2.2.txt := ⟨_, rfl⟩
  obtain ⟨n', hn'⟩ : ∃ n', n' = (becF n b O).1 := ⟨_, rfl⟩
  obtain ⟨b', hb'⟩ : ∃ b', b' = (becF n b O).2.1 := ⟨_, rfl⟩
  have HF' := Lib.hid (show ∀ W, Calls Tryz.prog 96 #[.int .i64 n, .int .i64 b] W fun e w'' => e = .returned (.tuple #[.int .i64 z, .bool ok]) ∧ Below W.heap.size W w'' by rw [hz, hok]; exact HF.out)
  rw [← hz, ← hok, ← hR, ← hn', ← hb'] at HG
  rw [← hR, ← hn', ← hb']
  clear hR hn' hb' hz hok hO HF hB h
  go_enter Tryz.func55, Tryz.ntmps55
  go_wp2
  go_region
  all_goals
    go_wp2_with fail
    refine (HF'.out _).mono ?_
    rintro e w1 ⟨rfl, hb⟩
    have HB1 := Lib.hid (show Below w.heap.size w w1 from (Below.refl _ _).drew.trans hb)
    clear hb
    go_wp2_with fail
    refine (HG.out _ (HH.out.keep HB1.out)).mono ?_
    rintro e w2 ⟨rfl, hg⟩
    have HGV := Lib.hid (Gv.after HB1.out hg)
    clear hg c0 c1
    go_wp2
    go_ret
    exact ⟨rfl, HGV.out⟩
set_option maxHeartbeats 2000000 in
theorem moved_power (g : Nat) (n b m k : Int) (t : Tx) (p cap : Nat) (x : Tx) (hx : x = [112, 111, 119, 101, 114]) (hB : Bas b) (w : World) (h : Ln w g n b m t (.slice (some ⟨p, 0, none⟩) 1 cap)) (hp : w.cell? ⟨p, 0, none⟩ = some (.int .i64 k)) :
    Calls Tryz.prog 55 #[.pointer (some ⟨g, 0, none⟩), str x] w fun e w' => e = .returned (str (becF n b (if OK3 n b k 8 then some (V_PowerSum n b k) else none)).2.2.txt) ∧ Gv w w' g (becF n b (if OK3 n b k 8 then some (V_PowerSum n b k) else none)).1 (becF n b (if OK3 n b k 8 then some (V_PowerSum n b k) else none)).2.1 := by
  have q0 : (x == [116, 97, 107, 101]) = false := by rw [hx]; rfl
  have q1 : (x == [98, 97, 115, 101]) = false := by rw [hx]; rfl
  have q2 : (x == [114, 101, 118, 101, 114, 115, 101]) = false := by rw [hx]; rfl
  have q3 : (x == [117, 112]) = false := by rw [hx]; rfl
  have q4 : (x == [100, 111, 119, 110]) = false := by rw [hx]; rfl
  have q5 : (x == [112, 111, 119, 101, 114]) = true := by rw [hx]; rfl
  clear hx
  have HH := Lib.hid h
  have c0 := h.c0
  have c1 := h.c1
  have c4 := h.c4
  have HF' := Lib.hid (show ∀ w', Calls Tryz.prog 93 #[.int .i64 n, .int .i64 b, .int .i64 k] w' fun e w'' => e = .returned (.tuple #[.int .i64 (V_PowerSum n b k), .bool (OK3 n b k 8)]) ∧ Below w'.heap.size w' w'' from fun w' => spec_PowerSum n b k w')
  have HG := Lib.hid (show ∀ W, Ln W g n b m t (.slice (some ⟨p, 0, none⟩) 1 cap) → Calls Tryz.prog 89 #[.pointer (some ⟨g, 0, none⟩), .int .i64 (V_PowerSum n b k), .bool (OK3 n b k 8)] W fun e w' => e = .returned (str (becF n b (if OK3 n b k 8 then some (V_PowerSum n b k) else none)).2.2.txt) ∧ Gv W w' g (becF n b (if OK3 n b k 8 then some (V_PowerSum n b k) else none)).1 (becF n b (if OK3 n b k 8 then some (V_PowerSum n b k) else none)).2.1 from fun W hW => by
    cases hok : OK3 n b k 8 with
    | true => exact give_any g n b m t _ (some (V_PowerSum n b k)) (fun z hz => pow_rng (n := n) (b := b) (k := k) (by rw [if_pos hok]; exact hz)) hB W hW
    | false =>
      refine (give_no g n b m _ t _ W hW).mono ?_
      rintro e w' ⟨rfl, rfl⟩
      exact ⟨rfl, Gv.same hW⟩)
  obtain ⟨O, hO⟩ : ∃ O, O = (if OK3 n b k 8 then some (V_PowerSum n b k) else none) := ⟨_, rfl⟩
  rw [← hO] at HG ⊢
  obtain ⟨z, hz⟩ : ∃ z, z = V_PowerSum n b k := ⟨_, rfl⟩
  obtain ⟨ok, hok⟩ : ∃ ok, ok = OK3 n b k 8 := ⟨_, rfl⟩
  obtain ⟨R, hR⟩ : ∃ R, R = (becF n b O).2.2.txt := ⟨_, rfl⟩
  obtain ⟨n', hn'⟩ : ∃ n', n' = (becF n b O).1 := ⟨_, rfl⟩
  obtain ⟨b', hb'⟩ : ∃ b', b' = (becF n b O).2.1 := ⟨_, rfl⟩
  rw [← hz, ← hok] at HF' HG
  rw [← hR, ← hn', ← hb'] at HG ⊢
  clear hR hn' hb' hz hok hO hB h
  go_enter Tryz.func55, Tryz.ntmps55
  go_wp2
  go_region
  all_goals
    go_wp2_with fail
    refine (HF'.out _).mono ?_
    rintro e w1 ⟨rfl, hb⟩
    have HB1 := Lib.hid (show Below w.heap.size w w1 from (Below.refl _ _).drew.trans hb)
    clear hb
    go_wp2_with fail
    refine (HG.out _ (HH.out.keep HB1.out)).mono ?_
    rintro e w2 ⟨rfl, hg⟩
    have HGV := Lib.hid (Gv.after HB1.out hg)
    clear hg c0 c1 c4
    go_wp2
    go_ret
    exact ⟨rfl, HGV.out⟩
set_option maxHeartbeats 2000000 in
theorem moved_base_yes (g : Nat) (n b m k : Int) (t : Tx) (p cap : Nat) (x : Tx) (hx : x = [98, 97, 115, 101]) (hK : Bas k) (w : World) (h : Ln w g n b m t (.slice (some ⟨p, 0, none⟩) 1 cap)) (hp : w.cell? ⟨p, 0, none⟩ = some (.int .i64 k)) :
    Calls Tryz.prog 55 #[.pointer (some ⟨g, 0, none⟩), str x] w fun e w' => e = .returned (str [111, 107]) ∧ Gv w w' g n k := by
  have q0 : (x == [116, 97, 107, 101]) = false := by rw [hx]; rfl
  have q1 : (x == [98, 97, 115, 101]) = true := by rw [hx]; rfl
  clear hx
  have HH := Lib.hid h
  have c0 := h.c0
  have c1 := h.c1
  have c4 := h.c4
  have f1 := h.free 1
  have a1 : decide (Bas k) = true := decide_eq_true hK
  clear hK h
  go_enter Tryz.func55, Tryz.ntmps55
  go_wp2
  go_region
  all_goals
    go_wp2_with (go_at_call 84; refine (dgBase_any _ _).mono ?_; rintro e w1 ⟨rfl, rfl⟩)
    go_ret
    exact ⟨rfl, ⟨(World.cell?_setCell_other _ _ _ _ (fun e => by simp at e)).trans c0, World.cell?_setCell_same _ _ _ c1, grown_trans' (below_grow (Below.refl _ _).drew _) (grown_setCell' _ g 1 _)⟩⟩
set_option maxHeartbeats 2000000 in
theorem moved_base_no (g : Nat) (n b m k : Int) (t : Tx) (p cap : Nat) (x : Tx) (hx : x = [98, 97, 115, 101]) (hK : ¬ Bas k) (w : World) (h : Ln w g n b m t (.slice (some ⟨p, 0, none⟩) 1 cap)) (hp : w.cell? ⟨p, 0, none⟩ = some (.int .i64 k)) :
    Calls Tryz.prog 55 #[.pointer (some ⟨g, 0, none⟩), str x] w fun e w' => e = .returned (str [110, 111]) ∧ Gv w w' g n b := by
  have q0 : (x == [116, 97, 107, 101]) = false := by rw [hx]; rfl
  have q1 : (x == [98, 97, 115, 101]) = true := by rw [hx]; rfl
  clear hx
  have HH := Lib.hid h
  have c0 := h.c0
  have c1 := h.c1
  have c4 := h.c4
  have f1 := h.free 1
  have a1 : decide (Bas k) = false := decide_eq_false hK
  clear hK h
  go_enter Tryz.func55, Tryz.ntmps55
  go_wp2
  go_region
  all_goals
    go_wp2_with (go_at_call 84; refine (dgBase_any _ _).mono ?_; rintro e w1 ⟨rfl, rfl⟩)
    go_ret
    exact ⟨rfl, ⟨c0, c1, below_grow (Below.refl _ _).drew _⟩⟩

end Go.Proofs.YtlbjeiaihenjkaaGreatDoor
