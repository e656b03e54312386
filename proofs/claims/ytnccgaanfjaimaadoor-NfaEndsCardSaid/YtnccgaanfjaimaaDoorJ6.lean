/- Texts RA, RI, ZE, ZH, one behind the other. -/
import Derived.Test.YtnccgaanfjaimaaDoorJ4
import Derived.Test.YtnccgaanfjaimaaDoorJ5
set_option linter.unusedSimpArgs false
set_option linter.unusedVariables false
namespace Go.Proofs.YtnccgaanfjaimaaDoor
open Go.ChangeShapes Go.WideShapes Go.ChangeAt Go.RowKit
set_option linter.unusedVariables false
set_option linter.unusedSimpArgs false

attribute [local go_sem] Oper.semAt_some

theorem szL_step {xs : List X} {k : Nat} (h : k < xs.length) : szL (xs.take (k + 1)) = szL (xs.take k) + xs[k].sz := by
 rw [List.take_succ_eq_append_getElem h, szL_app, szL_one]

/-- a box of an expression, and what lies behind its kids, in all worlds to come -/
theorem boxed_kids {N : Nat} {w W0 : World} {k : Int} {l : ByteArray} {A : Option Addr} {n c : Nat} {xs : List X} (hW0 : w.alloc (.cells #[.int .i64 k, .string l, .slice A n c] 25) = W0) (hx : XR N w (.slice A n c) xs) (hN : N ≤ w.heap.size) :
  Below w.heap.size w W0 ∧ W0.heap.size = w.heap.size + 1 ∧ (∀ W, Below W0.heap.size W0 W → W.cell? ⟨w.heap.size, 0, none⟩ = some (.int .i64 k) ∧ W.cell? ⟨w.heap.size, 1, none⟩ = some (.string l) ∧ W.cell? ⟨w.heap.size, 2, none⟩ = some (.slice A n c)) ∧ ∀ W, Below W0.heap.size W0 W → XR N W (.slice A n c) xs := by
 subst hW0
 have hb0 : Below w.heap.size w (w.alloc (.cells #[.int .i64 k, .string l, .slice A n c] 25)) := (Below.refl _ w).alloc (Nat.le_refl _) _
 refine ⟨hb0, by simp, fun W h => box3 ((h.block _ (by simp)).trans (at_push _ _)), fun W h => hx.bel ((hb0.mono hN).trans (h.mono (by simp; omega)))⟩

def S15 (x : X) : Prop := ∀ (N : Nat) (w : World) (v : Value), XV N w v x → N ≤ w.heap.size → Calls Tryd.prog 69 #[v] w fun e w' => e = .returned (.int .i64 x.sz) ∧ Below w.heap.size w w'

set_option maxRecDepth 100000 in
set_option maxHeartbeats 4000000 in
theorem rsize_any : ∀ x : X, x.sz ≤ 100000 → S15 x := by
 intro x
 induction x using X.ind' with
 | h x ih =>
  intro hsz N w v hx hN
  obtain ⟨kx, rfl, hkx⟩ := hx
  obtain ⟨A, c, rfl⟩ := hkx.form
  obtain ⟨n, hn⟩ : ∃ n, x.kids.length = n := ⟨_, rfl⟩
  rw [hn] at hkx ⊢
  generalize x.kind = kd
  generalize x.lab = lb
  obtain ⟨W0, hW0⟩ : ∃ W0, w.alloc (.cells #[.int .i64 kd, .string lb, .slice A n c] 25) = W0 := ⟨_, rfl⟩
  obtain ⟨hb0, hz0, hbx, hkd⟩ := boxed_kids hW0 hkx hN
  have HB0 := Lib.hid hb0
  have HBX := Lib.hid hbx
  have HKD := Lib.hid hkd
  have HSZ := Lib.hid (show x.sz = 1 + szL x.kids from x.sz_eq)
  have hle : szL x.kids ≤ 100000 := by have := x.sz_eq; omega
  obtain ⟨ks, hks⟩ : ∃ ks, x.kids = ks := ⟨_, rfl⟩
  rw [hks] at HKD HSZ hle hn ih
  have HIH := Lib.hid (fun y (hy : y ∈ ks) => ih y hy (by have := szL_mem hy; omega))
  have HN := Lib.hid hn
  have hn1 : n ≤ 100000 := by have := len_szL ks; omega
  clear hb0 hz0 hbx hkd hkx ih hn hks
  go_enter Tryd.func69, Tryd.ntmps69
  go_upto_region 3 with (fail)
  try rw [hW0]
  go_loopw [3, 4] (fun u3 u4 wr => ∃ k : Nat, k ≤ n ∧ u4 = .int .i64 k ∧ u3 = .int .i64 ((1 + szL (ks.take k) : Nat) : Int) ∧ Below W0.heap.size W0 wr) (fun _ u4 _ => n + 1 - (intOf u4).toNat)
  case atStart => exact ⟨0, Nat.zero_le _, rfl, by rw [List.take_zero, szL_nil]; rfl, Below.refl _ _⟩
  case round =>
   obtain ⟨k, hk, rfl, rfl, hbr⟩ := hrel
   obtain ⟨d0, d1, d2⟩ := HBX.out wr hbr
   have HBR := Lib.hid hbr
   by_cases hkn : k < n
   ·have hki : (k : Int) < (n : Int) := by omega
    have hkl : k < ks.length := by have := HN.out; omega
    obtain ⟨ad, ky, e1, hbA, a0, a1, a2, hky⟩ := (HKD.out wr hbr).at3 hkl
    subst e1
    have hy15 := HIH.out ks[k] (List.getElem_mem _)
    have hst := szL_step hkl
    have hsz1 : szL (ks.take (k + 1)) ≤ 100000 := by
     have h1 : szL ks = szL (ks.take (k + 1)) + szL (ks.drop (k + 1)) := by rw [← szL_app, List.take_append_drop]
     omega
    obtain ⟨y, hy⟩ : ∃ y, ks[k] = y := ⟨_, rfl⟩
    rw [hy] at a0 a1 hky hy15 hst
    have HST := Lib.hid hst
    obtain ⟨q, hq⟩ : ∃ q, szL (ks.take k) = q := ⟨_, rfl⟩
    rw [hq] at HST ⊢
    obtain ⟨z, hz⟩ : ∃ z, y.sz = z := ⟨_, rfl⟩
    have hzq : q + z ≤ 100000 := by omega
    have HC := Lib.hid (hy15 N wr _ ⟨ky, rfl, hky⟩ (Nat.le_trans hN (Nat.le_trans HB0.out.size hbr.size)))
    rw [hz] at HC HST
    clear hbr hy15 hky hst hsz1 hy hq hz
    go_wp2_with (go_at_call 69; refine HC.out.mono ?_; rintro e w1 ⟨rfl, hq⟩; have HQ := Lib.hid hq; clear hq)
    go_roundw
    case rel => exact ⟨k + 1, by omega, by go_num, by rw [HST.out]; go_num, HBR.out.trans (HQ.out.mono HBR.out.size)⟩
    case measure => simp [intOf]; omega
   ·have hki : ¬ (k : Int) < (n : Int) := by omega
    obtain rfl : n = k := by omega
    have HT := Lib.hid (show ks.take n = ks by rw [← HN.out]; exact List.take_length)
    go_wp2_with fail
    go_ret
    exact ⟨(ret_int (by rw [HT.out, HSZ.out]) : Ending.returned (.int .i64 ((1 + szL (ks.take n) : Nat) : Int)) = .returned (.int .i64 (x.sz : Nat))), HB0.out.trans (HBR.out.mono HB0.out.size)⟩

def X.okB (x : X) : Bool := x.parts.all X.fits
theorem all_partsL : ∀ ks : List X, (partsL ks).all X.fits = ks.all X.okB
 | [] => by rw [partsL_nil]; rfl
 | x :: ks => by rw [partsL_cons, List.all_append, all_partsL ks, List.all_cons]; rfl
theorem okB_eq (x : X) : x.okB = (x.fits && x.kids.all X.okB) := by
 unfold X.okB
 rw [X.parts_eq, List.all_cons, all_partsL]
 rfl
theorem right_eq (x : X) : x.right = (decide (x.sz ≤ 24) && x.okB) := rfl
theorem okB_good {x : X} : x.okB = true ↔ x.good := by
 unfold X.okB X.good
 rw [List.all_eq_true]

def S38 (x : X) : Prop := ∀ (N : Nat) (w : World) (v : Value), XV N w v x → N ≤ w.heap.size → Calls Tryd.prog 70 #[v] w fun e w' => e = .returned (.bool x.okB) ∧ Below w.heap.size w w'

theorem parts_of_mem : ∀ {xs : List X} {y p : X}, y ∈ xs → p ∈ y.parts → p ∈ partsL xs
 | x :: xs, y, p, hy, hp => by
  rw [partsL_cons]
  rcases List.mem_cons.1 hy with rfl | hy
  ·exact List.mem_append_left _ hp
  ·exact List.mem_append_right _ (parts_of_mem hy hp)
theorem lit_kids {x : X} (h : x.lit) : ∀ y ∈ x.kids, y.lit := fun y hy p hp => h p (by rw [X.parts_eq]; exact List.mem_cons_of_mem _ (parts_of_mem hy hp))

set_option maxRecDepth 100000 in
set_option maxHeartbeats 4000000 in
theorem rpart_any : ∀ x : X, x.sz ≤ 100000 → x.lit → S38 x := by
 intro x
 induction x using X.ind' with
 | h x ih =>
  intro hsz hlit N w v hx hN
  obtain ⟨kx, rfl, hkx⟩ := hx
  obtain ⟨A, c, rfl⟩ := hkx.form
  obtain ⟨n, hn⟩ : ∃ n, x.kids.length = n := ⟨_, rfl⟩
  have hok : x.okB = (fitB x.kind x.lab n && x.kids.all X.okB) := by rw [okB_eq, X.fits, hn]
  have hlab : x.lab.size ≤ maxLen := hlit x (by rw [X.parts_eq]; exact List.mem_cons_self)
  rw [hok]
  rw [hn] at hkx ⊢
  have hle : szL x.kids ≤ 100000 := by have := x.sz_eq; omega
  have hlk := lit_kids hlit
  clear hok hlit
  generalize x.kind = kd at *
  generalize x.lab = lb at *
  obtain ⟨W0, hW0⟩ : ∃ W0, w.alloc (.cells #[.int .i64 kd, .string lb, .slice A n c] 25) = W0 := ⟨_, rfl⟩
  obtain ⟨hb0, hz0, hbx, hkd⟩ := boxed_kids hW0 hkx hN
  have HB0 := Lib.hid hb0
  have HBX := Lib.hid hbx
  have HKD := Lib.hid hkd
  obtain ⟨ks, hks⟩ : ∃ ks, x.kids = ks := ⟨_, rfl⟩
  rw [hks] at HKD hle hn ih hlk ⊢
  have HIH := Lib.hid (fun y (hy : y ∈ ks) => ih y hy (by have := szL_mem hy; omega) (hlk y hy))
  have HN := Lib.hid hn
  have hn1 : n ≤ 100000 := by have := len_szL ks; omega
  obtain ⟨d0, d1, d2⟩ := hbx W0 (Below.refl _ _)
  clear hb0 hz0 hbx hkd hkx ih hn hks hlk hle
  by_cases hk1 : kd = 1
  ·subst hk1
   obtain ⟨f, hf⟩ : ∃ f, freB lb = f := ⟨_, rfl⟩
   have hfit : fitB 1 lb n = (f && decide (n = 0)) := by unfold fitB; rw [if_pos rfl, hf]
   rw [hfit]
   have HF := Lib.hid (fun W => rFree_any lb W hlab)
   rw [hf] at HF
   clear hf hfit
   cases f with
   | false =>
    go_enter Tryd.func70, Tryd.ntmps70
    go_upto_region 1 with (fail)
    try rw [hW0]
    go_wp2_with (go_at_call 86; refine (HF.out _).mono ?_; rintro e w1 ⟨rfl, rfl⟩)
    go_ret
    exact ⟨rfl, HB0.out⟩
   | true =>
    by_cases hn0 : n = 0
    ·subst hn0
     go_enter Tryd.func70, Tryd.ntmps70
     go_upto_region 1 with (fail)
     try rw [hW0]
     go_wp2_with (go_at_call 86; refine (HF.out _).mono ?_; rintro e w1 ⟨rfl, rfl⟩)
     go_ret
     refine ⟨?_, HB0.out⟩
     obtain rfl : ks = [] := List.eq_nil_of_length_eq_zero HN.out
     rfl
    ·have hni : ¬ (n : Int) = 0 := by omega
     have hnb : ((n : Int) == 0) = false := by simp; omega
     go_enter Tryd.func70, Tryd.ntmps70
     go_upto_region 1 with (fail)
     try rw [hW0]
     go_wp2_with (go_at_call 86; refine (HF.out _).mono ?_; rintro e w1 ⟨rfl, rfl⟩)
     go_ret
     refine ⟨?_, HB0.out⟩
     rw [decide_eq_false hn0]; rfl
  ·have hkb1 : (kd == 1) = false := by simp [hk1]
   by_cases hk2 : kd = 2 ∨ kd = 3
   ·by_cases hn2 : n < 2
    ·have hfit : fitB kd lb n = false := by unfold fitB; rw [if_neg hk1, if_pos hk2, decide_eq_false (show ¬ 2 ≤ n by omega), Bool.and_false]
     rw [hfit]
     have hni : (n : Int) < 2 := by omega
     clear hfit
     rcases hk2 with rfl | rfl
     ·go_enter Tryd.func70, Tryd.ntmps70
      go_upto_region 1 with (fail)
      try rw [hW0]
      go_wp2_with fail
      go_ret
      exact ⟨rfl, HB0.out⟩
     ·go_enter Tryd.func70, Tryd.ntmps70
      go_upto_region 1 with (fail)
      try rw [hW0]
      go_wp2_with fail
      go_ret
      exact ⟨rfl, HB0.out⟩
    ·obtain ⟨e, hfit, he⟩ : ∃ e, fitB kd lb n = e ∧ (e = true ↔ lb = ⟨#[]⟩) := ⟨_, rfl, by unfold fitB; rw [if_neg hk1, if_pos hk2, Bool.and_eq_true, decide_eq_true_iff, decide_eq_true_iff]; exact ⟨fun h => h.1, fun h => ⟨h, by omega⟩⟩⟩
     rw [hfit]
     have hni : ¬ (n : Int) < 2 := by omega
     have HE := Lib.hid he
     clear hfit he
     rcases hk2 with rfl | rfl
     ·go_enter Tryd.func70, Tryd.ntmps70
      go_upto_region 1 with (fail)
      try rw [hW0]
      go_upto_region 15 with (fail)
      clear d0 d1 d2
      go_loopw [3] (fun u3 wr => ∃ k : Nat, k ≤ n ∧ u3 = .int .i64 k ∧ (ks.take k).all X.okB = true ∧ Below W0.heap.size W0 wr) (fun u3 _ => n + 1 - (intOf u3).toNat)
      case atStart => exact ⟨0, Nat.zero_le _, rfl, rfl, Below.refl _ _⟩
      case round =>
       obtain ⟨k, hk, rfl, hall, hbr⟩ := hrel
       obtain ⟨d0, d1, d2⟩ := HBX.out wr hbr
       have HBR := Lib.hid hbr
       have HALL := Lib.hid hall
       by_cases hkn : k < n
       ·have hki : (k : Int) < (n : Int) := by omega
        have hkl : k < ks.length := by have := HN.out; omega
        obtain ⟨ad, ky, e1, hbA, a0, a1, a2, hky⟩ := (HKD.out wr hbr).at3 hkl
        subst e1
        have hy38 := HIH.out ks[k] (List.getElem_mem _)
        have hst : (ks.take (k + 1)).all X.okB = ((ks.take k).all X.okB && ks[k].okB) := by rw [List.take_succ_eq_append_getElem hkl, List.all_append]; simp
        have hmem := List.getElem_mem hkl
        obtain ⟨y, hy⟩ : ∃ y, ks[k] = y := ⟨_, rfl⟩
        rw [hy] at a0 a1 hky hy38 hst hmem
        have HST := Lib.hid (And.intro hst hmem)
        have HC := Lib.hid (hy38 N wr _ ⟨ky, rfl, hky⟩ (Nat.le_trans hN (Nat.le_trans HB0.out.size hbr.size)))
        obtain ⟨r, hr⟩ : ∃ r, y.okB = r := ⟨_, rfl⟩
        rw [hr] at HC
        have HR := Lib.hid hr
        clear hbr hy38 hky hst hy hr hmem hall
        cases r with
        | true =>
         go_wp2_with (go_at_call 70; refine HC.out.mono ?_; rintro e w1 ⟨rfl, hq⟩; have HQ := Lib.hid hq; clear hq)
         go_roundw
         case rel => exact ⟨k + 1, by omega, by go_num, by rw [HST.out.1, HALL.out, HR.out]; rfl, HBR.out.trans (HQ.out.mono HBR.out.size)⟩
         case measure => simp [intOf]; omega
        | false =>
         go_wp2_with (go_at_call 70; refine HC.out.mono ?_; rintro e w1 ⟨rfl, hq⟩; have HQ := Lib.hid hq; clear hq)
         go_ret
         refine ⟨?_, HB0.out.trans ((HBR.out.trans (HQ.out.mono HBR.out.size)).mono HB0.out.size)⟩
         rw [show ks.all X.okB = false from List.all_eq_false.2 ⟨y, HST.out.2, by rw [HR.out]; simp⟩, Bool.and_false]
         rfl
       ·have hki : ¬ (k : Int) < (n : Int) := by omega
        have HT := Lib.hid (show ks.take k = ks by rw [show k = n by omega, ← HN.out]; exact List.take_length)
        have HALL2 := Lib.hid (show ks.all X.okB = true by rw [← HT.out]; exact HALL.out)
        clear hall hbr
        by_cases hlb : lb = ⟨#[]⟩
        ·obtain rfl : e = true := HE.out.2 hlb
         subst hlb
         go_wp2_with fail
         go_ret
         refine ⟨?_, HB0.out.trans (HBR.out.mono HB0.out.size)⟩
         first
          | rfl
          | (rw [HALL2.out]; rfl)
        ·obtain rfl : e = false := by
          cases e with
          | false => rfl
          | true => exact absurd (HE.out.1 rfl) hlb
         have hlt := tl_nil hlb
         have hbe : (lb.toList == []) = false := by simp [hlt]
         go_wp2_with fail
         go_ret
         refine ⟨?_, HB0.out.trans (HBR.out.mono HB0.out.size)⟩
         first
          | rfl
          | (rw [HALL2.out]; rfl)
     ·go_enter Tryd.func70, Tryd.ntmps70
      go_upto_region 1 with (fail)
      try rw [hW0]
      go_upto_region 15 with (fail)
      clear d0 d1 d2
      go_loopw [3] (fun u3 wr => ∃ k : Nat, k ≤ n ∧ u3 = .int .i64 k ∧ (ks.take k).all X.okB = true ∧ Below W0.heap.size W0 wr) (fun u3 _ => n + 1 - (intOf u3).toNat)
      case atStart => exact ⟨0, Nat.zero_le _, rfl, rfl, Below.refl _ _⟩
      case round =>
       obtain ⟨k, hk, rfl, hall, hbr⟩ := hrel
       obtain ⟨d0, d1, d2⟩ := HBX.out wr hbr
       have HBR := Lib.hid hbr
       have HALL := Lib.hid hall
       by_cases hkn : k < n
       ·have hki : (k : Int) < (n : Int) := by omega
        have hkl : k < ks.length := by have := HN.out; omega
        obtain ⟨ad, ky, e1, hbA, a0, a1, a2, hky⟩ := (HKD.out wr hbr).at3 hkl
        subst e1
        have hy38 := HIH.out ks[k] (List.getElem_mem _)
        have hst : (ks.take (k + 1)).all X.okB = ((ks.take k).all X.okB && ks[k].okB) := by rw [List.take_succ_eq_append_getElem hkl, List.all_append]; simp
        have hmem := List.getElem_mem hkl
        obtain ⟨y, hy⟩ : ∃ y, ks[k] = y := ⟨_, rfl⟩
        rw [hy] at a0 a1 hky hy38 hst hmem
        have HST := Lib.hid (And.intro hst hmem)
        have HC := Lib.hid (hy38 N wr _ ⟨ky, rfl, hky⟩ (Nat.le_trans hN (Nat.le_trans HB0.out.size hbr.size)))
        obtain ⟨r, hr⟩ : ∃ r, y.okB = r := ⟨_, rfl⟩
        rw [hr] at HC
        have HR := Lib.hid hr
        clear hbr hy38 hky hst hy hr hmem hall
        cases r with
        | true =>
         go_wp2_with (go_at_call 70; refine HC.out.mono ?_; rintro e w1 ⟨rfl, hq⟩; have HQ := Lib.hid hq; clear hq)
         go_roundw
         case rel => exact ⟨k + 1, by omega, by go_num, by rw [HST.out.1, HALL.out, HR.out]; rfl, HBR.out.trans (HQ.out.mono HBR.out.size)⟩
         case measure => simp [intOf]; omega
        | false =>
         go_wp2_with (go_at_call 70; refine HC.out.mono ?_; rintro e w1 ⟨rfl, hq⟩; have HQ := Lib.hid hq; clear hq)
         go_ret
         refine ⟨?_, HB0.out.trans ((HBR.out.trans (HQ.out.mono HBR.out.size)).mono HB0.out.size)⟩
         rw [show ks.all X.okB = false from List.all_eq_false.2 ⟨y, HST.out.2, by rw [HR.out]; simp⟩, Bool.and_false]
         rfl
       ·have hki : ¬ (k : Int) < (n : Int) := by omega
        have HT := Lib.hid (show ks.take k = ks by rw [show k = n by omega, ← HN.out]; exact List.take_length)
        have HALL2 := Lib.hid (show ks.all X.okB = true by rw [← HT.out]; exact HALL.out)
        clear hall hbr
        by_cases hlb : lb = ⟨#[]⟩
        ·obtain rfl : e = true := HE.out.2 hlb
         subst hlb
         go_wp2_with fail
         go_ret
         refine ⟨?_, HB0.out.trans (HBR.out.mono HB0.out.size)⟩
         first
          | rfl
          | (rw [HALL2.out]; rfl)
        ·obtain rfl : e = false := by
          cases e with
          | false => rfl
          | true => exact absurd (HE.out.1 rfl) hlb
         have hlt := tl_nil hlb
         have hbe : (lb.toList == []) = false := by simp [hlt]
         go_wp2_with fail
         go_ret
         refine ⟨?_, HB0.out.trans (HBR.out.mono HB0.out.size)⟩
         first
          | rfl
          | (rw [HALL2.out]; rfl)
   ·have hkb2 : (kd == 2) = false := by simp; omega
    have hkb3 : (kd == 3) = false := by simp; omega
    by_cases hk4 : kd = 4 ∨ kd = 5 ∨ kd = 6
    ·by_cases hn2 : n = 1
     ·subst hn2
      obtain ⟨e, hfit, he⟩ : ∃ e, fitB kd lb 1 = e ∧ (e = true ↔ lb = ⟨#[]⟩) := ⟨_, rfl, by unfold fitB; rw [if_neg hk1, if_neg hk2, if_pos hk4, Bool.and_eq_true, decide_eq_true_iff, decide_eq_true_iff]; exact ⟨fun h => h.1, fun h => ⟨h, rfl⟩⟩⟩
      rw [hfit]
      have HE := Lib.hid he
      clear hfit he
      rcases hk4 with rfl | rfl | rfl
      ·go_enter Tryd.func70, Tryd.ntmps70
       go_upto_region 1 with (fail)
       try rw [hW0]
       go_upto_region 15 with (fail)
       clear d0 d1 d2
       go_loopw [3] (fun u3 wr => ∃ k : Nat, k ≤ 1 ∧ u3 = .int .i64 k ∧ (ks.take k).all X.okB = true ∧ Below W0.heap.size W0 wr) (fun u3 _ => 1 + 1 - (intOf u3).toNat)
       case atStart => exact ⟨0, Nat.zero_le _, rfl, rfl, Below.refl _ _⟩
       case round =>
        obtain ⟨k, hk, rfl, hall, hbr⟩ := hrel
        obtain ⟨d0, d1, d2⟩ := HBX.out wr hbr
        have HBR := Lib.hid hbr
        have HALL := Lib.hid hall
        by_cases hkn : k < 1
        ·have hki : (k : Int) < 1 := by omega
         have hkl : k < ks.length := by have := HN.out; omega
         obtain ⟨ad, ky, e1, hbA, a0, a1, a2, hky⟩ := (HKD.out wr hbr).at3 hkl
         subst e1
         have hy38 := HIH.out ks[k] (List.getElem_mem _)
         have hst : (ks.take (k + 1)).all X.okB = ((ks.take k).all X.okB && ks[k].okB) := by rw [List.take_succ_eq_append_getElem hkl, List.all_append]; simp
         have hmem := List.getElem_mem hkl
         obtain ⟨y, hy⟩ : ∃ y, ks[k] = y := ⟨_, rfl⟩
         rw [hy] at a0 a1 hky hy38 hst hmem
         have HST := Lib.hid (And.intro hst hmem)
         have HC := Lib.hid (hy38 N wr _ ⟨ky, rfl, hky⟩ (Nat.le_trans hN (Nat.le_trans HB0.out.size hbr.size)))
         obtain ⟨r, hr⟩ : ∃ r, y.okB = r := ⟨_, rfl⟩
         rw [hr] at HC
         have HR := Lib.hid hr
         clear hbr hy38 hky hst hy hr hmem hall
         cases r with
         | true =>
          go_wp2_with (go_at_call 70; refine HC.out.mono ?_; rintro e w1 ⟨rfl, hq⟩; have HQ := Lib.hid hq; clear hq)
          go_roundw
          case rel => exact ⟨k + 1, by omega, by go_num, by rw [HST.out.1, HALL.out, HR.out]; rfl, HBR.out.trans (HQ.out.mono HBR.out.size)⟩
          case measure => simp [intOf]; omega
         | false =>
          go_wp2_with (go_at_call 70; refine HC.out.mono ?_; rintro e w1 ⟨rfl, hq⟩; have HQ := Lib.hid hq; clear hq)
          go_ret
          refine ⟨?_, HB0.out.trans ((HBR.out.trans (HQ.out.mono HBR.out.size)).mono HB0.out.size)⟩
          rw [show ks.all X.okB = false from List.all_eq_false.2 ⟨y, HST.out.2, by rw [HR.out]; simp⟩, Bool.and_false]
          rfl
        ·have hki : ¬ (k : Int) < 1 := by omega
         have HT := Lib.hid (show ks.take k = ks by rw [show k = 1 by omega, ← HN.out]; exact List.take_length)
         have HALL2 := Lib.hid (show ks.all X.okB = true by rw [← HT.out]; exact HALL.out)
         clear hall hbr
         by_cases hlb : lb = ⟨#[]⟩
         ·obtain rfl : e = true := HE.out.2 hlb
          subst hlb
          go_wp2_with fail
          go_ret
          refine ⟨?_, HB0.out.trans (HBR.out.mono HB0.out.size)⟩
          first
           | rfl
           | (rw [HALL2.out]; rfl)
         ·obtain rfl : e = false := by
           cases e with
           | false => rfl
           | true => exact absurd (HE.out.1 rfl) hlb
          have hlt := tl_nil hlb
          have hbe : (lb.toList == []) = false := by simp [hlt]
          go_wp2_with fail
          go_ret
          refine ⟨?_, HB0.out.trans (HBR.out.mono HB0.out.size)⟩
          first
           | rfl
           | (rw [HALL2.out]; rfl)
      ·go_enter Tryd.func70, Tryd.ntmps70
       go_upto_region 1 with (fail)
       try rw [hW0]
       go_upto_region 15 with (fail)
       clear d0 d1 d2
       go_loopw [3] (fun u3 wr => ∃ k : Nat, k ≤ 1 ∧ u3 = .int .i64 k ∧ (ks.take k).all X.okB = true ∧ Below W0.heap.size W0 wr) (fun u3 _ => 1 + 1 - (intOf u3).toNat)
       case atStart => exact ⟨0, Nat.zero_le _, rfl, rfl, Below.refl _ _⟩
       case round =>
        obtain ⟨k, hk, rfl, hall, hbr⟩ := hrel
        obtain ⟨d0, d1, d2⟩ := HBX.out wr hbr
        have HBR := Lib.hid hbr
        have HALL := Lib.hid hall
        by_cases hkn : k < 1
        ·have hki : (k : Int) < 1 := by omega
         have hkl : k < ks.length := by have := HN.out; omega
         obtain ⟨ad, ky, e1, hbA, a0, a1, a2, hky⟩ := (HKD.out wr hbr).at3 hkl
         subst e1
         have hy38 := HIH.out ks[k] (List.getElem_mem _)
         have hst : (ks.take (k + 1)).all X.okB = ((ks.take k).all X.okB && ks[k].okB) := by rw [List.take_succ_eq_append_getElem hkl, List.all_append]; simp
         have hmem := List.getElem_mem hkl
         obtain ⟨y, hy⟩ : ∃ y, ks[k] = y := ⟨_, rfl⟩
         rw [hy] at a0 a1 hky hy38 hst hmem
         have HST := Lib.hid (And.intro hst hmem)
         have HC := Lib.hid (hy38 N wr _ ⟨ky, rfl, hky⟩ (Nat.le_trans hN (Nat.le_trans HB0.out.size hbr.size)))
         obtain ⟨r, hr⟩ : ∃ r, y.okB = r := ⟨_, rfl⟩
         rw [hr] at HC
         have HR := Lib.hid hr
         clear hbr hy38 hky hst hy hr hmem hall
         cases r with
         | true =>
          go_wp2_with (go_at_call 70; refine HC.out.mono ?_; rintro e w1 ⟨rfl, hq⟩; have HQ := Lib.hid hq; clear hq)
          go_roundw
          case rel => exact ⟨k + 1, by omega, by go_num, by rw [HST.out.1, HALL.out, HR.out]; rfl, HBR.out.trans (HQ.out.mono HBR.out.size)⟩
          case measure => simp [intOf]; omega
         | false =>
          go_wp2_with (go_at_call 70; refine HC.out.mono ?_; rintro e w1 ⟨rfl, hq⟩; have HQ := Lib.hid hq; clear hq)
          go_ret
          refine ⟨?_, HB0.out.trans ((HBR.out.trans (HQ.out.mono HBR.out.size)).mono HB0.out.size)⟩
          rw [show ks.all X.okB = false from List.all_eq_false.2 ⟨y, HST.out.2, by rw [HR.out]; simp⟩, Bool.and_false]
          rfl
        ·have hki : ¬ (k : Int) < 1 := by omega
         have HT := Lib.hid (show ks.take k = ks by rw [show k = 1 by omega, ← HN.out]; exact List.take_length)
         have HALL2 := Lib.hid (show ks.all X.okB = true by rw [← HT.out]; exact HALL.out)
         clear hall hbr
         by_cases hlb : lb = ⟨#[]⟩
         ·obtain rfl : e = true := HE.out.2 hlb
          subst hlb
          go_wp2_with fail
          go_ret
          refine ⟨?_, HB0.out.trans (HBR.out.mono HB0.out.size)⟩
          first
           | rfl
           | (rw [HALL2.out]; rfl)
         ·obtain rfl : e = false := by
           cases e with
           | false => rfl
           | true => exact absurd (HE.out.1 rfl) hlb
          have hlt := tl_nil hlb
          have hbe : (lb.toList == []) = false := by simp [hlt]
          go_wp2_with fail
          go_ret
          refine ⟨?_, HB0.out.trans (HBR.out.mono HB0.out.size)⟩
          first
           | rfl
           | (rw [HALL2.out]; rfl)
      ·go_enter Tryd.func70, Tryd.ntmps70
       go_upto_region 1 with (fail)
       try rw [hW0]
       go_upto_region 15 with (fail)
       clear d0 d1 d2
       go_loopw [3] (fun u3 wr => ∃ k : Nat, k ≤ 1 ∧ u3 = .int .i64 k ∧ (ks.take k).all X.okB = true ∧ Below W0.heap.size W0 wr) (fun u3 _ => 1 + 1 - (intOf u3).toNat)
       case atStart => exact ⟨0, Nat.zero_le _, rfl, rfl, Below.refl _ _⟩
       case round =>
        obtain ⟨k, hk, rfl, hall, hbr⟩ := hrel
        obtain ⟨d0, d1, d2⟩ := HBX.out wr hbr
        have HBR := Lib.hid hbr
        have HALL := Lib.hid hall
        by_cases hkn : k < 1
        ·have hki : (k : Int) < 1 := by omega
         have hkl : k < ks.length := by have := HN.out; omega
         obtain ⟨ad, ky, e1, hbA, a0, a1, a2, hky⟩ := (HKD.out wr hbr).at3 hkl
         subst e1
         have hy38 := HIH.out ks[k] (List.getElem_mem _)
         have hst : (ks.take (k + 1)).all X.okB = ((ks.take k).all X.okB && ks[k].okB) := by rw [List.take_succ_eq_append_getElem hkl, List.all_append]; simp
         have hmem := List.getElem_mem hkl
         obtain ⟨y, hy⟩ : ∃ y, ks[k] = y := ⟨_, rfl⟩
         rw [hy] at a0 a1 hky hy38 hst hmem
         have HST := Lib.hid (And.intro hst hmem)
         have HC := Lib.hid (hy38 N wr _ ⟨ky, rfl, hky⟩ (Nat.le_trans hN (Nat.le_trans HB0.out.size hbr.size)))
         obtain ⟨r, hr⟩ : ∃ r, y.okB = r := ⟨_, rfl⟩
         rw [hr] at HC
         have HR := Lib.hid hr
         clear hbr hy38 hky hst hy hr hmem hall
         cases r with
         | true =>
          go_wp2_with (go_at_call 70; refine HC.out.mono ?_; rintro e w1 ⟨rfl, hq⟩; have HQ := Lib.hid hq; clear hq)
          go_roundw
          case rel => exact ⟨k + 1, by omega, by go_num, by rw [HST.out.1, HALL.out, HR.out]; rfl, HBR.out.trans (HQ.out.mono HBR.out.size)⟩
          case measure => simp [intOf]; omega
         | false =>
          go_wp2_with (go_at_call 70; refine HC.out.mono ?_; rintro e w1 ⟨rfl, hq⟩; have HQ := Lib.hid hq; clear hq)
          go_ret
          refine ⟨?_, HB0.out.trans ((HBR.out.trans (HQ.out.mono HBR.out.size)).mono HB0.out.size)⟩
          rw [show ks.all X.okB = false from List.all_eq_false.2 ⟨y, HST.out.2, by rw [HR.out]; simp⟩, Bool.and_false]
          rfl
        ·have hki : ¬ (k : Int) < 1 := by omega
         have HT := Lib.hid (show ks.take k = ks by rw [show k = 1 by omega, ← HN.out]; exact List.take_length)
         have HALL2 := Lib.hid (show ks.all X.okB = true by rw [← HT.out]; exact HALL.out)
         clear hall hbr
         by_cases hlb : lb = ⟨#[]⟩
         ·obtain rfl : e = true := HE.out.2 hlb
          subst hlb
          go_wp2_with fail
          go_ret
          refine ⟨?_, HB0.out.trans (HBR.out.mono HB0.out.size)⟩
          first
           | rfl
           | (rw [HALL2.out]; rfl)
         ·obtain rfl : e = false := by
           cases e with
           | false => rfl
           | true => exact absurd (HE.out.1 rfl) hlb
          have hlt := tl_nil hlb
          have hbe : (lb.toList == []) = false := by simp [hlt]
          go_wp2_with fail
          go_ret
          refine ⟨?_, HB0.out.trans (HBR.out.mono HB0.out.size)⟩
          first
           | rfl
           | (rw [HALL2.out]; rfl)
     ·have hfit : fitB kd lb n = false := by unfold fitB; rw [if_neg hk1, if_neg hk2, if_pos hk4, decide_eq_false hn2, Bool.and_false]
      rw [hfit]
      have hni : ¬ (n : Int) = 1 := by omega
      have hnb : ((n : Int) == 1) = false := by simp; omega
      clear hfit
      rcases hk4 with rfl | rfl | rfl
      ·go_enter Tryd.func70, Tryd.ntmps70
       go_upto_region 1 with (fail)
       try rw [hW0]
       go_wp2_with fail
       go_ret
       exact ⟨rfl, HB0.out⟩
      ·go_enter Tryd.func70, Tryd.ntmps70
       go_upto_region 1 with (fail)
       try rw [hW0]
       go_wp2_with fail
       go_ret
       exact ⟨rfl, HB0.out⟩
      ·go_enter Tryd.func70, Tryd.ntmps70
       go_upto_region 1 with (fail)
       try rw [hW0]
       go_wp2_with fail
       go_ret
       exact ⟨rfl, HB0.out⟩
    ·have hfit : fitB kd lb n = false := by unfold fitB; rw [if_neg hk1, if_neg hk2, if_neg hk4]
     rw [hfit]
     have hkb4 : (kd == 4) = false := by simp; omega
     have hkb5 : (kd == 5) = false := by simp; omega
     have hkb6 : (kd == 6) = false := by simp; omega
     go_enter Tryd.func70, Tryd.ntmps70
     go_upto_region 1 with (fail)
     try rw [hW0]
     go_wp2_with fail
     go_ret
     exact ⟨rfl, HB0.out⟩

theorem rright_any {N : Nat} {w : World} {v : Value} {x : X} (hx : XV N w v x) (hN : N ≤ w.heap.size) (hsz : x.sz ≤ 100000) (hl : x.lit) :
  Calls Tryd.prog 46 #[v] w fun e w' => e = .returned (.bool x.right) ∧ Below w.heap.size w w' := by
 have hS := (fun W (h : Below w.heap.size w W) => rsize_any x hsz N W v (hx.bel (h.mono hN)) (Nat.le_trans hN h.size))
 have hP := (fun W (h : Below w.heap.size w W) => rpart_any x hsz hl N W v (hx.bel (h.mono hN)) (Nat.le_trans hN h.size))
 obtain ⟨kx, rfl, hkx⟩ := hx
 obtain ⟨A, c, rfl⟩ := hkx.form
 obtain ⟨W0, hW0⟩ : ∃ W0, w.alloc (.cells #[.int .i64 x.kind, .string x.lab, .slice A x.kids.length c] 25) = W0 := ⟨_, rfl⟩
 obtain ⟨hb0, hz0, hbx, hkd⟩ := boxed_kids hW0 hkx hN
 have HB0 := Lib.hid hb0
 have HBX := Lib.hid hbx
 have HS := Lib.hid (fun W (h : Below W0.heap.size W0 W) => calls_base (hS W (hb0.trans (h.mono (by omega)))) h)
 have HP := Lib.hid (fun W (h : Below W0.heap.size W0 W) => calls_base (hP W (hb0.trans (h.mono (by omega)))) h)
 have hr := right_eq x
 generalize x.kind = kd at *
 generalize x.lab = lb at *
 generalize x.kids.length = n at *
 generalize x.sz = z at *
 generalize x.okB = p at *
 rw [hr]
 obtain ⟨d0, d1, d2⟩ := hbx W0 (Below.refl _ _)
 clear hr hbx hkd hS hP hb0 hz0 hkx
 by_cases hz : z ≤ 24
 ·have hzi : (z : Int) ≤ 24 := by omega
  rw [show (decide (z ≤ 24) && p) = p by rw [decide_eq_true hz]; rfl]
  clear hz
  go_enter Tryd.func46, Tryd.ntmps46
  go_upto_region 1 with (fail)
  try rw [hW0]
  go_wp2_with (first
   | (go_at_call 69; refine (HS.out _ (Below.refl _ _)).mono ?_; rintro e w1 ⟨rfl, h1⟩; have H1 := Lib.hid h1; obtain ⟨d0, d1, d2⟩ := HBX.out _ h1; clear h1)
   | (go_at_call 70; refine (HP.out _ H1.out).mono ?_; rintro e w2 ⟨rfl, h2⟩; have H2 := Lib.hid h2; clear h2))
  go_ret
  exact ⟨rfl, HB0.out.trans (H2.out.mono HB0.out.size)⟩
 ·have hzi : ¬ (z : Int) ≤ 24 := by omega
  rw [show (decide (z ≤ 24) && p) = false by rw [decide_eq_false hz]; rfl]
  clear hz
  go_enter Tryd.func46, Tryd.ntmps46
  go_upto_region 1 with (fail)
  try rw [hW0]
  go_wp2_with (go_at_call 69; refine (HS.out _ (Below.refl _ _)).mono ?_; rintro e w1 ⟨rfl, h1⟩; have H1 := Lib.hid h1; clear h1)
  go_ret
  exact ⟨rfl, HB0.out.trans (H1.out.mono HB0.out.size)⟩
end Go.Proofs.YtnccgaanfjaimaaDoor

namespace Go.Proofs.YtnccgaanfjaimaaDoor
open Go.ChangeShapes Go.WideShapes Go.ChangeAt Go.RowKit Go.Sort
set_option linter.unusedVariables false
set_option linter.unusedSimpArgs false

theorem parts9 : (Tryd.prog.info? 9).map (fun i => (i.zero, i.size, i.bytes)) = some (some (.string ⟨#[]⟩), 1, 16) := by kernel_rfl
theorem run_app_nil {P : Program} {w : World} (base : Nat) (t ty e : TypeId) (i : TypeInfo) (size : Nat) (ht : P.underlying t = some (.slice e)) (hi : P.info? e = some i) (v : Value) (n : Nat) (xs : List Value) (hown : w.ownsRow base e size v n xs) (c : Nat) :
  (Builtin.append_ #[t, t] ty #[v, .slice none 0 c]).run P w = .ok v w := by
 rcases hown.2 with ⟨rfl, rfl⟩ | ⟨g, cap, cur, rfl, _, _, hnc, _⟩
 ·simp [Builtin.append_, run_underlying ht, sizeOf, typeInfo, hi, Builtin.lenOf, Builtin.firstCells]
 ·simp [Builtin.append_, run_underlying ht, sizeOf, typeInfo, hi, Builtin.lenOf, Builtin.firstCells, hnc, storeCells]

theorem SR.news {B : Nat} {w : World} {ad : Addr} {n c : Nat} {l : Wd} (h : SR B w (.slice (some ad) n c) l) : ∀ j u, (l.map Value.string)[j]? = some u → w.cell? (ad.add j) = some u := by
 intro j u hu
 obtain ⟨A', c', e, hc⟩ := h
 have hj : j < l.length := by have := (List.getElem?_eq_some_iff.1 hu).1; simpa using this
 obtain ⟨ad', e2, _, hcell⟩ := hc (by omega)
 injection e with e3
 rw [e2] at e3
 injection e3 with e3
 subst e3
 rw [hcell j hj]
 simp [hj] at hu
 rw [hu]
theorem SR.len {B : Nat} {w : World} {A : Option Addr} {n c : Nat} {l : Wd} (h : SR B w (.slice A n c) l) : n = l.length := by
 obtain ⟨A', c', e, hc⟩ := h
 injection e
theorem SR.none {B : Nat} {w : World} {n c : Nat} {l : Wd} (h : SR B w (.slice none n c) l) : l = [] := by
 obtain ⟨A', c', e, hc⟩ := h
 rcases Nat.eq_zero_or_pos l.length with h0 | h0
 ·exact List.eq_nil_of_length_eq_zero h0
 ·obtain ⟨ad, e2, _⟩ := hc h0
  injection e with e3
  rw [e2] at e3
  cases e3

theorem run_app_sr {w : World} (ty : TypeId) (base : Nat) (v : Value) (n : Nat) (xs : List Value) (hown : w.ownsRow base 9 1 v n xs) {B : Nat} (A : Option Addr) (m c : Nat) (l : Wd) (hr : SR B w (.slice A m c) l) (hn : n + m ≤ 4398046511104) (hbase : base ≤ w.heap.size) :
  ∃ v' w', (Builtin.append_ #[41, 41] ty #[v, .slice A m c]).run Tryd.prog w = .ok v' w' ∧ w'.ownsRow base 9 1 v' (n + m) (xs ++ l.map Value.string) ∧ w.grownBy w' v.ownBlock ∧ (v'.ownBlock = v.ownBlock ∨ v'.ownBlock = some w.heap.size) := by
 obtain ⟨i9, hi9, hz9, hs9, hb9⟩ := info_parts parts9
 obtain rfl := hr.len
 cases A with
 | none =>
  obtain rfl := hr.none
  exact ⟨v, w, run_app_nil (P := Tryd.prog) base 41 ty 9 i9 1 Tryd.underlying41 hi9 v n xs hown c, by simpa using hown, ⟨rfl, rfl, rfl, Nat.le_refl _, fun _ _ _ => rfl⟩, .inl rfl⟩
 | some ad =>
  obtain ⟨v', w', hrun, h2, h3, h4, h5⟩ := run_append_own_at (P := Tryd.prog) w base 41 ty 9 i9 (.string ⟨#[]⟩) 1 16 Tryd.underlying41 hi9 hz9 hs9 hb9 rfl (by decide) v n xs hown ad l.length c (l.map Value.string) (by simp) hr.news (by simp [Value.oneCell']) (by unfold maxLen; omega) (by omega) hbase
  exact ⟨v', w', hrun, h2, h3, h5⟩

theorem wpList_append_sr {w : World} {ops : Array Oper} {rest : List Oper} {o : Oper} {a : Act} {Q : Exit → Act → World → Prop} (hgd : o.guard = none) (s x : Operand)
  (ho : o.op = .call { callee := .builtin .append, args := #[s, x], argTypes := #[41, 41] })
  (base : Nat) (v : Value) (n : Nat) (xs : List Value) (hs : a.eval s = v) (hown : w.ownsRow base 9 1 v n xs) {B : Nat} (A : Option Addr) (m c : Nat) (l : Wd) (hx : a.eval x = .slice A m c) (hr : SR B w (.slice A m c) l)
  (hn : n + m ≤ 4398046511104) (hbase : base ≤ w.heap.size)
  (h : ∀ v' w', w'.ownsRow base 9 1 v' (n + m) (xs ++ l.map Value.string) → w.grownBy w' v.ownBlock → (v'.ownBlock = v.ownBlock ∨ v'.ownBlock = some w.heap.size) → wpList Tryd.prog ops Q rest (a.put o.dst v') w') : wpList Tryd.prog ops Q (o :: rest) a w := by
 refine wpList_plain hgd fun K hK => ?_
 obtain ⟨v', w', hr2, h2, h3, h5⟩ := run_app_sr (w := w) o.type base v n xs hown A m c l hr hn hbase
 unfold Oper.wp execOp
 simp only [ho, resolve, invoke, builtin, Sem.run_bind, Sem.run_pure, Result.andThen_ok, List.map_toArray, List.map_cons, List.map_nil, hs, hx, hr2]
 exact hK _ _ (h v' w' h2 h3 h5)

theorem step_append_sr {w : World} {ops : Array Oper} {o : Oper} {a : Act} {K : Act → World → Prop} {Q : Exit → Act → World → Prop} {E : Prop} (hgd : o.guard = none) (s x : Operand)
  (ho : o.op = .call { callee := .builtin .append, args := #[s, x], argTypes := #[41, 41] })
  (base : Nat) (v : Value) (n : Nat) (xs : List Value) (hs : a.eval s = v) (hown : w.ownsRow base 9 1 v n xs) {B : Nat} (A : Option Addr) (m c : Nat) (l : Wd) (hx : a.eval x = .slice A m c) (hr : SR B w (.slice A m c) l)
  (hn : n + m ≤ 4398046511104) (hbase : base ≤ w.heap.size)
  (h : ∀ v' w', w'.ownsRow base 9 1 v' (n + m) (xs ++ l.map Value.string) → w.grownBy w' v.ownBlock → (v'.ownBlock = v.ownBlock ∨ v'.ownBlock = some w.heap.size) → K (a.put o.dst v') w') :
  if Region.wanted o (yielded ops a.tmps) = true then Oper.wp Tryd.prog o a w K Q else E := by
 have hw : Region.wanted o (yielded ops a.tmps) = true := by simp [Region.wanted, hgd]
 rw [if_pos hw]
 obtain ⟨v', w', hr2, h2, h3, h5⟩ := run_app_sr (w := w) o.type base v n xs hown A m c l hr hn hbase
 unfold Oper.wp execOp
 simp only [ho, resolve, invoke, builtin, Sem.run_bind, Sem.run_pure, Result.andThen_ok, List.map_toArray, List.map_cons, List.map_nil, hs, hx, hr2]
 exact h v' w' h2 h3 h5

/-- a row of its own, told as a row of texts -/
theorem own_SR2 {w : World} {base : Nat} {v : Value} {l : List ByteArray} (h : w.ownsRow base 9 1 v l.length (l.map Value.string)) : SR w.heap.size w v l ∧ ∀ A m c, v = .slice A m c → m ≤ c := by
 rcases h.2 with ⟨rfl, h0⟩ | ⟨g, cap, cur, rfl, hb, hg, h1, h2, h3, h4⟩
 ·exact ⟨⟨none, 0, by rw [h0], fun h => by omega⟩, fun A m c e => by injection e with _ e1 e2; omega⟩
 ·refine ⟨⟨_, cap, rfl, fun _ => ⟨⟨g, 0, none⟩, rfl, (Array.getElem?_eq_some_iff.1 hg).1, fun k hk => ?_⟩⟩, fun A m c e => by injection e with _ e1 e2; omega⟩
  have e : (cur.toList.take (l.length * 1))[k]? = (l.map Value.string)[k]? := by rw [h4]
  rw [List.getElem?_take_of_lt (by omega)] at e
  have e2 : cur[k]? = some (.string l[k]) := by rw [← Array.getElem?_toList, e]; simp [hk]
  have := cell_of_row w g k cur 9 _ hg
  have e3 : (⟨g, 0, none⟩ : Addr).add k = ⟨g, k, none⟩ := by
   unfold Addr.add
   split
   ·next h0 => subst h0; rfl
   ·simp
  rw [e3, this]
  exact e2
theorem own_lit (W : World) (s : ByteArray) {base : Nat} (hb : base ≤ W.heap.size) : (W.alloc (.cells #[.string s] 9)).ownsRow base 9 1 (.slice (some ⟨W.heap.size, 0, none⟩) 1 1) 1 [.string s] :=
 ⟨rfl, .inr ⟨W.heap.size, 1, #[.string s], rfl, hb, at_push _ _, Nat.le_refl _, by unfold maxLen; omega, rfl, rfl⟩⟩

end Go.Proofs.YtnccgaanfjaimaaDoor

namespace Go.Proofs.YtnccgaanfjaimaaDoor
open Go.ChangeShapes Go.WideShapes Go.ChangeAt Go.RowKit
set_option linter.unusedVariables false
set_option linter.unusedSimpArgs false

theorem at_zero8 (g j : Nat) : (⟨g, 0, none⟩ : Addr).add j = ⟨g, j, none⟩ := by
 unfold Addr.add
 split
 ·rename_i h; subst h; rfl
 ·simp
theorem row_cells8 {W : World} {g : Nat} {l : List Value} {t : TypeId} {fr : Nat × Nat} (h : W.heap[g]? = some (.cells l.toArray t fr)) : ∀ j u, l[j]? = some u → W.cell? ((⟨g, 0, none⟩ : Addr).add j) = some u := by
 intro j u hu
 rw [at_zero8, cell_of_row _ _ _ _ _ _ h]
 simpa using hu
theorem frz8 {W : World} {g : Nat} {a : Array Value} {t : TypeId} (h : W.heap[g]? = some (.cells a t (0, 0))) (k : Nat) : W.frozen? ⟨g, k, none⟩ = false := by simp [World.frozen?, h]
theorem Kn.set_new {w W : World} {B r k : Nat} (h : Kn B w W) (hr : w.heap.size ≤ r) (hB : B ≤ r) (v : Value) : Kn B w (W.setCell ⟨r, k, none⟩ v) := by
 refine ⟨h.os, h.tape, h.output, by simpa using h.size, fun j hj => (Below.heap_setCell _ _ _ _ (by show j ≠ r; omega)).trans (h.low j hj), fun j v' t' fr' hj h1 h2 h3 => (Below.heap_setCell _ _ _ _ (fun e => ?_)).trans (h.cells j v' t' fr' hj h1 h2 h3)⟩
 obtain rfl : j = r := e
 have := (Array.getElem?_eq_some_iff.1 hj).1
 omega
theorem NfB.ne {w : World} {B N r : Nat} {sv lv : Value} {s : NS} {la : Nat} {em : Bool} {a : Array Value} {t : TypeId} {fr : Nat × Nat} (h : NfB w B N sv lv s la em) (hr : w.heap[r]? = some (.cells a t fr)) (ht : t ≠ 72) : r ≠ N := by
 rintro rfl
 rw [h.blk] at hr
 injection hr with hr
 injection hr with _ hr _
 exact ht hr.symm
theorem row_ne {w : World} {B e sz n r : Nat} {v : Value} {xs : List Value} {a : Array Value} {t : TypeId} {fr : Nat × Nat} (h : w.ownsRow B e sz v n xs) (hr : w.heap[r]? = some (.cells a t fr)) (ht : t ≠ e) : v.ownBlock ≠ some r := by
 intro e'
 rcases h.2 with ⟨he, _⟩ | ⟨g, cap, cur, he, _, hgg, _⟩
 ·rw [he] at e'; cases e'
 ·rw [he] at e'
  injection e' with e'
  subst e'
  rw [hr] at hgg
  injection hgg with hgg
  injection hgg with _ hgg _
  exact ht hgg
theorem NfB.other {w : World} {B N r k : Nat} {sv lv : Value} {s : NS} {la : Nat} {em : Bool} {a : Array Value} {t : TypeId} {fr : Nat × Nat} (h : NfB w B N sv lv s la em) (hr : w.heap[r]? = some (.cells a t fr)) (ht : t ≠ 72) (ht9 : t ≠ 9) (v : Value) : NfB (w.setCell ⟨r, k, none⟩ v) B N sv lv s la em :=
 ⟨(Below.heap_setCell _ _ _ _ (h.ne hr ht).symm).trans h.blk, ownsRow_setCell_other h.row (a := ⟨r, k, none⟩) (row_ne h.row hr ht9) v, h.low, h.pos⟩
theorem Kn.grownL {B n : Nat} {X Y : World} {v : Value} {xs : List Value} (h : X.grownBy Y v.ownBlock) (hr : X.ownsRow B 9 1 v n xs) (hB : B ≤ X.heap.size) : Kn B X Y := by
 refine ⟨h.os, h.tape, h.output, h.size, fun k hk => ?_, fun k v' t fr hk h1 h2 _ => (h.block k (Array.getElem?_eq_some_iff.1 hk).1 fun e => row_ne hr hk h2 e.symm).trans hk⟩
 exact h.block k (by omega) fun e => by have := (hr.lt k e.symm).1; omega
theorem NfB.appended {W w11 : World} {B N : Nat} {sv lv v' : Value} {s : NS} {la : Nat} {em : Bool} {l : ByteArray} (h : NfB W B N sv lv s la em) (hB : B ≤ W.heap.size) (hown' : w11.ownsRow B 9 1 v' (s.labs.length + 1) (s.labs.map Value.string ++ [.string l])) (hg : W.grownBy w11 lv.ownBlock) :
  w11.cell? ⟨N, 1, none⟩ = some lv ∧ w11.frozen? ⟨N, 1, none⟩ = false ∧ NfB (w11.setCell ⟨N, 1, none⟩ v') B N sv v' ⟨s.labs ++ [l], s.fol⟩ la em ∧ Kn B W (w11.setCell ⟨N, 1, none⟩ v') := by
 have hb : w11.heap[N]? = some (.cells (nfC sv lv s.fol la em).toArray 72 (0, 0)) := (hg.block N h.lt fun e => row_ne h.row h.blk (by decide) e.symm).trans h.blk
 refine ⟨?_, by simp [World.frozen?, hb], ⟨?_, ?_, h.low, h.pos⟩, ?_⟩
 ·rw [cell_of_row _ _ _ _ _ _ hb, List.getElem?_toArray]; rfl
 ·rw [heap_set hb]; rfl
 ·simp only [List.length_append, List.length_singleton, List.map_append, List.map_cons, List.map_nil]
  exact ownsRow_setCell_other hown' (a := ⟨N, 1, none⟩) (row_ne hown' hb (by decide)) v'
 ·exact (Kn.grownL hg h.row hB).trans (Kn.set hb (.inl rfl) h.low _)

set_option maxRecDepth 100000 in
set_option maxHeartbeats 4000000 in
theorem addLabel_any {w : World} {B N : Nat} {sv lv : Value} {s : NS} {la : Nat} {em : Bool} {l : ByteArray} (h : NfB w B N sv lv s la em) (hBw : B ≤ w.heap.size) (hl : l.size ≤ 140737488355328) (hn : s.labs.length < 32) :
  Calls Tryd.prog 66 #[.pointer (some ⟨N, 0, none⟩), .string l] w fun e w' => ∃ lv', e = .returned (.agg #[.int .u32 ((2 ^ s.labs.length : Nat) : Int), .int .u32 ((2 ^ s.labs.length : Nat) : Int)]) ∧ NfB w' B N sv lv' ⟨s.labs ++ [l], s.fol⟩ la em ∧ Kn B w w' := by
 obtain ⟨i9, hi9, hz9, hs9, hb9⟩ := info_parts parts9
 have hb1 : Below w.heap.size w (w.alloc (.cells #[.int .u32 0, .int .u32 0] 74)) := (Below.refl _ w).alloc (Nat.le_refl _) _
 have H := Lib.hid h
 obtain ⟨A, c, elv⟩ := row_form h.row
 have hc1 : w.cell? ⟨N, 1, none⟩ = some lv := by rw [cell_of_row _ _ _ _ _ _ h.blk, List.getElem?_toArray]; rfl
 have hc2 : (w.alloc (.cells #[.int .u32 0, .int .u32 0] 74)).cell? ⟨N, 1, none⟩ = some lv := (hb1.cell (p := ⟨N, 1, none⟩) h.lt).trans hc1
 subst elv
 have HB1 := Lib.hid hb1
 obtain ⟨k, hk⟩ : ∃ k, s.labs.length = k := ⟨_, rfl⟩
 have HK := Lib.hid hk
 rw [hk] at hc1 hc2 hn ⊢
 have honly := fun W => only_any k hn W
 obtain ⟨pw, hpw⟩ : ∃ x : Nat, 2 ^ k = x := ⟨_, rfl⟩
 rw [hpw] at honly ⊢
 have HONLY := Lib.hid honly
 clear hpw honly
 clear h hb1 hc1 hk
 go_enter Tryd.func66, Tryd.ntmps66
 go_upto_region 2 with (fail)
 have hx := at_push w (.cells #[.int .u32 0, .int .u32 0] 74)
 obtain ⟨W0, hW0⟩ : ∃ x, w.alloc (.cells #[.int .u32 0, .int .u32 0] 74) = x := ⟨_, rfl⟩
 rw [hW0] at hx hc2 HB1 ⊢
 clear hW0
 have HX := Lib.hid hx
 have hB0 : B ≤ W0.heap.size := Nat.le_trans hBw HB1.out.size
 have HN0 := Lib.hid (H.out.bel HB1.out)
 rw [HK.out] at HN0
 obtain ⟨lv, hlv⟩ : ∃ x, Value.slice A k c = x := ⟨_, rfl⟩
 rw [hlv] at HN0 hc2 ⊢
 have HN := Lib.hid (fun W (hW : Below W0.heap.size W0 W) => HN0.out.bel hW)
 have HC := Lib.hid (fun W (hW : Below W0.heap.size W0 W) => show W.cell? ⟨N, 1, none⟩ = some lv from (hW.cell (p := ⟨N, 1, none⟩) HN0.out.lt).trans hc2)
 have HO := Lib.hid (fun W (hW : Below W0.heap.size W0 W) => (HN.out W hW).row)
 clear hc2 hx hlv
 obtain ⟨r0, hr0⟩ : ∃ x, W0.drew = x := ⟨_, rfl⟩
 have P0 := Lib.hid (show Below W0.heap.size W0 r0 by rw [← hr0]; exact (Below.refl _ W0).drew)
 refine wp_region_noPanic ?_
 refine wp_region_held_drew (S := fun _ => True) (by kernel_rfl) trivial (fun hHeld => ?_)
 clear hHeld
 rw [hr0]
 clear hr0
 refine tkI (i := 0) (v := .pointer (some ⟨N, 0, none⟩)) rfl ⟨by rfl, ?_⟩ trivial ?_
 ·intro w hSw
  go_simp
 try simp only [Act.put, z1, z2, z3, z4, z5, z6]
 refine tkI (i := 1) (v := .pointer (some ⟨N, 0, none⟩)) rfl ⟨by rfl, ?_⟩ trivial ?_
 ·intro w hSw
  go_simp
 try simp only [Act.put, z1, z2, z3, z4, z5, z6]
 refine tkI (i := 2) (v := .pointer (some ⟨N, 0, none⟩)) rfl ⟨by rfl, ?_⟩ trivial ?_
 ·intro w hSw
  go_simp
 try simp only [Act.put, z1, z2, z3, z4, z5, z6]
 refine tkI (i := 3) (v := .pointer (some ⟨N, 1, none⟩)) rfl ⟨by rfl, ?_⟩ trivial ?_
 ·intro w hSw
  go_simp
 try simp only [Act.put, z1, z2, z3, z4, z5, z6]
 refine tkI (i := 5) (v := .string l) rfl ⟨by rfl, ?_⟩ trivial ?_
 ·intro w hSw
  go_simp
 try simp only [Act.put, z1, z2, z3, z4, z5, z6]
 refine wpAnyH_ready (rs := [4, 6]) (by kernel_rfl) (by simp) ?_
 refine AllReadyH.cons rfl (fun K hK => ?_) (AllReadyH.cons rfl (fun K hK => ?_) (AllReadyH.nil))
 ·have q1 := HC.out _ P0.out
  go_simp
  clear q1
  refine hK.out _ _ trivial (fun _ => ?_)
  clear hK
  try simp only [Act.put, z1, z2, z3, z4, z5, z6]
  have P1 := P0
  obtain ⟨r1, hr1⟩ : ∃ x, r0 = x := ⟨_, rfl⟩
  rw [hr1] at P1 ⊢
  clear hr1
  refine wpAnyH_ready (rs := [6]) (by kernel_rfl) (by simp) ?_
  refine AllReadyH.cons rfl (fun K hK => ?_) (AllReadyH.nil)
  go_simp
  refine (clone_any l _ hl).mono ?_
  rintro e r2 ⟨rfl, hg⟩
  have P2 := Lib.hid (P1.out.trans (hg.mono P1.out.size))
  clear hg
  refine hK.out _ _ trivial (fun _ => ?_)
  clear hK
  try simp only [Act.put, z1, z2, z3, z4, z5, z6]
  refine wpAnyH_ready (rs := [7]) (by kernel_rfl) (by simp) ?_
  refine AllReadyH.cons rfl (fun K hK => ?_) (AllReadyH.nil)
  go_simp
  refine hK.out _ _ trivial (fun _ => ?_)
  clear hK
  try simp only [Act.put, z1, z2, z3, z4, z5, z6]
  obtain ⟨r3, hr3⟩ : ∃ x, r2.alloc (.cells #[.string l] 9) = x := ⟨_, rfl⟩
  obtain ⟨g, hg0⟩ : ∃ x, r2.heap.size = x := ⟨_, rfl⟩
  have FG := Lib.hid (show r3.heap[g]? = some (.cells #[.string l] 9 (0, 0)) by rw [← hr3, ← hg0]; exact at_push _ _)
  have P3 := Lib.hid (show Below W0.heap.size W0 r3 by rw [← hr3]; exact P2.out.alloc P2.out.size _)
  rw [hr3, hg0]
  clear hr3 hg0
  refine wpAnyH_ready (rs := [8]) (by kernel_rfl) (by simp) ?_
  refine AllReadyH.cons rfl (fun K hK => ?_) (AllReadyH.nil)
  have hown := HO.out _ P3.out
  refine step_append_own rfl (.tmp 15) (.tmp 18) rfl (base := B) Tryd.underlying41 hi9 hz9 hs9 hb9 rfl (by decide) (v := lv) (by simp [Act.eval]) hown (ad := ⟨g, 0, none⟩) (m := 1) (c := 1) (news := [.string l]) (by simp [Act.eval]) rfl (row_cells8 FG.out) (by simp [Value.oneCell']) (by have := HK.out; unfold maxLen; omega) (by have := HK.out; omega) (Nat.le_trans hB0 P3.out.size) ?_
  intro v' w6 hown' hgrow' hat'
  obtain ⟨A6, c6, e6⟩ := row_form hown'
  subst e6
  have FIN := Lib.hid (NfB.appended (HN.out _ P3.out) (Nat.le_trans hB0 P3.out.size) hown' hgrow')
  have PX := P3
  clear hown hown' hgrow' hat'
  refine hK.out _ _ trivial (fun _ => ?_)
  clear hK
  try simp only [Act.put, z1, z2, z3, z4, z5, z6]
  refine tkI (i := 9) (v := .pointer (some ⟨N, 0, none⟩)) rfl ⟨by rfl, ?_⟩ trivial ?_
  ·intro w hSw
   go_simp
  try simp only [Act.put, z1, z2, z3, z4, z5, z6]
  refine tkI (i := 10) (v := .pointer (some ⟨N, 1, none⟩)) rfl ⟨by rfl, ?_⟩ trivial ?_
  ·intro w hSw
   go_simp
  try simp only [Act.put, z1, z2, z3, z4, z5, z6]
  refine wpAnyH_ready (rs := [11]) (by kernel_rfl) (by simp) ?_
  refine AllReadyH.cons rfl (fun K hK => ?_) (AllReadyH.nil)
  obtain ⟨q0, q1, -, -⟩ := FIN.out
  go_simp
  refine hK.out _ _ trivial (fun _ => ?_)
  clear hK q0 q1
  try simp only [Act.put, z1, z2, z3, z4, z5, z6]
  refine ⟨by kernel_rfl, ?_⟩
  refine NoPanic.normal ?_
  obtain ⟨-, -, f3, f4⟩ := FIN.out
  have hkk := (Kn.of_below PX.out hB0).trans f4
  have hxb := hkk.cells _ _ _ _ HX.out (by decide) (by decide) (by decide)
  have hk0 := (Kn.of_below HB1.out hBw).trans hkk
  obtain ⟨wz, hwz⟩ : ∃ x, w6.setCell ⟨N, 1, none⟩ (.slice A6 (s.labs.length + 1) c6) = x := ⟨_, rfl⟩
  rw [hwz] at f3 hxb hk0 ⊢
  have R := Lib.hid (And.intro f3 (And.intro hxb hk0))
  have c0 := cell_of_row _ _ 0 _ 74 (0, 0) hxb
  have c1 := cell_of_row _ _ 1 _ 74 (0, 0) hxb
  have d0 := frz8 hxb 0
  have d1 := frz8 hxb 1
  simp only [List.getElem?_toArray, List.getElem?_cons_zero, List.getElem?_cons_succ] at c0 c1
  clear f3 f4 hkk hxb hk0 hwz
  go_wp2_with (go_at_call 45; refine (HONLY.out _).mono ?_; rintro e w1 ⟨rfl, rfl⟩)
  have h0 := heap_set (k := 0) R.out.2.1 (.int .u32 (pw : Int))
  have h1 := heap_set (k := 1) h0 (.int .u32 (pw : Int))
  have e0 := cell_of_row _ _ 0 _ 74 (0, 0) h1
  have e1 := cell_of_row _ _ 1 _ 74 (0, 0) h1
  simp only [List.getElem?_toArray, List.set_cons_zero, List.set_cons_succ, List.getElem?_cons_zero, List.getElem?_cons_succ] at e0 e1
  try simp only [Exit.inBlock, Exit.then]
  refine bodyPost_ret (v := .agg #[.int .u32 (pw : Int), .int .u32 (pw : Int)]) (by simp [results, Tryd.results66, go_sem, e0, e1]) rfl ?_
  have h2 := (R.out.1.other (k := 0) R.out.2.1 (by decide) (by decide) (.int .u32 (pw : Int))).other (k := 1) h0 (by decide) (by decide) (.int .u32 (pw : Int))
  exact ⟨_, rfl, h2, (R.out.2.2.set_new (Nat.le_refl _) hBw _).set_new (Nat.le_refl _) hBw _⟩
 ·go_simp
  refine (clone_any l _ hl).mono ?_
  rintro e r1 ⟨rfl, hg⟩
  have P1 := Lib.hid (P0.out.trans (hg.mono P0.out.size))
  clear hg
  refine hK.out _ _ trivial (fun _ => ?_)
  clear hK
  try simp only [Act.put, z1, z2, z3, z4, z5, z6]
  refine wpAnyH_ready (rs := [4, 7]) (by kernel_rfl) (by simp) ?_
  refine AllReadyH.cons rfl (fun K hK => ?_) (AllReadyH.cons rfl (fun K hK => ?_) (AllReadyH.nil))
  ·have q1 := HC.out _ P1.out
   go_simp
   clear q1
   refine hK.out _ _ trivial (fun _ => ?_)
   clear hK
   try simp only [Act.put, z1, z2, z3, z4, z5, z6]
   have P2 := P1
   obtain ⟨r2, hr2⟩ : ∃ x, r1 = x := ⟨_, rfl⟩
   rw [hr2] at P2 ⊢
   clear hr2
   refine wpAnyH_ready (rs := [7]) (by kernel_rfl) (by simp) ?_
   refine AllReadyH.cons rfl (fun K hK => ?_) (AllReadyH.nil)
   go_simp
   refine hK.out _ _ trivial (fun _ => ?_)
   clear hK
   try simp only [Act.put, z1, z2, z3, z4, z5, z6]
   obtain ⟨r3, hr3⟩ : ∃ x, r2.alloc (.cells #[.string l] 9) = x := ⟨_, rfl⟩
   obtain ⟨g, hg0⟩ : ∃ x, r2.heap.size = x := ⟨_, rfl⟩
   have FG := Lib.hid (show r3.heap[g]? = some (.cells #[.string l] 9 (0, 0)) by rw [← hr3, ← hg0]; exact at_push _ _)
   have P3 := Lib.hid (show Below W0.heap.size W0 r3 by rw [← hr3]; exact P2.out.alloc P2.out.size _)
   rw [hr3, hg0]
   clear hr3 hg0
   refine wpAnyH_ready (rs := [8]) (by kernel_rfl) (by simp) ?_
   refine AllReadyH.cons rfl (fun K hK => ?_) (AllReadyH.nil)
   have hown := HO.out _ P3.out
   refine step_append_own rfl (.tmp 15) (.tmp 18) rfl (base := B) Tryd.underlying41 hi9 hz9 hs9 hb9 rfl (by decide) (v := lv) (by simp [Act.eval]) hown (ad := ⟨g, 0, none⟩) (m := 1) (c := 1) (news := [.string l]) (by simp [Act.eval]) rfl (row_cells8 FG.out) (by simp [Value.oneCell']) (by have := HK.out; unfold maxLen; omega) (by have := HK.out; omega) (Nat.le_trans hB0 P3.out.size) ?_
   intro v' w6 hown' hgrow' hat'
   obtain ⟨A6, c6, e6⟩ := row_form hown'
   subst e6
   have FIN := Lib.hid (NfB.appended (HN.out _ P3.out) (Nat.le_trans hB0 P3.out.size) hown' hgrow')
   have PX := P3
   clear hown hown' hgrow' hat'
   refine hK.out _ _ trivial (fun _ => ?_)
   clear hK
   try simp only [Act.put, z1, z2, z3, z4, z5, z6]
   refine tkI (i := 9) (v := .pointer (some ⟨N, 0, none⟩)) rfl ⟨by rfl, ?_⟩ trivial ?_
   ·intro w hSw
    go_simp
   try simp only [Act.put, z1, z2, z3, z4, z5, z6]
   refine tkI (i := 10) (v := .pointer (some ⟨N, 1, none⟩)) rfl ⟨by rfl, ?_⟩ trivial ?_
   ·intro w hSw
    go_simp
   try simp only [Act.put, z1, z2, z3, z4, z5, z6]
   refine wpAnyH_ready (rs := [11]) (by kernel_rfl) (by simp) ?_
   refine AllReadyH.cons rfl (fun K hK => ?_) (AllReadyH.nil)
   obtain ⟨q0, q1, -, -⟩ := FIN.out
   go_simp
   refine hK.out _ _ trivial (fun _ => ?_)
   clear hK q0 q1
   try simp only [Act.put, z1, z2, z3, z4, z5, z6]
   refine ⟨by kernel_rfl, ?_⟩
   refine NoPanic.normal ?_
   obtain ⟨-, -, f3, f4⟩ := FIN.out
   have hkk := (Kn.of_below PX.out hB0).trans f4
   have hxb := hkk.cells _ _ _ _ HX.out (by decide) (by decide) (by decide)
   have hk0 := (Kn.of_below HB1.out hBw).trans hkk
   obtain ⟨wz, hwz⟩ : ∃ x, w6.setCell ⟨N, 1, none⟩ (.slice A6 (s.labs.length + 1) c6) = x := ⟨_, rfl⟩
   rw [hwz] at f3 hxb hk0 ⊢
   have R := Lib.hid (And.intro f3 (And.intro hxb hk0))
   have c0 := cell_of_row _ _ 0 _ 74 (0, 0) hxb
   have c1 := cell_of_row _ _ 1 _ 74 (0, 0) hxb
   have d0 := frz8 hxb 0
   have d1 := frz8 hxb 1
   simp only [List.getElem?_toArray, List.getElem?_cons_zero, List.getElem?_cons_succ] at c0 c1
   clear f3 f4 hkk hxb hk0 hwz
   go_wp2_with (go_at_call 45; refine (HONLY.out _).mono ?_; rintro e w1 ⟨rfl, rfl⟩)
   have h0 := heap_set (k := 0) R.out.2.1 (.int .u32 (pw : Int))
   have h1 := heap_set (k := 1) h0 (.int .u32 (pw : Int))
   have e0 := cell_of_row _ _ 0 _ 74 (0, 0) h1
   have e1 := cell_of_row _ _ 1 _ 74 (0, 0) h1
   simp only [List.getElem?_toArray, List.set_cons_zero, List.set_cons_succ, List.getElem?_cons_zero, List.getElem?_cons_succ] at e0 e1
   try simp only [Exit.inBlock, Exit.then]
   refine bodyPost_ret (v := .agg #[.int .u32 (pw : Int), .int .u32 (pw : Int)]) (by simp [results, Tryd.results66, go_sem, e0, e1]) rfl ?_
   have h2 := (R.out.1.other (k := 0) R.out.2.1 (by decide) (by decide) (.int .u32 (pw : Int))).other (k := 1) h0 (by decide) (by decide) (.int .u32 (pw : Int))
   exact ⟨_, rfl, h2, (R.out.2.2.set_new (Nat.le_refl _) hBw _).set_new (Nat.le_refl _) hBw _⟩
  ·go_simp
   refine hK.out _ _ trivial (fun _ => ?_)
   clear hK
   try simp only [Act.put, z1, z2, z3, z4, z5, z6]
   obtain ⟨r2, hr2⟩ : ∃ x, r1.alloc (.cells #[.string l] 9) = x := ⟨_, rfl⟩
   obtain ⟨g, hg0⟩ : ∃ x, r1.heap.size = x := ⟨_, rfl⟩
   have FG := Lib.hid (show r2.heap[g]? = some (.cells #[.string l] 9 (0, 0)) by rw [← hr2, ← hg0]; exact at_push _ _)
   have P2 := Lib.hid (show Below W0.heap.size W0 r2 by rw [← hr2]; exact P1.out.alloc P1.out.size _)
   rw [hr2, hg0]
   clear hr2 hg0
   refine wpAnyH_ready (rs := [4]) (by kernel_rfl) (by simp) ?_
   refine AllReadyH.cons rfl (fun K hK => ?_) (AllReadyH.nil)
   have q1 := HC.out _ P2.out
   go_simp
   clear q1
   refine hK.out _ _ trivial (fun _ => ?_)
   clear hK
   try simp only [Act.put, z1, z2, z3, z4, z5, z6]
   have P3 := P2
   obtain ⟨r3, hr3⟩ : ∃ x, r2 = x := ⟨_, rfl⟩
   rw [hr3] at P3 FG ⊢
   clear hr3
   refine wpAnyH_ready (rs := [8]) (by kernel_rfl) (by simp) ?_
   refine AllReadyH.cons rfl (fun K hK => ?_) (AllReadyH.nil)
   have hown := HO.out _ P3.out
   refine step_append_own rfl (.tmp 15) (.tmp 18) rfl (base := B) Tryd.underlying41 hi9 hz9 hs9 hb9 rfl (by decide) (v := lv) (by simp [Act.eval]) hown (ad := ⟨g, 0, none⟩) (m := 1) (c := 1) (news := [.string l]) (by simp [Act.eval]) rfl (row_cells8 FG.out) (by simp [Value.oneCell']) (by have := HK.out; unfold maxLen; omega) (by have := HK.out; omega) (Nat.le_trans hB0 P3.out.size) ?_
   intro v' w6 hown' hgrow' hat'
   obtain ⟨A6, c6, e6⟩ := row_form hown'
   subst e6
   have FIN := Lib.hid (NfB.appended (HN.out _ P3.out) (Nat.le_trans hB0 P3.out.size) hown' hgrow')
   have PX := P3
   clear hown hown' hgrow' hat'
   refine hK.out _ _ trivial (fun _ => ?_)
   clear hK
   try simp only [Act.put, z1, z2, z3, z4, z5, z6]
   refine tkI (i := 9) (v := .pointer (some ⟨N, 0, none⟩)) rfl ⟨by rfl, ?_⟩ trivial ?_
   ·intro w hSw
    go_simp
   try simp only [Act.put, z1, z2, z3, z4, z5, z6]
   refine tkI (i := 10) (v := .pointer (some ⟨N, 1, none⟩)) rfl ⟨by rfl, ?_⟩ trivial ?_
   ·intro w hSw
    go_simp
   try simp only [Act.put, z1, z2, z3, z4, z5, z6]
   refine wpAnyH_ready (rs := [11]) (by kernel_rfl) (by simp) ?_
   refine AllReadyH.cons rfl (fun K hK => ?_) (AllReadyH.nil)
   obtain ⟨q0, q1, -, -⟩ := FIN.out
   go_simp
   refine hK.out _ _ trivial (fun _ => ?_)
   clear hK q0 q1
   try simp only [Act.put, z1, z2, z3, z4, z5, z6]
   refine ⟨by kernel_rfl, ?_⟩
   refine NoPanic.normal ?_
   obtain ⟨-, -, f3, f4⟩ := FIN.out
   have hkk := (Kn.of_below PX.out hB0).trans f4
   have hxb := hkk.cells _ _ _ _ HX.out (by decide) (by decide) (by decide)
   have hk0 := (Kn.of_below HB1.out hBw).trans hkk
   obtain ⟨wz, hwz⟩ : ∃ x, w6.setCell ⟨N, 1, none⟩ (.slice A6 (s.labs.length + 1) c6) = x := ⟨_, rfl⟩
   rw [hwz] at f3 hxb hk0 ⊢
   have R := Lib.hid (And.intro f3 (And.intro hxb hk0))
   have c0 := cell_of_row _ _ 0 _ 74 (0, 0) hxb
   have c1 := cell_of_row _ _ 1 _ 74 (0, 0) hxb
   have d0 := frz8 hxb 0
   have d1 := frz8 hxb 1
   simp only [List.getElem?_toArray, List.getElem?_cons_zero, List.getElem?_cons_succ] at c0 c1
   clear f3 f4 hkk hxb hk0 hwz
   go_wp2_with (go_at_call 45; refine (HONLY.out _).mono ?_; rintro e w1 ⟨rfl, rfl⟩)
   have h0 := heap_set (k := 0) R.out.2.1 (.int .u32 (pw : Int))
   have h1 := heap_set (k := 1) h0 (.int .u32 (pw : Int))
   have e0 := cell_of_row _ _ 0 _ 74 (0, 0) h1
   have e1 := cell_of_row _ _ 1 _ 74 (0, 0) h1
   simp only [List.getElem?_toArray, List.set_cons_zero, List.set_cons_succ, List.getElem?_cons_zero, List.getElem?_cons_succ] at e0 e1
   try simp only [Exit.inBlock, Exit.then]
   refine bodyPost_ret (v := .agg #[.int .u32 (pw : Int), .int .u32 (pw : Int)]) (by simp [results, Tryd.results66, go_sem, e0, e1]) rfl ?_
   have h2 := (R.out.1.other (k := 0) R.out.2.1 (by decide) (by decide) (.int .u32 (pw : Int))).other (k := 1) h0 (by decide) (by decide) (.int .u32 (pw : Int))
   exact ⟨_, rfl, h2, (R.out.2.2.set_new (Nat.le_refl _) hBw _).set_new (Nat.le_refl _) hBw _⟩
end Go.Proofs.YtnccgaanfjaimaaDoor

namespace Go.Proofs.YtnccgaanfjaimaaDoor
open Go.ChangeShapes Go.WideShapes Go.ChangeAt Go.RowKit
set_option linter.unusedVariables false
set_option linter.unusedSimpArgs false

/-- the Nfa of an expression -/
def NfX (w : World) (B N : Nat) (x : X) : Prop := ∃ lv, NfB w B N (.pointer (some ⟨N, 0, none⟩)) lv ⟨(nf x).1.labs, nfF x⟩ (nfL x) x.emp
theorem NfX.bel {w w' : World} {B N : Nat} {x : X} (h : NfX w B N x) (hb : Below w.heap.size w w') : NfX w' B N x := let ⟨lv, h⟩ := h; ⟨lv, h.bel hb⟩
theorem NfX.rel {w w' : World} {B C N : Nat} {x : X} (h : NfX w B N x) (hr : Rel C w w') : NfX w' B N x := let ⟨lv, h⟩ := h; ⟨lv, h.rel hr⟩
theorem labs_len (x : X) : (nf x).1.labs.length = x.pn + 1 := by rw [nf_labs]; rfl
/-- a position's label -/
def labP (x : X) (p : Int) : ByteArray := if 0 < p ∧ p ≤ x.pn then (nf x).1.labs[p.toNat]?.getD ⟨#[]⟩ else ⟨#[]⟩
/-- what follows it -/
def folP (x : X) (p : Int) : List Nat := if 0 < p ∧ p ≤ x.pn then els (nfF x p.toNat) else []

/-- what is read of it -/
theorem NfX.facts {w : World} {B N : Nat} {x : X} (h : NfX w B N x) : ∃ ad c, w.cell? ⟨N, 0, none⟩ = some (.pointer (some ⟨N, 0, none⟩)) ∧ w.cell? ⟨N, 1, none⟩ = some (.slice (some ad) ((x.pn + 1 : Nat) : Int).toNat c) ∧ (∀ p, p < 25 → w.cell? ⟨N, 2 + p, none⟩ = some (.int .u32 (nfF x p))) ∧
  w.cell? ⟨N, 27, none⟩ = some (.int .u32 (nfL x)) ∧ w.cell? ⟨N, 28, none⟩ = some (.bool x.emp) ∧ (∀ p, p < x.pn + 1 → w.cell? (ad.add p) = some (.string ((nf x).1.labs[p]?.getD ⟨#[]⟩))) ∧ ad.block < w.heap.size ∧ B ≤ ad.block := by
 obtain ⟨lv, h⟩ := h
 have hr := h.row
 rcases hr.2 with ⟨he, h0⟩ | ⟨g, cap, cur, rfl, hbg, hgg, _⟩
 ·rw [labs_len] at h0; omega
 ·refine ⟨⟨g, 0, none⟩, cap, ?_, ?_, fun p hp => h.fol hp, ?_, ?_, fun p hp => ?_, (Array.getElem?_eq_some_iff.1 hgg).1, hbg⟩
  ·rw [cell_of_row _ _ _ _ _ _ h.blk, List.getElem?_toArray]; rfl
  ·rw [cell_of_row _ _ _ _ _ _ h.blk, List.getElem?_toArray]
   show some (Value.slice (some ⟨g, 0, none⟩) (nf x).1.labs.length cap) = _
   rw [labs_len]; rfl
  ·rw [cell_of_row _ _ _ _ _ _ h.blk, List.getElem?_toArray]; rfl
  ·rw [cell_of_row _ _ _ _ _ _ h.blk, List.getElem?_toArray]; rfl
  ·refine hr.cells (g := g) rfl p _ ?_
   rw [List.getElem?_map, List.getElem?_eq_getElem (by rw [labs_len]; exact hp)]
   rfl

theorem info72 : ∃ j, Tryd.prog.info? 72 = some j := by
 have : (Tryd.prog.info? 72).isSome = true := by kernel_rfl
 exact Option.isSome_iff_exists.1 this
theorem same29 (w : World) (a : Addr) : (binOp .eql 29 (.pointer (some a)) (.pointer (some a))).run Tryd.prog w = .ok (.bool true) w := by
 obtain ⟨j, hj⟩ := info72
 exact run_eql_ptr_same w a Tryd.underlying29 hj

set_option maxRecDepth 100000 in
theorem made_any {w : World} {B N : Nat} {x : X} (h : NfX w B N x) : Calls Tryd.prog 52 #[.pointer (some ⟨N, 0, none⟩)] w fun e w' => e = .returned (.bool true) ∧ w = w' := by
 obtain ⟨ad, c, h0, h1, h2, h3, h4, h5, -⟩ := h.facts
 have hs := fun W => same29 W ⟨N, 0, none⟩
 clear h h2 h5
 go_enter Tryd.func52, Tryd.ntmps52
 go_wp2
 go_ret
 exact ⟨rfl, rfl⟩
theorem len_any {w : World} {B N : Nat} {x : X} (h : NfX w B N x) (hp : x.pn ≤ 1000) : Calls Tryd.prog 16 #[.pointer (some ⟨N, 0, none⟩)] w fun e w' => e = .returned (.int .i64 x.pn) ∧ w = w' := by
 have HM := Lib.hid (made_any h)
 obtain ⟨ad, c, h0, h1, h2, h3, h4, h5, -⟩ := h.facts
 clear h h2 h5
 go_enter Tryd.func16, Tryd.ntmps16
 go_wp2_with (go_at_call 52; refine HM.out.mono ?_; rintro e w1 ⟨rfl, rfl⟩)
 go_ret
 exact ⟨ret_int (by simp), rfl⟩
theorem has_any {w : World} {B N : Nat} {x : X} (h : NfX w B N x) (hp : x.pn ≤ 1000) (p : Int) : Calls Tryd.prog 55 #[.pointer (some ⟨N, 0, none⟩), .int .i64 p] w fun e w' => e = .returned (.bool (decide (0 < p ∧ p ≤ x.pn))) ∧ w = w' := by
 have HM := Lib.hid (len_any h hp)
 clear h
 by_cases h1 : 0 < p
 ·by_cases h2 : p ≤ x.pn
  ·rw [decide_eq_true (And.intro h1 h2)]
   go_enter Tryd.func55, Tryd.ntmps55
   go_wp2_with (go_at_call 16; refine HM.out.mono ?_; rintro e w1 ⟨rfl, rfl⟩)
   go_ret
   exact ⟨rfl, rfl⟩
  ·rw [decide_eq_false (fun h => h2 h.2)]
   go_enter Tryd.func55, Tryd.ntmps55
   go_wp2_with (go_at_call 16; refine HM.out.mono ?_; rintro e w1 ⟨rfl, rfl⟩)
   go_ret
   exact ⟨ret_bool (decide_eq_false (by omega)), rfl⟩
 ·rw [decide_eq_false (fun h => h1 h.1)]
  go_enter Tryd.func55, Tryd.ntmps55
  go_wp2_with (go_at_call 16; refine HM.out.mono ?_; rintro e w1 ⟨rfl, rfl⟩)
  go_ret
  exact ⟨rfl, rfl⟩
theorem empty_any {w : World} {B N : Nat} {x : X} (h : NfX w B N x) : Calls Tryd.prog 17 #[.pointer (some ⟨N, 0, none⟩)] w fun e w' => e = .returned (.bool x.emp) ∧ w = w' := by
 have HM := Lib.hid (made_any h)
 obtain ⟨ad, c, h0, h1, h2, h3, h4, h5, -⟩ := h.facts
 clear h h2 h5
 go_enter Tryd.func17, Tryd.ntmps17
 go_wp2_with (go_at_call 52; refine HM.out.mono ?_; rintro e w1 ⟨rfl, rfl⟩)
 go_ret
 exact ⟨rfl, rfl⟩
theorem label18_any {w : World} {B N : Nat} {x : X} (h : NfX w B N x) (hp : x.pn ≤ 1000) (p : Int) : Calls Tryd.prog 18 #[.pointer (some ⟨N, 0, none⟩), .int .i64 p] w fun e w' => e = .returned (.string (labP x p)) ∧ w = w' := by
 have HM := Lib.hid (has_any h hp p)
 obtain ⟨ad, c, h0, h1, h2, h3, h4, h5, -⟩ := h.facts
 by_cases hc : 0 < p ∧ p ≤ x.pn
 ·obtain ⟨k, rfl⟩ : ∃ k : Nat, p = k := ⟨p.toNat, by omega⟩
  have hk : k < x.pn + 1 := by omega
  have q := h5 k hk
  have e : labP x (k : Int) = (nf x).1.labs[k]?.getD ⟨#[]⟩ := by unfold labP; rw [if_pos hc]; rfl
  rw [← e] at q
  rw [decide_eq_true hc] at HM
  have HK := Lib.hid (And.intro hk hp)
  generalize labP x (k : Int) = L at *
  generalize x.pn = n at *
  clear h h2 h5 hc e
  go_enter Tryd.func18, Tryd.ntmps18
  go_wp2_with (go_at_call 55; refine HM.out.mono ?_; rintro e w1 ⟨rfl, rfl⟩)
  go_ret
  exact ⟨rfl, rfl⟩
 ·have e : labP x p = ⟨#[]⟩ := by unfold labP; rw [if_neg hc]
  rw [e]
  rw [decide_eq_false hc] at HM
  clear h h2 h5 hc e
  go_enter Tryd.func18, Tryd.ntmps18
  go_wp2_with (go_at_call 55; refine HM.out.mono ?_; rintro e w1 ⟨rfl, rfl⟩)
  go_ret
  exact ⟨rfl, rfl⟩
/-- a list told -/
def ListQ (l : List Nat) (w : World) (e : Ending) (w' : World) : Prop := ∃ v, e = .returned v ∧ w'.ownsRow w.heap.size 3 1 v l.length (nums l) ∧ Below w.heap.size w w'
theorem pow25 {x : X} (hs : x.pn ≤ 24) : (2 : Nat) ^ (1 + x.pn) ≤ 2 ^ 25 := Nat.pow_le_pow_right (by decide) (by omega)
theorem nfF_lt {x : X} (hs : x.pn ≤ 24) (p : Nat) : nfF x p < 2 ^ 25 := Nat.lt_of_lt_of_le ((nf_bd x).1 p) (pow25 hs)
theorem nfL_lt {x : X} (hs : x.pn ≤ 24) : nfL x < 2 ^ 25 := Nat.lt_of_lt_of_le (nf_bd x).2 (pow25 hs)
theorem first14_any {w : World} {B N : Nat} {x : X} (h : NfX w B N x) (hT : Tb w) (hs : x.pn ≤ 24) : Calls Tryd.prog 14 #[.pointer (some ⟨N, 0, none⟩)] w (ListQ (els (nfF x 0)) w) := by
 have HM := Lib.hid (made_any h)
 have HL := Lib.hid (list_any (nfF x 0) hT (Nat.lt_of_lt_of_le (nfF_lt hs 0) (by decide)))
 obtain ⟨ad, c, h0, h1, h2, h3, h4, h5, -⟩ := h.facts
 have q := h2 0 (by decide)
 unfold ListR at HL
 unfold ListQ
 generalize nfF x 0 = F at *
 clear h h2 h5 hT
 go_enter Tryd.func14, Tryd.ntmps14
 go_wp2_with (first | (go_at_call 52; refine HM.out.mono ?_; rintro e w1 ⟨rfl, rfl⟩) | (go_at_call 53; refine HL.out.mono ?_; rintro e w1 ⟨v, rfl, hr, hb⟩; have HR := Lib.hid (And.intro hr hb); clear hr hb))
 go_ret
 exact ⟨_, rfl, HR.out.1, HR.out.2⟩
theorem last_any {w : World} {B N : Nat} {x : X} (h : NfX w B N x) (hT : Tb w) (hs : x.pn ≤ 24) : Calls Tryd.prog 24 #[.pointer (some ⟨N, 0, none⟩)] w (ListQ (els (nfL x)) w) := by
 have HM := Lib.hid (made_any h)
 have HL := Lib.hid (list_any (nfL x) hT (Nat.lt_of_lt_of_le (nfL_lt hs) (by decide)))
 obtain ⟨ad, c, h0, h1, h2, h3, h4, h5, -⟩ := h.facts
 unfold ListR at HL
 unfold ListQ
 generalize nfL x = F at *
 clear h h2 h5 hT
 go_enter Tryd.func24, Tryd.ntmps24
 go_wp2_with (first | (go_at_call 52; refine HM.out.mono ?_; rintro e w1 ⟨rfl, rfl⟩) | (go_at_call 53; refine HL.out.mono ?_; rintro e w1 ⟨v, rfl, hr, hb⟩; have HR := Lib.hid (And.intro hr hb); clear hr hb))
 go_ret
 exact ⟨_, rfl, HR.out.1, HR.out.2⟩
theorem follow_any {w : World} {B N : Nat} {x : X} (h : NfX w B N x) (hT : Tb w) (hs : x.pn ≤ 24) (p : Int) : Calls Tryd.prog 21 #[.pointer (some ⟨N, 0, none⟩), .int .i64 p] w (ListQ (folP x p) w) := by
 have HM := Lib.hid (has_any h (by omega) p)
 unfold ListQ
 by_cases hc : 0 < p ∧ p ≤ x.pn
 ·obtain ⟨k, rfl⟩ : ∃ k : Nat, p = k := ⟨p.toNat, by omega⟩
  have HL := Lib.hid (list_any (nfF x k) hT (Nat.lt_of_lt_of_le (nfF_lt hs k) (by decide)))
  obtain ⟨ad, c, h0, h1, h2, h3, h4, h5, -⟩ := h.facts
  have hk : k < 25 := by omega
  have q := h2 k hk
  have e : folP x (k : Int) = els (nfF x k) := by unfold folP; rw [if_pos hc]; rfl
  rw [e]
  rw [decide_eq_true hc] at HM
  unfold ListR at HL
  generalize nfF x k = F at *
  clear h h2 h5 hT hc e
  go_enter Tryd.func21, Tryd.ntmps21
  go_wp2_with (first | (go_at_call 55; refine HM.out.mono ?_; rintro e w1 ⟨rfl, rfl⟩) | (go_at_call 53; refine HL.out.mono ?_; rintro e w1 ⟨v, rfl, hr, hb⟩; have HR := Lib.hid (And.intro hr hb); clear hr hb))
  go_ret
  exact ⟨_, rfl, HR.out.1, HR.out.2⟩
 ·have e : folP x p = [] := by unfold folP; rw [if_neg hc]
  rw [e]
  rw [decide_eq_false hc] at HM
  clear h hc e hT
  go_enter Tryd.func21, Tryd.ntmps21
  go_wp2_with (go_at_call 55; refine HM.out.mono ?_; rintro e w1 ⟨rfl, rfl⟩)
  go_ret
  exact ⟨_, rfl, World.ownsRow_nil _ _ _ _, Below.refl _ _⟩
end Go.Proofs.YtnccgaanfjaimaaDoor
