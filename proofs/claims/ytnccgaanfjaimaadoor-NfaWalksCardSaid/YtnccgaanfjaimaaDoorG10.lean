/- Texts RA, RI, one behind the other. -/
import Derived.Test.YtnccgaanfjaimaaDoorG9
set_option linter.unusedSimpArgs false
set_option linter.unusedVariables false
namespace Go.Proofs.YtnccgaanfjaimaaDoor
open Go.ChangeShapes Go.WideShapes Go.ChangeAt Go.RowKit
set_option linter.unusedVariables false
set_option linter.unusedSimpArgs false

attribute [local go_sem] Oper.semAt_some

theorem szL_step {xs : List X} {k : Nat} (h : k < xs.length) : szL (xs.take (k + 1)) = szL (xs.take k) + xs[k].sz := by
  rw [List.take_succ_eq_append_getElem h, szL_app, szL_one]

/-- a box of an expression, and what lies behind its kids, in all worlds to come -/
theorem boxed_kids {N : Nat} {w W0 : World} {k : Int} {l : ByteArray} {A : Option Addr} {n c : Nat} {xs : List X} (hW0 : w.alloc (.cells #[.int .i64 k, .string l, .slice A n c] 25) = W0) (hx : XR N w (.slice A n c) xs) (hN : N ≤ w.heap.size) :
    Below w.heap.size w W0 ∧ W0.heap.size = w.heap.size + 1 ∧ (∀ W, Below W0.heap.size W0 W → W.cell? ⟨w.heap.size, 0, none⟩ = some (.int .i64 k) ∧ W.cell? ⟨w.heap.size, 1, none⟩ = some (.string l) ∧ W.cell? ⟨w.heap.size, 2, none⟩ = some (.slice A n c)) ∧ ∀ W, Below W0.heap.size W0 W → XR N W (.slice A n c) xs := by
  subst hW0
  have hb0 : Below w.heap.size w (w.alloc (.cells #[.int .i64 k, .string l, .slice A n c] 25)) := (Below.refl _ w).alloc (Nat.le_refl _) _
  refine ⟨hb0, by simp, fun W h => box3 ((h.block _ (by simp)).trans (at_push _ _)), fun W h => hx.bel ((hb0.mono hN).trans (h.mono (by simp; omega)))⟩

def S15 (x : X) : Prop := ∀ (N : Nat) (w : World) (v : Value), XV N w v x → N ≤ w.heap.size → Calls Tryd.prog 69 #[v] w fun e w' => e = .returned (.int .i64 x.sz) ∧ Below w.heap.size w w'

set_option maxRecDepth 100000 in
set_option maxHeartbeats 4000000 in
theorem rsize_any : ∀ x : X, x.sz ≤ 100000 → S15 x := by
  intro x
  induction x using X.ind' with
  | h x ih =>
    intro hsz N w v hx hN
    obtain ⟨kx, rfl, hkx⟩ := hx
    obtain ⟨A, c, rfl⟩ := hkx.form
    obtain ⟨n, hn⟩ : ∃ n, x.kids.length = n := ⟨_, rfl⟩
    rw [hn] at hkx ⊢
    generalize x.kind = kd
    generalize x.lab = lb
    obtain ⟨W0, hW0⟩ : ∃ W0, w.alloc (.cells #[.int .i64 kd, .string lb, .slice A n c] 25) = W0 := ⟨_, rfl⟩
    obtain ⟨hb0, hz0, hbx, hkd⟩ := boxed_kids hW0 hkx hN
    have HB0 := Lib.hid hb0
    have HBX := Lib.hid hbx
    have HKD := Lib.hid hkd
    have HSZ := Lib.hid (show x.sz = 1 + szL x.kids from x.sz_eq)
    have hle : szL x.kids ≤ 100000 := by have := x.sz_eq; omega
    obtain ⟨ks, hks⟩ : ∃ ks, x.kids = ks := ⟨_, rfl⟩
    rw [hks] at HKD HSZ hle hn ih
    have HIH := Lib.hid (fun y (hy : y ∈ ks) => ih y hy (by have := szL_mem hy; omega))
    have HN := Lib.hid hn
    have hn1 : n ≤ 100000 := by have := len_szL ks; omega
    clear hb0 hz0 hbx hkd hkx ih hn hks
    go_enter Tryd.func69, Tryd.ntmps69
    go_upto_region 3 with (fail)
    try rw [hW0]
    go_loopw [3, 4] (fun u3 u4 wr => ∃ k : Nat, k ≤ n ∧ u4 = .int .i64 k ∧ u3 = .int .i64 ((1 + szL (ks.take k) : Nat) : Int) ∧ Below W0.heap.size W0 wr) (fun _ u4 _ => n + 1 - (intOf u4).toNat)
    case atStart => exact ⟨0, Nat.zero_le _, rfl, by rw [List.take_zero, szL_nil]; rfl, Below.refl _ _⟩
    case round =>
      obtain ⟨k, hk, rfl, rfl, hbr⟩ := hrel
      obtain ⟨d0, d1, d2⟩ := HBX.out wr hbr
      have HBR := Lib.hid hbr
      by_cases hkn : k < n
      · have hki : (k : Int) < (n : Int) := by omega
        have hkl : k < ks.length := by have := HN.out; omega
        obtain ⟨ad, ky, e1, hbA, a0, a1, a2, hky⟩ := (HKD.out wr hbr).at3 hkl
        subst e1
        have hy15 := HIH.out ks[k] (List.getElem_mem _)
        have hst := szL_step hkl
        have hsz1 : szL (ks.take (k + 1)) ≤ 100000 := by
          have h1 : szL ks = szL (ks.take (k + 1)) + szL (ks.drop (k + 1)) := by rw [← szL_app, List.take_append_drop]
          omega
        obtain ⟨y, hy⟩ : ∃ y, ks[k] = y := ⟨_, rfl⟩
        rw [hy] at a0 a1 hky hy15 hst
        have HST := Lib.hid hst
        obtain ⟨q, hq⟩ : ∃ q, szL (ks.take k) = q := ⟨_, rfl⟩
        rw [hq] at HST ⊢
        obtain ⟨z, hz⟩ : ∃ z, y.sz = z := ⟨_, rfl⟩
        have hzq : q + z ≤ 100000 := by omega
        have HC := Lib.hid (hy15 N wr _ ⟨ky, rfl, hky⟩ (Nat.le_trans hN (Nat.le_trans HB0.out.size hbr.size)))
        rw [hz] at HC HST
        clear hbr hy15 hky hst hsz1 hy hq hz
        go_wp2_with (go_at_call 69; refine HC.out.mono ?_; rintro e w1 ⟨rfl, hq⟩; have HQ := Lib.hid hq; clear hq)
        go_roundw
        case rel => exact ⟨k + 1, by omega, by go_num, by rw [HST.out]; go_num, HBR.out.trans (HQ.out.mono HBR.out.size)⟩
        case measure => simp [intOf]; omega
      · have hki : ¬ (k : Int) < (n : Int) := by omega
        obtain rfl : n = k := by omega
        have HT := Lib.hid (show ks.take n = ks by rw [← HN.out]; exact List.take_length)
        go_wp2_with fail
        go_ret
        exact ⟨(ret_int (by rw [HT.out, HSZ.out]) : Ending.returned (.int .i64 ((1 + szL (ks.take n) : Nat) : Int)) = .returned (.int .i64 (x.sz : Nat))), HB0.out.trans (HBR.out.mono HB0.out.size)⟩

def X.okB (x : X) : Bool := x.parts.all X.fits
theorem all_partsL : ∀ ks : List X, (partsL ks).all X.fits = ks.all X.okB
  | [] => by rw [partsL_nil]; rfl
  | x :: ks => by rw [partsL_cons, List.all_append, all_partsL ks, List.all_cons]; rfl
theorem okB_eq (x : X) : x.okB = (x.fits && x.kids.all X.okB) := by
  unfold X.okB
  rw [X.parts_eq, List.all_cons, all_partsL]
  rfl
theorem right_eq (x : X) : x.right = (decide (x.sz ≤ 24) && x.okB) := rfl
theorem okB_good {x : X} : x.okB = true ↔ x.good := by
  unfold X.okB X.good
  rw [List.all_eq_true]

def S38 (x : X) : Prop := ∀ (N : Nat) (w : World) (v : Value), XV N w v x → N ≤ w.heap.size → Calls Tryd.prog 70 #[v] w fun e w' => e = .returned (.bool x.okB) ∧ Below w.heap.size w w'

theorem parts_of_mem : ∀ {xs : List X} {y p : X}, y ∈ xs → p ∈ y.parts → p ∈ partsL xs
  | x :: xs, y, p, hy, hp => by
    rw [partsL_cons]
    rcases List.mem_cons.1 hy with rfl | hy
    · exact List.mem_append_left _ hp
    · exact List.mem_append_right _ (parts_of_mem hy hp)
theorem lit_kids {x : X} (h : x.lit) : ∀ y ∈ x.kids, y.lit := fun y hy p hp => h p (by rw [X.parts_eq]; exact List.mem_cons_of_mem _ (parts_of_mem hy hp))

set_option maxRecDepth 100000 in
set_option maxHeartbeats 4000000 in
theorem rpart_any : ∀ x : X, x.sz ≤ 100000 → x.lit → S38 x := by
  intro x
  induction x using X.ind' with
  | h x ih =>
    intro hsz hlit N w v hx hN
    obtain ⟨kx, rfl, hkx⟩ := hx
    obtain ⟨A, c, rfl⟩ := hkx.form
    obtain ⟨n, hn⟩ : ∃ n, x.kids.length = n := ⟨_, rfl⟩
    have hok : x.okB = (fitB x.kind x.lab n && x.kids.all X.okB) := by rw [okB_eq, X.fits, hn]
    have hlab : x.lab.size ≤ maxLen := hlit x (by rw [X.parts_eq]; exact List.mem_cons_self)
    rw [hok]
    rw [hn] at hkx ⊢
    have hle : szL x.kids ≤ 100000 := by have := x.sz_eq; omega
    have hlk := lit_kids hlit
    clear hok hlit
    generalize x.kind = kd at *
    generalize x.lab = lb at *
    obtain ⟨W0, hW0⟩ : ∃ W0, w.alloc (.cells #[.int .i64 kd, .string lb, .slice A n c] 25) = W0 := ⟨_, rfl⟩
    obtain ⟨hb0, hz0, hbx, hkd⟩ := boxed_kids hW0 hkx hN
    have HB0 := Lib.hid hb0
    have HBX := Lib.hid hbx
    have HKD := Lib.hid hkd
    obtain ⟨ks, hks⟩ : ∃ ks, x.kids = ks := ⟨_, rfl⟩
    rw [hks] at HKD hle hn ih hlk ⊢
    have HIH := Lib.hid (fun y (hy : y ∈ ks) => ih y hy (by have := szL_mem hy; omega) (hlk y hy))
    have HN := Lib.hid hn
    have hn1 : n ≤ 100000 := by have := len_szL ks; omega
    obtain ⟨d0, d1, d2⟩ := hbx W0 (Below.refl _ _)
    clear hb0 hz0 hbx hkd hkx ih hn hks hlk hle
    by_cases hk1 : kd = 1
    · subst hk1
      obtain ⟨f, hf⟩ : ∃ f, freB lb = f := ⟨_, rfl⟩
      have hfit : fitB 1 lb n = (f && decide (n = 0)) := by unfold fitB; rw [if_pos rfl, hf]
      rw [hfit]
      have HF := Lib.hid (fun W => rFree_any lb W hlab)
      rw [hf] at HF
      clear hf hfit
      cases f with
      | false =>
        go_enter Tryd.func70, Tryd.ntmps70
        go_upto_region 1 with (fail)
        try rw [hW0]
        go_wp2_with (go_at_call 86; refine (HF.out _).mono ?_; rintro e w1 ⟨rfl, rfl⟩)
        go_ret
        exact ⟨rfl, HB0.out⟩
      | true =>
        by_cases hn0 : n = 0
        · subst hn0
          go_enter Tryd.func70, Tryd.ntmps70
          go_upto_region 1 with (fail)
          try rw [hW0]
          go_wp2_with (go_at_call 86; refine (HF.out _).mono ?_; rintro e w1 ⟨rfl, rfl⟩)
          go_ret
          refine ⟨?_, HB0.out⟩
          obtain rfl : ks = [] := List.eq_nil_of_length_eq_zero HN.out
          rfl
        · have hni : ¬ (n : Int) = 0 := by omega
          have hnb : ((n : Int) == 0) = false := by simp; omega
          go_enter Tryd.func70, Tryd.ntmps70
          go_upto_region 1 with (fail)
          try rw [hW0]
          go_wp2_with (go_at_call 86; refine (HF.out _).mono ?_; rintro e w1 ⟨rfl, rfl⟩)
          go_ret
          refine ⟨?_, HB0.out⟩
          rw [decide_eq_false hn0]; rfl
    · have hkb1 : (kd == 1) = false := by simp [hk1]
      by_cases hk2 : kd = 2 ∨ kd = 3
      · by_cases hn2 : n < 2
        · have hfit : fitB kd lb n = false := by unfold fitB; rw [if_neg hk1, if_pos hk2, decide_eq_false (show ¬ 2 ≤ n by omega), Bool.and_false]
          rw [hfit]
          have hni : (n : Int) < 2 := by omega
          clear hfit
          rcases hk2 with rfl | rfl
          · go_enter Tryd.func70, Tryd.ntmps70
            go_upto_region 1 with (fail)
            try rw [hW0]
            go_wp2_with fail
            go_ret
            exact ⟨rfl, HB0.out⟩
          · go_enter Tryd.func70, Tryd.ntmps70
            go_upto_region 1 with (fail)
            try rw [hW0]
            go_wp2_with fail
            go_ret
            exact ⟨rfl, HB0.out⟩
        · obtain ⟨e, hfit, he⟩ : ∃ e, fitB kd lb n = e ∧ (e = true ↔ lb = ⟨#[]⟩) := ⟨_, rfl, by unfold fitB; rw [if_neg hk1, if_pos hk2, Bool.and_eq_true, decide_eq_true_iff, decide_eq_true_iff]; exact ⟨fun h => h.1, fun h => ⟨h, by omega⟩⟩⟩
          rw [hfit]
          have hni : ¬ (n : Int) < 2 := by omega
          have HE := Lib.hid he
          clear hfit he
          rcases hk2 with rfl | rfl
          · go_enter Tryd.func70, Tryd.ntmps70
            go_upto_region 1 with (fail)
            try rw [hW0]
            go_upto_region 15 with (fail)
            clear d0 d1 d2
            go_loopw [3] (fun u3 wr => ∃ k : Nat, k ≤ n ∧ u3 = .int .i64 k ∧ (ks.take k).all X.okB = true ∧ Below W0.heap.size W0 wr) (fun u3 _ => n + 1 - (intOf u3).toNat)
            case atStart => exact ⟨0, Nat.zero_le _, rfl, rfl, Below.refl _ _⟩
            case round =>
              obtain ⟨k, hk, rfl, hall, hbr⟩ := hrel
              obtain ⟨d0, d1, d2⟩ := HBX.out wr hbr
              have HBR := Lib.hid hbr
              have HALL := Lib.hid hall
              by_cases hkn : k < n
              · have hki : (k : Int) < (n : Int) := by omega
                have hkl : k < ks.length := by have := HN.out; omega
                obtain ⟨ad, ky, e1, hbA, a0, a1, a2, hky⟩ := (HKD.out wr hbr).at3 hkl
                subst e1
                have hy38 := HIH.out ks[k] (List.getElem_mem _)
                have hst : (ks.take (k + 1)).all X.okB = ((ks.take k).all X.okB && ks[k].okB) := by rw [List.take_succ_eq_append_getElem hkl, List.all_append]; simp
                have hmem := List.getElem_mem hkl
                obtain ⟨y, hy⟩ : ∃ y, ks[k] = y := ⟨_, rfl⟩
                rw [hy] at a0 a1 hky hy38 hst hmem
                have HST := Lib.hid (And.intro hst hmem)
                have HC := Lib.hid (hy38 N wr _ ⟨ky, rfl, hky⟩ (Nat.le_trans hN (Nat.le_trans HB0.out.size hbr.size)))
                obtain ⟨r, hr⟩ : ∃ r, y.okB = r := ⟨_, rfl⟩
                rw [hr] at HC
                have HR := Lib.hid hr
                clear hbr hy38 hky hst hy hr hmem hall
                cases r with
                | true =>
                  go_wp2_with (go_at_call 70; refine HC.out.mono ?_; rintro e w1 ⟨rfl, hq⟩; have HQ := Lib.hid hq; clear hq)
                  go_roundw
                  case rel => exact ⟨k + 1, by omega, by go_num, by rw [HST.out.1, HALL.out, HR.out]; rfl, HBR.out.trans (HQ.out.mono HBR.out.size)⟩
                  case measure => simp [intOf]; omega
                | false =>
                  go_wp2_with (go_at_call 70; refine HC.out.mono ?_; rintro e w1 ⟨rfl, hq⟩; have HQ := Lib.hid hq; clear hq)
                  go_ret
                  refine ⟨?_, HB0.out.trans ((HBR.out.trans (HQ.out.mono HBR.out.size)).mono HB0.out.size)⟩
                  rw [show ks.all X.okB = false from List.all_eq_false.2 ⟨y, HST.out.2, by rw [HR.out]; simp⟩, Bool.and_false]
                  rfl
              · have hki : ¬ (k : Int) < (n : Int) := by omega
                have HT := Lib.hid (show ks.take k = ks by rw [show k = n by omega, ← HN.out]; exact List.take_length)
                have HALL2 := Lib.hid (show ks.all X.okB = true by rw [← HT.out]; exact HALL.out)
                clear hall hbr
                by_cases hlb : lb = ⟨#[]⟩
                · obtain rfl : e = true := HE.out.2 hlb
                  subst hlb
                  go_wp2_with fail
                  go_ret
                  refine ⟨?_, HB0.out.trans (HBR.out.mono HB0.out.size)⟩
                  first
                    | rfl
                    | (rw [HALL2.out]; rfl)
                · obtain rfl : e = false := by
                    cases e with
                    | false => rfl
                    | true => exact absurd (HE.out.1 rfl) hlb
                  have hlt := tl_nil hlb
                  have hbe : (lb.toList == []) = false := by simp [hlt]
                  go_wp2_with fail
                  go_ret
                  refine ⟨?_, HB0.out.trans (HBR.out.mono HB0.out.size)⟩
                  first
                    | rfl
                    | (rw [HALL2.out]; rfl)
          · go_enter Tryd.func70, Tryd.ntmps70
            go_upto_region 1 with (fail)
            try rw [hW0]
            go_upto_region 15 with (fail)
            clear d0 d1 d2
            go_loopw [3] (fun u3 wr => ∃ k : Nat, k ≤ n ∧ u3 = .int .i64 k ∧ (ks.take k).all X.okB = true ∧ Below W0.heap.size W0 wr) (fun u3 _ => n + 1 - (intOf u3).toNat)
            case atStart => exact ⟨0, Nat.zero_le _, rfl, rfl, Below.refl _ _⟩
            case round =>
              obtain ⟨k, hk, rfl, hall, hbr⟩ := hrel
              obtain ⟨d0, d1, d2⟩ := HBX.out wr hbr
              have HBR := Lib.hid hbr
              have HALL := Lib.hid hall
              by_cases hkn : k < n
              · have hki : (k : Int) < (n : Int) := by omega
                have hkl : k < ks.length := by have := HN.out; omega
                obtain ⟨ad, ky, e1, hbA, a0, a1, a2, hky⟩ := (HKD.out wr hbr).at3 hkl
                subst e1
                have hy38 := HIH.out ks[k] (List.getElem_mem _)
                have hst : (ks.take (k + 1)).all X.okB = ((ks.take k).all X.okB && ks[k].okB) := by rw [List.take_succ_eq_append_getElem hkl, List.all_append]; simp
                have hmem := List.getElem_mem hkl
                obtain ⟨y, hy⟩ : ∃ y, ks[k] = y := ⟨_, rfl⟩
                rw [hy] at a0 a1 hky hy38 hst hmem
                have HST := Lib.hid (And.intro hst hmem)
                have HC := Lib.hid (hy38 N wr _ ⟨ky, rfl, hky⟩ (Nat.le_trans hN (Nat.le_trans HB0.out.size hbr.size)))
                obtain ⟨r, hr⟩ : ∃ r, y.okB = r := ⟨_, rfl⟩
                rw [hr] at HC
                have HR := Lib.hid hr
                clear hbr hy38 hky hst hy hr hmem hall
                cases r with
                | true =>
                  go_wp2_with (go_at_call 70; refine HC.out.mono ?_; rintro e w1 ⟨rfl, hq⟩; have HQ := Lib.hid hq; clear hq)
                  go_roundw
                  case rel => exact ⟨k + 1, by omega, by go_num, by rw [HST.out.1, HALL.out, HR.out]; rfl, HBR.out.trans (HQ.out.mono HBR.out.size)⟩
                  case measure => simp [intOf]; omega
                | false =>
                  go_wp2_with (go_at_call 70; refine HC.out.mono ?_; rintro e w1 ⟨rfl, hq⟩; have HQ := Lib.hid hq; clear hq)
                  go_ret
                  refine ⟨?_, HB0.out.trans ((HBR.out.trans (HQ.out.mono HBR.out.size)).mono HB0.out.size)⟩
                  rw [show ks.all X.okB = false from List.all_eq_false.2 ⟨y, HST.out.2, by rw [HR.out]; simp⟩, Bool.and_false]
                  rfl
              · have hki : ¬ (k : Int) < (n : Int) := by omega
                have HT := Lib.hid (show ks.take k = ks by rw [show k = n by omega, ← HN.out]; exact List.take_length)
                have HALL2 := Lib.hid (show ks.all X.okB = true by rw [← HT.out]; exact HALL.out)
                clear hall hbr
                by_cases hlb : lb = ⟨#[]⟩
                · obtain rfl : e = true := HE.out.2 hlb
                  subst hlb
                  go_wp2_with fail
                  go_ret
                  refine ⟨?_, HB0.out.trans (HBR.out.mono HB0.out.size)⟩
                  first
                    | rfl
                    | (rw [HALL2.out]; rfl)
                · obtain rfl : e = false := by
                    cases e with
                    | false => rfl
                    | true => exact absurd (HE.out.1 rfl) hlb
                  have hlt := tl_nil hlb
                  have hbe : (lb.toList == []) = false := by simp [hlt]
                  go_wp2_with fail
                  go_ret
                  refine ⟨?_, HB0.out.trans (HBR.out.mono HB0.out.size)⟩
                  first
                    | rfl
                    | (rw [HALL2.out]; rfl)
      · have hkb2 : (kd == 2) = false := by simp; omega
        have hkb3 : (kd == 3) = false := by simp; omega
        by_cases hk4 : kd = 4 ∨ kd = 5 ∨ kd = 6
        · by_cases hn2 : n = 1
          · subst hn2
            obtain ⟨e, hfit, he⟩ : ∃ e, fitB kd lb 1 = e ∧ (e = true ↔ lb = ⟨#[]⟩) := ⟨_, rfl, by unfold fitB; rw [if_neg hk1, if_neg hk2, if_pos hk4, Bool.and_eq_true, decide_eq_true_iff, decide_eq_true_iff]; exact ⟨fun h => h.1, fun h => ⟨h, rfl⟩⟩⟩
            rw [hfit]
            have HE := Lib.hid he
            clear hfit he
            rcases hk4 with rfl | rfl | rfl
            · go_enter Tryd.func70, Tryd.ntmps70
              go_upto_region 1 with (fail)
              try rw [hW0]
              go_upto_region 15 with (fail)
              clear d0 d1 d2
              go_loopw [3] (fun u3 wr => ∃ k : Nat, k ≤ 1 ∧ u3 = .int .i64 k ∧ (ks.take k).all X.okB = true ∧ Below W0.heap.size W0 wr) (fun u3 _ => 1 + 1 - (intOf u3).toNat)
              case atStart => exact ⟨0, Nat.zero_le _, rfl, rfl, Below.refl _ _⟩
              case round =>
                obtain ⟨k, hk, rfl, hall, hbr⟩ := hrel
                obtain ⟨d0, d1, d2⟩ := HBX.out wr hbr
                have HBR := Lib.hid hbr
                have HALL := Lib.hid hall
                by_cases hkn : k < 1
                · have hki : (k : Int) < 1 := by omega
                  have hkl : k < ks.length := by have := HN.out; omega
                  obtain ⟨ad, ky, e1, hbA, a0, a1, a2, hky⟩ := (HKD.out wr hbr).at3 hkl
                  subst e1
                  have hy38 := HIH.out ks[k] (List.getElem_mem _)
                  have hst : (ks.take (k + 1)).all X.okB = ((ks.take k).all X.okB && ks[k].okB) := by rw [List.take_succ_eq_append_getElem hkl, List.all_append]; simp
                  have hmem := List.getElem_mem hkl
                  obtain ⟨y, hy⟩ : ∃ y, ks[k] = y := ⟨_, rfl⟩
                  rw [hy] at a0 a1 hky hy38 hst hmem
                  have HST := Lib.hid (And.intro hst hmem)
                  have HC := Lib.hid (hy38 N wr _ ⟨ky, rfl, hky⟩ (Nat.le_trans hN (Nat.le_trans HB0.out.size hbr.size)))
                  obtain ⟨r, hr⟩ : ∃ r, y.okB = r := ⟨_, rfl⟩
                  rw [hr] at HC
                  have HR := Lib.hid hr
                  clear hbr hy38 hky hst hy hr hmem hall
                  cases r with
                  | true =>
                    go_wp2_with (go_at_call 70; refine HC.out.mono ?_; rintro e w1 ⟨rfl, hq⟩; have HQ := Lib.hid hq; clear hq)
                    go_roundw
                    case rel => exact ⟨k + 1, by omega, by go_num, by rw [HST.out.1, HALL.out, HR.out]; rfl, HBR.out.trans (HQ.out.mono HBR.out.size)⟩
                    case measure => simp [intOf]; omega
                  | false =>
                    go_wp2_with (go_at_call 70; refine HC.out.mono ?_; rintro e w1 ⟨rfl, hq⟩; have HQ := Lib.hid hq; clear hq)
                    go_ret
                    refine ⟨?_, HB0.out.trans ((HBR.out.trans (HQ.out.mono HBR.out.size)).mono HB0.out.size)⟩
                    rw [show ks.all X.okB = false from List.all_eq_false.2 ⟨y, HST.out.2, by rw [HR.out]; simp⟩, Bool.and_false]
                    rfl
                · have hki : ¬ (k : Int) < 1 := by omega
                  have HT := Lib.hid (show ks.take k = ks by rw [show k = 1 by omega, ← HN.out]; exact List.take_length)
                  have HALL2 := Lib.hid (show ks.all X.okB = true by rw [← HT.out]; exact HALL.out)
                  clear hall hbr
                  by_cases hlb : lb = ⟨#[]⟩
                  · obtain rfl : e = true := HE.out.2 hlb
                    subst hlb
                    go_wp2_with fail
                    go_ret
                    refine ⟨?_, HB0.out.trans (HBR.out.mono HB0.out.size)⟩
                    first
                      | rfl
                      | (rw [HALL2.out]; rfl)
                  · obtain rfl : e = false := by
                      cases e with
                      | false => rfl
                      | true => exact absurd (HE.out.1 rfl) hlb
                    have hlt := tl_nil hlb
                    have hbe : (lb.toList == []) = false := by simp [hlt]
                    go_wp2_with fail
                    go_ret
                    refine ⟨?_, HB0.out.trans (HBR.out.mono HB0.out.size)⟩
                    first
                      | rfl
                      | (rw [HALL2.out]; rfl)
            · go_enter Tryd.func70, Tryd.ntmps70
              go_upto_region 1 with (fail)
              try rw [hW0]
              go_upto_region 15 with (fail)
              clear d0 d1 d2
              go_loopw [3] (fun u3 wr => ∃ k : Nat, k ≤ 1 ∧ u3 = .int .i64 k ∧ (ks.take k).all X.okB = true ∧ Below W0.heap.size W0 wr) (fun u3 _ => 1 + 1 - (intOf u3).toNat)
              case atStart => exact ⟨0, Nat.zero_le _, rfl, rfl, Below.refl _ _⟩
              case round =>
                obtain ⟨k, hk, rfl, hall, hbr⟩ := hrel
                obtain ⟨d0, d1, d2⟩ := HBX.out wr hbr
                have HBR := Lib.hid hbr
                have HALL := Lib.hid hall
                by_cases hkn : k < 1
                · have hki : (k : Int) < 1 := by omega
                  have hkl : k < ks.length := by have := HN.out; omega
                  obtain ⟨ad, ky, e1, hbA, a0, a1, a2, hky⟩ := (HKD.out wr hbr).at3 hkl
                  subst e1
                  have hy38 := HIH.out ks[k] (List.getElem_mem _)
                  have hst : (ks.take (k + 1)).all X.okB = ((ks.take k).all X.okB && ks[k].okB) := by rw [List.take_succ_eq_append_getElem hkl, List.all_append]; simp
                  have hmem := List.getElem_mem hkl
                  obtain ⟨y, hy⟩ : ∃ y, ks[k] = y := ⟨_, rfl⟩
                  rw [hy] at a0 a1 hky hy38 hst hmem
                  have HST := Lib.hid (And.intro hst hmem)
                  have HC := Lib.hid (hy38 N wr _ ⟨ky, rfl, hky⟩ (Nat.le_trans hN (Nat.le_trans HB0.out.size hbr.size)))
                  obtain ⟨r, hr⟩ : ∃ r, y.okB = r := ⟨_, rfl⟩
                  rw [hr] at HC
                  have HR := Lib.hid hr
                  clear hbr hy38 hky hst hy hr hmem hall
                  cases r with
                  | true =>
                    go_wp2_with (go_at_call 70; refine HC.out.mono ?_; rintro e w1 ⟨rfl, hq⟩; have HQ := Lib.hid hq; clear hq)
                    go_roundw
                    case rel => exact ⟨k + 1, by omega, by go_num, by rw [HST.out.1, HALL.out, HR.out]; rfl, HBR.out.trans (HQ.out.mono HBR.out.size)⟩
                    case measure => simp [intOf]; omega
                  | false =>
                    go_wp2_with (go_at_call 70; refine HC.out.mono ?_; rintro e w1 ⟨rfl, hq⟩; have HQ := Lib.hid hq; clear hq)
                    go_ret
                    refine ⟨?_, HB0.out.trans ((HBR.out.trans (HQ.out.mono HBR.out.size)).mono HB0.out.size)⟩
                    rw [show ks.all X.okB = false from List.all_eq_false.2 ⟨y, HST.out.2, by rw [HR.out]; simp⟩, Bool.and_false]
                    rfl
                · have hki : ¬ (k : Int) < 1 := by omega
                  have HT := Lib.hid (show ks.take k = ks by rw [show k = 1 by omega, ← HN.out]; exact List.take_length)
                  have HALL2 := Lib.hid (show ks.all X.okB = true by rw [← HT.out]; exact HALL.out)
                  clear hall hbr
                  by_cases hlb : lb = ⟨#[]⟩
                  · obtain rfl : e = true := HE.out.2 hlb
                    subst hlb
                    go_wp2_with fail
                    go_ret
                    refine ⟨?_, HB0.out.trans (HBR.out.mono HB0.out.size)⟩
                    first
                      | rfl
                      | (rw [HALL2.out]; rfl)
                  · obtain rfl : e = false := by
                      cases e with
                      | false => rfl
                      | true => exact absurd (HE.out.1 rfl) hlb
                    have hlt := tl_nil hlb
                    have hbe : (lb.toList == []) = false := by simp [hlt]
                    go_wp2_with fail
                    go_ret
                    refine ⟨?_, HB0.out.trans (HBR.out.mono HB0.out.size)⟩
                    first
                      | rfl
                      | (rw [HALL2.out]; rfl)
            · go_enter Tryd.func70, Tryd.ntmps70
              go_upto_region 1 with (fail)
              try rw [hW0]
              go_upto_region 15 with (fail)
              clear d0 d1 d2
              go_loopw [3] (fun u3 wr => ∃ k : Nat, k ≤ 1 ∧ u3 = .int .i64 k ∧ (ks.take k).all X.okB = true ∧ Below W0.heap.size W0 wr) (fun u3 _ => 1 + 1 - (intOf u3).toNat)
              case atStart => exact ⟨0, Nat.zero_le _, rfl, rfl, Below.refl _ _⟩
              case round =>
                obtain ⟨k, hk, rfl, hall, hbr⟩ := hrel
                obtain ⟨d0, d1, d2⟩ := HBX.out wr hbr
                have HBR := Lib.hid hbr
                have HALL := Lib.hid hall
                by_cases hkn : k < 1
                · have hki : (k : Int) < 1 := by omega
                  have hkl : k < ks.length := by have := HN.out; omega
                  obtain ⟨ad, ky, e1, hbA, a0, a1, a2, hky⟩ := (HKD.out wr hbr).at3 hkl
                  subst e1
                  have hy38 := HIH.out ks[k] (List.getElem_mem _)
                  have hst : (ks.take (k + 1)).all X.okB = ((ks.take k).all X.okB && ks[k].okB) := by rw [List.take_succ_eq_append_getElem hkl, List.all_append]; simp
                  have hmem := List.getElem_mem hkl
                  obtain ⟨y, hy⟩ : ∃ y, ks[k] = y := ⟨_, rfl⟩
                  rw [hy] at a0 a1 hky hy38 hst hmem
                  have HST := Lib.hid (And.intro hst hmem)
                  have HC := Lib.hid (hy38 N wr _ ⟨ky, rfl, hky⟩ (Nat.le_trans hN (Nat.le_trans HB0.out.size hbr.size)))
                  obtain ⟨r, hr⟩ : ∃ r, y.okB = r := ⟨_, rfl⟩
                  rw [hr] at HC
                  have HR := Lib.hid hr
                  clear hbr hy38 hky hst hy hr hmem hall
                  cases r with
                  | true =>
                    go_wp2_with (go_at_call 70; refine HC.out.mono ?_; rintro e w1 ⟨rfl, hq⟩; have HQ := Lib.hid hq; clear hq)
                    go_roundw
                    case rel => exact ⟨k + 1, by omega, by go_num, by rw [HST.out.1, HALL.out, HR.out]; rfl, HBR.out.trans (HQ.out.mono HBR.out.size)⟩
                    case measure => simp [intOf]; omega
                  | false =>
                    go_wp2_with (go_at_call 70; refine HC.out.mono ?_; rintro e w1 ⟨rfl, hq⟩; have HQ := Lib.hid hq; clear hq)
                    go_ret
                    refine ⟨?_, HB0.out.trans ((HBR.out.trans (HQ.out.mono HBR.out.size)).mono HB0.out.size)⟩
                    rw [show ks.all X.okB = false from List.all_eq_false.2 ⟨y, HST.out.2, by rw [HR.out]; simp⟩, Bool.and_false]
                    rfl
                · have hki : ¬ (k : Int) < 1 := by omega
                  have HT := Lib.hid (show ks.take k = ks by rw [show k = 1 by omega, ← HN.out]; exact List.take_length)
                  have HALL2 := Lib.hid (show ks.all X.okB = true by rw [← HT.out]; exact HALL.out)
                  clear hall hbr
                  by_cases hlb : lb = ⟨#[]⟩
                  · obtain rfl : e = true := HE.out.2 hlb
                    subst hlb
                    go_wp2_with fail
                    go_ret
                    refine ⟨?_, HB0.out.trans (HBR.out.mono HB0.out.size)⟩
                    first
                      | rfl
                      | (rw [HALL2.out]; rfl)
                  · obtain rfl : e = false := by
                      cases e with
                      | false => rfl
                      | true => exact absurd (HE.out.1 rfl) hlb
                    have hlt := tl_nil hlb
                    have hbe : (lb.toList == []) = false := by simp [hlt]
                    go_wp2_with fail
                    go_ret
                    refine ⟨?_, HB0.out.trans (HBR.out.mono HB0.out.size)⟩
                    first
                      | rfl
                      | (rw [HALL2.out]; rfl)
          · have hfit : fitB kd lb n = false := by unfold fitB; rw [if_neg hk1, if_neg hk2, if_pos hk4, decide_eq_false hn2, Bool.and_false]
            rw [hfit]
            have hni : ¬ (n : Int) = 1 := by omega
            have hnb : ((n : Int) == 1) = false := by simp; omega
            clear hfit
            rcases hk4 with rfl | rfl | rfl
            · go_enter Tryd.func70, Tryd.ntmps70
              go_upto_region 1 with (fail)
              try rw [hW0]
              go_wp2_with fail
              go_ret
              exact ⟨rfl, HB0.out⟩
            · go_enter Tryd.func70, Tryd.ntmps70
              go_upto_region 1 with (fail)
              try rw [hW0]
              go_wp2_with fail
              go_ret
              exact ⟨rfl, HB0.out⟩
            · go_enter Tryd.func70, Tryd.ntmps70
              go_upto_region 1 with (fail)
              try rw [hW0]
              go_wp2_with fail
              go_ret
              exact ⟨rfl, HB0.out⟩
        · have hfit : fitB kd lb n = false := by unfold fitB; rw [if_neg hk1, if_neg hk2, if_neg hk4]
          rw [hfit]
          have hkb4 : (kd == 4) = false := by simp; omega
          have hkb5 : (kd == 5) = false := by simp; omega
          have hkb6 : (kd == 6) = false := by simp; omega
          go_enter Tryd.func70, Tryd.ntmps70
          go_upto_region 1 with (fail)
          try rw [hW0]
          go_wp2_with fail
          go_ret
          exact ⟨rfl, HB0.out⟩

theorem rright_any {N : Nat} {w : World} {v : Value} {x : X} (hx : XV N w v x) (hN : N ≤ w.heap.size) (hsz : x.sz ≤ 100000) (hl : x.lit) :
    Calls Tryd.prog 46 #[v] w fun e w' => e = .returned (.bool x.right) ∧ Below w.heap.size w w' := by
  have hS := (fun W (h : Below w.heap.size w W) => rsize_any x hsz N W v (hx.bel (h.mono hN)) (Nat.le_trans hN h.size))
  have hP := (fun W (h : Below w.heap.size w W) => rpart_any x hsz hl N W v (hx.bel (h.mono hN)) (Nat.le_trans hN h.size))
  obtain ⟨kx, rfl, hkx⟩ := hx
  obtain ⟨A, c, rfl⟩ := hkx.form
  obtain ⟨W0, hW0⟩ : ∃ W0, w.alloc (.cells #[.int .i64 x.kind, .string x.lab, .slice A x.kids.length c] 25) = W0 := ⟨_, rfl⟩
  obtain ⟨hb0, hz0, hbx, hkd⟩ := boxed_kids hW0 hkx hN
  have HB0 := Lib.hid hb0
  have HBX := Lib.hid hbx
  have HS := Lib.hid (fun W (h : Below W0.heap.size W0 W) => calls_base (hS W (hb0.trans (h.mono (by omega)))) h)
  have HP := Lib.hid (fun W (h : Below W0.heap.size W0 W) => calls_base (hP W (hb0.trans (h.mono (by omega)))) h)
  have hr := right_eq x
  generalize x.kind = kd at *
  generalize x.lab = lb at *
  generalize x.kids.length = n at *
  generalize x.sz = z at *
  generalize x.okB = p at *
  rw [hr]
  obtain ⟨d0, d1, d2⟩ := hbx W0 (Below.refl _ _)
  clear hr hbx hkd hS hP hb0 hz0 hkx
  by_cases hz : z ≤ 24
  · have hzi : (z : Int) ≤ 24 := by omega
    rw [show (decide (z ≤ 24) && p) = p by rw [decide_eq_true hz]; rfl]
    clear hz
    go_enter Tryd.func46, Tryd.ntmps46
    go_upto_region 1 with (fail)
    try rw [hW0]
    go_wp2_with (first
      | (go_at_call 69; refine (HS.out _ (Below.refl _ _)).mono ?_; rintro e w1 ⟨rfl, h1⟩; have H1 := Lib.hid h1; obtain ⟨d0, d1, d2⟩ := HBX.out _ h1; clear h1)
      | (go_at_call 70; refine (HP.out _ H1.out).mono ?_; rintro e w2 ⟨rfl, h2⟩; have H2 := Lib.hid h2; clear h2))
    go_ret
    exact ⟨rfl, HB0.out.trans (H2.out.mono HB0.out.size)⟩
  · have hzi : ¬ (z : Int) ≤ 24 := by omega
    rw [show (decide (z ≤ 24) && p) = false by rw [decide_eq_false hz]; rfl]
    clear hz
    go_enter Tryd.func46, Tryd.ntmps46
    go_upto_region 1 with (fail)
    try rw [hW0]
    go_wp2_with (go_at_call 69; refine (HS.out _ (Below.refl _ _)).mono ?_; rintro e w1 ⟨rfl, h1⟩; have H1 := Lib.hid h1; clear h1)
    go_ret
    exact ⟨rfl, HB0.out.trans (H1.out.mono HB0.out.size)⟩
end Go.Proofs.YtnccgaanfjaimaaDoor

namespace Go.Proofs.YtnccgaanfjaimaaDoor
open Go.ChangeShapes Go.WideShapes Go.ChangeAt Go.RowKit Go.Sort
set_option linter.unusedVariables false
set_option linter.unusedSimpArgs false

theorem parts9 : (Tryd.prog.info? 9).map (fun i => (i.zero, i.size, i.bytes)) = some (some (.string ⟨#[]⟩), 1, 16) := by kernel_rfl
theorem run_app_nil {P : Program} {w : World} (base : Nat) (t ty e : TypeId) (i : TypeInfo) (size : Nat) (ht : P.underlying t = some (.slice e)) (hi : P.info? e = some i) (v : Value) (n : Nat) (xs : List Value) (hown : w.ownsRow base e size v n xs) (c : Nat) :
    (Builtin.append_ #[t, t] ty #[v, .slice none 0 c]).run P w = .ok v w := by
  rcases hown.2 with ⟨rfl, rfl⟩ | ⟨g, cap, cur, rfl, _, _, hnc, _⟩
  · simp [Builtin.append_, run_underlying ht, sizeOf, typeInfo, hi, Builtin.lenOf, Builtin.firstCells]
  · simp [Builtin.append_, run_underlying ht, sizeOf, typeInfo, hi, Builtin.lenOf, Builtin.firstCells, hnc, storeCells]

theorem SR.news {B : Nat} {w : World} {ad : Addr} {n c : Nat} {l : Wd} (h : SR B w (.slice (some ad) n c) l) : ∀ j u, (l.map Value.string)[j]? = some u → w.cell? (ad.add j) = some u := by
  intro j u hu
  obtain ⟨A', c', e, hc⟩ := h
  have hj : j < l.length := by have := (List.getElem?_eq_some_iff.1 hu).1; simpa using this
  obtain ⟨ad', e2, _, hcell⟩ := hc (by omega)
  injection e with e3
  rw [e2] at e3
  injection e3 with e3
  subst e3
  rw [hcell j hj]
  simp [hj] at hu
  rw [hu]
theorem SR.len {B : Nat} {w : World} {A : Option Addr} {n c : Nat} {l : Wd} (h : SR B w (.slice A n c) l) : n = l.length := by
  obtain ⟨A', c', e, hc⟩ := h
  injection e
theorem SR.none {B : Nat} {w : World} {n c : Nat} {l : Wd} (h : SR B w (.slice none n c) l) : l = [] := by
  obtain ⟨A', c', e, hc⟩ := h
  rcases Nat.eq_zero_or_pos l.length with h0 | h0
  · exact List.eq_nil_of_length_eq_zero h0
  · obtain ⟨ad, e2, _⟩ := hc h0
    injection e with e3
    rw [e2] at e3
    cases e3

theorem run_app_sr {w : World} (ty : TypeId) (base : Nat) (v : Value) (n : Nat) (xs : List Value) (hown : w.ownsRow base 9 1 v n xs) {B : Nat} (A : Option Addr) (m c : Nat) (l : Wd) (hr : SR B w (.slice A m c) l) (hn : n + m ≤ 4398046511104) (hbase : base ≤ w.heap.size) :
    ∃ v' w', (Builtin.append_ #[41, 41] ty #[v, .slice A m c]).run Tryd.prog w = .ok v' w' ∧ w'.ownsRow base 9 1 v' (n + m) (xs ++ l.map Value.string) ∧ w.grownBy w' v.ownBlock ∧ (v'.ownBlock = v.ownBlock ∨ v'.ownBlock = some w.heap.size) := by
  obtain ⟨i9, hi9, hz9, hs9, hb9⟩ := info_parts parts9
  obtain rfl := hr.len
  cases A with
  | none =>
    obtain rfl := hr.none
    exact ⟨v, w, run_app_nil (P := Tryd.prog) base 41 ty 9 i9 1 Tryd.underlying41 hi9 v n xs hown c, by simpa using hown, ⟨rfl, rfl, rfl, Nat.le_refl _, fun _ _ _ => rfl⟩, .inl rfl⟩
  | some ad =>
    obtain ⟨v', w', hrun, h2, h3, h4, h5⟩ := run_append_own_at (P := Tryd.prog) w base 41 ty 9 i9 (.string ⟨#[]⟩) 1 16 Tryd.underlying41 hi9 hz9 hs9 hb9 rfl (by decide) v n xs hown ad l.length c (l.map Value.string) (by simp) hr.news (by simp [Value.oneCell']) (by unfold maxLen; omega) (by omega) hbase
    exact ⟨v', w', hrun, h2, h3, h5⟩

theorem wpList_append_sr {w : World} {ops : Array Oper} {rest : List Oper} {o : Oper} {a : Act} {Q : Exit → Act → World → Prop} (hgd : o.guard = none) (s x : Operand)
    (ho : o.op = .call { callee := .builtin .append, args := #[s, x], argTypes := #[41, 41] })
    (base : Nat) (v : Value) (n : Nat) (xs : List Value) (hs : a.eval s = v) (hown : w.ownsRow base 9 1 v n xs) {B : Nat} (A : Option Addr) (m c : Nat) (l : Wd) (hx : a.eval x = .slice A m c) (hr : SR B w (.slice A m c) l)
    (hn : n + m ≤ 4398046511104) (hbase : base ≤ w.heap.size)
    (h : ∀ v' w', w'.ownsRow base 9 1 v' (n + m) (xs ++ l.map Value.string) → w.grownBy w' v.ownBlock → (v'.ownBlock = v.ownBlock ∨ v'.ownBlock = some w.heap.size) → wpList Tryd.prog ops Q rest (a.put o.dst v') w') : wpList Tryd.prog ops Q (o :: rest) a w := by
  refine wpList_plain hgd fun K hK => ?_
  obtain ⟨v', w', hr2, h2, h3, h5⟩ := run_app_sr (w := w) o.type base v n xs hown A m c l hr hn hbase
  unfold Oper.wp execOp
  simp only [ho, resolve, invoke, builtin, Sem.run_bind, Sem.run_pure, Result.andThen_ok, List.map_toArray, List.map_cons, List.map_nil, hs, hx, hr2]
  exact hK _ _ (h v' w' h2 h3 h5)

theorem step_append_sr {w : World} {ops : Array Oper} {o : Oper} {a : Act} {K : Act → World → Prop} {Q : Exit → Act → World → Prop} {E : Prop} (hgd : o.guard = none) (s x : Operand)
    (ho : o.op = .call { callee := .builtin .append, args := #[s, x], argTypes := #[41, 41] })
    (base : Nat) (v : Value) (n : Nat) (xs : List Value) (hs : a.eval s = v) (hown : w.ownsRow base 9 1 v n xs) {B : Nat} (A : Option Addr) (m c : Nat) (l : Wd) (hx : a.eval x = .slice A m c) (hr : SR B w (.slice A m c) l)
    (hn : n + m ≤ 4398046511104) (hbase : base ≤ w.heap.size)
    (h : ∀ v' w', w'.ownsRow base 9 1 v' (n + m) (xs ++ l.map Value.string) → w.grownBy w' v.ownBlock → (v'.ownBlock = v.ownBlock ∨ v'.ownBlock = some w.heap.size) → K (a.put o.dst v') w') :
    if Region.wanted o (yielded ops a.tmps) = true then Oper.wp Tryd.prog o a w K Q else E := by
  have hw : Region.wanted o (yielded ops a.tmps) = true := by simp [Region.wanted, hgd]
  rw [if_pos hw]
  obtain ⟨v', w', hr2, h2, h3, h5⟩ := run_app_sr (w := w) o.type base v n xs hown A m c l hr hn hbase
  unfold Oper.wp execOp
  simp only [ho, resolve, invoke, builtin, Sem.run_bind, Sem.run_pure, Result.andThen_ok, List.map_toArray, List.map_cons, List.map_nil, hs, hx, hr2]
  exact h v' w' h2 h3 h5

/-- a row of its own, told as a row of texts -/
theorem own_SR2 {w : World} {base : Nat} {v : Value} {l : List ByteArray} (h : w.ownsRow base 9 1 v l.length (l.map Value.string)) : SR w.heap.size w v l ∧ ∀ A m c, v = .slice A m c → m ≤ c := by
  rcases h.2 with ⟨rfl, h0⟩ | ⟨g, cap, cur, rfl, hb, hg, h1, h2, h3, h4⟩
  · exact ⟨⟨none, 0, by rw [h0], fun h => by omega⟩, fun A m c e => by injection e with _ e1 e2; omega⟩
  · refine ⟨⟨_, cap, rfl, fun _ => ⟨⟨g, 0, none⟩, rfl, (Array.getElem?_eq_some_iff.1 hg).1, fun k hk => ?_⟩⟩, fun A m c e => by injection e with _ e1 e2; omega⟩
    have e : (cur.toList.take (l.length * 1))[k]? = (l.map Value.string)[k]? := by rw [h4]
    rw [List.getElem?_take_of_lt (by omega)] at e
    have e2 : cur[k]? = some (.string l[k]) := by rw [← Array.getElem?_toList, e]; simp [hk]
    have := cell_of_row w g k cur 9 _ hg
    have e3 : (⟨g, 0, none⟩ : Addr).add k = ⟨g, k, none⟩ := by
      unfold Addr.add
      split
      · next h0 => subst h0; rfl
      · simp
    rw [e3, this]
    exact e2
theorem own_lit (W : World) (s : ByteArray) {base : Nat} (hb : base ≤ W.heap.size) : (W.alloc (.cells #[.string s] 9)).ownsRow base 9 1 (.slice (some ⟨W.heap.size, 0, none⟩) 1 1) 1 [.string s] :=
  ⟨rfl, .inr ⟨W.heap.size, 1, #[.string s], rfl, hb, at_push _ _, Nat.le_refl _, by unfold maxLen; omega, rfl, rfl⟩⟩

end Go.Proofs.YtnccgaanfjaimaaDoor
