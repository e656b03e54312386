/- Texts M, N, O, P, Q, one behind the other. -/
import Derived.Test.YtnccgaanfjaimaaDoorJ1
import Derived.Deep.RegionLaw
set_option linter.unusedSimpArgs false
set_option linter.unusedVariables false
namespace Go.Proofs.YtnccgaanfjaimaaDoor
open Go.ChangeShapes Go.WideShapes Go.ChangeAt Go.RowKit
set_option linter.unusedVariables false
set_option linter.unusedSimpArgs false

attribute [local go_sem] Oper.semAt_some

def X.right (x : X) : Bool := decide (x.sz ≤ 24) && x.parts.all X.fits
/-- no label is longer than a text may be -/
def X.lit (x : X) : Prop := ∀ p ∈ x.parts, p.lab.size ≤ maxLen

theorem not_right {x : X} {ps : List X} (hp : ps <+: x.parts) (h : 24 < ps.length ∨ ∃ p ∈ ps, p.fits = false) : x.right = false := by
 unfold X.right
 rcases h with h | ⟨p, hm, hf⟩
 ·have h1 := hp.length_le
  have : ¬ x.sz ≤ 24 := by unfold X.sz; omega
  simp [this]
 ·have : x.parts.all X.fits = false := by
   rw [List.all_eq_false]
   exact ⟨p, hp.subset hm, by simp [hf]⟩
  rw [this, Bool.and_false]
theorem is_right {x : X} (h : x.sz ≤ 24) (hf : ∀ p ∈ x.parts, p.fits = true) : x.right = true := by
 unfold X.right
 rw [decide_eq_true h, List.all_eq_true.2 hf]
 rfl

theorem kpx_set {N : Nat} {W : World} {B : Nat} {t : TypeId} {v : Value} (h : Boxed W B t v) (ht : still t = false) (hN : N ≤ B) (u : Value) : KpX N W (W.setCell ⟨B, 0, none⟩ u) := by
 refine ⟨by simp [World.setCell], fun k hk => Below.heap_setCell _ _ _ k (by show k ≠ B; omega), fun k v' t' fr hk ht' => ?_⟩
 by_cases e : k = B
 ·subst e
  rw [show W.heap[k]? = _ from h] at hk
  injection hk with hk
  injection hk with _ hk _
  subst hk
  rw [ht] at ht'
  cases ht'
 ·exact (Below.heap_setCell _ _ _ k e).trans hk
theorem BoxT.ne {W : World} {A B : Nat} {p : T} {t : TypeId} {v : Value} (h : BoxT W A p) (hb : Boxed W B t v) (ht : t ≠ 25) : B ≠ A := by
 rintro rfl
 have := (show W.heap[B]? = _ from h).symm.trans (show W.heap[B]? = _ from hb)
 injection this with this
 injection this with _ this _
 exact ht this.symm
theorem Boxed.bel {W W' : World} {B : Nat} {t : TypeId} {v : Value} (h : Boxed W B t v) (hb : Below W.heap.size W W') : Boxed W' B t v := (hb.block _ h.lt).trans h
theorem alloc_at {w W : World} {o : Obj} {n : Nat} (hn : w.heap.size = n) (h : Below (w.alloc o).heap.size (w.alloc o) W) : W.heap[n]? = some o := by
 subst hn
 exact (h.block _ (by simp)).trans (World.alloc_heap_new w o)

set_option maxRecDepth 100000 in
set_option maxHeartbeats 4000000 in
theorem right12_any {N : Nat} {w : World} {v : Value} {x : X} (hx : XV N w v x) (hN : N ≤ w.heap.size) (hsz : x.sz ≤ 100000) (hl : x.lit) :
  Calls Tryd.prog 37 #[v] w fun e w' => e = .returned (.bool x.right) ∧ Below w.heap.size w w' := by
 obtain ⟨a, rfl, rfl, ha⟩ := hx.tree
 obtain ⟨A, c, hk, hv⟩ := ha.cells
 rw [hv]
 have HA := Lib.hid (And.intro ha (And.intro hN (And.intro hk hl)))
 clear ha hk hv hx hl
 refine (callsIn_wide (n := 12)).1 ?_
 refine callsIn_of_wp_marks Tryd.func37 rfl trivial ?_ rfl
 simp only [Tryd.ntmps37, List.size_toArray, List.length_cons, List.length_nil, Nat.reduceAdd, Nat.reduceSub, Array.replicate_succ, Array.replicate_zero, List.push_toArray, List.append_toArray, List.nil_append, List.cons_append]
 refine wpIn_wide.2 ?_
 go_wp2_with (go_at_call 60; refine (partsOf_any (a := a) HA.out.2.2.1 _).mono ?_; rintro e w1 ⟨rfl, hx1, hbw⟩)
 have hq1 : Below w.heap.size w (w.alloc (.cells #[.int .i64 a.kind, .string a.lab, .slice A a.kids.length c] 25)) := (Below.refl _ w).alloc (Nat.le_refl _) _
 generalize hQ1 : w.alloc (.cells #[.int .i64 a.kind, .string a.lab, .slice A a.kids.length c] 25) = Q1 at *
 have hz1 : Q1.heap.size = w.heap.size + 1 := by rw [← hQ1]; simp
 have hb2 : Below (Q1.alloc (.cells #[.bool false] 4)).heap.size (Q1.alloc (.cells #[.bool false] 4)) w1 := ((Below.refl _ _).alloc (Nat.le_refl _) _).trans (hbw.mono (by simp))
 have hbk : Boxed w1 (w.heap.size + 1) 4 (.bool false) := alloc_at hz1 hb2
 have hbc : Boxed w1 (w.heap.size + 1 + 1) 3 (.int .i64 0) := alloc_at (by simp [hz1]) hbw
 have hb1 : Below w.heap.size w w1 := hq1.trans (((Below.refl _ Q1).alloc (Nat.le_refl _) _ |>.trans (hb2.mono (by simp))).mono (by omega))
 have hz1 : w.heap.size + 3 ≤ w1.heap.size := by have := hbw.size; simp at this; omega
 have hNw : N ≤ w1.heap.size := Nat.le_trans HA.out.2.1 (by omega)
 have hseq := parts_seq 11 (by decide) hx1 (HA.out.1.bel (hb1.mono HA.out.2.1)) hNw hsz
 simp only [World.size_alloc, show Q1.heap.size = w.heap.size + 1 by rw [← hQ1]; simp] at hseq
 have HSEQ := Lib.hid hseq
 have HB1 := Lib.hid hb1
 have HBX := Lib.hid (And.intro hbk hbc)
 have HPO := Lib.hid (parts_ok HA.out.1)
 have HPL := Lib.hid (partsT_x a)
 try simp only [World.size_alloc, show Q1.heap.size = w.heap.size + 1 by rw [← hQ1]; simp]
 clear hbw hb1 hbk hbc hseq hx1 hq1 hb2 hQ1
 refine wpIn_wide.1 (?_ : Code.wpIn Fence.wide 12 Tryd.prog _ _ _ _)
 refine wpIn_rangeFunc_X rfl (by omega) (gf := 75) (lb := #[.pointer (some ⟨w.heap.size + 1 + 1 + 1, 0, none⟩)]) rfl trivial (enters_of Tryd.func75 (by kernel_rfl) rfl)
  HSEQ.out KpX.trans (fun W' l' o o' hlw hl' ho _ => KpX.putObj W' l' o o' (by omega) hl' ho) (Below.refl _ _) (fun _ => rfl)
  (fun pre W' => (Boxed W' (w.heap.size + 1) 4 (.bool false) ∧ Boxed W' (w.heap.size + 1 + 1) 3 (.int .i64 (pre.length : Nat))) ∧ Below w.heap.size w W' ∧ (pre.length ≤ 24 ∧ ∀ p ∈ pre, p.x.fits = true))
  (fun c pre W' => (c = .ret ∧ a.x.right = false) ∧ Boxed W' (w.heap.size + 1) 4 (.bool false) ∧ Below w.heap.size w W')
  (OwnQ.and (OwnQ.and (OwnQ.boxed _ _ _ (fun _ => _) (by decide)) (OwnQ.boxed _ _ _ _ (by decide))) (OwnQ.and (ownQ_below (Nat.le_refl _) (by omega)) (ownQ_pure _ _)))
  (fun c => OwnQ.and (ownQ_pure _ _) (OwnQ.and (OwnQ.boxed _ _ _ (fun _ => _) (by decide)) (ownQ_below (Nat.le_refl _) (by omega)))) ⟨HBX.out, HB1.out, by simp, fun p hp => by cases hp⟩
  (fun p a' W' => ∃ A4, a' = { tmps := #[.agg #[.int .i64 a.kind, .string a.lab, .slice A a.kids.length c], .pointer (some ⟨w.heap.size, 0, none⟩), .pointer (some ⟨w.heap.size + 1, 0, none⟩), .pointer (some ⟨w.heap.size + 1 + 1, 0, none⟩), .pointer (some ⟨A4, 0, none⟩), .agg #[.int .i64 a.kind, .string a.lab, .slice A a.kids.length c], .func (.func 75) #[] #[.pointer (some ⟨w.heap.size + 1 + 1 + 1, 0, none⟩)], p.v, undef, undef, undef, undef, undef, undef, undef, undef, undef], defers := [] } ∧ BoxT W' A4 p)
  ?hA ?assign ?body ?done ?stop
 case hA =>
  rintro p a' _ X Y ⟨A4, rfl, hc⟩ hr
  exact ⟨A4, rfl, hr.cells hc (by decide)⟩
 case assign =>
  intro l1 pre p W' K hI hpx hK
  obtain ⟨A4, c4, hk, hv⟩ := (HPO.out p (hpx.subset (by simp))).cells
  have HK := Lib.hid hK
  have HI' := Lib.hid hI
  have HKV := Lib.hid (And.intro hk hv)
  unfold encP
  rw [hv]
  clear hK hI hk hv
  gi_wp2
  have hbw : Below W'.heap.size W' (W'.alloc (.cells #[.int .i64 p.kind, .string p.lab, .slice A4 p.kids.length c4] 25)) := (Below.refl _ W').alloc (Nat.le_refl _) _
  obtain ⟨⟨hb1, hb2⟩, hb3, hb4⟩ := HI'.out
  refine HK.out _ _ ((below_others hbw).from _) (KpX.of_below hbw (by have := hb3.size; omega)) ⟨⟨hb1.alloc _, hb2.alloc _⟩, hb3.alloc hb3.size _, hb4⟩ ⟨W'.heap.size, ?_, ?_⟩
  ·simp only [HKV.out.2]
  ·unfold BoxT
   rw [HKV.out.1]
   exact World.alloc_heap_new W' _
 case body =>
  rintro l1 pre p a' W' hwl hloop hpx ⟨⟨hb1, hb2⟩, hb3, hb4, hb5⟩ ⟨A4, rfl, hc⟩
  have hpm : p ∈ partsT a := hpx.subset (by simp)
  obtain ⟨A7, c7, hk, hv⟩ := (HPO.out p hpm).cells
  have hne := hc.ne hb2 (by decide)
  have hne' := hne.symm
  have hcc := hb2.cell
  have hff := hb2.frozen
  have hpxx : (pre ++ [p]).map T.x <+: a.x.parts := by rw [← HPL.out]; obtain ⟨t, ht⟩ := hpx; exact ⟨t.map T.x, by rw [← List.map_append, ht]⟩
  have hlm : p.lab.size ≤ maxLen := by
   have := HA.out.2.2.2 p.x (by rw [← HPL.out]; exact List.mem_map.2 ⟨p, hpm, rfl⟩)
   rwa [T.x_lab] at this
  have hfx : p.x.fits = fitB p.kind p.lab p.kids.length := by unfold X.fits; rw [T.x_kind, T.x_lab, T.x_kids, List.length_map]
  have hset := hb2.set (.int .i64 ((pre.length : Int) + 1))
  have hbk2 : Boxed (W'.setCell ⟨w.heap.size + 1 + 1, 0, none⟩ (.int .i64 ((pre.length : Int) + 1))) (w.heap.size + 1) 4 (.bool false) := hb1.other (by omega) _
  have hbl2 : Below w.heap.size w (W'.setCell ⟨w.heap.size + 1 + 1, 0, none⟩ (.int .i64 ((pre.length : Int) + 1))) := hb3.setCell (by show w.heap.size ≤ w.heap.size + 1 + 1; omega) _
  have hkf2 : KeepsFrom w1.heap.size W' (W'.setCell ⟨w.heap.size + 1 + 1, 0, none⟩ (.int .i64 ((pre.length : Int) + 1))) := (KeepsOthers.setCell _ _ _).from _
  have hkp2 : KpX N W' (W'.setCell ⟨w.heap.size + 1 + 1, 0, none⟩ (.int .i64 ((pre.length : Int) + 1))) := kpx_set hb2 rfl (by omega) _
  have hc2 : BoxT (W'.setCell ⟨w.heap.size + 1 + 1, 0, none⟩ (.int .i64 ((pre.length : Int) + 1))) A4 p := (Below.heap_setCell _ _ _ _ hne').trans hc
  have kc := hset.cell
  obtain ⟨d0, d1, d2⟩ := hc2.cells hk
  have H2 := Lib.hid (And.intro hset (And.intro hbk2 (And.intro hbl2 (And.intro hkf2 hkp2))))
  have HP := Lib.hid (And.intro hpxx (And.intro hb5 hfx))
  clear hc hk hv hb1 hb2 hb3 hb5 hset hbk2 hbl2 hkf2 hkp2 hpxx hfx hpm hc2
  generalize hWS : W'.setCell ⟨w.heap.size + 1 + 1, 0, none⟩ (.int .i64 ((pre.length : Int) + 1)) = WS at *
  have hwl : ∀ W5 : World, Below WS.heap.size WS W5 → KeepsFrom w1.heap.size W' W5 ∧ KpX N W' W5 ∧ Below w.heap.size w W5 := fun W5 hb => by
   obtain ⟨-, -, h3, h4, h5⟩ := H2.out
   exact ⟨h4.trans ((below_others hb).from _), h5.trans (KpX.of_below hb (by have := h3.size; omega)), h3.trans (hb.mono h3.size)⟩
  have HWL := Lib.hid hwl
  clear hwl
  have no : ∀ (W5 : World), Below WS.heap.size WS W5 → a.x.right = false → (KeepsFrom w1.heap.size W' (W5.setCell ⟨w.heap.size + 1, 0, none⟩ (.bool false)) ∧ (Code.ret = Code.ret ∧ a.x.right = false) ∧ Boxed (W5.setCell ⟨w.heap.size + 1, 0, none⟩ (.bool false)) (w.heap.size + 1) 4 (.bool false) ∧ Below w.heap.size w (W5.setCell ⟨w.heap.size + 1, 0, none⟩ (.bool false))) := fun W5 hb hr => by
   obtain ⟨h1, h2, h3⟩ := HWL.out _ hb
   exact ⟨h1.trans ((KeepsOthers.setCell _ _ _).from _), ⟨rfl, hr⟩, (Boxed.bel H2.out.2.1 hb).set _, h3.setCell (by show w.heap.size ≤ w.heap.size + 1; omega) _⟩
  have HNO := Lib.hid no
  have HBKC := Lib.hid (And.intro (Boxed.cell H2.out.2.1) (Boxed.frozen H2.out.2.1))
  clear no
  have hlen : pre.length < 100000 := by omega
  by_cases hlt : pre.length < 24
  ·have hlt' : ¬ (24 : Int) < (pre.length : Int) + 1 := by omega
   cases hft : fitB p.kind p.lab p.kids.length with
   | true =>
    have HFT := Lib.hid hft
    clear hft hpx
    gi_wp2
    refine ⟨trivial, ?_⟩
    refine (CallsIn.inRound l1 (callsIn_wide.2 (fits0 _ _ _ _ _ _ hlm))).mono ?_
    rintro e w5 ⟨rfl, hb5⟩
    have HB5 := Lib.hid hb5
    rw [HFT.out]
    clear hb5
    gi_wp2
    obtain ⟨h1, h2, h3⟩ := HWL.out _ HB5.out
    refine ⟨h1, h2, ⟨⟨Boxed.bel H2.out.2.1 HB5.out, ?_⟩, h3, by simp; omega, fun q hq => ?_⟩⟩
    ·have := Boxed.bel H2.out.1 HB5.out
     simpa using this
    ·rcases List.mem_append.1 hq with hq | hq
     ·exact HP.out.2.1 q hq
     ·obtain rfl : q = p := by simpa using hq
      rw [HP.out.2.2, HFT.out]
   | false =>
    have HFT := Lib.hid hft
    have HNR := Lib.hid (not_right HP.out.1 (.inr ⟨p.x, by simp, by rw [HP.out.2.2]; exact hft⟩))
    clear hft hpx
    gi_wp2
    refine ⟨trivial, ?_⟩
    refine (CallsIn.inRound l1 (callsIn_wide.2 (fits0 _ _ _ _ _ _ hlm))).mono ?_
    rintro e w5 ⟨rfl, hb5⟩
    have HB5 := Lib.hid hb5
    have kc5 := (Boxed.bel H2.out.2.1 hb5).cell
    have kf5 := (Boxed.bel H2.out.2.1 hb5).frozen
    rw [HFT.out]
    clear hb5
    gi_wp2
    obtain ⟨g1, ⟨-, g2⟩, g3⟩ := HNO.out _ HB5.out HNR.out
    exact ⟨g1, ⟨rfl, g2⟩, g3⟩
  ·have hlt' : (24 : Int) < (pre.length : Int) + 1 := by omega
   have HNR := Lib.hid (not_right HP.out.1 (.inl (by simp; omega)))
   obtain ⟨kc5, kf5⟩ := HBKC.out
   clear hpx
   gi_wp2
   refine ⟨trivial, ?_⟩
   gi_wp2
   obtain ⟨g1, ⟨-, g2⟩, g3⟩ := HNO.out _ (Below.refl _ _) HNR.out
   exact ⟨g1, ⟨rfl, g2⟩, g3⟩
 case done =>
  rintro D W' hD ⟨⟨hb1, hb2⟩, hb3, hb4, hb5⟩ hK
  have hr : a.x.right = true := is_right (by rw [← partsT_len]; exact hb4) (fun p hp => by
   rw [← HPL.out] at hp
   obtain ⟨q, hq, rfl⟩ := List.mem_map.1 hp
   exact hb5 q hq)
  have hc := hb1.cell
  have hf := hb1.frozen
  have hs := hb1.set (.bool true)
  have hDn : D ≠ w.heap.size + 1 := by omega
  have HB := Lib.hid (And.intro hb3 (And.intro hs hr))
  have hK2 : (W'.setCell ⟨w.heap.size + 1, 0, none⟩ (.bool true)).heap[D]? = some (.deferred (some [])) := (Below.heap_setCell _ _ _ _ hDn).trans hK
  have hs2 : ((W'.setCell ⟨w.heap.size + 1, 0, none⟩ (.bool true)).putObj D (.deferred none)).cell? ⟨w.heap.size + 1, 0, none⟩ = some (.bool true) := (World.cell?_of_block (World.putObj_heap_other (by show w.heap.size + 1 ≠ D; omega))).trans hs.cell
  have HS2 := Lib.hid hs2
  clear hb1 hb2 hb3 hb4 hb5 hs hr hs2
  go_wp2_with fail
  refine ⟨by simp, .inl ⟨_, _, rfl, run_takeDeferred hK2, ?_⟩⟩
  exact ⟨.bool true, by simp [results, Tryd.results37, go_sem, HS2.out], by rw [HB.out.2.2], belowK w (HB.out.1.setCell (by show w.heap.size ≤ w.heap.size + 1; omega) _) (by omega)⟩
 case stop =>
  rintro D c2 pre W' hD hpre ⟨⟨rfl, hr⟩, hb1, hb3⟩ hK
  have HB := Lib.hid (And.intro hb3 hr)
  have hs2 : (W'.putObj D (.deferred none)).cell? ⟨w.heap.size + 1, 0, none⟩ = some (.bool false) := (World.cell?_of_block (World.putObj_heap_other (by show w.heap.size + 1 ≠ D; omega))).trans hb1.cell
  have HS2 := Lib.hid hs2
  clear hb1 hb3 hr hs2
  gi_wp2
  refine ⟨by simp, .inl ⟨_, _, rfl, run_takeDeferred hK, ?_⟩⟩
  exact ⟨.bool false, by simp [results, Tryd.results37, go_sem, HS2.out], by rw [HB.out.2], belowK w HB.out.1 (by omega)⟩
end Go.Proofs.YtnccgaanfjaimaaDoor

namespace Go.Proofs.YtnccgaanfjaimaaDoor
open Go.ChangeShapes Go.WideShapes Go.ChangeAt Go.RowKit
set_option linter.unusedVariables false
set_option linter.unusedSimpArgs false

attribute [local go_sem] Oper.semAt_some

noncomputable def sameX (x y : X) : Bool := @decide (x = y) (Classical.propDecidable _)
theorem sameX_true {x y : X} (h : x = y) : sameX x y = true := @decide_eq_true _ (Classical.propDecidable _) h
theorem sameX_false {x y : X} (h : x ≠ y) : sameX x y = false := @decide_eq_false _ (Classical.propDecidable _) h
theorem sameX_iff {x y : X} : sameX x y = true ↔ x = y := ⟨fun h => @of_decide_eq_true _ (Classical.propDecidable _) h, sameX_true⟩

def agree (z : T × T) : Prop := z.1.kind = z.2.kind ∧ z.1.lab = z.2.lab ∧ z.1.kids.length = z.2.kids.length
theorem zip_same : ∀ (a b : T), (∀ z ∈ zipT a b, agree z) ↔ a.x = b.x := by
 intro a
 induction a using T.ind' with
 | h a ih =>
  intro b
  have key : ∀ (ts us : List T), (∀ y ∈ ts, ∀ b, (∀ z ∈ zipT y b, agree z) ↔ y.x = b.x) → ts.length = us.length → ((∀ z ∈ zipTL ts us, agree z) ↔ ts.map T.x = us.map T.x) := by
   intro ts
   induction ts with
   | nil =>
    intro us _ hl
    obtain rfl : us = [] := List.eq_nil_of_length_eq_zero (by simpa using hl.symm)
    simp [zipTL_nil]
   | cons t ts iht =>
    intro us hy hl
    cases us with
    | nil => simp at hl
    | cons u us =>
     rw [zipTL_cons, List.map_cons, List.map_cons, List.cons.injEq, ← hy t (by simp) u, ← iht us (fun y hh => hy y (by simp [hh])) (by simpa using hl)]
     constructor
     ·exact fun h => ⟨fun z hz => h z (List.mem_append_left _ hz), fun z hz => h z (List.mem_append_right _ hz)⟩
     ·intro h z hz
      rcases List.mem_append.1 hz with hz | hz
      ·exact h.1 z hz
      ·exact h.2 z hz
  rw [zipT_eq]
  constructor
  ·intro h
   obtain ⟨h1, h2, h3⟩ := h (a, b) (by simp)
   refine X.ext' ?_ ?_ ?_
   ·rw [T.x_kind, T.x_kind]; exact h1
   ·rw [T.x_lab, T.x_lab]; exact h2
   ·rw [T.x_kids, T.x_kids]
    exact (key a.kids b.kids ih h3).1 fun z hz => h z (by simp [hz])
  ·intro h
   have h1 : a.kind = b.kind := by rw [← T.x_kind, ← T.x_kind, h]
   have h2 : a.lab = b.lab := by rw [← T.x_lab, ← T.x_lab, h]
   have h3 : a.kids.map T.x = b.kids.map T.x := by rw [← T.x_kids, ← T.x_kids, h]
   have h4 : a.kids.length = b.kids.length := by have := congrArg List.length h3; simpa using this
   intro z hz
   rcases List.mem_cons.1 hz with rfl | hz
   ·exact ⟨h1, h2, h4⟩
   ·exact (key a.kids b.kids ih h4).2 h3 z hz
theorem zip_len : ∀ (a b : T), (zipT a b).length ≤ a.x.sz := by
 intro a
 induction a using T.ind' with
 | h a ih =>
  intro b
  rw [zipT_eq, X.sz_eq, List.length_cons, T.x_kids]
  generalize b.kids = us
  generalize a.kids = ts at ih ⊢
  induction ts generalizing us with
  | nil => rw [zipTL_nil]; simp
  | cons t ts iht =>
   cases us with
   | nil => rw [zipTL_nil']; simp
   | cons u us =>
    rw [zipTL_cons, List.length_append, List.map_cons, szL_cons]
    have := ih t (by simp) u
    have := iht us (fun y hy => ih y (by simp [hy]))
    omega

end Go.Proofs.YtnccgaanfjaimaaDoor

namespace Go.Proofs.YtnccgaanfjaimaaDoor
open Go.ChangeShapes Go.WideShapes Go.ChangeAt Go.RowKit
set_option linter.unusedVariables false
set_option linter.unusedSimpArgs false

mutual
def X.emp : X → Bool
 | .mk k _ ks => if k = 4 ∨ k = 6 then true else if k = 3 then anyE ks else if k = 2 ∨ k = 5 then allE ks else false
def anyE : List X → Bool
 | [] => false
 | x :: xs => x.emp || anyE xs
def allE : List X → Bool
 | [] => true
 | x :: xs => x.emp && allE xs
end
theorem anyE_eq : ∀ l : List X, anyE l = l.any X.emp
 | [] => rfl
 | x :: xs => by rw [anyE, anyE_eq xs]; rfl
theorem allE_eq : ∀ l : List X, allE l = !(l.any fun x => !x.emp)
 | [] => rfl
 | x :: xs => by rw [allE, allE_eq xs]; cases h : x.emp <;> simp [h]

/-- what tells of each of some whether it is -/
def Tells (f : Nat) (P : X → Bool) (l : List X) : Prop := ∀ x ∈ l, ∀ (N : Nat) (w : World) (v : Value), XV N w v x → N ≤ w.heap.size → Calls Tryd.prog f #[v] w fun e w' => e = .returned (.bool (P x)) ∧ Below w.heap.size w w'

theorem any_take {P : X → Bool} {l : List X} {k : Nat} (h : (l.take k).any P = false) (hk : k < l.length) : (l.take (k + 1)).any P = P l[k] := by
 rw [List.take_succ_eq_append_getElem hk, List.any_append, h]
 simp
theorem any_of {P : X → Bool} {l : List X} {k : Nat} (hk : k < l.length) (h : P l[k] = true) : l.any P = true := List.any_eq_true.2 ⟨_, List.getElem_mem hk, h⟩

set_option maxHeartbeats 2000000 in
theorem index40 {N : Nat} {w : World} {v : Value} {l : List X} {P : X → Bool} (hf : Tells 64 P l) (h : XR N w v l) (hN : N ≤ w.heap.size) (hl : l.length ≤ 100000) :
  Calls Tryd.prog 99 #[v, .func (.func 64) #[] #[]] w fun e w' => ∃ i : Int, e = .returned (.int .i64 i) ∧ (l.any P = decide (0 ≤ i)) ∧ Below w.heap.size w w' := by
 obtain ⟨A, c, rfl⟩ := h.form
 have H := Lib.hid h
 have HF := Lib.hid hf
 obtain ⟨n, hn⟩ : ∃ n, l.length = n := ⟨_, rfl⟩
 have HN := Lib.hid hn
 rw [hn] at H hl ⊢
 clear h hf hn
 go_enter Tryd.func99, Tryd.ntmps99
 go_wp2_with fail
 go_loopw [8] (fun i wr => ∃ k : Nat, k ≤ n ∧ i = .int .i64 k ∧ (l.take k).any P = false ∧ Below w.heap.size w wr) (fun i _ => n - (intOf i).toNat)
 case atStart => exact ⟨0, Nat.zero_le _, rfl, rfl, Below.refl _ _⟩
 case round =>
  obtain ⟨k, hk, rfl, ht, hb⟩ := hrel
  have HT := Lib.hid ht
  have HB := Lib.hid hb
  clear ht hb
  by_cases hlt : k < n
  ·have e1 : k < l.length := by have := HN.out; omega
   obtain ⟨ad, kv, f1, _, q0, q1, q2, q3⟩ := XR.at3 (H.out.bel (HB.out.mono hN)) e1
   subst f1
   have hc := HF.out l[k] (List.getElem_mem e1) N wr (.agg #[.int .i64 l[k].kind, .string l[k].lab, kv]) ⟨kv, rfl, q3⟩ (Nat.le_trans hN HB.out.size)
   cases hP : P l[k] with
   | true =>
    rw [hP] at hc
    have HC := Lib.hid hc
    have HP := Lib.hid hP
    clear hc hP q3
    go_wp2_with (go_at_call 64; refine HC.out.mono ?_; rintro e w1 ⟨rfl, hb1⟩; have HB1 := Lib.hid (HB.out.trans (hb1.mono HB.out.size)); clear hb1)
    go_ret
    exact ⟨_, rfl, by rw [any_of e1 HP.out]; simp, HB1.out⟩
   | false =>
    rw [hP] at hc
    have HC := Lib.hid hc
    have HP := Lib.hid hP
    clear hc hP q3
    go_wp2_with (go_at_call 64; refine HC.out.mono ?_; rintro e w1 ⟨rfl, hb1⟩; have HB1 := Lib.hid (HB.out.trans (hb1.mono HB.out.size)); clear hb1)
    go_roundw
    case rel => exact ⟨k + 1, by omega, by go_num, by rw [any_take HT.out e1]; exact HP.out, HB1.out⟩
    case measure => simp [intOf]; omega
  ·have : k = n := by omega
   subst this
   go_wp2_with fail
   go_ret
   refine ⟨_, rfl, ?_, HB.out⟩
   have := HT.out
   rw [List.take_of_length_le (by have := HN.out; omega)] at this
   rw [this]
   simp
theorem contains40 {N : Nat} {w : World} {v : Value} {l : List X} {P : X → Bool} (hf : Tells 64 P l) (h : XR N w v l) (hN : N ≤ w.heap.size) (hl : l.length ≤ 100000) :
  Calls Tryd.prog 81 #[v, .func (.func 64) #[] #[]] w fun e w' => e = .returned (.bool (l.any P)) ∧ Below w.heap.size w w' := by
 have H := Lib.hid (index40 hf h hN hl)
 obtain ⟨A, c, rfl⟩ := h.form
 clear hf h
 go_enter Tryd.func81, Tryd.ntmps81
 go_wp2_with (go_at_call 99; refine H.out.mono ?_; rintro e w1 ⟨i, rfl, hi, hb1⟩; have HI := Lib.hid (And.intro hi hb1); clear hi hb1)
 go_ret
 exact ⟨by rw [HI.out.1]; rfl, HI.out.2⟩

set_option maxHeartbeats 2000000 in
theorem index57 {N : Nat} {w : World} {v : Value} {l : List X} {P : X → Bool} (hf : Tells 82 P l) (h : XR N w v l) (hN : N ≤ w.heap.size) (hl : l.length ≤ 100000) :
  Calls Tryd.prog 99 #[v, .func (.func 82) #[] #[]] w fun e w' => ∃ i : Int, e = .returned (.int .i64 i) ∧ (l.any P = decide (0 ≤ i)) ∧ Below w.heap.size w w' := by
 obtain ⟨A, c, rfl⟩ := h.form
 have H := Lib.hid h
 have HF := Lib.hid hf
 obtain ⟨n, hn⟩ : ∃ n, l.length = n := ⟨_, rfl⟩
 have HN := Lib.hid hn
 rw [hn] at H hl ⊢
 clear h hf hn
 go_enter Tryd.func99, Tryd.ntmps99
 go_wp2_with fail
 go_loopw [8] (fun i wr => ∃ k : Nat, k ≤ n ∧ i = .int .i64 k ∧ (l.take k).any P = false ∧ Below w.heap.size w wr) (fun i _ => n - (intOf i).toNat)
 case atStart => exact ⟨0, Nat.zero_le _, rfl, rfl, Below.refl _ _⟩
 case round =>
  obtain ⟨k, hk, rfl, ht, hb⟩ := hrel
  have HT := Lib.hid ht
  have HB := Lib.hid hb
  clear ht hb
  by_cases hlt : k < n
  ·have e1 : k < l.length := by have := HN.out; omega
   obtain ⟨ad, kv, f1, _, q0, q1, q2, q3⟩ := XR.at3 (H.out.bel (HB.out.mono hN)) e1
   subst f1
   have hc := HF.out l[k] (List.getElem_mem e1) N wr (.agg #[.int .i64 l[k].kind, .string l[k].lab, kv]) ⟨kv, rfl, q3⟩ (Nat.le_trans hN HB.out.size)
   cases hP : P l[k] with
   | true =>
    rw [hP] at hc
    have HC := Lib.hid hc
    have HP := Lib.hid hP
    clear hc hP q3
    go_wp2_with (go_at_call 82; refine HC.out.mono ?_; rintro e w1 ⟨rfl, hb1⟩; have HB1 := Lib.hid (HB.out.trans (hb1.mono HB.out.size)); clear hb1)
    go_ret
    exact ⟨_, rfl, by rw [any_of e1 HP.out]; simp, HB1.out⟩
   | false =>
    rw [hP] at hc
    have HC := Lib.hid hc
    have HP := Lib.hid hP
    clear hc hP q3
    go_wp2_with (go_at_call 82; refine HC.out.mono ?_; rintro e w1 ⟨rfl, hb1⟩; have HB1 := Lib.hid (HB.out.trans (hb1.mono HB.out.size)); clear hb1)
    go_roundw
    case rel => exact ⟨k + 1, by omega, by go_num, by rw [any_take HT.out e1]; exact HP.out, HB1.out⟩
    case measure => simp [intOf]; omega
  ·have : k = n := by omega
   subst this
   go_wp2_with fail
   go_ret
   refine ⟨_, rfl, ?_, HB.out⟩
   have := HT.out
   rw [List.take_of_length_le (by have := HN.out; omega)] at this
   rw [this]
   simp
theorem contains57 {N : Nat} {w : World} {v : Value} {l : List X} {P : X → Bool} (hf : Tells 82 P l) (h : XR N w v l) (hN : N ≤ w.heap.size) (hl : l.length ≤ 100000) :
  Calls Tryd.prog 81 #[v, .func (.func 82) #[] #[]] w fun e w' => e = .returned (.bool (l.any P)) ∧ Below w.heap.size w w' := by
 have H := Lib.hid (index57 hf h hN hl)
 obtain ⟨A, c, rfl⟩ := h.form
 clear hf h
 go_enter Tryd.func81, Tryd.ntmps81
 go_wp2_with (go_at_call 99; refine H.out.mono ?_; rintro e w1 ⟨i, rfl, hi, hb1⟩; have HI := Lib.hid (And.intro hi hb1); clear hi hb1)
 go_ret
 exact ⟨by rw [HI.out.1]; rfl, HI.out.2⟩

theorem emp_eq (x : X) : x.emp = if x.kind = 4 ∨ x.kind = 6 then true else if x.kind = 3 then x.kids.any X.emp else if x.kind = 2 ∨ x.kind = 5 then !(x.kids.any fun y => !y.emp) else false := by
 obtain ⟨k, l, ks⟩ := x
 rw [X.emp, anyE_eq, allE_eq]
 rfl
theorem sz_kid {x y : X} (h : y ∈ x.kids) : y.sz < x.sz := by
 have := szL_mem h
 rw [X.sz_eq x]
 omega

set_option maxHeartbeats 4000000 in
theorem emp_any : ∀ (x : X), x.sz ≤ 100000 → ∀ (N : Nat) (w : World) (v : Value), XV N w v x → N ≤ w.heap.size → Calls Tryd.prog 64 #[v] w fun e w' => e = .returned (.bool x.emp) ∧ Below w.heap.size w w' := by
 intro x
 induction x using X.ind' with
 | h x ih =>
  intro hsz N w v hx hN
  have t40 : Tells 64 X.emp x.kids := fun y hy N w v h hN => ih y hy (by have := sz_kid hy; omega) N w v h hN
  have t57 : Tells 82 (fun y => !y.emp) x.kids := by
   intro y hy N w v h hN
   obtain ⟨kv, rfl, hr⟩ := h
   obtain ⟨A, c, rfl⟩ := hr.form
   have hb0 : Below w.heap.size w (w.alloc (.cells #[.int .i64 y.kind, .string y.lab, .slice A y.kids.length c] 25)) := (Below.refl _ w).alloc (Nat.le_refl _) _
   have HC := Lib.hid (t40 y hy N (w.alloc (.cells #[.int .i64 y.kind, .string y.lab, .slice A y.kids.length c] 25)) _ ⟨_, rfl, hr.bel (hb0.mono hN)⟩ (Nat.le_trans hN hb0.size))
   have HB := Lib.hid hb0
   clear hb0 hr t40
   go_enter Tryd.func82, Tryd.ntmps82
   go_wp2_with (go_at_call 64; refine HC.out.mono ?_; rintro e w1 ⟨rfl, hb1⟩; have HB1 := Lib.hid hb1; clear hb1)
   go_ret
   exact ⟨rfl, HB.out.trans (HB1.out.mono HB.out.size)⟩
  obtain ⟨kv, rfl, hr⟩ := hx
  obtain ⟨A, c, rfl⟩ := hr.form
  have hb0 : Below w.heap.size w (w.alloc (.cells #[.int .i64 x.kind, .string x.lab, .slice A x.kids.length c] 25)) := (Below.refl _ w).alloc (Nat.le_refl _) _
  have hl : x.kids.length ≤ 100000 := by have := len_szL x.kids; rw [X.sz_eq] at hsz; omega
  have c40 := Lib.hid (contains40 t40 (hr.bel (hb0.mono hN)) (Nat.le_trans hN hb0.size) hl)
  have c57 := Lib.hid (contains57 t57 (hr.bel (hb0.mono hN)) (Nat.le_trans hN hb0.size) hl)
  have HB := Lib.hid hb0
  clear hb0 hr t40 t57 ih hl
  rw [emp_eq]
  generalize x.kind = k at *
  by_cases h1 : k = 4 ∨ k = 6
  ·rw [if_pos h1]
   rcases h1 with rfl | rfl
   all_goals
    go_enter Tryd.func64, Tryd.ntmps64
    go_wp2_with fail
    go_ret
    exact ⟨rfl, HB.out⟩
  ·rw [if_neg h1]
   by_cases h2 : k = 3
   ·subst h2
    rw [if_pos rfl]
    go_enter Tryd.func64, Tryd.ntmps64
    go_wp2_with (go_at_call 81; refine c40.out.mono ?_; rintro e w1 ⟨rfl, hb1⟩; have HB1 := Lib.hid hb1; clear hb1)
    go_ret
    exact ⟨rfl, HB.out.trans (HB1.out.mono HB.out.size)⟩
   ·rw [if_neg h2]
    by_cases h3 : k = 2 ∨ k = 5
    ·rw [if_pos h3]
     rcases h3 with rfl | rfl
     all_goals
      go_enter Tryd.func64, Tryd.ntmps64
      go_wp2_with (go_at_call 81; refine c57.out.mono ?_; rintro e w1 ⟨rfl, hb1⟩; have HB1 := Lib.hid hb1; clear hb1)
      go_ret
      exact ⟨rfl, HB.out.trans (HB1.out.mono HB.out.size)⟩
    ·rw [if_neg h3]
     simp only [not_or] at h1 h3
     obtain ⟨g1, g2⟩ := h1
     obtain ⟨g3, g4⟩ := h3
     go_enter Tryd.func64, Tryd.ntmps64
     go_wp2_with fail
     go_ret
     exact ⟨rfl, HB.out⟩

theorem empty18_any {N : Nat} {w : World} {v : Value} {x : X} (hx : XV N w v x) (hN : N ≤ w.heap.size) (hsz : x.sz ≤ 100000) (hl : x.lit) :
  Calls Tryd.prog 40 #[v] w fun e w' => e = .returned (.bool (x.right && x.emp)) ∧ Below w.heap.size w w' := by
 have hR : ∀ w', Below w.heap.size w w' → Calls Tryd.prog 37 #[v] w' fun e w1 => e = .returned (.bool x.right) ∧ Below w'.heap.size w' w1 := fun w' hb => right12_any (hx.bel (hb.mono hN)) (Nat.le_trans hN hb.size) hsz hl
 have hE : ∀ w', Below w.heap.size w w' → Calls Tryd.prog 64 #[v] w' fun e w1 => e = .returned (.bool x.emp) ∧ Below w'.heap.size w' w1 := fun w' hb => emp_any x hsz N w' v (hx.bel (hb.mono hN)) (Nat.le_trans hN hb.size)
 obtain ⟨kv, rfl, hr⟩ := hx
 obtain ⟨A, c, rfl⟩ := hr.form
 have hb0 : Below w.heap.size w (w.alloc (.cells #[.int .i64 x.kind, .string x.lab, .slice A x.kids.length c] 25)) := (Below.refl _ w).alloc (Nat.le_refl _) _
 have HR := Lib.hid (hR _ hb0)
 have HE := Lib.hid hE
 have HB := Lib.hid hb0
 clear hR hE hb0 hr
 cases hrt : x.right with
 | true =>
  rw [hrt] at HR
  go_enter Tryd.func40, Tryd.ntmps40
  go_wp2_with (first | (go_at_call 37; refine HR.out.mono ?_; rintro e w1 ⟨rfl, hb1⟩; have HB1 := Lib.hid (HB.out.trans (hb1.mono HB.out.size)); obtain ⟨d0, d1, d2⟩ := box_cells (w := w) (W := w1) (by simpa using hb1); clear hb1) | (go_at_call 64; refine (HE.out _ HB1.out).mono ?_; rintro e w2 ⟨rfl, hb2⟩; have HB2 := Lib.hid (HB1.out.trans (hb2.mono HB1.out.size)); clear hb2))
  go_ret
  exact ⟨by simp, HB2.out⟩
 | false =>
  rw [hrt] at HR
  go_enter Tryd.func40, Tryd.ntmps40
  go_wp2_with (first | (go_at_call 37; refine HR.out.mono ?_; rintro e w1 ⟨rfl, hb1⟩; have HB1 := Lib.hid (HB.out.trans (hb1.mono HB.out.size)); clear hb1))
  go_ret
  exact ⟨rfl, HB1.out⟩
end Go.Proofs.YtnccgaanfjaimaaDoor

namespace Go.Proofs.YtnccgaanfjaimaaDoor
open Go.ChangeShapes Go.WideShapes Go.ChangeAt Go.RowKit
set_option linter.unusedVariables false
set_option linter.unusedSimpArgs false

attribute [local go_sem] Oper.semAt_some

/-- a part, as it stands where a word is walked: its kind, its label, how many spots it is, whether it takes the empty word; whether labels that it takes may end here -/
structure Sp where
 kind : Int
 lab : ByteArray
 size : Nat
 emp : Bool
 ends : Bool
def Sp.cells (s : Sp) : List Value := [.int .i64 s.kind, .string s.lab, .int .i64 s.size, .bool s.emp, .bool s.ends]
def flatS (l : List Sp) : List Value := l.flatMap Sp.cells
theorem flatS_len (l : List Sp) : (flatS l).length = l.length * 5 := by simp [flatS, Sp.cells, List.length_flatMap, Function.comp_def, List.map_const']
theorem flatS_app (l m : List Sp) : flatS (l ++ m) = flatS l ++ flatS m := by simp [flatS]
theorem parts56 : (Tryd.prog.info? 94).map (fun i => (i.zero, i.size, i.bytes)) = some (some (.agg #[.int .i64 0, .string ⟨#[]⟩, .int .i64 0, .bool false, .bool false]), 5, 40) := by kernel_rfl
def spX (e : Bool) (x : X) : Sp := ⟨x.kind, x.lab, x.sz, x.emp, e⟩

section
variable {P : Program} {l n : Nat} {ops : Array Oper} {Q : Exit → Act → World → Prop}
theorem rowsWide {row : String} {args : Array Value} {w : World} {R : Value → World → Prop} {m : Nat} (h : Rows P row args w R) : RowsIn (Fence.wide.inRound l) m P row args w R := fun c cs _ =>
 let ⟨v, w', r, s⟩ := h c cs
 ⟨v, w', r, (stepsIn_wide (P := P)).2 s⟩
theorem op_round {o : Oper} {a : Act} {w : World} {K : Act → World → Prop} (hd : ∀ c, o.op ≠ .defer c) (h : o.wp P a w K Q) : o.wpIn (Fence.wide.inRound l) n P a w K Q := by
 refine ⟨fun _ _ => trivial, ?_⟩
 rw [show (Fence.wide.inRound l).round = some l from rfl, Oper.semAt_eq _ _ _ hd]
 unfold Oper.wp at h
 cases hr : (execOp a.eval o).run P w with
 | ok x w' =>
  rw [hr] at h
  cases x with
  | value v => exact h
  | skip => exact h
  | defer d => exact h
  | enter f args => exact ⟨fun hx => by simp [Fence.inRound, Fence.wide] at hx, CallsIn.inRound l (callsIn_wide.2 h)⟩
  | row r args => exact ⟨fun hx => by simp [Fence.inRound, Fence.wide] at hx, rowsWide h⟩
  | _ => exact h.elim
 | halt x w' =>
  rw [hr] at h
  cases x with
  | panic v => exact h
  | _ => exact h.elim
theorem any_round {md : Region.Mode} (hd : ∀ (i : Nat) (o : Oper), ops[i]? = some o → ∀ c, o.op ≠ Op.defer c) (hlo : ¬ LetsOut Q) : ∀ (fuel : Nat) (listed : Array Bool) (a : Act) (w : World), wpAny P md ops Q fuel listed a w → wpAnyIn (Fence.wide.inRound l) n P md ops Q fuel listed a w
 | 0, _, _, _, h => h
 | fuel + 1, listed, a, w, h => by
  refine ⟨h.1, fun i hi => ?_⟩
  have h1 := wpOp_mono (fun a' w' h' => any_round hd hlo fuel _ a' w' h') (h.2 i hi)
  unfold wpOp at h1
  unfold wpOpIn
  cases ho : ops[i]? with
  | none => rw [ho] at h1; exact h1
  | some o =>
   rw [ho] at h1
   simp only at h1 ⊢
   split
   ·rename_i hw
    rw [if_pos hw] at h1
    rcases h1 with h1 | h1
    ·exact op_round (hd i o ho) h1
    ·exact absurd h1.2 hlo
   ·rename_i hw
    rw [if_neg hw] at h1
    exact ⟨fun _ _ => trivial, h1⟩
theorem wpIn_round_held {S : World → Prop} {id : Nat} {a : Act} {w : World} (hm : P.follows .mixedOrders = true) (hd : ops.all (fun o => match o.op with | .defer _ => false | _ => true) = true) (hlo : ¬ LetsOut Q) (hS : S w.drew)
  (h : S w.drew → wpAnyH P .any ops Q S ops.size (Array.replicate ops.size false) a w.drew) : (Code.region id ops true).wpIn (Fence.wide.inRound l) n P Q a w := by
 refine wpIn_region_any hm (any_round (fun i o ho c e => ?_) hlo _ _ _ _ (wpAny_of_held _ _ _ _ (h hS)))
 have := Array.all_eq_true.1 hd i (Array.getElem?_eq_some_iff.1 ho).1
 rw [(Array.getElem?_eq_some_iff.1 ho).2, e] at this
 cases this
end

theorem step_append_own {P : Program} {w : World} {ops : Array Oper} {o : Oper} {a : Act} {K : Act → World → Prop} {Q : Exit → Act → World → Prop} {E : Prop} (hgd : o.guard = none) (s x : Operand) {t e base : Nat} (ho : o.op = .call { callee := .builtin .append, args := #[s, x], argTypes := #[t, t] })
  {i : TypeInfo} {z : Value} {size bytes : Nat} (ht : P.underlying t = some (.slice e)) (hi : P.info? e = some i) (hz : i.zero = some z) (hs : i.size = size) (hby : i.bytes = bytes) (hzs : z.cells.size = size) (hsz : 0 < size)
  {v : Value} {n : Nat} {xs : List Value} (he : a.eval s = v) (hown : w.ownsRow base e size v n xs) {ad : Addr} {m c : Nat} {news : List Value} (hx : a.eval x = .slice (some ad) m c) (hl : news.length = m * size)
  (hnews : ∀ j u, news[j]? = some u → w.cell? (ad.add j) = some u) (h1 : ∀ u ∈ news, u.oneCell' = true) (h63 : n + m ≤ maxLen) (hbytes : (n + m) * bytes ≤ 140737488355328) (hbase : base ≤ w.heap.size)
  (h : ∀ v' w', w'.ownsRow base e size v' (n + m) (xs ++ news) → w.grownBy w' v.ownBlock → (v'.ownBlock = v.ownBlock ∨ v'.ownBlock = some w.heap.size) → K (a.put o.dst v') w') :
  if Region.wanted o (yielded ops a.tmps) = true then Oper.wp P o a w K Q else E := by
 have hw : Region.wanted o (yielded ops a.tmps) = true := by simp [Region.wanted, hgd]
 rw [if_pos hw]
 obtain ⟨v', w', hr, h2, h3, h4, h5⟩ := run_append_own_at (P := P) w base t o.type e i z size bytes ht hi hz hs hby hzs hsz v n xs hown ad m c news hl hnews h1 h63 hbytes hbase
 unfold Oper.wp execOp
 simp only [ho, resolve, invoke, builtin, Sem.run_bind, Sem.run_pure, Result.andThen_ok, List.map_toArray, List.map_cons, List.map_nil, he, hx, hr]
 exact h v' w' h2 h3 h5

theorem part_sz : ∀ (x : X), ∀ y ∈ x.parts, y.sz ≤ x.sz := by
 intro x
 induction x using X.ind' with
 | h x ih =>
  intro y hy
  rw [X.parts_eq] at hy
  rcases List.mem_cons.1 hy with rfl | hy
  ·exact Nat.le_refl _
  ·rw [X.sz_eq x]
   have : ∀ ks : List X, (∀ k ∈ ks, ∀ y ∈ k.parts, y.sz ≤ k.sz) → y ∈ partsL ks → y.sz ≤ szL ks := by
    intro ks
    induction ks with
    | nil => intro _ h; simp [partsL] at h
    | cons k ks ihk =>
     intro hh h
     rw [partsL_cons] at h
     rw [szL_cons]
     rcases List.mem_append.1 h with h | h
     ·have := hh k (by simp) y h; omega
     ·have := ihk (fun k hk => hh k (by simp [hk])) h; omega
   have := this x.kids ih hy
   omega
theorem sz_part {x y : X} (h : y ∈ x.parts) : y.sz ≤ x.sz := part_sz x y h

set_option maxRecDepth 100000 in
set_option maxHeartbeats 8000000 in
theorem spots_any {N : Nat} {w : World} {v : Value} {x : X} (hx : XV N w v x) (hN : N ≤ w.heap.size) (hsz : x.sz ≤ 10000) :
  Calls Tryd.prog 62 #[v] w fun e w' => ∃ v', e = .returned v' ∧ w'.ownsRow w.heap.size 94 5 v' x.sz (flatS (x.parts.map (spX false))) ∧ Below w.heap.size w w' := by
 obtain ⟨a, rfl, rfl, ha⟩ := hx.tree
 obtain ⟨A, c, hk, hv⟩ := ha.cells
 rw [hv]
 have HA := Lib.hid (And.intro ha (And.intro hN hk))
 clear ha hk hv hx
 refine (callsIn_wide (n := 12)).1 ?_
 refine callsIn_of_wp_marks Tryd.func62 rfl trivial ?_ rfl
 simp only [Tryd.ntmps62, List.size_toArray, List.length_cons, List.length_nil, Nat.reduceAdd, Nat.reduceSub, Array.replicate_succ, Array.replicate_zero, List.push_toArray, List.append_toArray, List.nil_append, List.cons_append]
 refine wpIn_wide.2 ?_
 go_wp2_with (go_at_call 60; refine (partsOf_any (a := a) HA.out.2.2 _).mono ?_; rintro e w1 ⟨rfl, hx1, hbw⟩)
 have hq1 : Below w.heap.size w (w.alloc (.cells #[.int .i64 a.kind, .string a.lab, .slice A a.kids.length c] 25)) := (Below.refl _ w).alloc (Nat.le_refl _) _
 generalize hQ1 : w.alloc (.cells #[.int .i64 a.kind, .string a.lab, .slice A a.kids.length c] 25) = Q1 at *
 have hz1 : Q1.heap.size = w.heap.size + 1 := by rw [← hQ1]; simp
 have hbk : Boxed w1 (w.heap.size + 1) 90 (.slice none 0 0) := alloc_at hz1 hbw
 have hb1 : Below w.heap.size w w1 := hq1.trans (((Below.refl _ Q1).alloc (Nat.le_refl _) _ |>.trans (hbw.mono (by simp))).mono (by omega))
 have hz2 : w.heap.size + 2 ≤ w1.heap.size := by have := hbw.size; simp at this; omega
 have hNw : N ≤ w1.heap.size := Nat.le_trans HA.out.2.1 (by omega)
 have hseq := parts_seq 11 (by decide) hx1 (HA.out.1.bel (hb1.mono HA.out.2.1)) hNw (by omega)
 simp only [World.size_alloc, hz1] at hseq
 have HSEQ := Lib.hid hseq
 have HB1 := Lib.hid hb1
 have HBX := Lib.hid hbk
 have HPO := Lib.hid (parts_ok HA.out.1)
 have HPL := Lib.hid (partsT_x a)
 have hpl : (partsT a).length ≤ 10000 := by rw [partsT_len]; exact hsz
 try simp only [World.size_alloc, hz1]
 clear hbw hb1 hbk hseq hx1 hq1 hQ1 hz1
 refine wpIn_wide.1 (?_ : Code.wpIn Fence.wide 12 Tryd.prog _ _ _ _)
 refine wpIn_rangeFunc_X rfl (by omega) (gf := 75) (lb := #[.pointer (some ⟨w.heap.size + 1 + 1, 0, none⟩)]) rfl trivial (enters_of Tryd.func75 (by kernel_rfl) rfl)
  HSEQ.out KpX.trans (fun W' l' o o' hlw hl' ho _ => KpX.putObj W' l' o o' (by omega) hl' ho) (Below.refl _ _) (fun _ => rfl)
  (fun pre W' => (∃ v, Boxed W' (w.heap.size + 1) 90 v ∧ W'.ownsRow w.heap.size 94 5 v pre.length (flatS ((pre.map T.x).map (spX false)))) ∧ Below w.heap.size w W')
  (fun _ _ _ => False)
  (OwnQ.and (fun s X Y ⟨v, h1, h2⟩ hr => ⟨v, hr.cells h1 (by decide), hr.row h2 (by decide)⟩) (ownQ_below (Nat.le_refl _) (by omega))) (fun c s X Y h => h.elim)
  ⟨⟨_, HBX.out, by simp [flatS], .inl ⟨rfl, rfl⟩⟩, HB1.out⟩
  (fun p a' W' => ∃ A4, a' = { tmps := #[.agg #[.int .i64 a.kind, .string a.lab, .slice A a.kids.length c], .pointer (some ⟨w.heap.size, 0, none⟩), .slice none 0 0, .pointer (some ⟨w.heap.size + 1, 0, none⟩), .pointer (some ⟨A4, 0, none⟩), .agg #[.int .i64 a.kind, .string a.lab, .slice A a.kids.length c], .func (.func 75) #[] #[.pointer (some ⟨w.heap.size + 1 + 1, 0, none⟩)], p.v, undef, undef, undef, undef, undef, undef, undef, undef, undef, undef, undef, undef, undef], defers := [] } ∧ BoxT W' A4 p)
  ?hA ?assign ?body ?done (fun _ _ _ _ _ _ h _ => h.elim)
 case hA =>
  rintro p a' _ X Y ⟨A4, rfl, hc⟩ hr
  exact ⟨A4, rfl, hr.cells hc (by decide)⟩
 case assign =>
  intro l1 pre p W' K hI hpx hK
  obtain ⟨A4, c4, hk, hv⟩ := (HPO.out p (hpx.subset (by simp))).cells
  have HK := Lib.hid hK
  have HI' := Lib.hid hI
  have HKV := Lib.hid (And.intro hk hv)
  unfold encP
  rw [hv]
  clear hK hI hk hv
  gi_wp2
  have hbw : Below W'.heap.size W' (W'.alloc (.cells #[.int .i64 p.kind, .string p.lab, .slice A4 p.kids.length c4] 25)) := (Below.refl _ W').alloc (Nat.le_refl _) _
  obtain ⟨⟨v, hb1, hb2⟩, hb3⟩ := HI'.out
  refine HK.out _ _ ((below_others hbw).from _) (KpX.of_below hbw (by have := hb3.size; omega)) ⟨⟨v, hb1.alloc _, hb2.alloc _⟩, hb3.alloc hb3.size _⟩ ⟨W'.heap.size, ?_, ?_⟩
  ·simp only [HKV.out.2]
  ·unfold BoxT
   rw [HKV.out.1]
   exact World.alloc_heap_new W' _
 case body =>
  rintro l1 pre p a' W hwl hloop hpx ⟨⟨v, hb1, hrow⟩, hb3⟩ ⟨A4, rfl, hc⟩
  obtain ⟨i0, hi, hy0, hy1, hy2⟩ := info_parts parts56
  have hpm : p ∈ partsT a := hpx.subset (by simp)
  have hpN := HPO.out p hpm
  obtain ⟨A7, c7, hk, hv⟩ := hpN.cells
  obtain ⟨Ar, qr, rfl⟩ := row_form hrow
  have hlen : pre.length < 10000 := by have := hpx.length_le; simp at this; omega
  have hpsz : p.x.sz ≤ 10000 := by
   have h1 : p.x ∈ a.x.parts := by rw [← HPL.out]; exact List.mem_map.2 ⟨p, hpm, rfl⟩
   exact Nat.le_trans (sz_part h1) hsz
  have hWN : N ≤ W.heap.size := Nat.le_trans HA.out.2.1 hb3.size
  have hxv : ∀ w', Below W.heap.size W w' → XV N w' (.agg #[.int .i64 p.kind, .string p.lab, .slice A7 p.kids.length c7]) p.x := fun w' hb => by
   rw [← hv]
   exact (((hpN.bel (hb3.mono HA.out.2.1)).bel (hb.mono hWN)).xv)
  have h14 : ∀ w', Below W.heap.size W w' → Calls Tryd.prog 78 #[.agg #[.int .i64 p.kind, .string p.lab, .slice A7 p.kids.length c7]] w' fun e w1 => e = .returned (.int .i64 p.x.sz) ∧ Below w'.heap.size w' w1 := fun w' hb => size14_any (hxv w' hb) (Nat.le_trans hWN hb.size) (by omega)
  have h40 : ∀ w', Below W.heap.size W w' → Calls Tryd.prog 64 #[.agg #[.int .i64 p.kind, .string p.lab, .slice A7 p.kids.length c7]] w' fun e w1 => e = .returned (.bool p.x.emp) ∧ Below w'.heap.size w' w1 := fun w' hb => emp_any p.x (by omega) N w' _ (hxv w' hb) (Nat.le_trans hWN hb.size)
  have hs : ∀ w', Below W.heap.size W w' → w'.cell? ⟨A4, 0, none⟩ = some (.int .i64 p.kind) ∧ w'.cell? ⟨A4, 1, none⟩ = some (.string p.lab) ∧ w'.cell? ⟨A4, 2, none⟩ = some (.slice A7 p.kids.length c7) := fun w' hb => (hc.bel hb).cells hk
  have hc3 : ∀ w', Below W.heap.size W w' → w'.cell? ⟨w.heap.size + 1, 0, none⟩ = some (.slice Ar pre.length qr) := fun w' hb => (Boxed.bel hb1 hb).cell
  have hrw : ∀ w', Below W.heap.size W w' → w'.ownsRow w.heap.size 94 5 (.slice Ar pre.length qr) pre.length (flatS ((pre.map T.x).map (spX false))) := fun w' hb => own_bel hrow hb
  obtain ⟨sz, hsz'⟩ : ∃ sz, p.x.sz = sz := ⟨_, rfl⟩
  obtain ⟨em, hem⟩ : ∃ em, p.x.emp = em := ⟨_, rfl⟩
  rw [hsz'] at h14
  rw [hem] at h40
  have hnews : flatS (((pre ++ [p]).map T.x).map (spX false)) = flatS ((pre.map T.x).map (spX false)) ++ [.int .i64 p.kind, .string p.lab, .int .i64 sz, .bool em, .bool false] := by
   rw [List.map_append, List.map_append, flatS_app]
   simp [flatS, Sp.cells, spX, hsz', hem, T.x_kind, T.x_lab]
  have hfin : ∀ w9 v' w11, Below W.heap.size W w9 → w11.ownsRow w.heap.size 94 5 v' (pre.length + 1) (flatS ((pre.map T.x).map (spX false)) ++ [.int .i64 p.kind, .string p.lab, .int .i64 sz, .bool em, .bool false]) → w9.grownBy w11 (Value.slice Ar pre.length qr).ownBlock →
    (w11.cell? ⟨A4, 0, none⟩ = some (.int .i64 p.kind) ∧ w11.cell? ⟨A4, 1, none⟩ = some (.string p.lab) ∧ w11.cell? ⟨A4, 2, none⟩ = some (.slice A7 p.kids.length c7)) ∧ w11.cell? ⟨w.heap.size + 1, 0, none⟩ = some (.slice Ar pre.length qr) ∧ w11.frozen? ⟨w.heap.size + 1, 0, none⟩ = false ∧
    ((w11.setCell ⟨w.heap.size + 1, 0, none⟩ v').cell? ⟨A4, 0, none⟩ = some (.int .i64 p.kind) ∧ (w11.setCell ⟨w.heap.size + 1, 0, none⟩ v').cell? ⟨A4, 1, none⟩ = some (.string p.lab) ∧ (w11.setCell ⟨w.heap.size + 1, 0, none⟩ v').cell? ⟨A4, 2, none⟩ = some (.slice A7 p.kids.length c7)) ∧
    (KeepsFrom w1.heap.size W (w11.setCell ⟨w.heap.size + 1, 0, none⟩ v') ∧ KpX N W (w11.setCell ⟨w.heap.size + 1, 0, none⟩ v') ∧ (∃ v, Boxed (w11.setCell ⟨w.heap.size + 1, 0, none⟩ v') (w.heap.size + 1) 90 v ∧ (w11.setCell ⟨w.heap.size + 1, 0, none⟩ v').ownsRow w.heap.size 94 5 v (pre ++ [p]).length (flatS (((pre ++ [p]).map T.x).map (spX false)))) ∧ Below w.heap.size w (w11.setCell ⟨w.heap.size + 1, 0, none⟩ v')) := by
   intro w9 v' w11 hb9 hown hg
   have hrow9 := hrw w9 hb9
   have hbx9 : Boxed w9 (w.heap.size + 1) 90 (.slice Ar pre.length qr) := Boxed.bel hb1 hb9
   have hbx11 : Boxed w11 (w.heap.size + 1) 90 (.slice Ar pre.length qr) := hbx9.kept hg (hbx9.not_row (by decide) hrow9)
   have hA4n : some A4 ≠ (Value.slice Ar pre.length qr).ownBlock := by
    intro e
    rcases hrow9.2 with ⟨he, _⟩ | ⟨g, cap, cur, he, _, hgg, _⟩
    ·injection he with he _ _; subst he; cases e
    ·injection he with he _ _
     subst he
     injection e with e
     have := (hc.bel hb9 : w9.heap[A4]? = _)
     rw [e] at this
     rw [this] at hgg
     injection hgg with hgg
     injection hgg with _ hgg _
     cases hgg
   have hc11 : BoxT w11 A4 p := (hg.block _ (hc.bel hb9).lt hA4n).trans (hc.bel hb9)
   have hne := hc11.ne hbx11 (by decide)
   have hc12 : BoxT (w11.setCell ⟨w.heap.size + 1, 0, none⟩ v') A4 p := (Below.heap_setCell _ _ _ _ hne.symm).trans hc11
   have hkf9 : KeepsFrom w1.heap.size W w9 := (below_others hb9).from _
   have hkf11 : KeepsOthers w9 w11 := KeepsOthers.of_grownBy hg fun j o ej hj => by
    rcases hrow9.2 with ⟨he, _⟩ | ⟨g, cap, cur, he, _, hgg, _⟩
    ·injection he with he _ _; subst he; cases ej
    ·injection he with he _ _
     subst he
     obtain rfl : g = j := by simpa [Value.ownBlock] using ej
     rw [hgg] at hj; cases hj; rfl
   have hlow : ∀ j, (Value.slice Ar pre.length qr).ownBlock = some j → w.heap.size ≤ j := fun j e => (hrow9.lt j e).1
   have hkp11 : KpX N w9 w11 := by
    refine ⟨hg.size, fun k hk => hg.block k (by have := hb9.size; omega) (fun e => by have := hlow k e.symm; have := HA.out.2.1; omega), fun k v t fr hk ht => ?_⟩
    refine (hg.block k (Array.getElem?_eq_some_iff.1 hk).1 fun e => ?_).trans hk
    rcases hrow9.2 with ⟨he, _⟩ | ⟨g, cap, cur, he, _, hgg, _⟩
    ·injection he with he _ _; subst he; cases e
    ·injection he with he _ _
     subst he
     injection e with e
     rw [e] at hk
     rw [hk] at hgg
     injection hgg with hgg
     injection hgg with _ hgg _
     subst hgg
     cases ht
   have hbl9 : Below w.heap.size w w9 := hb3.trans (hb9.mono hb3.size)
   have hbl11 : Below w.heap.size w w11 := hbl9.grown hg hbl9.size hlow
   refine ⟨hc11.cells hk, hbx11.cell, hbx11.frozen, hc12.cells hk, (hkf9.trans (hkf11.from _)).trans ((KeepsOthers.setCell _ _ _).from _), ((KpX.of_below hb9 hWN).trans hkp11).trans (kpx_set hbx11 rfl (by omega) _), ⟨v', hbx11.set v', ?_⟩, hbl11.setCell (by show w.heap.size ≤ w.heap.size + 1; omega) _⟩
   rw [hnews, show (pre ++ [p]).length = pre.length + 1 by simp]
   exact ownsRow_setCell_other hown (a := ⟨w.heap.size + 1, 0, none⟩) (fun e => hbx11.not_row (by decide) hown e.symm) v'
  have S0 := Lib.hid (hs W.drew (Below.refl _ _).drew)
  have G0 := Lib.hid (show Below W.heap.size W W.drew from (Below.refl _ _).drew)
  have HS := Lib.hid hs
  have HC3 := Lib.hid hc3
  have H14 := Lib.hid h14
  have H40 := Lib.hid h40
  have HROW := Lib.hid hrw
  have HFIN := Lib.hid hfin
  have hzW := hb3.size
  clear hs hc3 h14 h40 hrw hfin hxv hnews hc hb1 hrow hb3 hpN hk hv hpx hpm
  gi_wp2
  refine wpIn_round_held (S := fun w' => w'.cell? ⟨A4, 0, none⟩ = some (.int .i64 p.kind) ∧ w'.cell? ⟨A4, 1, none⟩ = some (.string p.lab) ∧ w'.cell? ⟨A4, 2, none⟩ = some (.slice A7 p.kids.length c7)) (by kernel_rfl) (by kernel_rfl) (fun ⟨_, _, h⟩ => h) S0.out (fun _ => ?_)
  refine wpAnyH_take (i := 1) (v := .pointer (some ⟨A4, 0, none⟩)) rfl (by kernel_rfl) (by kernel_rfl) (by kernel_rfl) (fun _ _ _ h => h) (Or.inl ⟨by rfl, ?_⟩) S0.out ?_
  ·intro w hSw
   obtain ⟨hs0, hs1, hs2⟩ := hSw
   go_simp
  try simp only [Act.put, z4, z5, z6]
  refine wpAnyH_take (i := 2) (v := .int .i64 p.kind) rfl (by kernel_rfl) (by kernel_rfl) (by kernel_rfl) (fun _ _ _ h => h) (Or.inl ⟨by rfl, ?_⟩) S0.out ?_
  ·intro w hSw
   obtain ⟨hs0, hs1, hs2⟩ := hSw
   go_simp
  try simp only [Act.put, z4, z5, z6]
  refine wpAnyH_take (i := 3) (v := .pointer (some ⟨A4, 1, none⟩)) rfl (by kernel_rfl) (by kernel_rfl) (by kernel_rfl) (fun _ _ _ h => h) (Or.inl ⟨by rfl, ?_⟩) S0.out ?_
  ·intro w hSw
   obtain ⟨hs0, hs1, hs2⟩ := hSw
   go_simp
  try simp only [Act.put, z4, z5, z6]
  refine wpAnyH_take (i := 4) (v := .string p.lab) rfl (by kernel_rfl) (by kernel_rfl) (by kernel_rfl) (fun _ _ _ h => h) (Or.inl ⟨by rfl, ?_⟩) S0.out ?_
  ·intro w hSw
   obtain ⟨hs0, hs1, hs2⟩ := hSw
   go_simp
  try simp only [Act.put, z4, z5, z6]
  refine wpAnyH_take (i := 5) (v := .agg #[.int .i64 p.kind, .string p.lab, .slice A7 p.kids.length c7]) rfl (by kernel_rfl) (by kernel_rfl) (by kernel_rfl) (fun _ _ _ h => h) (Or.inl ⟨by rfl, ?_⟩) S0.out ?_
  ·intro w hSw
   obtain ⟨hs0, hs1, hs2⟩ := hSw
   go_simp
  try simp only [Act.put, z4, z5, z6]
  refine wpAnyH_take (i := 7) (v := .agg #[.int .i64 p.kind, .string p.lab, .slice A7 p.kids.length c7]) rfl (by kernel_rfl) (by kernel_rfl) (by kernel_rfl) (fun _ _ _ h => h) (Or.inl ⟨by rfl, ?_⟩) S0.out ?_
  ·intro w hSw
   obtain ⟨hs0, hs1, hs2⟩ := hSw
   go_simp
  try simp only [Act.put, z4, z5, z6]
  refine wpAnyH_ready (rs := [0, 6]) (by kernel_rfl) (by simp) ?_
  refine AllReadyH.cons rfl (fun K hK => ?_) (AllReadyH.cons rfl (fun K hK => ?_) AllReadyH.nil)
  ·-- 0 first
   have hc3 := HC3.out _ G0.out
   go_simp
   refine hK.out _ _ (HS.out _ G0.out) (fun _ => ?_)
   clear hc3
   try simp only [Act.put, z4, z5, z6]
   refine wpAnyH_ready (rs := [6]) (by kernel_rfl) (by simp) ?_
   refine AllReadyH.cons rfl (fun K hK => ?_) AllReadyH.nil
   go_simp
   refine (H14.out _ G0.out).mono ?_
   rintro e w6 ⟨rfl, hb6⟩
   have G6 := Lib.hid (G0.out.trans (hb6.mono G0.out.size))
   clear hb6
   refine hK.out _ _ (HS.out _ G6.out) (fun _ => ?_)
   try simp only [Act.put, z4, z5, z6]
   refine wpAnyH_ready (rs := [8]) (by kernel_rfl) (by simp) ?_
   refine AllReadyH.cons rfl (fun K hK => ?_) AllReadyH.nil
   go_simp
   refine (H40.out _ G6.out).mono ?_
   rintro e w8 ⟨rfl, hb8⟩
   have G8 := Lib.hid (G6.out.trans (hb8.mono G6.out.size))
   clear hb8
   refine hK.out _ _ (HS.out _ G8.out) (fun _ => ?_)
   try simp only [Act.put, z4, z5, z6]
   refine wpAnyH_take (i := 9) (v := .agg #[.int .i64 p.kind, .string p.lab, .int .i64 sz, .bool em, .bool false]) rfl (by kernel_rfl) (by kernel_rfl) (by kernel_rfl) (fun _ _ _ h => h) (Or.inl ⟨by rfl, ?_⟩) (HS.out _ G8.out) ?_
   ·intro w hSw
    obtain ⟨hs0, hs1, hs2⟩ := hSw
    go_simp
   try simp only [Act.put, z4, z5, z6]
   refine wpAnyH_ready (rs := [10]) (by kernel_rfl) (by simp) ?_
   refine AllReadyH.cons rfl (fun K hK => ?_) AllReadyH.nil
   go_simp
   have G10 := Lib.hid (G8.out.alloc G8.out.size (.cells #[.int .i64 p.kind, .string p.lab, .int .i64 sz, .bool em, .bool false] 94))
   refine hK.out _ _ (HS.out _ G10.out) (fun _ => ?_)
   try simp only [Act.put, z4, z5, z6]
   refine wpAnyH_ready (rs := [11]) (by kernel_rfl) (by simp) ?_
   refine AllReadyH.cons rfl (fun K hK => ?_) AllReadyH.nil
   refine step_append_own rfl (.tmp 8) (.tmp 18) rfl (base := w.heap.size) Tryd.underlying90 hi hy0 hy1 hy2 rfl (by decide) (v := .slice Ar pre.length qr) (by simp [Act.eval]) (HROW.out _ G10.out) (ad := ⟨w8.heap.size, 0, none⟩) (m := 1) (c := 1) (news := [.int .i64 p.kind, .string p.lab, .int .i64 sz, .bool em, .bool false]) (by simp [Act.eval]) rfl ?_ (by simp [Value.oneCell']) (by unfold maxLen; omega) (by omega) (by have := G10.out.size; omega) ?_
   ·exact lit_cells w8 _ (by simp) [.int .i64 p.kind, .string p.lab, .int .i64 sz, .bool em, .bool false] 94
   intro v' w11 hown' hgrow' _
   obtain ⟨A', q', rfl⟩ := row_form hown'
   obtain ⟨f1, f2, f3, f4, f5⟩ := HFIN.out _ _ _ G10.out hown' hgrow'
   have F5 := Lib.hid f5
   refine hK.out _ _ f1 (fun _ => ?_)
   try simp only [Act.put, z4, z5, z6]
   refine wpAnyH_ready (rs := [12]) (by kernel_rfl) (by simp) ?_
   refine AllReadyH.cons rfl (fun K hK => ?_) AllReadyH.nil
   go_simp
   refine hK.out _ _ f4 (fun _ => ?_)
   try simp only [Act.put, z4, z5, z6]
   refine ⟨by kernel_rfl, ?_⟩
   exact F5.out
  ·-- 6 first
   go_simp
   refine (H14.out _ G0.out).mono ?_
   rintro e w6 ⟨rfl, hb6⟩
   have G6 := Lib.hid (G0.out.trans (hb6.mono G0.out.size))
   clear hb6
   refine hK.out _ _ (HS.out _ G6.out) (fun _ => ?_)
   try simp only [Act.put, z4, z5, z6]
   refine wpAnyH_ready (rs := [0, 8]) (by kernel_rfl) (by simp) ?_
   refine AllReadyH.cons rfl (fun K hK => ?_) (AllReadyH.cons rfl (fun K hK => ?_) AllReadyH.nil)
   ·-- 6 0
    have hc3 := HC3.out _ G6.out
    go_simp
    refine hK.out _ _ (HS.out _ G6.out) (fun _ => ?_)
    clear hc3
    try simp only [Act.put, z4, z5, z6]
    refine wpAnyH_ready (rs := [8]) (by kernel_rfl) (by simp) ?_
    refine AllReadyH.cons rfl (fun K hK => ?_) AllReadyH.nil
    go_simp
    refine (H40.out _ G6.out).mono ?_
    rintro e w8 ⟨rfl, hb8⟩
    have G8 := Lib.hid (G6.out.trans (hb8.mono G6.out.size))
    clear hb8
    refine hK.out _ _ (HS.out _ G8.out) (fun _ => ?_)
    try simp only [Act.put, z4, z5, z6]
    refine wpAnyH_take (i := 9) (v := .agg #[.int .i64 p.kind, .string p.lab, .int .i64 sz, .bool em, .bool false]) rfl (by kernel_rfl) (by kernel_rfl) (by kernel_rfl) (fun _ _ _ h => h) (Or.inl ⟨by rfl, ?_⟩) (HS.out _ G8.out) ?_
    ·intro w hSw
     obtain ⟨hs0, hs1, hs2⟩ := hSw
     go_simp
    try simp only [Act.put, z4, z5, z6]
    refine wpAnyH_ready (rs := [10]) (by kernel_rfl) (by simp) ?_
    refine AllReadyH.cons rfl (fun K hK => ?_) AllReadyH.nil
    go_simp
    have G10 := Lib.hid (G8.out.alloc G8.out.size (.cells #[.int .i64 p.kind, .string p.lab, .int .i64 sz, .bool em, .bool false] 94))
    refine hK.out _ _ (HS.out _ G10.out) (fun _ => ?_)
    try simp only [Act.put, z4, z5, z6]
    refine wpAnyH_ready (rs := [11]) (by kernel_rfl) (by simp) ?_
    refine AllReadyH.cons rfl (fun K hK => ?_) AllReadyH.nil
    refine step_append_own rfl (.tmp 8) (.tmp 18) rfl (base := w.heap.size) Tryd.underlying90 hi hy0 hy1 hy2 rfl (by decide) (v := .slice Ar pre.length qr) (by simp [Act.eval]) (HROW.out _ G10.out) (ad := ⟨w8.heap.size, 0, none⟩) (m := 1) (c := 1) (news := [.int .i64 p.kind, .string p.lab, .int .i64 sz, .bool em, .bool false]) (by simp [Act.eval]) rfl ?_ (by simp [Value.oneCell']) (by unfold maxLen; omega) (by omega) (by have := G10.out.size; omega) ?_
    ·exact lit_cells w8 _ (by simp) [.int .i64 p.kind, .string p.lab, .int .i64 sz, .bool em, .bool false] 94
    intro v' w11 hown' hgrow' _
    obtain ⟨A', q', rfl⟩ := row_form hown'
    obtain ⟨f1, f2, f3, f4, f5⟩ := HFIN.out _ _ _ G10.out hown' hgrow'
    have F5 := Lib.hid f5
    refine hK.out _ _ f1 (fun _ => ?_)
    try simp only [Act.put, z4, z5, z6]
    refine wpAnyH_ready (rs := [12]) (by kernel_rfl) (by simp) ?_
    refine AllReadyH.cons rfl (fun K hK => ?_) AllReadyH.nil
    go_simp
    refine hK.out _ _ f4 (fun _ => ?_)
    try simp only [Act.put, z4, z5, z6]
    refine ⟨by kernel_rfl, ?_⟩
    exact F5.out
   ·-- 6 8
    go_simp
    refine (H40.out _ G6.out).mono ?_
    rintro e w8 ⟨rfl, hb8⟩
    have G8 := Lib.hid (G6.out.trans (hb8.mono G6.out.size))
    clear hb8
    refine hK.out _ _ (HS.out _ G8.out) (fun _ => ?_)
    try simp only [Act.put, z4, z5, z6]
    refine wpAnyH_take (i := 9) (v := .agg #[.int .i64 p.kind, .string p.lab, .int .i64 sz, .bool em, .bool false]) rfl (by kernel_rfl) (by kernel_rfl) (by kernel_rfl) (fun _ _ _ h => h) (Or.inl ⟨by rfl, ?_⟩) (HS.out _ G8.out) ?_
    ·intro w hSw
     obtain ⟨hs0, hs1, hs2⟩ := hSw
     go_simp
    try simp only [Act.put, z4, z5, z6]
    refine wpAnyH_ready (rs := [0, 10]) (by kernel_rfl) (by simp) ?_
    refine AllReadyH.cons rfl (fun K hK => ?_) (AllReadyH.cons rfl (fun K hK => ?_) AllReadyH.nil)
    ·-- 6 8 0
     have hc3 := HC3.out _ G8.out
     go_simp
     refine hK.out _ _ (HS.out _ G8.out) (fun _ => ?_)
     clear hc3
     try simp only [Act.put, z4, z5, z6]
     refine wpAnyH_ready (rs := [10]) (by kernel_rfl) (by simp) ?_
     refine AllReadyH.cons rfl (fun K hK => ?_) AllReadyH.nil
     go_simp
     have G10 := Lib.hid (G8.out.alloc G8.out.size (.cells #[.int .i64 p.kind, .string p.lab, .int .i64 sz, .bool em, .bool false] 94))
     refine hK.out _ _ (HS.out _ G10.out) (fun _ => ?_)
     try simp only [Act.put, z4, z5, z6]
     refine wpAnyH_ready (rs := [11]) (by kernel_rfl) (by simp) ?_
     refine AllReadyH.cons rfl (fun K hK => ?_) AllReadyH.nil
     refine step_append_own rfl (.tmp 8) (.tmp 18) rfl (base := w.heap.size) Tryd.underlying90 hi hy0 hy1 hy2 rfl (by decide) (v := .slice Ar pre.length qr) (by simp [Act.eval]) (HROW.out _ G10.out) (ad := ⟨w8.heap.size, 0, none⟩) (m := 1) (c := 1) (news := [.int .i64 p.kind, .string p.lab, .int .i64 sz, .bool em, .bool false]) (by simp [Act.eval]) rfl ?_ (by simp [Value.oneCell']) (by unfold maxLen; omega) (by omega) (by have := G10.out.size; omega) ?_
     ·exact lit_cells w8 _ (by simp) [.int .i64 p.kind, .string p.lab, .int .i64 sz, .bool em, .bool false] 94
     intro v' w11 hown' hgrow' _
     obtain ⟨A', q', rfl⟩ := row_form hown'
     obtain ⟨f1, f2, f3, f4, f5⟩ := HFIN.out _ _ _ G10.out hown' hgrow'
     have F5 := Lib.hid f5
     refine hK.out _ _ f1 (fun _ => ?_)
     try simp only [Act.put, z4, z5, z6]
     refine wpAnyH_ready (rs := [12]) (by kernel_rfl) (by simp) ?_
     refine AllReadyH.cons rfl (fun K hK => ?_) AllReadyH.nil
     go_simp
     refine hK.out _ _ f4 (fun _ => ?_)
     try simp only [Act.put, z4, z5, z6]
     refine ⟨by kernel_rfl, ?_⟩
     exact F5.out
    ·-- 6 8 10 0
     go_simp
     have G10 := Lib.hid (G8.out.alloc G8.out.size (.cells #[.int .i64 p.kind, .string p.lab, .int .i64 sz, .bool em, .bool false] 94))
     refine hK.out _ _ (HS.out _ G10.out) (fun _ => ?_)
     try simp only [Act.put, z4, z5, z6]
     refine wpAnyH_ready (rs := [0]) (by kernel_rfl) (by simp) ?_
     refine AllReadyH.cons rfl (fun K hK => ?_) AllReadyH.nil
     have hc3 := HC3.out _ G10.out
     go_simp
     refine hK.out _ _ (HS.out _ G10.out) (fun _ => ?_)
     clear hc3
     try simp only [Act.put, z4, z5, z6]
     refine wpAnyH_ready (rs := [11]) (by kernel_rfl) (by simp) ?_
     refine AllReadyH.cons rfl (fun K hK => ?_) AllReadyH.nil
     refine step_append_own rfl (.tmp 8) (.tmp 18) rfl (base := w.heap.size) Tryd.underlying90 hi hy0 hy1 hy2 rfl (by decide) (v := .slice Ar pre.length qr) (by simp [Act.eval]) (HROW.out _ G10.out) (ad := ⟨w8.heap.size, 0, none⟩) (m := 1) (c := 1) (news := [.int .i64 p.kind, .string p.lab, .int .i64 sz, .bool em, .bool false]) (by simp [Act.eval]) rfl ?_ (by simp [Value.oneCell']) (by unfold maxLen; omega) (by omega) (by have := G10.out.size; omega) ?_
     ·exact lit_cells w8 _ (by simp) [.int .i64 p.kind, .string p.lab, .int .i64 sz, .bool em, .bool false] 94
     intro v' w11 hown' hgrow' _
     obtain ⟨A', q', rfl⟩ := row_form hown'
     obtain ⟨f1, f2, f3, f4, f5⟩ := HFIN.out _ _ _ G10.out hown' hgrow'
     have F5 := Lib.hid f5
     refine hK.out _ _ f1 (fun _ => ?_)
     try simp only [Act.put, z4, z5, z6]
     refine wpAnyH_ready (rs := [12]) (by kernel_rfl) (by simp) ?_
     refine AllReadyH.cons rfl (fun K hK => ?_) AllReadyH.nil
     go_simp
     refine hK.out _ _ f4 (fun _ => ?_)
     try simp only [Act.put, z4, z5, z6]
     refine ⟨by kernel_rfl, ?_⟩
     exact F5.out
 case done =>
  rintro D W' hD ⟨⟨v, hb1, hrow⟩, hb3⟩ hK
  obtain ⟨Ar, qr, rfl⟩ := row_form hrow
  have hc := hb1.cell
  have HB := Lib.hid (And.intro hrow hb3)
  clear hb1 hb3 hrow
  go_wp2_with fail
  refine ⟨by simp, .inl ⟨_, _, rfl, run_takeDeferred hK, ?_⟩⟩
  refine ⟨.slice Ar (partsT a).length qr, by simp [results, Tryd.f62, go_sem], _, rfl, ?_, belowK w HB.out.2 (by omega)⟩
  have := HB.out.1
  rw [HPL.out, partsT_len] at this
  rw [partsT_len]
  exact ownsRow_putObj this _ hK rfl
end Go.Proofs.YtnccgaanfjaimaaDoor

namespace Go.Proofs.YtnccgaanfjaimaaDoor
open Go.ChangeShapes Go.WideShapes Go.ChangeAt Go.RowKit
set_option linter.unusedVariables false
set_option linter.unusedSimpArgs false

def hd (l : List Bool) : Bool := l.headD false

mutual
/-- the flags of an expression's parts behind a label -/
def stepF (s : ByteArray) : X → List Bool → Bool → List Bool
  | .mk k l ks, fl, b =>
    if k = 1 then (b && decide (l = s)) :: fl.tail
    else if k = 2 then (rowS s ks fl.tail b false).2.1 :: (rowS s ks fl.tail b false).2.2
    else if k = 3 ∨ k = 6 then (altS s ks fl.tail b false).1 :: (altS s ks fl.tail b false).2
    else hd (altS s ks fl.tail (b || hd fl.tail) false).2 :: (altS s ks fl.tail (b || hd fl.tail) false).2
def rowS (s : ByteArray) : List X → List Bool → Bool → Bool → Bool × Bool × List Bool
  | [], _, b, e => (b, e, [])
  | x :: xs, kf, b, e =>
    let f' := stepF s x (kf.take x.sz) b
    let r := rowS s xs (kf.drop x.sz) (hd (kf.take x.sz) || (b && x.emp)) (hd f' || (e && x.emp))
    (r.1, r.2.1, f' ++ r.2.2)
def altS (s : ByteArray) : List X → List Bool → Bool → Bool → Bool × List Bool
  | [], _, _, acc => (acc, [])
  | x :: xs, kf, b, acc =>
    let f' := stepF s x (kf.take x.sz) b
    let r := altS s xs (kf.drop x.sz) b (acc || hd f')
    (r.1, f' ++ r.2)
end
theorem stepF_eq (s : ByteArray) (x : X) (fl : List Bool) (b : Bool) : stepF s x fl b =
    if x.kind = 1 then (b && decide (x.lab = s)) :: fl.tail
    else if x.kind = 2 then (rowS s x.kids fl.tail b false).2.1 :: (rowS s x.kids fl.tail b false).2.2
    else if x.kind = 3 ∨ x.kind = 6 then (altS s x.kids fl.tail b false).1 :: (altS s x.kids fl.tail b false).2
    else hd (altS s x.kids fl.tail (b || hd fl.tail) false).2 :: (altS s x.kids fl.tail (b || hd fl.tail) false).2 := by
  cases x
  rw [stepF]
  rfl
theorem rowS_nil (s : ByteArray) (kf : List Bool) (b e : Bool) : rowS s [] kf b e = (b, e, []) := by rw [rowS]
theorem rowS_cons (s : ByteArray) (x : X) (xs : List X) (kf : List Bool) (b e : Bool) : rowS s (x :: xs) kf b e =
    ((rowS s xs (kf.drop x.sz) (hd (kf.take x.sz) || (b && x.emp)) (hd (stepF s x (kf.take x.sz) b) || (e && x.emp))).1,
     (rowS s xs (kf.drop x.sz) (hd (kf.take x.sz) || (b && x.emp)) (hd (stepF s x (kf.take x.sz) b) || (e && x.emp))).2.1,
     stepF s x (kf.take x.sz) b ++ (rowS s xs (kf.drop x.sz) (hd (kf.take x.sz) || (b && x.emp)) (hd (stepF s x (kf.take x.sz) b) || (e && x.emp))).2.2) := by rw [rowS]
theorem altS_nil (s : ByteArray) (kf : List Bool) (b acc : Bool) : altS s [] kf b acc = (acc, []) := by rw [altS]
theorem altS_cons (s : ByteArray) (x : X) (xs : List X) (kf : List Bool) (b acc : Bool) : altS s (x :: xs) kf b acc =
    ((altS s xs (kf.drop x.sz) b (acc || hd (stepF s x (kf.take x.sz) b))).1, stepF s x (kf.take x.sz) b ++ (altS s xs (kf.drop x.sz) b (acc || hd (stepF s x (kf.take x.sz) b))).2) := by rw [altS]

/-- are the parts as the table says? -/
def X.good (x : X) : Prop := ∀ p ∈ x.parts, p.fits = true
def goodL (ks : List X) : Prop := ∀ k ∈ ks, k.good
theorem X.good.kids {x : X} (h : x.good) : goodL x.kids := by
  intro k hk p hp
  refine h p ?_
  rw [X.parts_eq]
  refine List.mem_cons_of_mem _ ?_
  generalize x.kids = ks at hk
  induction ks with
  | nil => cases hk
  | cons y ys ih =>
    rw [partsL_cons]
    rcases List.mem_cons.1 hk with rfl | hk
    · exact List.mem_append_left _ hp
    · exact List.mem_append_right _ (ih hk)
theorem X.good.fit {x : X} (h : x.good) : x.fits = true := h x (by rw [X.parts_eq]; simp)

theorem stepF_len (s : ByteArray) : ∀ (x : X), x.good → ∀ (fl : List Bool) (b : Bool), fl.length = x.sz → (stepF s x fl b).length = x.sz := by
  intro x
  induction x using X.ind' with
  | h x ih =>
    intro hg fl b hl
    have hrow : ∀ (ks : List X), (∀ y ∈ ks, y.good → ∀ (fl : List Bool) (b : Bool), fl.length = y.sz → (stepF s y fl b).length = y.sz) → goodL ks → ∀ (kf : List Bool) (b e : Bool), kf.length = szL ks → (rowS s ks kf b e).2.2.length = szL ks := by
      intro ks
      induction ks with
      | nil => intro _ _ kf b e hk; rw [rowS_nil, szL_nil]; rfl
      | cons y ys ihy =>
        intro h hg kf b e hk
        rw [szL_cons] at hk ⊢
        rw [rowS_cons]
        simp only [List.length_append]
        rw [h y (by simp) (hg y (by simp)) _ _ (by rw [List.length_take]; omega), ihy (fun z hz => h z (by simp [hz])) (fun z hz => hg z (by simp [hz])) _ _ _ (by rw [List.length_drop]; omega)]
    have halt : ∀ (ks : List X), (∀ y ∈ ks, y.good → ∀ (fl : List Bool) (b : Bool), fl.length = y.sz → (stepF s y fl b).length = y.sz) → goodL ks → ∀ (kf : List Bool) (b e : Bool), kf.length = szL ks → (altS s ks kf b e).2.length = szL ks := by
      intro ks
      induction ks with
      | nil => intro _ _ kf b e hk; rw [altS_nil, szL_nil]; rfl
      | cons y ys ihy =>
        intro h hg kf b e hk
        rw [szL_cons] at hk ⊢
        rw [altS_cons]
        simp only [List.length_append]
        rw [h y (by simp) (hg y (by simp)) _ _ (by rw [List.length_take]; omega), ihy (fun z hz => h z (by simp [hz])) (fun z hz => hg z (by simp [hz])) _ _ _ (by rw [List.length_drop]; omega)]
    have ht : fl.tail.length = szL x.kids := by rw [List.length_tail, hl, X.sz_eq]; omega
    rw [stepF_eq, X.sz_eq]
    split
    · simp [ht]; omega
    · split
      · rw [List.length_cons, hrow _ ih hg.kids _ _ _ ht]; omega
      · split
        · rw [List.length_cons, halt _ ih hg.kids _ _ _ ht]; omega
        · rw [List.length_cons, halt _ ih hg.kids _ _ _ ht]; omega
theorem rowS_len (s : ByteArray) : ∀ (ks : List X), goodL ks → ∀ (kf : List Bool) (b e : Bool), kf.length = szL ks → (rowS s ks kf b e).2.2.length = szL ks
  | [], _, kf, b, e, hk => by rw [rowS_nil, szL_nil]; rfl
  | y :: ys, hg, kf, b, e, hk => by
    rw [szL_cons] at hk ⊢
    rw [rowS_cons]
    simp only [List.length_append]
    rw [stepF_len s y (hg y (by simp)) _ _ (by rw [List.length_take]; omega), rowS_len s ys (fun z hz => hg z (by simp [hz])) _ _ _ (by rw [List.length_drop]; omega)]
theorem altS_len (s : ByteArray) : ∀ (ks : List X), goodL ks → ∀ (kf : List Bool) (b e : Bool), kf.length = szL ks → (altS s ks kf b e).2.length = szL ks
  | [], _, kf, b, e, hk => by rw [altS_nil, szL_nil]; rfl
  | y :: ys, hg, kf, b, e, hk => by
    rw [szL_cons] at hk ⊢
    rw [altS_cons]
    simp only [List.length_append]
    rw [stepF_len s y (hg y (by simp)) _ _ (by rw [List.length_take]; omega), altS_len s ys (fun z hz => hg z (by simp [hz])) _ _ _ (by rw [List.length_drop]; omega)]

/-- one kid more at the end -/
theorem rowS_snoc (s : ByteArray) (x : X) : ∀ (ks : List X) (kf : List Bool) (b e : Bool),
    rowS s (ks ++ [x]) kf b e =
      (hd ((kf.drop (szL ks)).take x.sz) || ((rowS s ks kf b e).1 && x.emp), hd (stepF s x ((kf.drop (szL ks)).take x.sz) (rowS s ks kf b e).1) || ((rowS s ks kf b e).2.1 && x.emp), (rowS s ks kf b e).2.2 ++ stepF s x ((kf.drop (szL ks)).take x.sz) (rowS s ks kf b e).1)
  | [], kf, b, e => by rw [List.nil_append, rowS_cons, rowS_nil, rowS_nil, szL_nil]; simp
  | y :: ys, kf, b, e => by
    rw [List.cons_append, rowS_cons, rowS_snoc s x ys, rowS_cons, szL_cons]
    simp only [List.drop_drop, List.append_assoc]
theorem altS_snoc (s : ByteArray) (x : X) : ∀ (ks : List X) (kf : List Bool) (b acc : Bool),
    altS s (ks ++ [x]) kf b acc = ((altS s ks kf b acc).1 || hd (stepF s x ((kf.drop (szL ks)).take x.sz) b), (altS s ks kf b acc).2 ++ stepF s x ((kf.drop (szL ks)).take x.sz) b)
  | [], kf, b, acc => by rw [List.nil_append, altS_cons, altS_nil, altS_nil, szL_nil]; simp
  | y :: ys, kf, b, acc => by
    rw [List.cons_append, altS_cons, altS_snoc s x ys, altS_cons, szL_cons]
    simp only [List.drop_drop, List.append_assoc]

/-! ### in memory -/
def SL (x : X) (fl : List Bool) : List Sp := List.zipWith (fun p e => spX e p) x.parts fl
def SLs (ks : List X) (fl : List Bool) : List Sp := List.zipWith (fun p e => spX e p) (partsL ks) fl
theorem SL_len {x : X} {fl : List Bool} (h : fl.length = x.sz) : (SL x fl).length = x.sz := by unfold SL; rw [List.length_zipWith, h]; exact Nat.min_self _
theorem SLs_len {ks : List X} {fl : List Bool} (h : fl.length = szL ks) : (SLs ks fl).length = szL ks := by unfold SLs; rw [List.length_zipWith, h]; exact Nat.min_self _
theorem SL_cons (x : X) (e : Bool) (kf : List Bool) : SL x (e :: kf) = spX e x :: SLs x.kids kf := by unfold SL SLs; rw [X.parts_eq]; rfl
theorem SLs_nil (fl : List Bool) : SLs [] fl = [] := by unfold SLs; rw [partsL_nil]; rfl
theorem SLs_cons (x : X) (xs : List X) (fl : List Bool) (h : x.sz ≤ fl.length) : SLs (x :: xs) fl = SL x (fl.take x.sz) ++ SLs xs (fl.drop x.sz) := by
  unfold SLs SL
  rw [partsL_cons]
  conv => lhs; rw [← List.take_append_drop x.sz fl]
  exact List.zipWith_append (by rw [List.length_take, Nat.min_eq_left h]; rfl)
theorem SLs_app : ∀ (xs ys : List X) (f g : List Bool), f.length = szL xs → SLs (xs ++ ys) (f ++ g) = SLs xs f ++ SLs ys g := by
  intro xs ys f g h
  unfold SLs
  have : partsL (xs ++ ys) = partsL xs ++ partsL ys := by
    clear h
    induction xs with
    | nil => simp [partsL_nil]
    | cons x xs ih => rw [List.cons_append, partsL_cons, partsL_cons, ih, List.append_assoc]
  rw [this]
  exact List.zipWith_append (by rw [h]; rfl)
theorem SLs_one (x : X) (f : List Bool) (h : f.length = x.sz) : SLs [x] f = SL x f := by
  rw [SLs_cons x [] f (by omega), SLs_nil, List.take_of_length_le (by omega), List.append_nil]

/-- the row's cells begin with those of L -/
def SpM (W : World) (g : Nat) (L : List Sp) : Prop := ∃ cur : Array Value, W.heap[g]? = some (.cells cur 94 (0, 0)) ∧ ∀ (j : Nat) (u : Value), (flatS L)[j]? = some u → cur[j]? = some u
theorem SpM.lt {W : World} {g : Nat} {L : List Sp} (h : SpM W g L) : g < W.heap.size := by
  obtain ⟨cur, h, _⟩ := h
  exact (Array.getElem?_eq_some_iff.1 h).1
theorem SpM.block {W W' : World} {g : Nat} {L : List Sp} (h : SpM W g L) (hb : W'.heap[g]? = W.heap[g]?) : SpM W' g L := by
  obtain ⟨cur, h, hc⟩ := h
  exact ⟨cur, hb.trans h, hc⟩
theorem SpM.bel {W W' : World} {g : Nat} {L : List Sp} (h : SpM W g L) (hb : Below W.heap.size W W') : SpM W' g L := h.block (hb.block _ h.lt)
theorem SpM.rel {B : Nat} {W W' : World} {g : Nat} {L : List Sp} (h : SpM W g L) (hr : Rel B W W') : SpM W' g L := by
  obtain ⟨cur, h, hc⟩ := h
  exact ⟨cur, hr.cells h (by decide), hc⟩
theorem SpM.frozen {W : World} {g : Nat} {L : List Sp} (h : SpM W g L) (o : Nat) : W.frozen? ⟨g, o, none⟩ = false := by
  obtain ⟨cur, h, hc⟩ := h
  simp [World.frozen?, h]
theorem flatS_at : ∀ (L : List Sp) (i : Nat) (h : i < L.length), (flatS L)[i * 5]? = some (.int .i64 L[i].kind) ∧ (flatS L)[i * 5 + 1]? = some (.string L[i].lab) ∧ (flatS L)[i * 5 + 2]? = some (.int .i64 L[i].size) ∧ (flatS L)[i * 5 + 3]? = some (.bool L[i].emp) ∧ (flatS L)[i * 5 + 4]? = some (.bool L[i].ends)
  | x :: l, 0, h => by simp [flatS, Sp.cells]
  | x :: l, k + 1, h => by
    have := flatS_at l k (by simp at h; omega)
    simp only [List.getElem_cons_succ]
    have e : flatS (x :: l) = .int .i64 x.kind :: .string x.lab :: .int .i64 x.size :: .bool x.emp :: .bool x.ends :: flatS l := by simp [flatS, Sp.cells]
    rw [e, show (k + 1) * 5 = k * 5 + 1 + 1 + 1 + 1 + 1 by omega]
    simp only [show ∀ a, k * 5 + 1 + 1 + 1 + 1 + 1 + a = (k * 5 + a) + 1 + 1 + 1 + 1 + 1 by omega, List.getElem?_cons_succ]
    exact this
theorem SpM.at5 {W : World} {g : Nat} {L : List Sp} (h : SpM W g L) {i : Nat} (hi : i < L.length) :
    W.cell? ⟨g, i * 5, none⟩ = some (.int .i64 L[i].kind) ∧ W.cell? ⟨g, i * 5 + 1, none⟩ = some (.string L[i].lab) ∧ W.cell? ⟨g, i * 5 + 2, none⟩ = some (.int .i64 L[i].size) ∧ W.cell? ⟨g, i * 5 + 3, none⟩ = some (.bool L[i].emp) ∧ W.cell? ⟨g, i * 5 + 4, none⟩ = some (.bool L[i].ends) := by
  obtain ⟨cur, h, hc⟩ := h
  obtain ⟨e0, e1, e2, e3, e4⟩ := flatS_at L i hi
  refine ⟨?_, ?_, ?_, ?_, ?_⟩ <;> rw [cell_of_row _ _ _ _ _ _ h]
  · exact hc _ _ e0
  · exact hc _ _ e1
  · exact hc _ _ e2
  · exact hc _ _ e3
  · exact hc _ _ e4
def Sp.set (s : Sp) (e : Bool) : Sp := { s with ends := e }
theorem flatS_set : ∀ (L : List Sp) (i : Nat) (h : i < L.length) (e : Bool), flatS (L.set i (L[i].set e)) = (flatS L).set (i * 5 + 4) (.bool e)
  | x :: l, 0, h, e => by simp [flatS, Sp.cells, Sp.set]
  | x :: l, k + 1, h, e => by
    have := flatS_set l k (by simp at h; omega) e
    simp only [List.getElem_cons_succ, List.set_cons_succ]
    have e0 : ∀ l, flatS (x :: l) = .int .i64 x.kind :: .string x.lab :: .int .i64 x.size :: .bool x.emp :: .bool x.ends :: flatS l := fun l => by simp [flatS, Sp.cells]
    rw [e0, e0, this, show (k + 1) * 5 + 4 = (k * 5 + 4) + 1 + 1 + 1 + 1 + 1 by omega]
    simp only [List.set_cons_succ]
theorem SpM.store {W : World} {g : Nat} {L : List Sp} (h : SpM W g L) {i : Nat} (hi : i < L.length) (e : Bool) : SpM (W.setCell ⟨g, i * 5 + 4, none⟩ (.bool e)) g (L.set i (L[i].set e)) := by
  obtain ⟨cur, h, hc⟩ := h
  have hlt := (Array.getElem?_eq_some_iff.1 h).1
  have hj : i * 5 + 4 < cur.size := by
    have := hc _ _ (flatS_at L i hi).2.2.2.2
    exact (Array.getElem?_eq_some_iff.1 this).1
  refine ⟨cur.setIfInBounds (i * 5 + 4) (.bool e), ?_, fun j u hu => ?_⟩
  · have hg := (Array.getElem?_eq_some_iff.1 h).2
    simp only [World.setCell]
    rw [Array.getElem?_modify]
    simp [h]
  · rw [flatS_set L i hi e] at hu
    by_cases hji : j = i * 5 + 4
    · subst hji
      rw [List.getElem?_set_self (by rw [flatS_len]; omega)] at hu
      rw [Array.getElem?_setIfInBounds_self_of_lt hj]
      exact hu
    · rw [List.getElem?_set_ne (fun h => hji h.symm)] at hu
      rw [Array.getElem?_setIfInBounds_ne (fun h => hji h.symm)]
      exact hc j u hu
theorem spX_set (a b : Bool) (x : X) : (spX a x).set b = spX b x := rfl
/-- the first spot's flag among others -/
theorem SpM.store0 {W : World} {g : Nat} {P Q : List Sp} {s : Sp} (h : SpM W g (P ++ s :: Q)) (e : Bool) : SpM (W.setCell ⟨g, P.length * 5 + 4, none⟩ (.bool e)) g (P ++ s.set e :: Q) := by
  have hi : P.length < (P ++ s :: Q).length := by simp
  have := h.store hi e
  rw [List.getElem_append_right (Nat.le_refl _)] at this
  simpa using this
theorem SpM.at0 {W : World} {g : Nat} {P Q : List Sp} {s : Sp} (h : SpM W g (P ++ s :: Q)) :
    W.cell? ⟨g, P.length * 5, none⟩ = some (.int .i64 s.kind) ∧ W.cell? ⟨g, P.length * 5 + 1, none⟩ = some (.string s.lab) ∧ W.cell? ⟨g, P.length * 5 + 2, none⟩ = some (.int .i64 s.size) ∧ W.cell? ⟨g, P.length * 5 + 3, none⟩ = some (.bool s.emp) ∧ W.cell? ⟨g, P.length * 5 + 4, none⟩ = some (.bool s.ends) := by
  have hi : P.length < (P ++ s :: Q).length := by simp
  have := h.at5 hi
  rw [List.getElem_append_right (Nat.le_refl _)] at this
  simpa using this

/-- but for block g all that was there lies as it lay -/
structure Ch (g : Nat) (w w' : World) : Prop where
  os : w'.os = w.os
  tape : w'.tape = w.tape
  output : w'.output = w.output
  size : w.heap.size ≤ w'.heap.size
  block : ∀ k, k < w.heap.size → k ≠ g → w'.heap[k]? = w.heap[k]?
theorem Ch.refl (g : Nat) (w : World) : Ch g w w := ⟨rfl, rfl, rfl, Nat.le_refl _, fun _ _ _ => rfl⟩
theorem Ch.trans {g : Nat} {a b c : World} (h : Ch g a b) (k : Ch g b c) : Ch g a c := ⟨k.os.trans h.os, k.tape.trans h.tape, k.output.trans h.output, Nat.le_trans h.size k.size, fun i hi hn => (k.block i (Nat.lt_of_lt_of_le hi h.size) hn).trans (h.block i hi hn)⟩
theorem Ch.of_below {g : Nat} {a b : World} (h : Below a.heap.size a b) : Ch g a b := ⟨h.os, h.tape, h.output, h.size, fun k hk _ => h.block k hk⟩
theorem Ch.setCell {g : Nat} {a b : World} (h : Ch g a b) (o : Nat) (v : Value) : Ch g a (b.setCell ⟨g, o, none⟩ v) := h.trans ⟨rfl, rfl, rfl, by simp [World.setCell], fun k _ hk => Below.heap_setCell _ _ _ k hk⟩
theorem Ch.below {g N : Nat} {a b : World} (h : Ch g a b) (hN : N ≤ a.heap.size) (hg : N ≤ g) : Below N a b := ⟨h.os, h.tape, h.output, h.size, fun k hk => h.block k (by omega) (by omega)⟩
theorem Ch.boxed {g : Nat} {a b : World} (h : Ch g a b) {B : Nat} {t : TypeId} {v : Value} (hb : Boxed a B t v) (hn : B ≠ g) : Boxed b B t v := (h.block B hb.lt hn).trans hb
end Go.Proofs.YtnccgaanfjaimaaDoor
