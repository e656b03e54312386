/- Right: whether an expression is. -/
import Derived.Test.YtnohnkhhkeikoaaL
namespace Go.Proofs.Ytnohnkhhkeikoaa
open Go.ChangeShapes Go.WideShapes Go.ChangeAt Go.RowKit
set_option linter.unusedVariables false

attribute [local go_sem] Oper.semAt_some

def X.right (x : X) : Bool := decide (x.sz ≤ 24) && x.parts.all X.fits
/-- no label is longer than a text may be -/
def X.lit (x : X) : Prop := ∀ p ∈ x.parts, p.lab.size ≤ maxLen

theorem not_right {x : X} {ps : List X} (hp : ps <+: x.parts) (h : 24 < ps.length ∨ ∃ p ∈ ps, p.fits = false) : x.right = false := by
  unfold X.right
  rcases h with h | ⟨p, hm, hf⟩
  · have h1 := hp.length_le
    have : ¬ x.sz ≤ 24 := by unfold X.sz; omega
    simp [this]
  · have : x.parts.all X.fits = false := by
      rw [List.all_eq_false]
      exact ⟨p, hp.subset hm, by simp [hf]⟩
    rw [this, Bool.and_false]
theorem is_right {x : X} (h : x.sz ≤ 24) (hf : ∀ p ∈ x.parts, p.fits = true) : x.right = true := by
  unfold X.right
  rw [decide_eq_true h, List.all_eq_true.2 hf]
  rfl

theorem kpx_set {N : Nat} {W : World} {B : Nat} {t : TypeId} {v : Value} (h : Boxed W B t v) (ht : still t = false) (hN : N ≤ B) (u : Value) : KpX N W (W.setCell ⟨B, 0, none⟩ u) := by
  refine ⟨by simp [World.setCell], fun k hk => Below.heap_setCell _ _ _ k (by show k ≠ B; omega), fun k v' t' fr hk ht' => ?_⟩
  by_cases e : k = B
  · subst e
    rw [show W.heap[k]? = _ from h] at hk
    injection hk with hk
    injection hk with _ hk _
    subst hk
    rw [ht] at ht'
    cases ht'
  · exact (Below.heap_setCell _ _ _ k e).trans hk
theorem BoxT.ne {W : World} {A B : Nat} {p : T} {t : TypeId} {v : Value} (h : BoxT W A p) (hb : Boxed W B t v) (ht : t ≠ 25) : B ≠ A := by
  rintro rfl
  have := (show W.heap[B]? = _ from h).symm.trans (show W.heap[B]? = _ from hb)
  injection this with this
  injection this with _ this _
  exact ht this.symm
theorem Boxed.bel {W W' : World} {B : Nat} {t : TypeId} {v : Value} (h : Boxed W B t v) (hb : Below W.heap.size W W') : Boxed W' B t v := (hb.block _ h.lt).trans h
theorem alloc_at {w W : World} {o : Obj} {n : Nat} (hn : w.heap.size = n) (h : Below (w.alloc o).heap.size (w.alloc o) W) : W.heap[n]? = some o := by
  subst hn
  exact (h.block _ (by simp)).trans (World.alloc_heap_new w o)

set_option maxRecDepth 100000 in
set_option maxHeartbeats 4000000 in
theorem right12_any {N : Nat} {w : World} {v : Value} {x : X} (hx : XV N w v x) (hN : N ≤ w.heap.size) (hsz : x.sz ≤ 100000) (hl : x.lit) :
    Calls Try.prog 12 #[v] w fun e w' => e = .returned (.bool x.right) ∧ Below w.heap.size w w' := by
  obtain ⟨a, rfl, rfl, ha⟩ := hx.tree
  obtain ⟨A, c, hk, hv⟩ := ha.cells
  rw [hv]
  have HA := Lib.hid (And.intro ha (And.intro hN (And.intro hk hl)))
  clear ha hk hv hx hl
  refine (callsIn_wide (n := 12)).1 ?_
  refine callsIn_of_wp_marks Try.func12 rfl trivial ?_ rfl
  simp only [Try.ntmps12, List.size_toArray, List.length_cons, List.length_nil, Nat.reduceAdd, Nat.reduceSub, Array.replicate_succ, Array.replicate_zero, List.push_toArray, List.append_toArray, List.nil_append, List.cons_append]
  refine wpIn_wide.2 ?_
  go_wp2_with (go_at_call 34; refine (partsOf_any (a := a) HA.out.2.2.1 _).mono ?_; rintro e w1 ⟨rfl, hx1, hbw⟩)
  have hq1 : Below w.heap.size w (w.alloc (.cells #[.int .i64 a.kind, .string a.lab, .slice A a.kids.length c] 25)) := (Below.refl _ w).alloc (Nat.le_refl _) _
  generalize hQ1 : w.alloc (.cells #[.int .i64 a.kind, .string a.lab, .slice A a.kids.length c] 25) = Q1 at *
  have hz1 : Q1.heap.size = w.heap.size + 1 := by rw [← hQ1]; simp
  have hb2 : Below (Q1.alloc (.cells #[.bool false] 4)).heap.size (Q1.alloc (.cells #[.bool false] 4)) w1 := ((Below.refl _ _).alloc (Nat.le_refl _) _).trans (hbw.mono (by simp))
  have hbk : Boxed w1 (w.heap.size + 1) 4 (.bool false) := alloc_at hz1 hb2
  have hbc : Boxed w1 (w.heap.size + 1 + 1) 3 (.int .i64 0) := alloc_at (by simp [hz1]) hbw
  have hb1 : Below w.heap.size w w1 := hq1.trans (((Below.refl _ Q1).alloc (Nat.le_refl _) _ |>.trans (hb2.mono (by simp))).mono (by omega))
  have hz1 : w.heap.size + 3 ≤ w1.heap.size := by have := hbw.size; simp at this; omega
  have hNw : N ≤ w1.heap.size := Nat.le_trans HA.out.2.1 (by omega)
  have hseq := parts_seq 11 (by decide) hx1 (HA.out.1.bel (hb1.mono HA.out.2.1)) hNw hsz
  simp only [World.size_alloc, show Q1.heap.size = w.heap.size + 1 by rw [← hQ1]; simp] at hseq
  have HSEQ := Lib.hid hseq
  have HB1 := Lib.hid hb1
  have HBX := Lib.hid (And.intro hbk hbc)
  have HPO := Lib.hid (parts_ok HA.out.1)
  have HPL := Lib.hid (partsT_x a)
  try simp only [World.size_alloc, show Q1.heap.size = w.heap.size + 1 by rw [← hQ1]; simp]
  clear hbw hb1 hbk hbc hseq hx1 hq1 hb2 hQ1
  refine wpIn_wide.1 (?_ : Code.wpIn Fence.wide 12 Try.prog _ _ _ _)
  refine wpIn_rangeFunc_X rfl (by omega) (gf := 48) (lb := #[.pointer (some ⟨w.heap.size + 1 + 1 + 1, 0, none⟩)]) rfl trivial (enters_of Try.func48 (by kernel_rfl) rfl)
    HSEQ.out KpX.trans (fun W' l' o o' hlw hl' ho _ => KpX.putObj W' l' o o' (by omega) hl' ho) (Below.refl _ _) (fun _ => rfl)
    (fun pre W' => (Boxed W' (w.heap.size + 1) 4 (.bool false) ∧ Boxed W' (w.heap.size + 1 + 1) 3 (.int .i64 (pre.length : Nat))) ∧ Below w.heap.size w W' ∧ (pre.length ≤ 24 ∧ ∀ p ∈ pre, p.x.fits = true))
    (fun c pre W' => (c = .ret ∧ a.x.right = false) ∧ Boxed W' (w.heap.size + 1) 4 (.bool false) ∧ Below w.heap.size w W')
    (OwnQ.and (OwnQ.and (OwnQ.boxed _ _ _ (fun _ => _) (by decide)) (OwnQ.boxed _ _ _ _ (by decide))) (OwnQ.and (ownQ_below (Nat.le_refl _) (by omega)) (ownQ_pure _ _)))
    (fun c => OwnQ.and (ownQ_pure _ _) (OwnQ.and (OwnQ.boxed _ _ _ (fun _ => _) (by decide)) (ownQ_below (Nat.le_refl _) (by omega)))) ⟨HBX.out, HB1.out, by simp, fun p hp => by cases hp⟩
    (fun p a' W' => ∃ A4, a' = { tmps := #[.agg #[.int .i64 a.kind, .string a.lab, .slice A a.kids.length c], .pointer (some ⟨w.heap.size, 0, none⟩), .pointer (some ⟨w.heap.size + 1, 0, none⟩), .pointer (some ⟨w.heap.size + 1 + 1, 0, none⟩), .pointer (some ⟨A4, 0, none⟩), .agg #[.int .i64 a.kind, .string a.lab, .slice A a.kids.length c], .func (.func 48) #[] #[.pointer (some ⟨w.heap.size + 1 + 1 + 1, 0, none⟩)], p.v, undef, undef, undef, undef, undef, undef, undef, undef, undef], defers := [] } ∧ BoxT W' A4 p)
    ?hA ?assign ?body ?done ?stop
  case hA =>
    rintro p a' _ X Y ⟨A4, rfl, hc⟩ hr
    exact ⟨A4, rfl, hr.cells hc (by decide)⟩
  case assign =>
    intro l1 pre p W' K hI hpx hK
    obtain ⟨A4, c4, hk, hv⟩ := (HPO.out p (hpx.subset (by simp))).cells
    have HK := Lib.hid hK
    have HI' := Lib.hid hI
    have HKV := Lib.hid (And.intro hk hv)
    unfold encP
    rw [hv]
    clear hK hI hk hv
    gi_wp2
    have hbw : Below W'.heap.size W' (W'.alloc (.cells #[.int .i64 p.kind, .string p.lab, .slice A4 p.kids.length c4] 25)) := (Below.refl _ W').alloc (Nat.le_refl _) _
    obtain ⟨⟨hb1, hb2⟩, hb3, hb4⟩ := HI'.out
    refine HK.out _ _ ((below_others hbw).from _) (KpX.of_below hbw (by have := hb3.size; omega)) ⟨⟨hb1.alloc _, hb2.alloc _⟩, hb3.alloc hb3.size _, hb4⟩ ⟨W'.heap.size, ?_, ?_⟩
    · simp only [HKV.out.2]
    · unfold BoxT
      rw [HKV.out.1]
      exact World.alloc_heap_new W' _
  case body =>
    rintro l1 pre p a' W' hwl hloop hpx ⟨⟨hb1, hb2⟩, hb3, hb4, hb5⟩ ⟨A4, rfl, hc⟩
    have hpm : p ∈ partsT a := hpx.subset (by simp)
    obtain ⟨A7, c7, hk, hv⟩ := (HPO.out p hpm).cells
    have hne := hc.ne hb2 (by decide)
    have hne' := hne.symm
    have hcc := hb2.cell
    have hff := hb2.frozen
    have hpxx : (pre ++ [p]).map T.x <+: a.x.parts := by rw [← HPL.out]; obtain ⟨t, ht⟩ := hpx; exact ⟨t.map T.x, by rw [← List.map_append, ht]⟩
    have hlm : p.lab.size ≤ maxLen := by
      have := HA.out.2.2.2 p.x (by rw [← HPL.out]; exact List.mem_map.2 ⟨p, hpm, rfl⟩)
      rwa [T.x_lab] at this
    have hfx : p.x.fits = fitB p.kind p.lab p.kids.length := by unfold X.fits; rw [T.x_kind, T.x_lab, T.x_kids, List.length_map]
    have hset := hb2.set (.int .i64 ((pre.length : Int) + 1))
    have hbk2 : Boxed (W'.setCell ⟨w.heap.size + 1 + 1, 0, none⟩ (.int .i64 ((pre.length : Int) + 1))) (w.heap.size + 1) 4 (.bool false) := hb1.other (by omega) _
    have hbl2 : Below w.heap.size w (W'.setCell ⟨w.heap.size + 1 + 1, 0, none⟩ (.int .i64 ((pre.length : Int) + 1))) := hb3.setCell (by show w.heap.size ≤ w.heap.size + 1 + 1; omega) _
    have hkf2 : KeepsFrom w1.heap.size W' (W'.setCell ⟨w.heap.size + 1 + 1, 0, none⟩ (.int .i64 ((pre.length : Int) + 1))) := (KeepsOthers.setCell _ _ _).from _
    have hkp2 : KpX N W' (W'.setCell ⟨w.heap.size + 1 + 1, 0, none⟩ (.int .i64 ((pre.length : Int) + 1))) := kpx_set hb2 rfl (by omega) _
    have hc2 : BoxT (W'.setCell ⟨w.heap.size + 1 + 1, 0, none⟩ (.int .i64 ((pre.length : Int) + 1))) A4 p := (Below.heap_setCell _ _ _ _ hne').trans hc
    have kc := hset.cell
    obtain ⟨d0, d1, d2⟩ := hc2.cells hk
    have H2 := Lib.hid (And.intro hset (And.intro hbk2 (And.intro hbl2 (And.intro hkf2 hkp2))))
    have HP := Lib.hid (And.intro hpxx (And.intro hb5 hfx))
    clear hc hk hv hb1 hb2 hb3 hb5 hset hbk2 hbl2 hkf2 hkp2 hpxx hfx hpm hc2
    generalize hWS : W'.setCell ⟨w.heap.size + 1 + 1, 0, none⟩ (.int .i64 ((pre.length : Int) + 1)) = WS at *
    have hwl : ∀ W5 : World, Below WS.heap.size WS W5 → KeepsFrom w1.heap.size W' W5 ∧ KpX N W' W5 ∧ Below w.heap.size w W5 := fun W5 hb => by
      obtain ⟨-, -, h3, h4, h5⟩ := H2.out
      exact ⟨h4.trans ((below_others hb).from _), h5.trans (KpX.of_below hb (by have := h3.size; omega)), h3.trans (hb.mono h3.size)⟩
    have HWL := Lib.hid hwl
    clear hwl
    have no : ∀ (W5 : World), Below WS.heap.size WS W5 → a.x.right = false → (KeepsFrom w1.heap.size W' (W5.setCell ⟨w.heap.size + 1, 0, none⟩ (.bool false)) ∧ (Code.ret = Code.ret ∧ a.x.right = false) ∧ Boxed (W5.setCell ⟨w.heap.size + 1, 0, none⟩ (.bool false)) (w.heap.size + 1) 4 (.bool false) ∧ Below w.heap.size w (W5.setCell ⟨w.heap.size + 1, 0, none⟩ (.bool false))) := fun W5 hb hr => by
      obtain ⟨h1, h2, h3⟩ := HWL.out _ hb
      exact ⟨h1.trans ((KeepsOthers.setCell _ _ _).from _), ⟨rfl, hr⟩, (Boxed.bel H2.out.2.1 hb).set _, h3.setCell (by show w.heap.size ≤ w.heap.size + 1; omega) _⟩
    have HNO := Lib.hid no
    have HBKC := Lib.hid (And.intro (Boxed.cell H2.out.2.1) (Boxed.frozen H2.out.2.1))
    clear no
    have hlen : pre.length < 100000 := by omega
    by_cases hlt : pre.length < 24
    · have hlt' : ¬ (24 : Int) < (pre.length : Int) + 1 := by omega
      cases hft : fitB p.kind p.lab p.kids.length with
      | true =>
        have HFT := Lib.hid hft
        clear hft hpx
        gi_wp2
        refine ⟨trivial, ?_⟩
        refine (CallsIn.inRound l1 (callsIn_wide.2 (fits0 _ _ _ _ _ _ hlm))).mono ?_
        rintro e w5 ⟨rfl, hb5⟩
        have HB5 := Lib.hid hb5
        rw [HFT.out]
        clear hb5
        gi_wp2
        obtain ⟨h1, h2, h3⟩ := HWL.out _ HB5.out
        refine ⟨h1, h2, ⟨⟨Boxed.bel H2.out.2.1 HB5.out, ?_⟩, h3, by simp; omega, fun q hq => ?_⟩⟩
        · have := Boxed.bel H2.out.1 HB5.out
          simpa using this
        · rcases List.mem_append.1 hq with hq | hq
          · exact HP.out.2.1 q hq
          · obtain rfl : q = p := by simpa using hq
            rw [HP.out.2.2, HFT.out]
      | false =>
        have HFT := Lib.hid hft
        have HNR := Lib.hid (not_right HP.out.1 (.inr ⟨p.x, by simp, by rw [HP.out.2.2]; exact hft⟩))
        clear hft hpx
        gi_wp2
        refine ⟨trivial, ?_⟩
        refine (CallsIn.inRound l1 (callsIn_wide.2 (fits0 _ _ _ _ _ _ hlm))).mono ?_
        rintro e w5 ⟨rfl, hb5⟩
        have HB5 := Lib.hid hb5
        have kc5 := (Boxed.bel H2.out.2.1 hb5).cell
        have kf5 := (Boxed.bel H2.out.2.1 hb5).frozen
        rw [HFT.out]
        clear hb5
        gi_wp2
        obtain ⟨g1, ⟨-, g2⟩, g3⟩ := HNO.out _ HB5.out HNR.out
        exact ⟨g1, ⟨rfl, g2⟩, g3⟩
    · have hlt' : (24 : Int) < (pre.length : Int) + 1 := by omega
      have HNR := Lib.hid (not_right HP.out.1 (.inl (by simp; omega)))
      obtain ⟨kc5, kf5⟩ := HBKC.out
      clear hpx
      gi_wp2
      refine ⟨trivial, ?_⟩
      gi_wp2
      obtain ⟨g1, ⟨-, g2⟩, g3⟩ := HNO.out _ (Below.refl _ _) HNR.out
      exact ⟨g1, ⟨rfl, g2⟩, g3⟩
  case done =>
    rintro D W' hD ⟨⟨hb1, hb2⟩, hb3, hb4, hb5⟩ hK
    have hr : a.x.right = true := is_right (by rw [← partsT_len]; exact hb4) (fun p hp => by
      rw [← HPL.out] at hp
      obtain ⟨q, hq, rfl⟩ := List.mem_map.1 hp
      exact hb5 q hq)
    have hc := hb1.cell
    have hf := hb1.frozen
    have hs := hb1.set (.bool true)
    have hDn : D ≠ w.heap.size + 1 := by omega
    have HB := Lib.hid (And.intro hb3 (And.intro hs hr))
    have hK2 : (W'.setCell ⟨w.heap.size + 1, 0, none⟩ (.bool true)).heap[D]? = some (.deferred (some [])) := (Below.heap_setCell _ _ _ _ hDn).trans hK
    have hs2 : ((W'.setCell ⟨w.heap.size + 1, 0, none⟩ (.bool true)).putObj D (.deferred none)).cell? ⟨w.heap.size + 1, 0, none⟩ = some (.bool true) := (World.cell?_of_block (World.putObj_heap_other (by show w.heap.size + 1 ≠ D; omega))).trans hs.cell
    have HS2 := Lib.hid hs2
    clear hb1 hb2 hb3 hb4 hb5 hs hr hs2
    go_wp2_with fail
    refine ⟨by simp, .inl ⟨_, _, rfl, run_takeDeferred hK2, ?_⟩⟩
    exact ⟨.bool true, by simp [results, Try.results12, go_sem, HS2.out], by rw [HB.out.2.2], belowK w (HB.out.1.setCell (by show w.heap.size ≤ w.heap.size + 1; omega) _) (by omega)⟩
  case stop =>
    rintro D c2 pre W' hD hpre ⟨⟨rfl, hr⟩, hb1, hb3⟩ hK
    have HB := Lib.hid (And.intro hb3 hr)
    have hs2 : (W'.putObj D (.deferred none)).cell? ⟨w.heap.size + 1, 0, none⟩ = some (.bool false) := (World.cell?_of_block (World.putObj_heap_other (by show w.heap.size + 1 ≠ D; omega))).trans hb1.cell
    have HS2 := Lib.hid hs2
    clear hb1 hb3 hr hs2
    gi_wp2
    refine ⟨by simp, .inl ⟨_, _, rfl, run_takeDeferred hK, ?_⟩⟩
    exact ⟨.bool false, by simp [results, Try.results12, go_sem, HS2.out], by rw [HB.out.2], belowK w HB.out.1 (by omega)⟩
end Go.Proofs.Ytnohnkhhkeikoaa
