/- Same: whether two are. -/
import Derived.Test.YtnohnkhhkeikoaaM
namespace Go.Proofs.Ytnohnkhhkeikoaa
open Go.ChangeShapes Go.WideShapes Go.ChangeAt Go.RowKit
set_option linter.unusedVariables false

attribute [local go_sem] Oper.semAt_some

noncomputable def sameX (x y : X) : Bool := @decide (x = y) (Classical.propDecidable _)
theorem sameX_true {x y : X} (h : x = y) : sameX x y = true := @decide_eq_true _ (Classical.propDecidable _) h
theorem sameX_false {x y : X} (h : x ≠ y) : sameX x y = false := @decide_eq_false _ (Classical.propDecidable _) h
theorem sameX_iff {x y : X} : sameX x y = true ↔ x = y := ⟨fun h => @of_decide_eq_true _ (Classical.propDecidable _) h, sameX_true⟩

def agree (z : T × T) : Prop := z.1.kind = z.2.kind ∧ z.1.lab = z.2.lab ∧ z.1.kids.length = z.2.kids.length
theorem zip_same : ∀ (a b : T), (∀ z ∈ zipT a b, agree z) ↔ a.x = b.x := by
  intro a
  induction a using T.ind' with
  | h a ih =>
    intro b
    have key : ∀ (ts us : List T), (∀ y ∈ ts, ∀ b, (∀ z ∈ zipT y b, agree z) ↔ y.x = b.x) → ts.length = us.length → ((∀ z ∈ zipTL ts us, agree z) ↔ ts.map T.x = us.map T.x) := by
      intro ts
      induction ts with
      | nil =>
        intro us _ hl
        obtain rfl : us = [] := List.eq_nil_of_length_eq_zero (by simpa using hl.symm)
        simp [zipTL_nil]
      | cons t ts iht =>
        intro us hy hl
        cases us with
        | nil => simp at hl
        | cons u us =>
          rw [zipTL_cons, List.map_cons, List.map_cons, List.cons.injEq, ← hy t (by simp) u, ← iht us (fun y hh => hy y (by simp [hh])) (by simpa using hl)]
          constructor
          · exact fun h => ⟨fun z hz => h z (List.mem_append_left _ hz), fun z hz => h z (List.mem_append_right _ hz)⟩
          · intro h z hz
            rcases List.mem_append.1 hz with hz | hz
            · exact h.1 z hz
            · exact h.2 z hz
    rw [zipT_eq]
    constructor
    · intro h
      obtain ⟨h1, h2, h3⟩ := h (a, b) (by simp)
      refine X.ext' ?_ ?_ ?_
      · rw [T.x_kind, T.x_kind]; exact h1
      · rw [T.x_lab, T.x_lab]; exact h2
      · rw [T.x_kids, T.x_kids]
        exact (key a.kids b.kids ih h3).1 fun z hz => h z (by simp [hz])
    · intro h
      have h1 : a.kind = b.kind := by rw [← T.x_kind, ← T.x_kind, h]
      have h2 : a.lab = b.lab := by rw [← T.x_lab, ← T.x_lab, h]
      have h3 : a.kids.map T.x = b.kids.map T.x := by rw [← T.x_kids, ← T.x_kids, h]
      have h4 : a.kids.length = b.kids.length := by have := congrArg List.length h3; simpa using this
      intro z hz
      rcases List.mem_cons.1 hz with rfl | hz
      · exact ⟨h1, h2, h4⟩
      · exact (key a.kids b.kids ih h4).2 h3 z hz
theorem zip_len : ∀ (a b : T), (zipT a b).length ≤ a.x.sz := by
  intro a
  induction a using T.ind' with
  | h a ih =>
    intro b
    rw [zipT_eq, X.sz_eq, List.length_cons, T.x_kids]
    generalize b.kids = us
    generalize a.kids = ts at ih ⊢
    induction ts generalizing us with
    | nil => rw [zipTL_nil]; simp
    | cons t ts iht =>
      cases us with
      | nil => rw [zipTL_nil']; simp
      | cons u us =>
        rw [zipTL_cons, List.length_append, List.map_cons, szL_cons]
        have := ih t (by simp) u
        have := iht us (fun y hy => ih y (by simp [hy]))
        omega

set_option maxRecDepth 100000 in
set_option maxHeartbeats 8000000 in
theorem same16_any {N : Nat} {w : World} {v1 v2 : Value} {x y : X} (hx : XV N w v1 x) (hy : XV N w v2 y) (hN : N ≤ w.heap.size) (hsz : x.sz ≤ 100000) :
    Calls Try.prog 16 #[v1, v2] w fun e w' => e = .returned (.bool (sameX x y)) ∧ Below w.heap.size w w' := by
  obtain ⟨a, rfl, rfl, ha⟩ := hx.tree
  obtain ⟨b, rfl, rfl, hb⟩ := hy.tree
  obtain ⟨A, c, hk, hv⟩ := ha.cells
  obtain ⟨A2, c2, hk2, hv2⟩ := hb.cells
  rw [hv, hv2]
  have HA := Lib.hid (And.intro ha (And.intro hb (And.intro hN (And.intro hk hk2))))
  clear ha hb hk hk2 hv hv2 hx hy
  refine (callsIn_wide (n := 12)).1 ?_
  refine callsIn_of_wp_marks Try.func16 rfl trivial ?_ rfl
  simp only [Try.ntmps16, List.size_toArray, List.length_cons, List.length_nil, Nat.reduceAdd, Nat.reduceSub, Array.replicate_succ, Array.replicate_zero, List.push_toArray, List.append_toArray, List.nil_append, List.cons_append]
  refine wpIn_wide.2 ?_
  go_wp2_with (go_at_call 39; refine (pairs_any (a := a) (b := b) HA.out.2.2.2.1 HA.out.2.2.2.2 _).mono ?_; rintro e w1 ⟨rfl, hx1, hx2, hbw⟩)
  have hq1 : Below w.heap.size w ((w.alloc (.cells #[.int .i64 a.kind, .string a.lab, .slice A a.kids.length c] 25)).alloc (.cells #[.int .i64 b.kind, .string b.lab, .slice A2 b.kids.length c2] 25)) := ((Below.refl _ w).alloc (Nat.le_refl _) _).alloc (by simp) _
  generalize hQ1 : (w.alloc (.cells #[.int .i64 a.kind, .string a.lab, .slice A a.kids.length c] 25)).alloc (.cells #[.int .i64 b.kind, .string b.lab, .slice A2 b.kids.length c2] 25) = Q1 at *
  have hz1 : Q1.heap.size = w.heap.size + 1 + 1 := by rw [← hQ1]; simp
  have hbk : Boxed w1 (w.heap.size + 1 + 1) 4 (.bool false) := alloc_at hz1 hbw
  have hb1 : Below w.heap.size w w1 := hq1.trans (((Below.refl _ Q1).alloc (Nat.le_refl _) _ |>.trans (hbw.mono (by simp))).mono (by omega))
  have hz2 : w.heap.size + 3 ≤ w1.heap.size := by have := hbw.size; simp at this; omega
  have hNw : N ≤ w1.heap.size := Nat.le_trans HA.out.2.2.1 (by omega)
  have hseq := pairs_seq 11 (by decide) hx1 hx2 (HA.out.1.bel (hb1.mono HA.out.2.2.1)) (HA.out.2.1.bel (hb1.mono HA.out.2.2.1)) hNw (Nat.le_trans (zip_len a b) hsz)
  simp only [World.size_alloc, hz1] at hseq
  have HSEQ := Lib.hid hseq
  have HB1 := Lib.hid hb1
  have HBX := Lib.hid hbk
  have HPO := Lib.hid (zip_ok a b HA.out.1 HA.out.2.1)
  try simp only [World.size_alloc, hz1]
  clear hbw hb1 hbk hseq hx1 hx2 hq1 hQ1 hz1
  refine wpIn_wide.1 (?_ : Code.wpIn Fence.wide 12 Try.prog _ _ _ _)
  refine wpIn_rangeFunc_X rfl (by omega) (gf := 53) (lb := #[.pointer (some ⟨w.heap.size + 1 + 1 + 1, 0, none⟩), .pointer (some ⟨w.heap.size + 1 + 1 + 1 + 1, 0, none⟩)]) rfl trivial (enters_of Try.func53 (by kernel_rfl) rfl)
    HSEQ.out KpX.trans (fun W' l' o o' hlw hl' ho _ => KpX.putObj W' l' o o' (by omega) hl' ho) (Below.refl _ _) (fun _ => rfl)
    (fun pre W' => Boxed W' (w.heap.size + 1 + 1) 4 (.bool false) ∧ Below w.heap.size w W' ∧ (∀ z ∈ pre, agree z))
    (fun c pre W' => (c = .ret ∧ a.x ≠ b.x) ∧ Boxed W' (w.heap.size + 1 + 1) 4 (.bool false) ∧ Below w.heap.size w W')
    (OwnQ.and (OwnQ.boxed _ _ _ (fun _ => _) (by decide)) (OwnQ.and (ownQ_below (Nat.le_refl _) (by omega)) (ownQ_pure _ _)))
    (fun c => OwnQ.and (ownQ_pure _ _) (OwnQ.and (OwnQ.boxed _ _ _ (fun _ => _) (by decide)) (ownQ_below (Nat.le_refl _) (by omega)))) ⟨HBX.out, HB1.out, fun p hp => by cases hp⟩
    (fun z a' W' => ∃ A5 A6, a' = { tmps := #[.agg #[.int .i64 a.kind, .string a.lab, .slice A a.kids.length c], .agg #[.int .i64 b.kind, .string b.lab, .slice A2 b.kids.length c2], .pointer (some ⟨w.heap.size, 0, none⟩), .pointer (some ⟨w.heap.size + 1, 0, none⟩), .pointer (some ⟨w.heap.size + 1 + 1, 0, none⟩), .pointer (some ⟨A5, 0, none⟩), .pointer (some ⟨A6, 0, none⟩), .agg #[.int .i64 a.kind, .string a.lab, .slice A a.kids.length c], .agg #[.int .i64 b.kind, .string b.lab, .slice A2 b.kids.length c2], .func (.func 53) #[] #[.pointer (some ⟨w.heap.size + 1 + 1 + 1, 0, none⟩), .pointer (some ⟨w.heap.size + 1 + 1 + 1 + 1, 0, none⟩)], z.1.v, z.2.v, undef, undef, undef, undef, undef, undef, undef, undef, undef, undef, undef, undef, undef, undef, undef, undef, undef, undef, undef, undef, undef], defers := [] } ∧ BoxT W' A5 z.1 ∧ BoxT W' A6 z.2)
    ?hA ?assign ?body ?done ?stop
  case hA =>
    rintro p a' _ X Y ⟨A5, A6, rfl, hc, hc'⟩ hr
    exact ⟨A5, A6, rfl, hr.cells hc (by decide), hr.cells hc' (by decide)⟩
  case assign =>
    intro l1 pre z W' K hI hpx hK
    obtain ⟨h1, h2⟩ := HPO.out z (hpx.subset (by simp))
    obtain ⟨A4, c4, hk, hv⟩ := h1.cells
    obtain ⟨A7, c7, hk', hv'⟩ := h2.cells
    have HK := Lib.hid hK
    have HI' := Lib.hid hI
    have HKV := Lib.hid (And.intro (And.intro hk hv) (And.intro hk' hv'))
    unfold encZ
    rw [hv, hv']
    clear hK hI hk hv h1 h2 hk' hv'
    gi_wp2
    have hbw : Below W'.heap.size W' ((W'.alloc (.cells #[.int .i64 z.1.kind, .string z.1.lab, .slice A4 z.1.kids.length c4] 25)).alloc (.cells #[.int .i64 z.2.kind, .string z.2.lab, .slice A7 z.2.kids.length c7] 25)) := ((Below.refl _ W').alloc (Nat.le_refl _) _).alloc (by simp) _
    obtain ⟨hb1, hb3, hb4⟩ := HI'.out
    refine HK.out _ _ ((below_others hbw).from _) (KpX.of_below hbw (by have := hb3.size; omega)) ⟨(hb1.alloc _).alloc _, hb3.trans (hbw.mono hb3.size), hb4⟩ ⟨W'.heap.size, W'.heap.size + 1, ?_, ?_, ?_⟩
    · simp only [HKV.out.1.2, HKV.out.2.2]
    · unfold BoxT
      rw [HKV.out.1.1, Below.heap_alloc _ _ _ (by simp)]
      exact World.alloc_heap_new W' _
    · unfold BoxT
      rw [HKV.out.2.1]
      have := World.alloc_heap_new (W'.alloc (.cells #[.int .i64 z.1.kind, .string z.1.lab, .slice A4 z.1.kids.length c4] 25)) (.cells #[.int .i64 z.2.kind, .string z.2.lab, .slice A7 z.2.kids.length c7] 25)
      rwa [World.size_alloc] at this
  case body =>
    rintro l1 pre z a' W' hwl hloop hpx ⟨hb1, hb3, hb4⟩ ⟨A5, A6, rfl, hc, hc'⟩
    have hzm : z ∈ zipT a b := hpx.subset (by simp)
    obtain ⟨h1, h2⟩ := HPO.out z hzm
    obtain ⟨A4, c4, hk, hv⟩ := h1.cells
    obtain ⟨A7, c7, hk', hv'⟩ := h2.cells
    obtain ⟨q0, q1, q2⟩ := hc.cells hk
    obtain ⟨r0, r1, r2⟩ := hc'.cells hk'
    have kc := hb1.cell
    have kf := hb1.frozen
    have HH := Lib.hid (And.intro hb1 (And.intro hb3 hb4))
    have hno : ¬ agree z → KeepsFrom w1.heap.size W' (W'.setCell ⟨w.heap.size + 1 + 1, 0, none⟩ (.bool false)) ∧ (Code.ret = Code.ret ∧ a.x ≠ b.x) ∧ Boxed (W'.setCell ⟨w.heap.size + 1 + 1, 0, none⟩ (.bool false)) (w.heap.size + 1 + 1) 4 (.bool false) ∧ Below w.heap.size w (W'.setCell ⟨w.heap.size + 1 + 1, 0, none⟩ (.bool false)) := fun hna =>
      ⟨(KeepsOthers.setCell _ _ _).from _, ⟨rfl, fun e => hna ((zip_same a b).2 e z hzm)⟩, hb1.set _, hb3.setCell (by show w.heap.size ≤ w.heap.size + 1 + 1; omega) _⟩
    have HNO := Lib.hid hno
    have HAG := Lib.hid (show agree z ↔ z.1.kind = z.2.kind ∧ z.1.lab = z.2.lab ∧ z.1.kids.length = z.2.kids.length from Iff.rfl)
    clear hc hc' hk hk' hv hv' h1 h2 hb1 hb3 hb4 hno hzm hpx
    by_cases e1 : z.1.kind = z.2.kind
    · by_cases e2 : z.1.lab = z.2.lab
      · by_cases e3 : z.1.kids.length = z.2.kids.length
        · have HY := Lib.hid (HAG.out.2 ⟨e1, e2, e3⟩)
          rw [e1] at q0
          rw [e2] at q1
          rw [e3] at q2
          clear e1 e2 e3
          gi_wp2
          refine ⟨KeepsFrom.refl _ _, KpX.refl _ _, HH.out.1, HH.out.2.1, fun u v huv => ?_⟩
          rcases List.mem_append.1 huv with h | h
          · exact HH.out.2.2 _ h
          · obtain h : (u, v) = z := by simpa using h
            rw [h]
            exact HY.out
        · have HY := Lib.hid (show ¬ agree z from fun h => e3 (HAG.out.1 h).2.2)
          have e3' : (z.1.kids.length : Int) ≠ (z.2.kids.length : Int) := by omega
          rw [e1] at q0
          rw [e2] at q1
          clear e1 e2 e3
          gi_wp2
          obtain ⟨g1, ⟨-, g2⟩, g3⟩ := HNO.out HY.out
          exact ⟨g1, ⟨rfl, g2⟩, g3⟩
      · have HY := Lib.hid (show ¬ agree z from fun h => e2 (HAG.out.1 h).2.1)
        have e2' : z.1.lab.toList ≠ z.2.lab.toList := fun h => e2 (by
          have : z.1.lab.data.toList = z.2.lab.data.toList := by rw [← ByteArray.toList_eq, ← ByteArray.toList_eq]; exact h
          exact ByteArray.ext (Array.toList_inj.1 this))
        rw [e1] at q0
        clear e1 e2
        gi_wp2
        obtain ⟨g1, ⟨-, g2⟩, g3⟩ := HNO.out HY.out
        exact ⟨g1, ⟨rfl, g2⟩, g3⟩
    · have HY := Lib.hid (show ¬ agree z from fun h => e1 (HAG.out.1 h).1)
      gi_wp2
      obtain ⟨g1, ⟨-, g2⟩, g3⟩ := HNO.out HY.out
      exact ⟨g1, ⟨rfl, g2⟩, g3⟩
  case done =>
    rintro D W' hD ⟨hb1, hb3, hb5⟩ hK
    have hr : a.x = b.x := (zip_same a b).1 hb5
    have hc := hb1.cell
    have hf := hb1.frozen
    have hs := hb1.set (.bool true)
    have hDn : D ≠ w.heap.size + 1 + 1 := by omega
    have HB := Lib.hid (And.intro hb3 hr)
    have hK2 : (W'.setCell ⟨w.heap.size + 1 + 1, 0, none⟩ (.bool true)).heap[D]? = some (.deferred (some [])) := (Below.heap_setCell _ _ _ _ hDn).trans hK
    have hs2 : ((W'.setCell ⟨w.heap.size + 1 + 1, 0, none⟩ (.bool true)).putObj D (.deferred none)).cell? ⟨w.heap.size + 1 + 1, 0, none⟩ = some (.bool true) := (World.cell?_of_block (World.putObj_heap_other (by show w.heap.size + 1 + 1 ≠ D; omega))).trans hs.cell
    have HS2 := Lib.hid hs2
    clear hb1 hb3 hb5 hs hr hs2
    go_wp2_with fail
    refine ⟨by simp, .inl ⟨_, _, rfl, run_takeDeferred hK2, ?_⟩⟩
    exact ⟨.bool true, by simp [results, Try.results16, go_sem, HS2.out], by rw [sameX_true HB.out.2], belowK w (HB.out.1.setCell (by show w.heap.size ≤ w.heap.size + 1 + 1; omega) _) (by omega)⟩
  case stop =>
    rintro D c2 pre W' hD hpre ⟨⟨rfl, hr⟩, hb1, hb3⟩ hK
    have HB := Lib.hid (And.intro hb3 hr)
    have hs2 : (W'.putObj D (.deferred none)).cell? ⟨w.heap.size + 1 + 1, 0, none⟩ = some (.bool false) := (World.cell?_of_block (World.putObj_heap_other (by show w.heap.size + 1 + 1 ≠ D; omega))).trans hb1.cell
    have HS2 := Lib.hid hs2
    clear hb1 hb3 hr hs2
    gi_wp2
    refine ⟨by simp, .inl ⟨_, _, rfl, run_takeDeferred hK, ?_⟩⟩
    exact ⟨.bool false, by simp [results, Try.results16, go_sem, HS2.out], by rw [sameX_false HB.out.2], belowK w HB.out.1 (by omega)⟩
end Go.Proofs.Ytnohnkhhkeikoaa
