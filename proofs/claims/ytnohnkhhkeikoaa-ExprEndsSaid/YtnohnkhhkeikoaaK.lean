/- Size: how many parts there are. -/
import Derived.Test.YtnohnkhhkeikoaaJ
namespace Go.Proofs.Ytnohnkhhkeikoaa
open Go.ChangeShapes Go.WideShapes Go.ChangeAt Go.RowKit
set_option linter.unusedVariables false

attribute [local go_sem] Oper.semAt_some

theorem XV.tree {N : Nat} {w : World} {v : Value} {x : X} (h : XV N w v x) : ∃ a : T, a.x = x ∧ v = a.v ∧ TR N w a.kv a.kids := by
  obtain ⟨kv, rfl, h⟩ := h
  obtain ⟨ts, h1, h2⟩ := h.ann
  refine ⟨.mk x.kind x.lab kv ts, ?_, rfl, h2⟩
  exact X.ext' (by rw [T.x_kind]; rfl) (by rw [T.x_lab]; rfl) (by rw [T.x_kids]; exact h1)
theorem TR.xv {N : Nat} {w : World} {a : T} (h : TR N w a.kv a.kids) : XV N w a.v a.x := by
  refine ⟨a.kv, ?_, ?_⟩
  · rw [T.x_kind, T.x_lab]; rfl
  · rw [T.x_kids]; exact h.xr
theorem TR.cells {N : Nat} {w : World} {a : T} (h : TR N w a.kv a.kids) : ∃ A c, a.kv = .slice A a.kids.length c ∧ a.v = .agg #[.int .i64 a.kind, .string a.lab, .slice A a.kids.length c] := by
  obtain ⟨A, c, h1, _⟩ := h.form
  exact ⟨A, c, h1, by rw [T.v, h1]⟩
theorem belowK (w : World) {W : World} {D : Nat} {o' : Obj} (h : Below w.heap.size w W) (hD : w.heap.size ≤ D) : Below w.heap.size w (W.putObj D o') :=
  h.trans ⟨rfl, rfl, rfl, by simp, fun k hk => World.putObj_heap_other (by omega)⟩
theorem OwnQ.boxed {β : Type} (N B : Nat) (t : TypeId) (f : β → Value) (ht : t ≠ 68) : OwnQ N (fun (s : β) W => Boxed W B t (f s)) := fun s X Y hs hr => hr.cells hs ht

set_option maxRecDepth 100000 in
set_option maxHeartbeats 4000000 in
theorem size14_any {N : Nat} {w : World} {v : Value} {x : X} (hx : XV N w v x) (hN : N ≤ w.heap.size) (hsz : x.sz ≤ 100000) :
    Calls Try.prog 14 #[v] w fun e w' => e = .returned (.int .i64 x.sz) ∧ Below w.heap.size w w' := by
  obtain ⟨a, rfl, rfl, ha⟩ := hx.tree
  obtain ⟨A, c, hk, hv⟩ := ha.cells
  rw [hv]
  have HA := Lib.hid (And.intro ha (And.intro hN hk))
  clear ha hk hv hx
  refine (callsIn_wide (n := 12)).1 ?_
  refine callsIn_of_wp_marks Try.func14 rfl trivial ?_ rfl
  simp only [Try.ntmps14, List.size_toArray, List.length_cons, List.length_nil, Nat.reduceAdd, Nat.reduceSub, Array.replicate_succ, Array.replicate_zero, List.push_toArray, List.append_toArray, List.nil_append, List.cons_append]
  refine wpIn_wide.2 ?_
  go_wp2_with (go_at_call 34; refine (partsOf_any (a := a) HA.out.2.2 _).mono ?_; rintro e w1 ⟨rfl, hx1, hbw⟩)
  have hb0 : Below w.heap.size w ((w.alloc (.cells #[.int .i64 a.kind, .string a.lab, .slice A a.kids.length c] 25)).alloc (.cells #[.int .i64 0] 3)) := ((Below.refl _ w).alloc (Nat.le_refl _) _).alloc (by simp) _
  have hb1 : Below w.heap.size w w1 := hb0.trans (hbw.mono (by simp; try omega))
  have hbx : Boxed w1 (w.heap.size + 1) 3 (.int .i64 0) := (hbw.block _ (by simp)).trans (by
    have := Boxed.new (w.alloc (.cells #[.int .i64 a.kind, .string a.lab, .slice A a.kids.length c] 25)) 3 (.int .i64 0)
    rwa [World.size_alloc] at this)
  have hz1 : w.heap.size + 2 ≤ w1.heap.size := by have := hbw.size; simp at this; omega
  have hNw : N ≤ w1.heap.size := Nat.le_trans HA.out.2.1 (by omega)
  have hseq := parts_seq 11 (by decide) hx1 (HA.out.1.bel (hb1.mono HA.out.2.1)) hNw hsz
  try simp only [World.size_alloc] at hseq
  have HSEQ := Lib.hid hseq
  have HB1 := Lib.hid hb1
  have HBX := Lib.hid hbx
  have hsz2 : (partsT a).length ≤ 100000 := by rw [partsT_len]; exact hsz
  clear hb0 hbw hb1 hbx hseq hx1
  refine wpIn_wide.1 (?_ : Code.wpIn Fence.wide 12 Try.prog _ _ _ _)
  refine wpIn_rangeFunc_X rfl (by omega) (gf := 48) (lb := #[.pointer (some ⟨w.heap.size + 1 + 1, 0, none⟩)]) rfl trivial (enters_of Try.func48 (by kernel_rfl) rfl)
    HSEQ.out KpX.trans (fun W' l' o o' hlw hl' ho _ => KpX.putObj W' l' o o' (by omega) hl' ho) (Below.refl _ _) (fun _ => rfl)
    (fun pre W' => Boxed W' (w.heap.size + 1) 3 (.int .i64 (pre.length : Nat)) ∧ Below w.heap.size w W') (fun _ _ _ => False)
    (OwnQ.and (OwnQ.boxed _ _ _ _ (by decide)) (ownQ_below (Nat.le_refl _) (by omega))) (fun c s X Y h => h.elim) ⟨HBX.out, HB1.out⟩
    (fun p a' W' => a' = { tmps := #[.agg #[.int .i64 a.kind, .string a.lab, .slice A a.kids.length c], .pointer (some ⟨w.heap.size, 0, none⟩), .int .i64 0, .pointer (some ⟨w.heap.size + 1, 0, none⟩), .agg #[.int .i64 a.kind, .string a.lab, .slice A a.kids.length c], .func (.func 48) #[] #[.pointer (some ⟨w.heap.size + 1 + 1, 0, none⟩)], p.v, undef, undef, undef], defers := [] })
    (fun p a' s X Y h _ => h) ?assign ?body ?done (fun _ _ _ _ _ _ h _ => h.elim)
  case assign =>
    intro l1 pre p W' K hI hpx hK
    have HK := Lib.hid hK
    have HI' := Lib.hid hI
    clear hK hI
    gi_wp2
    exact HK.out _ _ (KeepsFrom.refl _ _) (KpX.refl _ _) HI'.out (by simp [encP])
  case body =>
    rintro l1 pre p a' W' hwl hloop hpx ⟨hb, hbw⟩ rfl
    have hc := hb.cell
    have hf := hb.frozen
    have hlt : pre.length < 100000 := by have := hpx.length_le; simp at this; omega
    have HB := Lib.hid (And.intro hb hbw)
    clear hb hbw
    gi_wp2
    have hb2 : Boxed (W'.setCell ⟨w.heap.size + 1, 0, none⟩ (.int .i64 ((pre.length : Int) + 1))) (w.heap.size + 1) 3 (.int .i64 ((pre ++ [p]).length : Nat)) := by
      have := HB.out.1.set (.int .i64 ((pre.length : Int) + 1))
      simpa using this
    refine ⟨?_, ?_, hb2, HB.out.2.setCell (by show w.heap.size ≤ w.heap.size + 1; omega) _⟩
    · exact (KeepsOthers.setCell _ _ _).from _
    · refine ⟨by simp [World.setCell], fun k hk => Below.heap_setCell _ _ _ k (by have := HA.out.2.1; show k ≠ w.heap.size + 1; omega), fun k v t fr hk ht => ?_⟩
      by_cases e : k = w.heap.size + 1
      · subst e
        rw [show W'.heap[w.heap.size + 1]? = _ from HB.out.1] at hk
        injection hk with hk
        injection hk with _ hk _
        subst hk
        cases ht
      · exact (Below.heap_setCell _ _ _ k e).trans hk
  case done =>
    rintro D W' hD ⟨hb, hbw⟩ hK
    have hc := hb.cell
    have HB := Lib.hid hbw
    clear hb hbw
    go_wp2_with fail
    refine ⟨by simp, .inl ⟨_, _, rfl, run_takeDeferred hK, ?_⟩⟩
    exact ⟨.int .i64 ((partsT a).length : Nat), by simp [results, Try.f14, go_sem], by rw [partsT_len], belowK w HB.out (by omega)⟩
end Go.Proofs.Ytnohnkhhkeikoaa
