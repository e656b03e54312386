/- Walk of taken at no heap; walk of the law's none. -/
import Derived.Test.YtabbgananngjlaaAI
import Derived.Test.YtabbgananngjlaaP
namespace Go.Proofs.Ytabbgananngjlaa
open Go.ChangeShapes Go.WideShapes Go.ChangeAt Go.RowKit Go.Shelf
set_option linter.unusedVariables false

attribute [local go_sem] Oper.semAt_some

structure TN (w : World) (p : Option Addr) (N : Int) (W : World) : Prop where
  b0 : Boxed W w.heap.size 3 (.int .i64 N)
  b1 : Boxed W (w.heap.size + 1) 22 (.slice none 0 0)
  b2 : Boxed W (w.heap.size + 1 + 1) 22 (.slice none 0 0)
  b3 : Boxed W (w.heap.size + 1 + 1 + 1) 26 (.pointer p)
  no : NoH W p
  be : Below w.heap.size w W
  size : w.heap.size + 1 + 1 + 1 + 1 + 1 ≤ W.heap.size

theorem TN.grown {w W W' : World} {p : Option Addr} {N : Int} (h : TN w p N W) {row : Option Nat} (hg : W.grownBy W' row) (hr : ∀ r, row = some r → w.heap.size + 1 + 1 + 1 + 1 + 1 ≤ r ∧ ∃ o : Obj, W.heap[r]? = some o ∧ o.isCells = false) : TN w p N W' := by
  have hn : ∀ B, B < w.heap.size + 1 + 1 + 1 + 1 + 1 → some B ≠ row := fun B hB e => by have := (hr B e.symm).1; omega
  refine ⟨h.b0.kept hg (hn _ (by omega)), h.b1.kept hg (hn _ (by omega)), h.b2.kept hg (hn _ (by omega)), h.b3.kept hg (hn _ (by omega)), ?_, h.be.grown hg (by have := h.size; omega) (fun k e => by have := (hr k e).1; omega), Nat.le_trans h.size hg.size⟩
  rcases h.no with h0 | ⟨z, h0, hz⟩
  · exact .inl h0
  · refine .inr ⟨z, h0, (hg.block z (Array.getElem?_eq_some_iff.1 hz).1 fun e => ?_).trans hz⟩
    obtain ⟨_, o, ho, hc⟩ := hr z e.symm
    rw [hz] at ho
    cases ho
    cases hc
theorem TN.below {w W W' : World} {p : Option Addr} {N : Int} (h : TN w p N W) (hb : Below W.heap.size W W') : TN w p N W' :=
  h.grown (row := none) ⟨hb.os, hb.tape, hb.output, hb.size, fun k hk _ => hb.block k hk⟩ fun r e => by cases e

theorem tn_start {w : World} {p : Option Addr} (h : NoH w p) (key N : Int) :
    TN w p N (((((w.alloc (.cells #[.int .i64 N] 3)).alloc (.cells #[.slice none 0 0] 22)).alloc (.cells #[.slice none 0 0] 22)).alloc (.cells #[.pointer p] 26)).alloc (.cells #[.int .i64 key] 3)) := by
  have e1 : (w.alloc (.cells #[.int .i64 N] 3)).heap.size = w.heap.size + 1 := by simp
  have e2 : ((w.alloc (.cells #[.int .i64 N] 3)).alloc (.cells #[.slice none 0 0] 22)).heap.size = w.heap.size + 1 + 1 := by simp
  have e3 : (((w.alloc (.cells #[.int .i64 N] 3)).alloc (.cells #[.slice none 0 0] 22)).alloc (.cells #[.slice none 0 0] 22)).heap.size = w.heap.size + 1 + 1 + 1 := by simp
  have b0 := Boxed.new w 3 (.int .i64 N)
  have b1 := Boxed.new (w.alloc (.cells #[.int .i64 N] 3)) 22 (.slice none 0 0)
  have b2 := Boxed.new ((w.alloc (.cells #[.int .i64 N] 3)).alloc (.cells #[.slice none 0 0] 22)) 22 (.slice none 0 0)
  have b3 := Boxed.new (((w.alloc (.cells #[.int .i64 N] 3)).alloc (.cells #[.slice none 0 0] 22)).alloc (.cells #[.slice none 0 0] 22)) 26 (.pointer p)
  rw [e1] at b1
  rw [e2] at b2
  rw [e3] at b3
  have hB : Below w.heap.size w (((((w.alloc (.cells #[.int .i64 N] 3)).alloc (.cells #[.slice none 0 0] 22)).alloc (.cells #[.slice none 0 0] 22)).alloc (.cells #[.pointer p] 26)).alloc (.cells #[.int .i64 key] 3)) :=
    ((((((Below.refl _ w).alloc (Nat.le_refl _) _).alloc (by omega) _).alloc (by omega) _).alloc (by omega) _).alloc (by simp; omega) _)
  exact ⟨(((b0.alloc _).alloc _).alloc _).alloc _, ((b1.alloc _).alloc _).alloc _, (b2.alloc _).alloc _, b3.alloc _, h.below hB, hB, (by simp)⟩

def NilR (w : World) (e : Ending) (w' : World) : Prop := e = .returned (.slice none 0 0) ∧ Below w.heap.size w w'

set_option maxRecDepth 100000 in
set_option maxHeartbeats 2000000 in
theorem taken_no {w : World} {p : Option Addr} (h : NoH w p) (key N : Int) (hN : 1 ≤ N) : Calls Try.prog 19 #[.pointer p, .int .i64 key, .int .i64 N] w (NilR w) := by
  have HT := Lib.hid (tn_start h key N)
  clear h
  refine (callsIn_wide (n := 9)).1 ?_
  refine callsIn_of_wp_marks Try.func19 rfl trivial ?_ rfl
  simp only [Try.ntmps19, List.size_toArray, List.length_cons, List.length_nil, Nat.reduceAdd, Nat.reduceSub, Array.replicate_succ, Array.replicate_zero, List.push_toArray, List.append_toArray, List.nil_append, List.cons_append]
  gi_wp2
  refine ⟨trivial, ?_⟩
  refine (callsIn_wide.2 (upto_no p key _)).mono ?_
  rintro e w1 ⟨rfl, rfl⟩
  have c0 := HT.out.b0.cell
  have c1 := HT.out.b1.cell
  have f1 := HT.out.b1.frozen
  have hz : (((((w.alloc (.cells #[.int .i64 N] 3)).alloc (.cells #[.slice none 0 0] 22)).alloc (.cells #[.slice none 0 0] 22)).alloc (.cells #[.pointer p] 26)).alloc (.cells #[.int .i64 key] 3)).heap.size = w.heap.size + 1 + 1 + 1 + 1 + 1 := by simp
  have HZ := Lib.hid hz
  clear hz
  generalize (((((w.alloc (.cells #[.int .i64 N] 3)).alloc (.cells #[.slice none 0 0] 22)).alloc (.cells #[.slice none 0 0] 22)).alloc (.cells #[.pointer p] 26)).alloc (.cells #[.int .i64 key] 3)) = W at *
  simp only [World.size_alloc]
  have qf : ∀ (w : World) (ca : Array Value), (binOp .eql 60 (.func (.func 38) #[] ca) .nilFunc).run Try.prog w = .ok (.bool false) w := fun w ca => run_eql_func_nil w 60 _ _ _ _ _ ca Try.underlying60
  gi_wp2
  refine wpIn_rangeFunc_dir rfl (by decide) (gf := 38) (lb := #[.pointer (some ⟨w.heap.size + 1 + 1 + 1, 0, none⟩), .pointer (some ⟨w.heap.size + 1 + 1 + 1 + 1, 0, none⟩)]) rfl trivial (enters_of Try.func38 (by kernel_rfl) rfl)
    (encs := fun x : It => #[.agg #[.int .i64 x.1, .int .i64 x.2]]) (fun _ => TN w p N) (fun _ _ _ => False) (TN w p N) (fun _ _ => False) (fun _ _ _ _ => False)
    (up_seq_no _ _ _ p _ _ fun W' h => ⟨h.b3.cell, h.no, fun W'' hb => h.below hb⟩) (fun _ => rfl) ?aI ?aX ?aD ?aA 0 HT.out ?assign ?body ?done ?stop
  case aI => exact fun m _ W' W'' row h hg hr => h.grown hg (fun r e => by rw [← HZ.out]; exact hr r e)
  case aX => exact fun c _ W' W'' row h _ _ => h
  case aD => exact fun _ W' W'' row h hg hr => h.grown hg (fun r e => by rw [← HZ.out]; exact hr r e)
  case aA => exact fun m x a' _ W' W'' row h _ _ => h
  case assign => exact fun l' m x W' K h _ => h.elim
  case body => exact fun l' m x a' W' _ h => h.elim
  case stop => exact fun D c W' _ h _ => h.elim
  case done =>
    rintro D W' hD h hK
    have hc := h.b2.cell
    have hcr := h.b1.cell
    have hfr := h.b1.frozen
    have HTN := Lib.hid h
    have hDl : w.heap.size + 1 + 1 + 1 + 1 + 1 ≤ D := by rw [← HZ.out]; exact hD
    clear h
    gi_wp2
    have hK' := (KeepsOthers.setCell W' ⟨w.heap.size + 1, 0, none⟩ (.slice none 0 0)).same D _ hK rfl
    have hb := cell_kept (HTN.out.b1.set (.slice none 0 0)).cell (grownBy_putObj' _ D (.deferred none)) (fun r e => by cases e; exact ⟨_, hK', rfl⟩)
    refine ⟨by simp, .inl ⟨_, _, rfl, run_takeDeferred hK', ?_⟩⟩
    refine ⟨.slice none 0 0, by simp [results, Try.f19, go_sem, hb], rfl, ?_⟩
    exact (HTN.out.be.setCell (p := ⟨w.heap.size + 1, 0, none⟩) (by simp only []; omega) _).grown (grownBy_putObj' _ D (.deferred none)) (by simp only [World.size_setCell]; exact HTN.out.be.size) (fun k e => by cases e; omega)

set_option maxRecDepth 100000 in
set_option maxHeartbeats 2000000 in
theorem none_any (w : World) : Calls Try.prog 26 #[] w fun e w' => e = .returned (.bool true) ∧ Below w.heap.size w w' := by
  go_enter Try.func26, Try.ntmps26
  go_wp2_with fail
  have hb0 : Below w.heap.size w ((w.alloc (.cells #[.pointer none, .slice none 0 0] 65)).alloc (.cells #[.pointer none, .pointer (some ⟨w.heap.size, 0, none⟩)] 26)) := ((Below.refl _ w).alloc (Nat.le_refl _) _).alloc (by simp) _
  have hz0 : ((w.alloc (.cells #[.pointer none, .slice none 0 0] 65)).alloc (.cells #[.pointer none, .pointer (some ⟨w.heap.size, 0, none⟩)] 26)).heap[w.heap.size]? = some (.cells #[.pointer none, .slice none 0 0] 65 (0, 0)) := (Below.heap_alloc _ _ _ (by simp)).trans (heap_alloc_new w _)
  have hy0 : ((w.alloc (.cells #[.pointer none, .slice none 0 0] 65)).alloc (.cells #[.pointer none, .pointer (some ⟨w.heap.size, 0, none⟩)] 26)).heap[w.heap.size + 1]? = some (.cells #[.pointer none, .pointer (some ⟨w.heap.size, 0, none⟩)] 26 (0, 0)) := by
    have := heap_alloc_new (w.alloc (.cells #[.pointer none, .slice none 0 0] 65)) (.cells #[.pointer none, .pointer (some ⟨w.heap.size, 0, none⟩)] 26)
    rwa [World.size_alloc] at this
  have HB0 := Lib.hid hb0
  have HZ0 := Lib.hid hz0
  have HY0 := Lib.hid hy0
  clear hb0 hz0 hy0
  generalize (w.alloc (.cells #[.pointer none, .slice none 0 0] 65)).alloc (.cells #[.pointer none, .pointer (some ⟨w.heap.size, 0, none⟩)] 26) = W0 at *
  obtain ⟨Z, hZ⟩ : ∃ Z, w.heap.size = Z := ⟨_, rfl⟩
  have hne26 : ∀ (W : World), (binOp .neq 26 (.pointer none) (.pointer none)).run Try.prog W = .ok (.bool false) W := fun W => by
    have h := run_neq_pointer_nil (P := Try.prog) W 26 none (by kernel_rfl)
    simpa using h
  have N1 := fun W => ne40 W 0 0 0 0
  simp only [decide_true, Bool.not_true] at N1
  go_loopw [2] (fun i wr => ∃ q : Nat, q ≤ 2 ∧ i = .int .i64 q ∧ Below W0.heap.size W0 wr) (fun i _ => 2 - (intOf i).toNat)
  case atStart => exact ⟨0, by omega, rfl, Below.refl _ _⟩
  case round =>
    obtain ⟨q, hq, rfl, hb⟩ := hrel
    by_cases hlt : q < 2
    · have hy := (hb.block _ (Array.getElem?_eq_some_iff.1 HY0.out).1).trans HY0.out
      have hz := (hb.block _ (Array.getElem?_eq_some_iff.1 HZ0.out).1).trans HZ0.out
      have hp : ∃ p : Option Addr, NoH wr p ∧ wr.cell? ⟨w.heap.size + 1, q, none⟩ = some (.pointer p) := by
        rcases (by omega : q = 0 ∨ q = 1) with rfl | rfl
        · exact ⟨none, .inl rfl, cell_of_row _ _ 0 _ 26 (0, 0) hy⟩
        · exact ⟨some ⟨w.heap.size, 0, none⟩, .inr ⟨_, rfl, hz⟩, cell_of_row _ _ 1 _ 26 (0, 0) hy⟩
      obtain ⟨p, hno, hcp⟩ := hp
      have hyl := (Array.getElem?_eq_some_iff.1 hy).1
      have HB := Lib.hid hb
      have HNO := Lib.hid hno
      clear hy hz hno hb
      obtain ⟨Y, hY⟩ : ∃ Y, w.heap.size + 1 = Y := ⟨_, rfl⟩
      try rw [hY]
      rw [hY] at hcp hyl
      clear hY
      have hqI : (q : Int) < 2 := by omega
      go_wp2_with fail
      refine (first_no HNO.out).mono ?_
      rintro e w1 ⟨rfl, hb1⟩
      have hb2 : Below wr.heap.size wr (w1.alloc (.cells #[.int .i64 0, .int .i64 0] 40)) := hb1.alloc hb1.size _
      have hx2 := heap_alloc_new w1 (.cells #[.int .i64 0, .int .i64 0] 40)
      have hl2 : w1.heap.size < (w1.alloc (.cells #[.int .i64 0, .int .i64 0] 40)).heap.size := by simp
      have hc2 := (hb2.cell (p := ⟨Y, q, none⟩) hyl).trans hcp
      have HB2 := Lib.hid hb2
      have HX2 := Lib.hid hx2
      have HL2 := Lib.hid hl2
      clear hb1 hb2 hx2 hl2 hcp
      have hn2 := HNO.out.below HB2.out
      have HN2 := Lib.hid hn2
      clear hn2
      have hyl2 := Nat.lt_of_lt_of_le hyl HB2.out.size
      go_wp2_with fail
      refine (pop_no HN2.out).mono ?_
      rintro e w3 ⟨rfl, hb3⟩
      have hb4 : Below (w1.alloc (.cells #[.int .i64 0, .int .i64 0] 40)).heap.size (w1.alloc (.cells #[.int .i64 0, .int .i64 0] 40)) (w3.alloc (.cells #[.int .i64 0, .int .i64 0] 40)) := hb3.alloc hb3.size _
      have hx4 := heap_alloc_new w3 (.cells #[.int .i64 0, .int .i64 0] 40)
      have hx5 := (hb4.block _ HL2.out).trans HX2.out
      have hc4 := (hb4.cell (p := ⟨Y, q, none⟩) hyl2).trans hc2
      have hyl4 := Nat.lt_of_lt_of_le hyl2 hb4.size
      have hn4 := HN2.out.below hb4
      have hB4 : Below W0.heap.size W0 (w3.alloc (.cells #[.int .i64 0, .int .i64 0] 40)) := HB.out.trans ((HB2.out.trans (hb4.mono HB2.out.size)).mono HB.out.size)
      have p0 := cell_of_row _ _ 0 _ 40 (0, 0) hx5
      have p1 := cell_of_row _ _ 1 _ 40 (0, 0) hx5
      have p2 := cell_of_row _ _ 0 _ 40 (0, 0) hx4
      have p3 := cell_of_row _ _ 1 _ 40 (0, 0) hx4
      have HN4 := Lib.hid hn4
      have HB4 := Lib.hid hB4
      obtain ⟨W4, hW4⟩ : ∃ W4, w3.alloc (.cells #[.int .i64 0, .int .i64 0] 40) = W4 := ⟨_, rfl⟩
      obtain ⟨Y1, hY1⟩ : ∃ Y1, w1.heap.size = Y1 := ⟨_, rfl⟩
      obtain ⟨Y3, hY3⟩ : ∃ Y3, w3.heap.size = Y3 := ⟨_, rfl⟩
      rw [hW4] at HN4 HB4 p0 p1 p2 p3 hc4 hyl4
      rw [hY1] at p0 p1
      rw [hY3] at p2 p3
      have HW4 := Lib.hid hW4
      have HY1 := Lib.hid hY1
      have HY3 := Lib.hid hY3
      clear hb3 hb4 hx4 hx5 hn4 hB4 hc2 hyl hyl2 hW4 hY1 hY3
      go_upto_region 7 with (fail)
      rw [HW4.out]
      try rw [HY1.out]
      try rw [HY3.out]
      have hb5 : Below W4.heap.size W4 (W4.alloc (.cells #[.int .i64 1, .int .i64 0] 40)) := (Below.refl _ W4).alloc (Nat.le_refl _) _
      have hc5 := (hb5.cell (p := ⟨Y, q, none⟩) hyl4).trans hc4
      have HN5 := Lib.hid (HN4.out.below hb5)
      have HB5 := Lib.hid (HB4.out.trans (hb5.mono HB4.out.size))
      clear hb5
      go_wp2_with fail
      refine (push_no HN5.out _ _ _).mono ?_
      rintro e w5 ⟨rfl, rfl⟩
      go_wp2_with fail
      refine (len_no HN5.out).mono ?_
      rintro e w5 ⟨rfl, rfl⟩
      go_wp2_with fail
      refine (items_no HN5.out).mono ?_
      rintro e w5 ⟨rfl, rfl⟩
      have hyl5 : Y < (W4.alloc (.cells #[.int .i64 1, .int .i64 0] 40)).heap.size := by simp; omega
      go_wp2_with fail
      refine (taken_no HN5.out 9 9 (by omega)).mono ?_
      rintro e w6 ⟨rfl, hb6⟩
      have hc6 := (hb6.cell (p := ⟨Y, q, none⟩) hyl5).trans hc5
      have HN6 := Lib.hid (HN5.out.below hb6)
      have HB6 := Lib.hid (HB5.out.trans (hb6.mono HB5.out.size))
      clear hb6
      go_wp2_with fail
      refine (copy_no HN6.out).mono ?_
      rintro e w7 ⟨rfl, rfl⟩
      go_wp2_with fail
      subst hZ
      go_roundw
      case rel =>
        first | exact ⟨q + 1, by omega, by go_num, HB6.out⟩ | ((repeat apply Exists.intro); exact ⟨⟨q + 1, by omega, by go_num, HB6.out⟩, rfl⟩)
      case measure => simp [intOf] <;> omega
    · obtain rfl : q = 2 := by omega
      have HB := Lib.hid hb
      clear hb
      go_wp2_with fail
      go_ret
      exact ⟨rfl, HB0.out.trans (HB.out.mono HB0.out.size)⟩
end Go.Proofs.Ytabbgananngjlaa
