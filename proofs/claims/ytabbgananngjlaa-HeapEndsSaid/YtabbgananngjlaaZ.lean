/- Walks of the reference's Pop and UpTo. -/
import Derived.Test.YtabbgananngjlaaY
namespace Go.Proofs.Ytabbgananngjlaa
open Go.ChangeShapes Go.WideShapes Go.ChangeAt Go.RowKit
set_option linter.unusedVariables false

/-- what the reference's heap has become: its own block's cell, and new blocks, alone -/
def RTurn (w : World) (rb : Nat) (A : Option Addr) (S : List It) (w' : World) : Prop :=
  ∃ A' c', RB w' rb A' c' S ∧ Keep (fun k => k ≠ rb) w w' ∧ ∀ ad', A' = some ad' → (∃ ad, A = some ad ∧ ad'.block = ad.block) ∨ w.heap.size ≤ ad'.block

theorem add_at (ad : Addr) (k : Nat) (h : 0 < k) : ad.add k = ⟨ad.block, ad.off + k, none⟩ := by
  unfold Addr.add
  rw [if_neg (by omega)]

/-- a row from one of its places on -/
theorem PR.drop {w : World} {ad ad2 : Addr} {c c2 k n : Nat} {S : List It} (h : PR w (.slice (some ad) S.length c) S) (hk : k ≤ S.length) (hn : n = S.length - k) (h2 : k < S.length → ad2 = ad.add (k * 2)) : PR w (.slice (some ad2) n c2) (S.drop k) := by
  subst hn
  obtain ⟨A, c', e, h⟩ := h
  refine ⟨some ad2, c2, by rw [List.length_drop], fun h0 => ⟨ad2, rfl, ?_⟩⟩
  rw [List.length_drop] at h0
  have hk1 : k < S.length := by omega
  have hpos : 0 < S.length := by omega
  obtain ⟨ad', e', hb, hc⟩ := h hpos
  injection e with e1
  subst e1
  injection e' with e'
  subst e'
  have e2 := h2 hk1
  subst e2
  refine ⟨by rw [block_add]; exact hb, fun j hj => ?_⟩
  have hj2 : k + j < S.length := by
    rw [List.length_drop] at hj
    exact Nat.add_lt_of_lt_sub' hj
  obtain ⟨c1, c2⟩ := hc (k + j) hj2
  have e3 : k * 2 + j * 2 = (k + j) * 2 := (Nat.add_mul k j 2).symm
  have e4 : k * 2 + (j * 2 + 1) = (k + j) * 2 + 1 := by rw [← Nat.add_assoc, e3]
  rw [add_of_add, add_of_add, e3, e4, List.getElem_drop]
  exact ⟨c1, c2⟩
theorem PR.take {w : World} {A : Option Addr} {c c2 k : Nat} {S : List It} (h : PR w (.slice A S.length c) S) (hk : k ≤ S.length) : PR w (.slice A k c2) (S.take k) := by
  obtain ⟨A', c', e, h⟩ := h
  injection e with e1
  subst e1
  have hl : (S.take k).length = k := by rw [List.length_take]; omega
  refine ⟨A, c2, by rw [hl], fun h0 => ?_⟩
  obtain ⟨ad', e', hb, hc⟩ := h (by omega)
  refine ⟨ad', e', hb, fun j hj => ?_⟩
  rw [List.getElem_take]
  exact hc j (by omega)

/-- another row put into the reference's heap -/
theorem rb_put {W : World} {rb c c2 : Nat} {A A2 : Option Addr} {S S2 : List It} {n : Nat} (h : RB W rb A c S) (hp : PR W (.slice A2 n c2) S2) (hn : n = S2.length) (h1 : n ≤ c2) (h2 : c2 ≤ maxLen) (h3 : A2 = none → c2 = 0) (h4 : ∀ ad, A2 = some ad → ad.block < W.heap.size ∧ ad.block ≠ rb) :
    RB (W.setCell ⟨rb, 0, none⟩ (.slice A2 n c2)) rb A2 c2 S2 := by
  subst hn
  refine ⟨?_, ?_, h1, h2, h3, fun ad e => ⟨by rw [World.size_setCell]; exact (h4 ad e).1, (h4 ad e).2⟩⟩
  · simp [World.setCell, Array.getElem?_modify, h.blk]
  · refine hp.keep (p := fun k => k ≠ rb) (Keep.setCell (Keep.refl _ _) _ _ fun i _ hk => hk) fun _ g hg _ => ?_
    cases A2 with
    | none => cases hg
    | some ad => cases hg; exact (h4 ad rfl).2

/-- the reference's heap behind its first item: the row one item on -/
theorem rb_sub {w W : World} {rb c c2 m : Nat} {ad ad2 : Addr} {S : List It} {u v : Value} (h : RB W rb (some ad) c S) (hm : S.length = m + 1) (hb : Below w.heap.size w W) (h0 : RB w rb (some ad) c S) (hc : c2 = c - 1)
    (h2 : ad2.block = ad.block) (h3 : 0 < m → ad2 = ⟨ad.block, ad.off + 2, none⟩) :
    RTurn w rb (some ad) S.tail (((W.setCell ⟨rb, 0, none⟩ (.slice (some ad2) m c2)).setCell ⟨w.heap.size, 0, none⟩ u).setCell ⟨w.heap.size, 1, none⟩ v) := by
  subst hc
  have hlt := h0.ltb
  have hk : w.heap.size ≠ rb := by omega
  have hlen : S.tail.length = m := by rw [List.length_tail]; omega
  have hcap := h.cap
  have hbig := h.big
  have hbl := h.lt ad rfl
  have hpr : PR W (.slice (some ad2) m (c - 1)) S.tail := by
    rw [← List.drop_one]
    refine h.row.drop ?_ ?_ fun h1 => ?_
    · omega
    · omega
    · rw [add_at _ _ (by decide)]
      exact h3 (by omega)
  have h1 := rb_put h hpr hlen.symm (by omega) (by omega) (fun e => by cases e) (fun ad' e => by cases e; rw [h2]; exact hbl)
  have hk1 : Keep (fun i => i ≠ w.heap.size) (W.setCell ⟨rb, 0, none⟩ (.slice (some ad2) m (c - 1))) (((W.setCell ⟨rb, 0, none⟩ (.slice (some ad2) m (c - 1))).setCell ⟨w.heap.size, 0, none⟩ u).setCell ⟨w.heap.size, 1, none⟩ v) :=
    by refine Keep.setCell (Keep.setCell (Keep.refl _ _) _ _ ?_) _ _ ?_ <;> exact fun i _ hp => hp
  have hadl : ad2.block ≠ w.heap.size := by rw [h2]; have := (h0.lt ad rfl).1; omega
  refine ⟨some ad2, c - 1, h1.keep hk1 (by omega) (fun ad' e => by cases e; exact hadl), ?_, fun ad' e => by cases e; exact .inl ⟨ad, rfl, h2⟩⟩
  refine ((Keep.of_below hb).trans (q := fun i => i ≠ rb) (Keep.setCell (Keep.refl _ _) _ _ fun i _ hp => hp) fun i _ hp => hp).trans hk1 fun i hi _ => by omega

set_option maxRecDepth 100000 in
theorem rPop_any {w : World} {rb c : Nat} {A : Option Addr} {S : List It} (h : RB w rb A c S) (hl : S.length ≤ 1000000) : Calls Try.prog 17 #[.pointer (some ⟨rb, 0, none⟩)] w fun e w' =>
    e = .returned (.tuple #[.agg #[.int .i64 (g S 0).1, .int .i64 (g S 0).2], .bool (decide (0 < S.length))]) ∧ RTurn w rb A S.tail w' := by
  have H := Lib.hid h
  have hfst := rFirst_any (h.below ((Below.refl _ _).alloc (Nat.le_refl _) (.cells #[.int .i64 0, .int .i64 0] 43))) hl
  unfold FirstR at hfst
  obtain ⟨x, hx⟩ : ∃ x, g S 0 = x := ⟨_, rfl⟩
  rw [hx] at hfst ⊢
  clear hx
  by_cases h0 : S.length = 0
  · have e : S = [] := List.eq_nil_of_length_eq_zero h0
    subst e
    rw [decide_eq_false (by simp)] at hfst ⊢
    clear h h0
    go_enter Try.func17, Try.ntmps17
    go_wp2_with fail
    refine hfst.mono ?_
    rintro e w1 ⟨rfl, hb1⟩
    have hz : w.heap.size < w1.heap.size := by have := hb1.size; simp at this; omega
    have hblk : w1.heap[w.heap.size]? = some (.cells #[.int .i64 0, .int .i64 0] 43 (0, 0)) := (hb1.block _ (by simp)).trans (heap_alloc_new w _)
    have r0 := cell_of_row _ _ 0 _ 43 (0, 0) hblk
    have r1 := cell_of_row _ _ 1 _ 43 (0, 0) hblk
    have r2 : w1.frozen? ⟨w.heap.size, 0, none⟩ = false := by simp [World.frozen?, hblk]
    have r3 : w1.frozen? ⟨w.heap.size, 1, none⟩ = false := by simp [World.frozen?, hblk]
    have hB : Below w.heap.size w w1 := ((Below.refl _ w).alloc (Nat.le_refl _) _).trans (hb1.mono (by simp))
    have HB := Lib.hid hB
    clear hb1 hB hblk hfst
    go_wp2_with fail
    have hB2 : Below w.heap.size w (((w1.setCell ⟨w.heap.size, 0, none⟩ (.int .i64 x.1)).setCell ⟨w.heap.size, 1, none⟩ (.int .i64 x.2)).alloc (.cells #[.int .i64 x.1, .int .i64 x.2] 43)) :=
      ((HB.out.setCell (p := ⟨w.heap.size, 0, none⟩) (Nat.le_refl _) _).setCell (p := ⟨w.heap.size, 1, none⟩) (Nat.le_refl _) _).alloc (by simp only [World.size_setCell]; omega) _
    refine bodyPost_ret (v := .tuple #[.agg #[.int .i64 x.1, .int .i64 x.2], .bool false]) (by simp [results, Try.results17, go_sem, hz, r0, r1, r2, r3]) rfl ⟨rfl, ?_⟩
    exact ⟨A, c, H.out.below hB2, Keep.of_below hB2, fun ad e => .inl ⟨ad, e, rfl⟩⟩
  · obtain ⟨m, hm⟩ : ∃ m, S.length = m + 1 := ⟨S.length - 1, by omega⟩
    have hpos : 0 < S.length := by omega
    rw [decide_eq_true hpos] at hfst ⊢
    obtain ⟨ad, rfl, _, hb, _, _⟩ := PR.at2 h.row hpos
    have hcap := h.cap
    have hbig := h.big
    unfold maxLen at hbig
    have HM := Lib.hid hm
    have hlm : m ≤ 1000000 := by omega
    rw [hm] at hcap
    clear h h0 hpos hb hl hm
    have hcI : (1 : Int) ≤ (c : Int) := by omega
    go_enter Try.func17, Try.ntmps17
    go_wp2_with fail
    refine hfst.mono ?_
    rintro e w1 ⟨rfl, hb1⟩
    have hz : w.heap.size < w1.heap.size := by have := hb1.size; simp at this; omega
    have hblk : w1.heap[w.heap.size]? = some (.cells #[.int .i64 0, .int .i64 0] 43 (0, 0)) := (hb1.block _ (by simp)).trans (heap_alloc_new w _)
    have hB : Below w.heap.size w w1 := ((Below.refl _ w).alloc (Nat.le_refl _) _).trans (hb1.mono (by simp))
    have hB3 : Below w.heap.size w (w1.alloc (.cells #[.int .i64 x.1, .int .i64 x.2] 43)) := hB.alloc (by omega) _
    have hrb := H.out.below hB3
    have hx3 := heap_alloc_new w1 (.cells #[.int .i64 x.1, .int .i64 x.2] 43)
    have hr3 : (w1.alloc (.cells #[.int .i64 x.1, .int .i64 x.2] 43)).heap[w.heap.size]? = some (.cells #[.int .i64 0, .int .i64 0] 43 (0, 0)) := (Below.heap_alloc _ _ _ hz).trans hblk
    have hne : w1.heap.size ≠ rb := by have := H.out.ltb; omega
    have hne2 : w.heap.size ≠ rb := by have := H.out.ltb; omega
    have hne3 : w.heap.size ≠ w1.heap.size := by omega
    have HB3 := Lib.hid hB3
    have HRB := Lib.hid hrb
    have hsz3 : w1.heap.size < (w1.alloc (.cells #[.int .i64 x.1, .int .i64 x.2] 43)).heap.size := by simp
    clear hb1 hB hblk hfst hB3
    obtain ⟨X, hX⟩ : ∃ X, w1.heap.size = X := ⟨_, rfl⟩
    obtain ⟨R, hR⟩ : ∃ R, w.heap.size = R := ⟨_, rfl⟩
    obtain ⟨W, hW⟩ : ∃ W, w1.alloc (.cells #[.int .i64 x.1, .int .i64 x.2] 43) = W := ⟨_, rfl⟩
    rw [hW] at hx3 hr3 HB3 HRB hrb hsz3
    rw [hX] at hx3 hne hne3 hsz3 hz
    rw [hR] at hr3 hne2 hne3 hz
    have q0 := cell_of_row _ _ 0 _ 43 (0, 0) hx3
    have q1 := cell_of_row _ _ 1 _ 43 (0, 0) hx3
    have r0 := cell_of_row _ _ 0 _ 43 (0, 0) hr3
    have r1 := cell_of_row _ _ 1 _ 43 (0, 0) hr3
    have r2 : W.frozen? ⟨R, 0, none⟩ = false := by simp [World.frozen?, hr3]
    have r3 : W.frozen? ⟨R, 1, none⟩ = false := by simp [World.frozen?, hr3]
    obtain ⟨c0, f0⟩ := hrb.cells
    rw [HM.out] at c0
    have HX := Lib.hid hX
    have HR := Lib.hid hR
    have HW := Lib.hid hW
    have hRW : R < W.heap.size := by omega
    clear hx3 hr3 hrb hX hR hW
    go_upto_region 3 with (fail)
    rw [HW.out]
    try rw [HX.out]
    try rw [HR.out]
    go_wp2_with fail
    · have hc1 : c = 1 := by assumption
      refine bodyPost_ret (v := .tuple #[.agg #[.int .i64 x.1, .int .i64 x.2], .bool true]) (by simp [results, Try.results17, go_sem, hRW, r0, r1, r2, r3, hne2]) rfl ⟨rfl, ?_⟩
      rw [← HR.out]
      exact rb_sub HRB.out HM.out HB3.out H.out (by omega) rfl (fun h1 => by omega)
    · refine bodyPost_ret (v := .tuple #[.agg #[.int .i64 x.1, .int .i64 x.2], .bool true]) (by simp [results, Try.results17, go_sem, hRW, r0, r1, r2, r3, hne2]) rfl ⟨rfl, ?_⟩
      rw [← HR.out]
      exact rb_sub HRB.out HM.out HB3.out H.out rfl rfl (fun _ => rfl)
end Go.Proofs.Ytabbgananngjlaa
