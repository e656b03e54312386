/- Walk of two items that change their places. -/
import Derived.Test.YtfcdgfjpmcapkaaGreatHC
namespace Go.Proofs.YtfcdgfjpmcapkaaGreat
open Go.ChangeShapes Go.WideShapes Go.ChangeAt Go.RowKit
set_option linter.unusedVariables false

theorem flat_set : ∀ (L : List It) (k : Nat) (y : It), flat (L.set k y) = ((flat L).set (k * 2) (.int .i64 y.1)).set (k * 2 + 1) (.int .i64 y.2)
  | [], k, y => by simp [flat]
  | x :: l, 0, y => by simp [flat, enc]
  | x :: l, k + 1, y => by
    have h := flat_set l k y
    rw [List.set_cons_succ, show flat (x :: l) = .int .i64 x.1 :: .int .i64 x.2 :: flat l by simp [flat, enc], show (k + 1) * 2 + 1 = k * 2 + 1 + 1 + 1 by omega, show (k + 1) * 2 = k * 2 + 1 + 1 by omega]
    simp only [List.set_cons_succ]
    rw [← h]
    simp [flat, enc]

theorem own_set {w : World} {base gg n c : Nat} {t : TypeId} {L : List It} (h : w.ownsRow base t 2 (.slice (some ⟨gg, 0, none⟩) n c) n (flat L)) {k : Nat} (hk : k < L.length) (y : It) :
    ((w.setCell ⟨gg, k * 2, none⟩ (.int .i64 y.1)).setCell ⟨gg, k * 2 + 1, none⟩ (.int .i64 y.2)).ownsRow base t 2 (.slice (some ⟨gg, 0, none⟩) n c) n (flat (L.set k y)) := by
  have hn := h.1
  rw [flat_len] at hn
  refine ⟨by rw [flat_len, List.length_set]; exact hn, ?_⟩
  rcases h.2 with ⟨h', _⟩ | ⟨g', cap, cur, h', hb, hg, h1, h2, h3, htake⟩
  · cases h'
  · injection h' with e1 e2 e3
    injection e1 with e1
    injection e1 with e1
    subst e1 e3
    refine .inr ⟨gg, c, (cur.setIfInBounds (k * 2) (.int .i64 y.1)).setIfInBounds (k * 2 + 1) (.int .i64 y.2), rfl, hb, ?_, h1, h2, by simp [h3], ?_⟩
    · simp [World.setCell, Array.getElem?_modify, hg]
    · rw [flat_set, ← htake]
      simp only [Array.toList_setIfInBounds]
      rw [List.take_set, List.take_set]

def SwapR (b : Nat) (sv : Value) (L : List It) (w : World) (e : Ending) (w' : World) : Prop := e = .returned (.tuple #[]) ∧ Hb w' b sv L ∧ Keep (Off b sv) w w'

theorem Keep.cells2 {p : Nat → Prop} {w w' : World} (h : Keep p w w') (a a' : Addr) (u u' : Value) (h1 : ∀ k, k < w.heap.size → p k → k ≠ a.block) (h2 : a'.block = a.block) : Keep p w ((w'.setCell a u).setCell a' u') :=
  (h.setCell a u h1).setCell a' u' (by rw [h2]; exact h1)

set_option maxRecDepth 100000 in
set_option maxHeartbeats 1000000 in
theorem swap_any {w : World} {b : Nat} {sv : Value} {L : List It} (h : Hb w b sv L) (i j : Nat) (hi : i < L.length) (hj : j < L.length) (hij : i ≠ j) (hL : L.length ≤ 1000000) :
    Calls Tryz.prog 68 #[.pointer (some ⟨b, 0, none⟩), .int .i64 (i : Int), .int .i64 (j : Int)] w (SwapR b sv (sw L i j) w) := by
  obtain ⟨A, c, rfl, hf, hnc, _⟩ := row_form h.row
  obtain ⟨gg, rfl, _, hgl⟩ := hf (by omega)
  obtain ⟨c0, c1, c2⟩ := h.cells
  have H := Lib.hid h
  have hbr : gg ≠ b := fun e => h.br (by rw [e]; rfl)
  have HBR := Lib.hid hbr
  obtain ⟨k1, k2⟩ := row_at h.row hi
  obtain ⟨k3, k4⟩ := row_at h.row hj
  have hfz : ∀ k, w.frozen? ⟨gg, k, none⟩ = false := by
    obtain ⟨_, cap, cur, e, _, hg, _⟩ := h.row.2.resolve_left (by simp)
    injection e with e1
    injection e1 with e1
    injection e1 with e1
    subst e1
    intro k
    simp [World.frozen?, hg]
  have f1 := hfz (i * 2)
  have f2 := hfz (i * 2 + 1)
  have f3 := hfz (j * 2)
  have f4 := hfz (j * 2 + 1)
  have hn : L.length < 281474976710656 := by omega
  obtain ⟨x, hx⟩ : ∃ x, g L i = x := ⟨_, rfl⟩
  obtain ⟨y, hy⟩ : ∃ y, g L j = y := ⟨_, rfl⟩
  rw [hx] at k1 k2
  rw [hy] at k3 k4
  have HX := Lib.hid hx
  have HY := Lib.hid hy
  clear h hf hx hy hfz hbr
  go_enter Tryz.func68, Tryz.ntmps68
  go_wp2_with fail
  go_region
  refine bodyPost_ret (results_none rfl _ _ _) rfl ?_
  refine ⟨rfl, ⟨?_, ?_⟩, ?_⟩
  · have e1 : b ≠ gg := fun e => HBR.out e.symm
    rw [show ∀ W : World, W.drew.heap = W.heap from fun _ => rfl, Below.heap_setCell _ _ _ _ e1, Below.heap_setCell _ _ _ _ e1, Below.heap_setCell _ _ _ _ e1, Below.heap_setCell _ _ _ _ e1]
    exact H.out.blk
  · have r1 := own_set H.out.row hi y
    have r2 := own_set r1 (k := j) (by simpa using hj) x
    unfold sw
    rw [HX.out, HY.out]
    simp only [List.length_set] at r2 ⊢
    exact r2
  · have hk : ∀ k, k < w.heap.size → Off b (.slice (some ⟨gg, 0, none⟩) L.length c) k → k ≠ gg := fun k _ hp e => hp.2 (by rw [e]; rfl)
    refine Keep.drew ?_
    refine Keep.setCell (Keep.setCell (Keep.setCell (Keep.setCell (Keep.refl _ _) _ _ ?_) _ _ ?_) _ _ ?_) _ _ ?_
    all_goals exact hk
end Go.Proofs.YtfcdgfjpmcapkaaGreat
