/- Walks: the first kid of both of two rows, rows put behind others. -/
import Derived.Test.YtnohnkhhkeikoaaE
import Derived.Deep.Cut
import Derived.Deep.CutRange
import Derived.Deep.CutBlock
import Derived.BigQuiet
namespace Go.Proofs.Ytnohnkhhkeikoaa
open Go.ChangeShapes Go.WideShapes Go.ChangeAt Go.RowKit
set_option linter.unusedVariables false

/-- two rows of trees, as they stand side by side -/
structure Rw where
  va : Value
  vb : Value
  a : List T
  b : List T
def Rw.v (r : Rw) : Value := .agg #[r.va, r.vb]
def Rw.ok (B : Nat) (w : World) (r : Rw) : Prop := TR B w r.va r.a ∧ TR B w r.vb r.b
def Rw.full (r : Rw) : Prop := 0 < r.a.length ∧ 0 < r.b.length
def restV (c : Nat) (ad : Addr) (n : Nat) : Value := .slice (if c = 1 then some ad else some (ad.add 3)) n (c - 1)

theorem new2c (w : World) (a b : Value) (t : TypeId) : (w.alloc (.cells #[a, b] t)).cell? ⟨w.heap.size, 0, none⟩ = some a ∧ (w.alloc (.cells #[a, b] t)).cell? ⟨w.heap.size, 1, none⟩ = some b := by
  have h := World.alloc_heap_new w (.cells #[a, b] t)
  refine ⟨?_, ?_⟩ <;> (simp only [World.cell?]; rw [h]; rfl)

theorem fin8 {W0 : World} {N : Nat} {a0 a1 a2 b0 b1 b2 r0 r1 : Value} (c10 : W0.cell? ⟨N + 1, 0, none⟩ = some a0) (c11 : W0.cell? ⟨N + 1, 1, none⟩ = some a1) (c12 : W0.cell? ⟨N + 1, 2, none⟩ = some a2)
    (c20 : W0.cell? ⟨N + 1 + 1, 0, none⟩ = some b0) (c21 : W0.cell? ⟨N + 1 + 1, 1, none⟩ = some b1) (c22 : W0.cell? ⟨N + 1 + 1, 2, none⟩ = some b2) (c30 : W0.cell? ⟨N + 1 + 1 + 1, 0, none⟩ = some r0) (c31 : W0.cell? ⟨N + 1 + 1 + 1, 1, none⟩ = some r1) (x0 x1 x2 y0 y1 y2 z0 z1 : Value) :
    ∃ W, ((((((((W0.setCell ⟨N + 1, 0, none⟩ x0).setCell ⟨N + 1, 1, none⟩ x1).setCell ⟨N + 1, 2, none⟩ x2).setCell ⟨N + 1 + 1, 0, none⟩ y0).setCell ⟨N + 1 + 1, 1, none⟩ y1).setCell ⟨N + 1 + 1, 2, none⟩ y2).setCell ⟨N + 1 + 1 + 1, 0, none⟩ z0).setCell ⟨N + 1 + 1 + 1, 1, none⟩ z1).drew = W ∧
      W.cell? ⟨N + 1, 0, none⟩ = some x0 ∧ W.cell? ⟨N + 1, 1, none⟩ = some x1 ∧ W.cell? ⟨N + 1, 2, none⟩ = some x2 ∧ W.cell? ⟨N + 1 + 1, 0, none⟩ = some y0 ∧ W.cell? ⟨N + 1 + 1, 1, none⟩ = some y1 ∧ W.cell? ⟨N + 1 + 1, 2, none⟩ = some y2 ∧ W.cell? ⟨N + 1 + 1 + 1, 0, none⟩ = some z0 ∧ W.cell? ⟨N + 1 + 1 + 1, 1, none⟩ = some z1 ∧ Below N W0 W := by
  refine ⟨_, rfl, ?_⟩
  simp only [cell_drew_own]
  have hb : Below N W0 ((((((((W0.setCell ⟨N + 1, 0, none⟩ x0).setCell ⟨N + 1, 1, none⟩ x1).setCell ⟨N + 1, 2, none⟩ x2).setCell ⟨N + 1 + 1, 0, none⟩ y0).setCell ⟨N + 1 + 1, 1, none⟩ y1).setCell ⟨N + 1 + 1, 2, none⟩ y2).setCell ⟨N + 1 + 1 + 1, 0, none⟩ z0).setCell ⟨N + 1 + 1 + 1, 1, none⟩ z1).drew := by
    refine Below.drew ?_
    iterate 8 refine Below.setCell ?_ (by show _ ≤ _; simp; try omega) _
    exact Below.refl _ _
  refine ⟨?_, ?_, ?_, ?_, ?_, ?_, ?_, ?_, hb⟩
  all_goals simp [go_sem, World.cell?_setCell_other, c10, c11, c12, c20, c21, c22, c30, c31]

def FirstR (t u : T) (va' vb' : Value) (w : World) (e : Ending) (w' : World) : Prop := e = .returned (.tuple #[t.v, u.v, .agg #[va', vb']]) ∧ Below w.heap.size w w'

set_option maxHeartbeats 2000000 in
theorem first_any {B : Nat} {w : World} {va vb : Value} {t u : T} {ts us : List T} (ha : TR B w va (t :: ts)) (hb : TR B w vb (u :: us)) (hB : B ≤ w.heap.size) :
    ∃ va' vb', (∀ w', Below B w w' → TR B w' va' ts ∧ TR B w' vb' us) ∧ Calls Try.prog 54 #[.agg #[va, vb]] w (FirstR t u va' vb' w) := by
  obtain ⟨ad, c, rfl, hc, hab, a0, a1, a2, a3, a4⟩ := ha.first
  obtain ⟨bd, d, rfl, hd, hbb, b0, b1, b2, b3, b4⟩ := hb.first
  refine ⟨_, _, fun w' h => ⟨a4.bel h, b4.bel h⟩, ?_⟩
  obtain ⟨A1, c1, hk1, -⟩ := a3.form
  obtain ⟨B1, d1, hk2, -⟩ := b3.form
  unfold FirstR T.v
  rw [hk1, hk2]
  rw [hk1] at a2
  rw [hk2] at b2
  generalize t.kids.length = y1 at a2 ⊢
  generalize u.kids.length = y2 at b2 ⊢
  clear a3 a4 b3 b4 ha hb hk1 hk2
  obtain ⟨n1, hn1⟩ : ∃ n1, ts.length + 1 = n1 := ⟨_, rfl⟩
  obtain ⟨m1, hm1⟩ : ∃ m1, us.length + 1 = m1 := ⟨_, rfl⟩
  rw [hn1] at hc ⊢
  rw [hm1] at hd ⊢
  rw [show ts.length = n1 - 1 by omega, show us.length = m1 - 1 by omega]
  have i1 : (1 : Int) ≤ (n1 : Int) := by omega
  have i2 : (1 : Int) ≤ (m1 : Int) := by omega
  have i3 : (n1 : Int) ≤ (c : Int) := by omega
  have i4 : (m1 : Int) ≤ (d : Int) := by omega
  have i5 : (0 : Int) < (n1 : Int) := by omega
  have i6 : (0 : Int) < (m1 : Int) := by omega
  have i7 : 0 < n1 := by omega
  have i8 : 0 < m1 := by omega
  clear hn1 hm1 hc hd
  generalize hP1 : (if c = 1 then some ad else some (ad.add 3)) = P1
  generalize hP2 : (if d = 1 then some bd else some (bd.add 3)) = P2
  have HP1 := Lib.hid hP1
  have HP2 := Lib.hid hP2
  clear hP1 hP2
  obtain ⟨W0, hW0⟩ : ∃ W0, (((w.alloc (.cells #[.slice (some ad) n1 c, .slice (some bd) m1 d] 68)).alloc (.cells #[.int .i64 0, .string ⟨#[]⟩, .slice none 0 0] 25)).alloc (.cells #[.int .i64 0, .string ⟨#[]⟩, .slice none 0 0] 25)).alloc (.cells #[.slice none 0 0, .slice none 0 0] 68) = W0 := ⟨_, rfl⟩
  go_enter Try.func54, Try.ntmps54
  go_upto_region 1 with (fail)
  try rw [hW0]
  have hz : W0.heap.size = w.heap.size + 4 := by rw [← hW0]; simp
  have hb0 : Below w.heap.size w W0 := by rw [← hW0]; exact ((((Below.refl _ w).alloc (Nat.le_refl _) _).alloc (by simp) _).alloc (by simp; try omega) _).alloc (by simp; try omega) _
  have a0' := (hb0.cell (p := ad) (by omega)).trans a0
  have a1' := (hb0.cell (p := ⟨ad.block, ad.off + 1, none⟩) (by show ad.block < _; omega)).trans a1
  have a2' := (hb0.cell (p := ⟨ad.block, ad.off + 2, none⟩) (by show ad.block < _; omega)).trans a2
  have b0' := (hb0.cell (p := bd) (by omega)).trans b0
  have b1' := (hb0.cell (p := ⟨bd.block, bd.off + 1, none⟩) (by show bd.block < _; omega)).trans b1
  have b2' := (hb0.cell (p := ⟨bd.block, bd.off + 2, none⟩) (by show bd.block < _; omega)).trans b2
  have h0 : W0.heap[w.heap.size]? = some (.cells #[.slice (some ad) n1 c, .slice (some bd) m1 d] 68 (0, 0)) := by
    rw [← hW0, Below.heap_alloc _ _ _ (by simp; try omega), Below.heap_alloc _ _ _ (by simp; try omega), Below.heap_alloc _ _ _ (by simp)]; exact World.alloc_heap_new w _
  have h1 : W0.heap[w.heap.size + 1]? = some (.cells #[.int .i64 0, .string ⟨#[]⟩, .slice none 0 0] 25 (0, 0)) := by
    rw [← hW0, Below.heap_alloc _ _ _ (by simp), Below.heap_alloc _ _ _ (by simp)]
    have := World.alloc_heap_new (w.alloc (.cells #[.slice (some ad) n1 c, .slice (some bd) m1 d] 68)) (.cells #[.int .i64 0, .string ⟨#[]⟩, .slice none 0 0] 25)
    rwa [World.size_alloc] at this
  have h2 : W0.heap[w.heap.size + 1 + 1]? = some (.cells #[.int .i64 0, .string ⟨#[]⟩, .slice none 0 0] 25 (0, 0)) := by
    rw [← hW0, Below.heap_alloc _ _ _ (by simp)]
    have := World.alloc_heap_new ((w.alloc (.cells #[.slice (some ad) n1 c, .slice (some bd) m1 d] 68)).alloc (.cells #[.int .i64 0, .string ⟨#[]⟩, .slice none 0 0] 25)) (.cells #[.int .i64 0, .string ⟨#[]⟩, .slice none 0 0] 25)
    rwa [World.size_alloc, World.size_alloc] at this
  have h3 : W0.heap[w.heap.size + 1 + 1 + 1]? = some (.cells #[.slice none 0 0, .slice none 0 0] 68 (0, 0)) := by
    rw [← hW0]
    have := World.alloc_heap_new (((w.alloc (.cells #[.slice (some ad) n1 c, .slice (some bd) m1 d] 68)).alloc (.cells #[.int .i64 0, .string ⟨#[]⟩, .slice none 0 0] 25)).alloc (.cells #[.int .i64 0, .string ⟨#[]⟩, .slice none 0 0] 25)) (.cells #[.slice none 0 0, .slice none 0 0] 68)
    rwa [World.size_alloc, World.size_alloc, World.size_alloc] at this
  have c00 := cell_of_row _ _ 0 _ 68 (0, 0) h0
  have c01 := cell_of_row _ _ 1 _ 68 (0, 0) h0
  have c10 := cell_of_row _ _ 0 _ 25 (0, 0) h1
  have c11 := cell_of_row _ _ 1 _ 25 (0, 0) h1
  have c12 := cell_of_row _ _ 2 _ 25 (0, 0) h1
  have c20 := cell_of_row _ _ 0 _ 25 (0, 0) h2
  have c21 := cell_of_row _ _ 1 _ 25 (0, 0) h2
  have c22 := cell_of_row _ _ 2 _ 25 (0, 0) h2
  have c30 := cell_of_row _ _ 0 _ 68 (0, 0) h3
  have c31 := cell_of_row _ _ 1 _ 68 (0, 0) h3
  simp only [List.getElem?_toArray, List.getElem?_cons_zero, List.getElem?_cons_succ] at c00 c01 c10 c11 c12 c20 c21 c22 c30 c31
  have f1 : ∀ j, W0.frozen? ⟨w.heap.size + 1, j, none⟩ = false := fun j => by simp [World.frozen?, h1]
  have f2 : ∀ j, W0.frozen? ⟨w.heap.size + 1 + 1, j, none⟩ = false := fun j => by simp [World.frozen?, h2]
  have f3 : ∀ j, W0.frozen? ⟨w.heap.size + 1 + 1 + 1, j, none⟩ = false := fun j => by simp [World.frozen?, h3]
  have hab' : ad.block < w.heap.size := by omega
  have hbb' : bd.block < w.heap.size := by omega
  have HB0 := Lib.hid (And.intro hb0 hz)
  have S0 := Lib.hid (show W0.drew.cell? ⟨w.heap.size, 0, none⟩ = some (.slice (some ad) n1 c) ∧ W0.drew.cell? ⟨w.heap.size, 1, none⟩ = some (.slice (some bd) m1 d) ∧ W0.drew.cell? ad = some (.int .i64 t.kind) ∧ W0.drew.cell? ⟨ad.block, ad.off + 1, none⟩ = some (.string t.lab) ∧ W0.drew.cell? ⟨ad.block, ad.off + 2, none⟩ = some (.slice A1 y1 c1) ∧ W0.drew.cell? bd = some (.int .i64 u.kind) ∧ W0.drew.cell? ⟨bd.block, bd.off + 1, none⟩ = some (.string u.lab) ∧ W0.drew.cell? ⟨bd.block, bd.off + 2, none⟩ = some (.slice B1 y2 d1) from ⟨c00, c01, a0', a1', a2', b0', b1', b2'⟩)
  clear a0 a1 a2 b0 b1 b2 h0 h1 h2 h3 hb0 hz hW0 S0
  have g1 : w.heap.size + 1 ≠ ad.block := by omega
  have g2 : w.heap.size + 1 + 1 ≠ ad.block := by omega
  have g3 : w.heap.size + 1 + 1 + 1 ≠ ad.block := by omega
  have g4 : w.heap.size + 1 ≠ bd.block := by omega
  have g5 : w.heap.size + 1 + 1 ≠ bd.block := by omega
  have g6 : w.heap.size + 1 + 1 + 1 ≠ bd.block := by omega
  obtain ⟨ab, ao, asp⟩ := ad
  obtain ⟨bb, bo, bsp⟩ := bd
  simp only at *
  generalize hNN : w.heap.size = N at *
  have HNN := Lib.hid hNN
  clear hNN
  go_region
  have e1 : (if c = 1 then some (⟨ab, ao, asp⟩ : Addr) else some ⟨ab, ao + 3, none⟩) = P1 := by rw [← HP1.out]; simp [Addr.add]
  have e2 : (if d = 1 then some (⟨bb, bo, bsp⟩ : Addr) else some ⟨bb, bo + 3, none⟩) = P2 := by rw [← HP2.out]; simp [Addr.add]
  rw [e1, e2]
  have hN := HNN.out
  obtain ⟨WF, hWF, x0, x1, x2, y0', y1', y2', z0, z1, hbF⟩ := fin8 c10 c11 c12 c20 c21 c22 c30 c31 (.int .i64 t.kind) (.string t.lab) (.slice A1 y1 c1) (.int .i64 u.kind) (.string u.lab) (.slice B1 y2 d1) (.slice P1 (n1 - 1) (c - 1)) (.slice P2 (m1 - 1) (d - 1))
  rw [hWF]
  have HF := Lib.hid (show Below w.heap.size w WF by have := HB0.out.1; rw [hN]; exact this.trans hbF)
  clear hWF hbF c10 c11 c12 c20 c21 c22 c30 c31 f1 f2 f3 a0' a1' a2' b0' b1' b2' c00 c01 e1 e2 hN g1 g2 g3 g4 g5 g6 HB0
  go_wp2_with fail
  exact bodyPost_ret (v := .tuple #[.agg #[.int .i64 t.kind, .string t.lab, .slice A1 y1 c1], .agg #[.int .i64 u.kind, .string u.lab, .slice B1 y2 d1], .agg #[.slice P1 (n1 - 1) (c - 1), .slice P2 (m1 - 1) (d - 1)]]) (by simp [results, Try.results54, go_sem, x0, x1, x2, y0', y1', y2', z0, z1]) rfl ⟨rfl, HF.out⟩
end Go.Proofs.Ytnohnkhhkeikoaa
