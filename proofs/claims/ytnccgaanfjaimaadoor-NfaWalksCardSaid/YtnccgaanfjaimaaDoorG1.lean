/- Texts F, G, H, I, one behind the other. -/
import Derived.Test.YtnccgaanfjaimaaDoorG0
import Derived.Deep.Cut
import Derived.Deep.CutRange
import Derived.Deep.CutBlock
import Derived.BigQuiet
import Derived.Deep.LoopGhost
set_option linter.unusedSimpArgs false
set_option linter.unusedVariables false
namespace Go.Proofs.YtnccgaanfjaimaaDoor
open Go.ChangeShapes Go.WideShapes Go.ChangeAt Go.RowKit
set_option linter.unusedVariables false
set_option linter.unusedSimpArgs false

/-- two rows of trees, as they stand side by side -/
structure Rw where
  va : Value
  vb : Value
  a : List T
  b : List T
def Rw.v (r : Rw) : Value := .agg #[r.va, r.vb]
def Rw.ok (B : Nat) (w : World) (r : Rw) : Prop := TR B w r.va r.a ∧ TR B w r.vb r.b
def Rw.full (r : Rw) : Prop := 0 < r.a.length ∧ 0 < r.b.length
def restV (c : Nat) (ad : Addr) (n : Nat) : Value := .slice (if c = 1 then some ad else some (ad.add 3)) n (c - 1)

theorem new2c (w : World) (a b : Value) (t : TypeId) : (w.alloc (.cells #[a, b] t)).cell? ⟨w.heap.size, 0, none⟩ = some a ∧ (w.alloc (.cells #[a, b] t)).cell? ⟨w.heap.size, 1, none⟩ = some b := by
  have h := World.alloc_heap_new w (.cells #[a, b] t)
  refine ⟨?_, ?_⟩ <;> (simp only [World.cell?]; rw [h]; rfl)

theorem fin8 {W0 : World} {N : Nat} {a0 a1 a2 b0 b1 b2 r0 r1 : Value} (c10 : W0.cell? ⟨N + 1, 0, none⟩ = some a0) (c11 : W0.cell? ⟨N + 1, 1, none⟩ = some a1) (c12 : W0.cell? ⟨N + 1, 2, none⟩ = some a2)
    (c20 : W0.cell? ⟨N + 1 + 1, 0, none⟩ = some b0) (c21 : W0.cell? ⟨N + 1 + 1, 1, none⟩ = some b1) (c22 : W0.cell? ⟨N + 1 + 1, 2, none⟩ = some b2) (c30 : W0.cell? ⟨N + 1 + 1 + 1, 0, none⟩ = some r0) (c31 : W0.cell? ⟨N + 1 + 1 + 1, 1, none⟩ = some r1) (x0 x1 x2 y0 y1 y2 z0 z1 : Value) :
    ∃ W, ((((((((W0.setCell ⟨N + 1, 0, none⟩ x0).setCell ⟨N + 1, 1, none⟩ x1).setCell ⟨N + 1, 2, none⟩ x2).setCell ⟨N + 1 + 1, 0, none⟩ y0).setCell ⟨N + 1 + 1, 1, none⟩ y1).setCell ⟨N + 1 + 1, 2, none⟩ y2).setCell ⟨N + 1 + 1 + 1, 0, none⟩ z0).setCell ⟨N + 1 + 1 + 1, 1, none⟩ z1).drew = W ∧
      W.cell? ⟨N + 1, 0, none⟩ = some x0 ∧ W.cell? ⟨N + 1, 1, none⟩ = some x1 ∧ W.cell? ⟨N + 1, 2, none⟩ = some x2 ∧ W.cell? ⟨N + 1 + 1, 0, none⟩ = some y0 ∧ W.cell? ⟨N + 1 + 1, 1, none⟩ = some y1 ∧ W.cell? ⟨N + 1 + 1, 2, none⟩ = some y2 ∧ W.cell? ⟨N + 1 + 1 + 1, 0, none⟩ = some z0 ∧ W.cell? ⟨N + 1 + 1 + 1, 1, none⟩ = some z1 ∧ Below N W0 W := by
  refine ⟨_, rfl, ?_⟩
  simp only [cell_drew_own]
  have hb : Below N W0 ((((((((W0.setCell ⟨N + 1, 0, none⟩ x0).setCell ⟨N + 1, 1, none⟩ x1).setCell ⟨N + 1, 2, none⟩ x2).setCell ⟨N + 1 + 1, 0, none⟩ y0).setCell ⟨N + 1 + 1, 1, none⟩ y1).setCell ⟨N + 1 + 1, 2, none⟩ y2).setCell ⟨N + 1 + 1 + 1, 0, none⟩ z0).setCell ⟨N + 1 + 1 + 1, 1, none⟩ z1).drew := by
    refine Below.drew ?_
    iterate 8 refine Below.setCell ?_ (by show _ ≤ _; simp; try omega) _
    exact Below.refl _ _
  refine ⟨?_, ?_, ?_, ?_, ?_, ?_, ?_, ?_, hb⟩
  all_goals simp [go_sem, World.cell?_setCell_other, c10, c11, c12, c20, c21, c22, c30, c31]

def FirstR (t u : T) (va' vb' : Value) (w : World) (e : Ending) (w' : World) : Prop := e = .returned (.tuple #[t.v, u.v, .agg #[va', vb']]) ∧ Below w.heap.size w w'

set_option maxHeartbeats 2000000 in
theorem first_any {B : Nat} {w : World} {va vb : Value} {t u : T} {ts us : List T} (ha : TR B w va (t :: ts)) (hb : TR B w vb (u :: us)) (hB : B ≤ w.heap.size) :
    ∃ va' vb', (∀ w', Below B w w' → TR B w' va' ts ∧ TR B w' vb' us) ∧ Calls Tryd.prog 93 #[.agg #[va, vb]] w (FirstR t u va' vb' w) := by
  obtain ⟨ad, c, rfl, hc, hab, a0, a1, a2, a3, a4⟩ := ha.first
  obtain ⟨bd, d, rfl, hd, hbb, b0, b1, b2, b3, b4⟩ := hb.first
  refine ⟨_, _, fun w' h => ⟨a4.bel h, b4.bel h⟩, ?_⟩
  obtain ⟨A1, c1, hk1, -⟩ := a3.form
  obtain ⟨B1, d1, hk2, -⟩ := b3.form
  unfold FirstR T.v
  rw [hk1, hk2]
  rw [hk1] at a2
  rw [hk2] at b2
  generalize t.kids.length = y1 at a2 ⊢
  generalize u.kids.length = y2 at b2 ⊢
  clear a3 a4 b3 b4 ha hb hk1 hk2
  obtain ⟨n1, hn1⟩ : ∃ n1, ts.length + 1 = n1 := ⟨_, rfl⟩
  obtain ⟨m1, hm1⟩ : ∃ m1, us.length + 1 = m1 := ⟨_, rfl⟩
  rw [hn1] at hc ⊢
  rw [hm1] at hd ⊢
  rw [show ts.length = n1 - 1 by omega, show us.length = m1 - 1 by omega]
  have i1 : (1 : Int) ≤ (n1 : Int) := by omega
  have i2 : (1 : Int) ≤ (m1 : Int) := by omega
  have i3 : (n1 : Int) ≤ (c : Int) := by omega
  have i4 : (m1 : Int) ≤ (d : Int) := by omega
  have i5 : (0 : Int) < (n1 : Int) := by omega
  have i6 : (0 : Int) < (m1 : Int) := by omega
  have i7 : 0 < n1 := by omega
  have i8 : 0 < m1 := by omega
  clear hn1 hm1 hc hd
  generalize hP1 : (if c = 1 then some ad else some (ad.add 3)) = P1
  generalize hP2 : (if d = 1 then some bd else some (bd.add 3)) = P2
  have HP1 := Lib.hid hP1
  have HP2 := Lib.hid hP2
  clear hP1 hP2
  obtain ⟨W0, hW0⟩ : ∃ W0, (((w.alloc (.cells #[.slice (some ad) n1 c, .slice (some bd) m1 d] 122)).alloc (.cells #[.int .i64 0, .string ⟨#[]⟩, .slice none 0 0] 25)).alloc (.cells #[.int .i64 0, .string ⟨#[]⟩, .slice none 0 0] 25)).alloc (.cells #[.slice none 0 0, .slice none 0 0] 122) = W0 := ⟨_, rfl⟩
  go_enter Tryd.func93, Tryd.ntmps93
  go_upto_region 1 with (fail)
  try rw [hW0]
  have hz : W0.heap.size = w.heap.size + 4 := by rw [← hW0]; simp
  have hb0 : Below w.heap.size w W0 := by rw [← hW0]; exact ((((Below.refl _ w).alloc (Nat.le_refl _) _).alloc (by simp) _).alloc (by simp; try omega) _).alloc (by simp; try omega) _
  have a0' := (hb0.cell (p := ad) (by omega)).trans a0
  have a1' := (hb0.cell (p := ⟨ad.block, ad.off + 1, none⟩) (by show ad.block < _; omega)).trans a1
  have a2' := (hb0.cell (p := ⟨ad.block, ad.off + 2, none⟩) (by show ad.block < _; omega)).trans a2
  have b0' := (hb0.cell (p := bd) (by omega)).trans b0
  have b1' := (hb0.cell (p := ⟨bd.block, bd.off + 1, none⟩) (by show bd.block < _; omega)).trans b1
  have b2' := (hb0.cell (p := ⟨bd.block, bd.off + 2, none⟩) (by show bd.block < _; omega)).trans b2
  have h0 : W0.heap[w.heap.size]? = some (.cells #[.slice (some ad) n1 c, .slice (some bd) m1 d] 122 (0, 0)) := by
    rw [← hW0, Below.heap_alloc _ _ _ (by simp; try omega), Below.heap_alloc _ _ _ (by simp; try omega), Below.heap_alloc _ _ _ (by simp)]; exact World.alloc_heap_new w _
  have h1 : W0.heap[w.heap.size + 1]? = some (.cells #[.int .i64 0, .string ⟨#[]⟩, .slice none 0 0] 25 (0, 0)) := by
    rw [← hW0, Below.heap_alloc _ _ _ (by simp), Below.heap_alloc _ _ _ (by simp)]
    have := World.alloc_heap_new (w.alloc (.cells #[.slice (some ad) n1 c, .slice (some bd) m1 d] 122)) (.cells #[.int .i64 0, .string ⟨#[]⟩, .slice none 0 0] 25)
    rwa [World.size_alloc] at this
  have h2 : W0.heap[w.heap.size + 1 + 1]? = some (.cells #[.int .i64 0, .string ⟨#[]⟩, .slice none 0 0] 25 (0, 0)) := by
    rw [← hW0, Below.heap_alloc _ _ _ (by simp)]
    have := World.alloc_heap_new ((w.alloc (.cells #[.slice (some ad) n1 c, .slice (some bd) m1 d] 122)).alloc (.cells #[.int .i64 0, .string ⟨#[]⟩, .slice none 0 0] 25)) (.cells #[.int .i64 0, .string ⟨#[]⟩, .slice none 0 0] 25)
    rwa [World.size_alloc, World.size_alloc] at this
  have h3 : W0.heap[w.heap.size + 1 + 1 + 1]? = some (.cells #[.slice none 0 0, .slice none 0 0] 122 (0, 0)) := by
    rw [← hW0]
    have := World.alloc_heap_new (((w.alloc (.cells #[.slice (some ad) n1 c, .slice (some bd) m1 d] 122)).alloc (.cells #[.int .i64 0, .string ⟨#[]⟩, .slice none 0 0] 25)).alloc (.cells #[.int .i64 0, .string ⟨#[]⟩, .slice none 0 0] 25)) (.cells #[.slice none 0 0, .slice none 0 0] 122)
    rwa [World.size_alloc, World.size_alloc, World.size_alloc] at this
  have c00 := cell_of_row _ _ 0 _ 122 (0, 0) h0
  have c01 := cell_of_row _ _ 1 _ 122 (0, 0) h0
  have c10 := cell_of_row _ _ 0 _ 25 (0, 0) h1
  have c11 := cell_of_row _ _ 1 _ 25 (0, 0) h1
  have c12 := cell_of_row _ _ 2 _ 25 (0, 0) h1
  have c20 := cell_of_row _ _ 0 _ 25 (0, 0) h2
  have c21 := cell_of_row _ _ 1 _ 25 (0, 0) h2
  have c22 := cell_of_row _ _ 2 _ 25 (0, 0) h2
  have c30 := cell_of_row _ _ 0 _ 122 (0, 0) h3
  have c31 := cell_of_row _ _ 1 _ 122 (0, 0) h3
  simp only [List.getElem?_toArray, List.getElem?_cons_zero, List.getElem?_cons_succ] at c00 c01 c10 c11 c12 c20 c21 c22 c30 c31
  have f1 : ∀ j, W0.frozen? ⟨w.heap.size + 1, j, none⟩ = false := fun j => by simp [World.frozen?, h1]
  have f2 : ∀ j, W0.frozen? ⟨w.heap.size + 1 + 1, j, none⟩ = false := fun j => by simp [World.frozen?, h2]
  have f3 : ∀ j, W0.frozen? ⟨w.heap.size + 1 + 1 + 1, j, none⟩ = false := fun j => by simp [World.frozen?, h3]
  have hab' : ad.block < w.heap.size := by omega
  have hbb' : bd.block < w.heap.size := by omega
  have HB0 := Lib.hid (And.intro hb0 hz)
  have S0 := Lib.hid (show W0.drew.cell? ⟨w.heap.size, 0, none⟩ = some (.slice (some ad) n1 c) ∧ W0.drew.cell? ⟨w.heap.size, 1, none⟩ = some (.slice (some bd) m1 d) ∧ W0.drew.cell? ad = some (.int .i64 t.kind) ∧ W0.drew.cell? ⟨ad.block, ad.off + 1, none⟩ = some (.string t.lab) ∧ W0.drew.cell? ⟨ad.block, ad.off + 2, none⟩ = some (.slice A1 y1 c1) ∧ W0.drew.cell? bd = some (.int .i64 u.kind) ∧ W0.drew.cell? ⟨bd.block, bd.off + 1, none⟩ = some (.string u.lab) ∧ W0.drew.cell? ⟨bd.block, bd.off + 2, none⟩ = some (.slice B1 y2 d1) from ⟨c00, c01, a0', a1', a2', b0', b1', b2'⟩)
  clear a0 a1 a2 b0 b1 b2 h0 h1 h2 h3 hb0 hz hW0 S0
  have g1 : w.heap.size + 1 ≠ ad.block := by omega
  have g2 : w.heap.size + 1 + 1 ≠ ad.block := by omega
  have g3 : w.heap.size + 1 + 1 + 1 ≠ ad.block := by omega
  have g4 : w.heap.size + 1 ≠ bd.block := by omega
  have g5 : w.heap.size + 1 + 1 ≠ bd.block := by omega
  have g6 : w.heap.size + 1 + 1 + 1 ≠ bd.block := by omega
  obtain ⟨ab, ao, asp⟩ := ad
  obtain ⟨bb, bo, bsp⟩ := bd
  simp only at *
  generalize hNN : w.heap.size = N at *
  have HNN := Lib.hid hNN
  clear hNN
  go_region
  have e1 : (if c = 1 then some (⟨ab, ao, asp⟩ : Addr) else some ⟨ab, ao + 3, none⟩) = P1 := by rw [← HP1.out]; simp [Addr.add]
  have e2 : (if d = 1 then some (⟨bb, bo, bsp⟩ : Addr) else some ⟨bb, bo + 3, none⟩) = P2 := by rw [← HP2.out]; simp [Addr.add]
  rw [e1, e2]
  have hN := HNN.out
  obtain ⟨WF, hWF, x0, x1, x2, y0', y1', y2', z0, z1, hbF⟩ := fin8 c10 c11 c12 c20 c21 c22 c30 c31 (.int .i64 t.kind) (.string t.lab) (.slice A1 y1 c1) (.int .i64 u.kind) (.string u.lab) (.slice B1 y2 d1) (.slice P1 (n1 - 1) (c - 1)) (.slice P2 (m1 - 1) (d - 1))
  rw [hWF]
  have HF := Lib.hid (show Below w.heap.size w WF by have := HB0.out.1; rw [hN]; exact this.trans hbF)
  clear hWF hbF c10 c11 c12 c20 c21 c22 c30 c31 f1 f2 f3 a0' a1' a2' b0' b1' b2' c00 c01 e1 e2 hN g1 g2 g3 g4 g5 g6 HB0
  go_wp2_with fail
  exact bodyPost_ret (v := .tuple #[.agg #[.int .i64 t.kind, .string t.lab, .slice A1 y1 c1], .agg #[.int .i64 u.kind, .string u.lab, .slice B1 y2 d1], .agg #[.slice P1 (n1 - 1) (c - 1), .slice P2 (m1 - 1) (d - 1)]]) (by simp [results, Tryd.results93, go_sem, x0, x1, x2, y0', y1', y2', z0, z1]) rfl ⟨rfl, HF.out⟩
end Go.Proofs.YtnccgaanfjaimaaDoor

namespace Go.Proofs.YtnccgaanfjaimaaDoor
open Go.ChangeShapes Go.WideShapes Go.ChangeAt Go.RowKit
set_option linter.unusedVariables false
set_option linter.unusedSimpArgs false

theorem info_parts {P : Program} {t : TypeId} {z : Option Value} {s b : Nat} (h : (P.info? t).map (fun i => (i.zero, i.size, i.bytes)) = some (z, s, b)) : ∃ i, P.info? t = some i ∧ i.zero = z ∧ i.size = s ∧ i.bytes = b := by
  cases hi : P.info? t with
  | none => rw [hi] at h; cases h
  | some i => rw [hi] at h; simp at h; exact ⟨i, rfl, h.1, h.2.1, h.2.2⟩
theorem parts68 : (Tryd.prog.info? 122).map (fun i => (i.zero, i.size, i.bytes)) = some (some (.agg #[.slice none 0 0, .slice none 0 0]), 2, 48) := by kernel_rfl

theorem row_form {w : World} {base e size n : Nat} {v : Value} {xs : List Value} (h : w.ownsRow base e size v n xs) : ∃ A c, v = .slice A n c := by
  rcases h.2 with ⟨rfl, rfl⟩ | ⟨g, cap, cur, rfl, _⟩
  · exact ⟨none, 0, rfl⟩
  · exact ⟨_, cap, rfl⟩

def flatR (st : List Rw) : List Value := st.flatMap fun r => [r.va, r.vb]
theorem flatR_len (l : List Rw) : (flatR l).length = l.length * 2 := by simp [flatR, List.length_flatMap, Function.comp_def, List.map_const']
theorem flatR_app (l m : List Rw) : flatR (l ++ m) = flatR l ++ flatR m := by simp [flatR]
def Rw.formed (r : Rw) : Prop := ∃ A c B d, r.va = .slice A r.a.length c ∧ r.vb = .slice B r.b.length d
theorem Rw.ok.formed {B : Nat} {w : World} {r : Rw} (h : r.ok B w) : r.formed := by
  obtain ⟨A, c, h1, _⟩ := h.1.form
  obtain ⟨A', c', h2, _⟩ := h.2.form
  exact ⟨A, c, A', c', h1, h2⟩
instance (r : Rw) : Decidable r.full := inferInstanceAs (Decidable (0 < r.a.length ∧ 0 < r.b.length))
def fulls (l : List Rw) : List Rw := l.filter fun r => decide r.full
theorem fulls_snoc (l : List Rw) (r : Rw) : fulls (l ++ [r]) = fulls l ++ (if r.full then [r] else []) := by
  unfold fulls
  rw [List.filter_append]
  by_cases h : r.full <;> simp [h]
theorem Rel.own_append {base : Nat} {w w1 w' : World} {v : Value} {n : Nat} {xs : List Value} (h : Rel base w w1) (hrow : w1.ownsRow base 122 2 v n xs) (hg : w1.grownBy w' v.ownBlock) : Rel base w w' := by
  refine h.trans (Rel.grown hg fun r e => ?_)
  rcases hrow.2 with ⟨rfl, _⟩ | ⟨g, cap, cur, rfl, hb, hh, _⟩
  · cases e
  · obtain rfl : g = r := by simpa [Value.ownBlock] using e
    exact ⟨hb, _, hh, .inr ⟨cur, (0, 0), rfl⟩⟩

def Fr (v : Value) (w w' : World) : Prop := ∀ k, k < w.heap.size → some k ≠ v.ownBlock → w'.heap[k]? = w.heap[k]?
def WithR (base : Nat) (v : Value) (st : List Rw) (w : World) (e : Ending) (w' : World) : Prop := ∃ v', e = .returned v' ∧ w'.ownsRow base 122 2 v' st.length (flatR st) ∧ Rel base w w' ∧ Fr v w w'

theorem lit_cells (w : World) (n : Nat) (hn : w.heap.size = n) (cs : List Value) (t : TypeId) : ∀ j u, cs[j]? = some u → (w.alloc (.cells cs.toArray t)).cell? ((⟨n, 0, none⟩ : Addr).add j) = some u := by
  intro j u hj
  subst hn
  have h := World.alloc_heap_new w (.cells cs.toArray t)
  have e : ((⟨w.heap.size, 0, none⟩ : Addr).add j) = ⟨w.heap.size, j, none⟩ := by unfold Addr.add; split <;> simp_all
  rw [e, cell_of_row _ _ _ _ _ _ h]
  simpa using hj

set_option maxRecDepth 100000 in
set_option maxHeartbeats 4000000 in
theorem with_any {w : World} {base : Nat} {v : Value} {st : List Rw} {r1 r2 : Rw} (hown : w.ownsRow base 122 2 v st.length (flatR st)) (hbase : base ≤ w.heap.size) {g : Nat} (hm : w.heap[g]? = some (.cells #[r1.va, r1.vb, r2.va, r2.vb] 122 (0, 0)))
    (hne : v.ownBlock ≠ some g) (hf : ∀ r ∈ [r1, r2], r.formed) (hn : st.length ≤ 100000) :
    Calls Tryd.prog 94 #[v, .slice (some ⟨g, 0, none⟩) 2 2] w (WithR base v (st ++ fulls [r1, r2]) w) := by
  unfold WithR
  obtain ⟨i0, hi, hy0, hy1, hy2⟩ := info_parts parts68
  have hgl : g < w.heap.size := (Array.getElem?_eq_some_iff.1 hm).1
  obtain ⟨A, q, rfl⟩ := row_form hown
  have HF := Lib.hid hf
  have H0 := Lib.hid (And.intro hown (And.intro hm hne))
  clear hown hm hne hf
  go_enter Tryd.func94, Tryd.ntmps94
  go_wp2_with fail
  go_loopw [0, 9] (fun v' i wr => ∃ (k : Nat) (A' : Option Addr) (n' q' : Nat), k ≤ 2 ∧ i = .int .i64 k ∧ v' = .slice A' n' q' ∧ (n' = (st ++ fulls ([r1, r2].take k)).length ∧ wr.ownsRow base 122 2 (.slice A' n' q') n' (flatR (st ++ fulls ([r1, r2].take k)))) ∧ wr.heap[g]? = some (.cells #[r1.va, r1.vb, r2.va, r2.vb] 122 (0, 0)) ∧ (Value.slice A' n' q').ownBlock ≠ some g ∧ Rel base w wr ∧ Fr (.slice A st.length q) w wr ∧ ((Value.slice A' n' q').ownBlock = (Value.slice A st.length q).ownBlock ∨ ∃ b, w.heap.size ≤ b ∧ (Value.slice A' n' q').ownBlock = some b)) (fun _ i _ => 2 - (intOf i).toNat)
  case atStart => exact ⟨0, A, _, q, by omega, rfl, rfl, ⟨by simp [fulls], by simpa [fulls] using H0.out.1⟩, H0.out.2.1, H0.out.2.2, Rel.refl _ _, fun _ _ _ => rfl, .inl rfl⟩
  case round =>
    obtain ⟨k, A', n', q', hk, rfl, rfl, ⟨hnl, hrow⟩, hg2, hnb, hrel2, hfr, hlc⟩ := hrel
    have HFR := Lib.hid (And.intro hfr hlc)
    clear hfr hlc
    by_cases hlt : k < 2
    · obtain ⟨r, hr⟩ : ∃ r, [r1, r2][k]? = some r := by
        have : k = 0 ∨ k = 1 := by omega
        rcases this with rfl | rfl
        · exact ⟨r1, rfl⟩
        · exact ⟨r2, rfl⟩
      obtain ⟨fa, fc, fb, fd, e1, e2⟩ := HF.out r (List.mem_of_getElem? hr)
      have c0 : wr.cell? ⟨g, k * 2, none⟩ = some r.va := by
        rw [cell_of_row _ _ _ _ 122 (0, 0) hg2]
        have : k = 0 ∨ k = 1 := by omega
        rcases this with rfl | rfl
        · injection hr with hr; rw [← hr]; rfl
        · injection hr with hr; rw [← hr]; rfl
      have c1 : wr.cell? ⟨g, k * 2 + 1, none⟩ = some r.vb := by
        rw [cell_of_row _ _ _ _ 122 (0, 0) hg2]
        have : k = 0 ∨ k = 1 := by omega
        rcases this with rfl | rfl
        · injection hr with hr; rw [← hr]; rfl
        · injection hr with hr; rw [← hr]; rfl
      have hst : fulls ([r1, r2].take (k + 1)) = fulls ([r1, r2].take k) ++ (if r.full then [r] else []) := by
        rw [List.take_add_one, hr]
        exact fulls_snoc _ _
      rw [e1] at c0
      rw [e2] at c1
      have HI := Lib.hid (And.intro hst (And.intro e1 e2))
      have HR := Lib.hid (And.intro hrow (And.intro hnb hrel2))
      have HG := Lib.hid hg2
      have HN := Lib.hid hnl
      have hn' : n' ≤ 100002 := by
        have h1 : (fulls ([r1, r2].take k)).length ≤ 2 := Nat.le_trans (List.length_filter_le _ _) (by simp; omega)
        rw [hnl, List.length_append]; omega
      clear hst e1 e2 hrow hnb hrel2 hg2 hr hnl
      by_cases hfull : r.full
      · obtain ⟨z1, z2⟩ := hfull
        have HFU := Lib.hid (show r.full from ⟨z1, z2⟩)
        have z1' : (0 : Int) < (r.a.length : Int) := by omega
        have z2' : (0 : Int) < (r.b.length : Int) := by omega
        generalize r.a.length = la at *
        generalize r.b.length = lb at *
        have hz : Hid (base ≤ wr.heap.size) := Lib.hid (Nat.le_trans hbase HR.out.2.2.size)
        go_wp2_with (at_builtin; go_loud (refine wpList_append_own_at _ rfl _ _ 123 rfl base 122 i0 (.agg #[.slice none 0 0, .slice none 0 0]) 2 48 Tryd.underlying123 hi hy0 hy1 hy2 rfl (by decide) (.slice A' n' q') n' _ rfl ((HR.out.1.alloc _).alloc _) ⟨wr.heap.size + 1, 0, none⟩ 1 1 [.slice fa la fc, .slice fb lb fd] rfl rfl (lit_cells (wr.alloc _) _ (by simp) _ 122) (by simp [Value.oneCell']) (by unfold maxLen; omega) (by omega) (by have := hz.out; simp; omega) ?_; intro v3 w3 hown3 hgrow3 hnil3 hloc3))
        have hb2 : Below wr.heap.size wr ((wr.alloc (.cells #[.slice fa la fc, .slice fb lb fd] 122)).alloc (.cells #[.slice fa la fc, .slice fb lb fd] 122)) := ((Below.refl _ wr).alloc (Nat.le_refl _) _).alloc (by simp) _
        have hrel3 : Rel base w w3 := Rel.own_append (HR.out.2.2.trans (Rel.of_below hb2)) ((HR.out.1.alloc _).alloc _) hgrow3
        have hgw : g < wr.heap.size := (Array.getElem?_eq_some_iff.1 HG.out).1
        have hg3 : w3.heap[g]? = some (.cells #[r1.va, r1.vb, r2.va, r2.vb] 122 (0, 0)) := by
          rw [hgrow3.block g (Nat.lt_of_lt_of_le hgw hb2.size) (fun e => HR.out.2.1 e.symm), hb2.block g hgw]
          exact HG.out
        have hne3 : v3.ownBlock ≠ some g := by
          rcases hloc3 with h | h
          · rw [h]; exact HR.out.2.1
          · rw [h]; simp; omega
        have hlc3 : v3.ownBlock = (Value.slice A st.length q).ownBlock ∨ ∃ b, w.heap.size ≤ b ∧ v3.ownBlock = some b := by
          rcases hloc3 with h | h
          · rw [h]; exact HFR.out.2
          · exact .inr ⟨_, by have := HR.out.2.2.size; simp; omega, h⟩
        have hfr3 : Fr (.slice A st.length q) w w3 := fun k hk hne => by
          have hkw : k < wr.heap.size := Nat.lt_of_lt_of_le hk HR.out.2.2.size
          rw [hgrow3.block k (Nat.lt_of_lt_of_le hkw hb2.size) (fun e => ?_), hb2.block k hkw]
          · exact HFR.out.1 k hk hne
          · rcases HFR.out.2 with h | ⟨b, hb, h⟩
            · rw [h] at e; exact hne e
            · rw [h] at e; injection e with e; omega
        obtain ⟨h1, h2, h3⟩ := HI.out
        rw [if_pos HFU.out] at h1
        obtain ⟨A3, q3, rfl⟩ := row_form hown3
        go_roundw
        case rel =>
          refine ⟨k + 1, A3, n' + 1, q3, by omega, by go_num, rfl, ⟨?_, ?_⟩, hg3, hne3, hrel3, hfr3, hlc3⟩
          · rw [h1, HN.out]; simp; omega
          · rw [h1, ← List.append_assoc, flatR_app]
            have : flatR [r] = [.slice fa la fc, .slice fb lb fd] := by simp [flatR, h2, h3]
            rw [this]
            exact hown3
        case measure => simp [intOf]; omega
      · have hz : ¬ 0 < r.a.length ∨ 0 < r.a.length ∧ ¬ 0 < r.b.length := by
          unfold Rw.full at hfull
          by_cases h : 0 < r.a.length
          · exact .inr ⟨h, fun h' => hfull ⟨h, h'⟩⟩
          · exact .inl h
        obtain ⟨h1, h2, h3⟩ := HI.out
        rw [if_neg hfull, List.append_nil] at h1
        have H1 := Lib.hid h1
        clear h1 hfull
        rcases hz with hz | ⟨hz, hz2⟩
        · have hz0 : r.a.length = 0 := by omega
          rw [hz0] at c0
          go_wp2_with fail
          go_roundw
          case rel => exact ⟨k + 1, A', n', q', by omega, by go_num, rfl, ⟨by rw [H1.out]; exact HN.out, by rw [H1.out]; exact HR.out.1.alloc _⟩, (Below.heap_alloc _ _ _ (Array.getElem?_eq_some_iff.1 HG.out).1).trans HG.out, HR.out.2.1, HR.out.2.2.trans (Rel.of_below ((Below.refl _ wr).alloc (Nat.le_refl _) _)), fun j hj hn => (Below.heap_alloc _ _ _ (Nat.lt_of_lt_of_le hj HR.out.2.2.size)).trans (HFR.out.1 j hj hn), HFR.out.2⟩
          case measure => simp [intOf]; omega
        · have hz0 : r.b.length = 0 := by omega
          have hz' : (0 : Int) < (r.a.length : Int) := by omega
          rw [hz0] at c1
          go_wp2_with fail
          go_roundw
          case rel => exact ⟨k + 1, A', n', q', by omega, by go_num, rfl, ⟨by rw [H1.out]; exact HN.out, by rw [H1.out]; exact HR.out.1.alloc _⟩, (Below.heap_alloc _ _ _ (Array.getElem?_eq_some_iff.1 HG.out).1).trans HG.out, HR.out.2.1, HR.out.2.2.trans (Rel.of_below ((Below.refl _ wr).alloc (Nat.le_refl _) _)), fun j hj hn => (Below.heap_alloc _ _ _ (Nat.lt_of_lt_of_le hj HR.out.2.2.size)).trans (HFR.out.1 j hj hn), HFR.out.2⟩
          case measure => simp [intOf]; omega
    · obtain rfl : k = 2 := by omega
      have HR := Lib.hid (show n' = (st ++ fulls [r1, r2]).length ∧ wr.ownsRow base 122 2 (.slice A' n' q') n' (flatR (st ++ fulls [r1, r2])) ∧ Rel base w wr from ⟨hnl, hrow, hrel2⟩)
      clear hnl hrow hrel2 hg2 hnb
      go_wp2_with fail
      go_ret
      obtain ⟨e, h1, h2⟩ := HR.out
      exact ⟨_, rfl, by rw [← e]; exact h1, h2, HFR.out.1⟩
end Go.Proofs.YtnccgaanfjaimaaDoor

namespace Go.Proofs.YtnccgaanfjaimaaDoor
open Go.ChangeShapes Go.WideShapes Go.ChangeAt Go.RowKit
set_option linter.unusedVariables false
set_option linter.unusedSimpArgs false

/-- types of cells that rounds keep -/
def still (t : TypeId) : Bool := t == 25 || t == 122 || t == 23 || t == 61 || t == 36
/-- blocks below N, and such cells, lie as they lay -/
structure KpX (N : Nat) (A B : World) : Prop where
  size : A.heap.size ≤ B.heap.size
  low : ∀ k, k < N → B.heap[k]? = A.heap[k]?
  cells : ∀ (k : Nat) (v : Array Value) (t : TypeId) (fr : Nat × Nat), A.heap[k]? = some (Obj.cells v t fr) → still t = true → B.heap[k]? = some (Obj.cells v t fr)
theorem KpX.trans {N : Nat} {A B C : World} (h : KpX N A B) (k : KpX N B C) : KpX N A C := ⟨Nat.le_trans h.size k.size, fun i hi => (k.low i hi).trans (h.low i hi), fun i v t fr hi ht => k.cells i v t fr (h.cells i v t fr hi ht) ht⟩
theorem KpX.refl (N : Nat) (A : World) : KpX N A A := ⟨Nat.le_refl _, fun _ _ => rfl, fun _ _ _ _ h _ => h⟩
theorem KpX.putObj {N : Nat} (W : World) (l : Nat) (o o' : Obj) (hN : N ≤ l) (hl : W.heap[l]? = some o) (ho : o.isCells = false) : KpX N W (W.putObj l o') := by
  refine ⟨by simp, fun k hk => World.putObj_heap_other (by omega), fun k v t fr hk ht => ?_⟩
  by_cases e : k = l
  · subst e
    rw [hk] at hl
    cases hl
    simp [Obj.isCells] at ho
  · exact (World.putObj_heap_other e).trans hk
theorem KpX.of_below {N : Nat} {A B : World} (h : Below A.heap.size A B) (hN : N ≤ A.heap.size) : KpX N A B := ⟨h.size, fun k hk => h.block k (by omega), fun k v t fr hk ht => (h.block k (Array.getElem?_eq_some_iff.1 hk).1).trans hk⟩
theorem KpX.mono {N N' : Nat} {A B : World} (h : KpX N A B) (hN : N' ≤ N) : KpX N' A B := ⟨h.size, fun k hk => h.low k (by omega), h.cells⟩
theorem KpX.row {N : Nat} {A B : World} {base e sz n : Nat} {v : Value} {xs : List Value} (h : A.ownsRow base e sz v n xs) (hk : KpX N A B) (he : still e = true) : B.ownsRow base e sz v n xs := by
  refine ⟨h.1, ?_⟩
  rcases h.2 with hn | ⟨g, cap, cur, e1, hbg, hg, rest⟩
  · exact .inl hn
  · exact .inr ⟨g, cap, cur, e1, hbg, hk.cells g _ _ _ hg he, rest⟩
theorem TR.kp {N : Nat} {A B : World} {v : Value} {l : List T} (h : TR N A v l) (hk : KpX N A B) : TR N B v l := h.keep hk.low
theorem TR.nil_any {N N' : Nat} {w w' : World} {v : Value} (h : TR N w v []) : TR N' w' v [] := by
  obtain ⟨A, c, rfl, _⟩ := h.form
  exact .mk A c [] ⟨0, 0, none⟩ (Nat.zero_le _) (fun h => absurd h (by simp)) (fun i h => absurd h (by simp)) (fun i h => absurd h (by simp)) (fun i h => absurd h (by simp)) (fun i h => absurd h (by simp))

/-- what is still to come of rows that stand behind one another, the last one first -/
def outS (st : List Rw) : List (T × T) := st.reverse.flatMap fun r => zipTL r.a r.b
theorem outS_snoc (st : List Rw) (r : Rw) : outS (st ++ [r]) = zipTL r.a r.b ++ outS st := by simp [outS]
theorem outS_fulls (st : List Rw) (r1 r2 : Rw) : outS (st ++ fulls [r1, r2]) = zipTL r2.a r2.b ++ (zipTL r1.a r1.b ++ outS st) := by
  have hz : ∀ r : Rw, ¬ r.full → zipTL r.a r.b = [] := by
    intro r h
    unfold Rw.full at h
    cases ha : r.a with
    | nil => exact zipTL_nil _
    | cons x xs =>
      cases hb : r.b with
      | nil => exact zipTL_nil' _
      | cons y ys => rw [ha, hb] at h; exact absurd ⟨by simp, by simp⟩ h
  by_cases h1 : r1.full <;> by_cases h2 : r2.full
  · rw [show fulls [r1, r2] = [r1] ++ [r2] by simp [fulls, h1, h2], ← List.append_assoc, outS_snoc, outS_snoc]
  · rw [show fulls [r1, r2] = [r1] by simp [fulls, h1, h2], outS_snoc, hz r2 h2]; rfl
  · rw [show fulls [r1, r2] = [r2] by simp [fulls, h1, h2], outS_snoc, hz r1 h1]; rfl
  · rw [show fulls [r1, r2] = [] by simp [fulls, h1, h2], List.append_nil, hz r1 h1, hz r2 h2]; rfl
theorem zipTL_pos {ts us : List T} (h1 : 0 < ts.length) (h2 : 0 < us.length) : 0 < (zipTL ts us).length := by
  cases ts with
  | nil => simp at h1
  | cons t ts =>
    cases us with
    | nil => simp at h2
    | cons u us => rw [zipTL_cons, zipT_eq]; simp
theorem flat_len : ∀ (l : List Rw), (∀ r ∈ l, r.full) → l.length ≤ (l.flatMap fun r => zipTL r.a r.b).length
  | [], _ => by simp
  | r :: l, h => by
    have h1 := flat_len l fun x hx => h x (by simp [hx])
    have h2 := zipTL_pos (h r (by simp)).1 (h r (by simp)).2
    rw [List.flatMap_cons, List.length_append, List.length_cons]
    omega
theorem outS_len (st : List Rw) (h : ∀ r ∈ st, r.full) : st.length ≤ (outS st).length := by
  have := flat_len st.reverse fun r hr => h r (by simpa using hr)
  rwa [List.length_reverse] at this

/-- the rows that stand: each lies in memory; or there is but the first one -/
def Rl (N : Nat) (W : World) (st : List Rw) : Prop :=
  (∀ r ∈ st, r.full ∧ r.ok N W) ∨ ∃ r t u, st = [r] ∧ r.a = [t] ∧ r.b = [u] ∧ r.ok W.heap.size W ∧ TR N W t.kv t.kids ∧ TR N W u.kv u.kids
theorem Rl.full {N : Nat} {W : World} {st : List Rw} (h : Rl N W st) : ∀ r ∈ st, r.full := by
  rcases h with h | ⟨r, t, u, rfl, h1, h2, _⟩
  · exact fun r hr => (h r hr).1
  · intro x hx
    obtain rfl : x = r := by simpa using hx
    exact ⟨by rw [h1]; simp, by rw [h2]; simp⟩

theorem Rl.top {N : Nat} {W : World} {st : List Rw} (h : Rl N W st) (hN : N ≤ W.heap.size) (h0 : st ≠ []) :
    ∃ pre r t ts u us va' vb', st = pre ++ [r] ∧ r.a = t :: ts ∧ r.b = u :: us ∧ (∀ x ∈ pre, x.full ∧ x.ok N W) ∧ TR N W t.kv t.kids ∧ TR N W u.kv u.kids ∧ TR N W va' ts ∧ TR N W vb' us ∧
      Calls Tryd.prog 93 #[r.v] W (FirstR t u va' vb' W) := by
  rcases h with h | ⟨r, t, u, rfl, h1, h2, h3, h4, h5⟩
  · obtain ⟨pre, r, rfl⟩ : ∃ pre r, st = pre ++ [r] := ⟨_, _, (List.dropLast_concat_getLast h0).symm⟩
    obtain ⟨hf, hok⟩ := h r (by simp)
    obtain ⟨t, ts, ha⟩ := List.exists_cons_of_length_pos hf.1
    obtain ⟨u, us, hb⟩ := List.exists_cons_of_length_pos hf.2
    have k1 := hok.1
    have k2 := hok.2
    rw [ha] at k1
    rw [hb] at k2
    obtain ⟨va', vb', h1, h2⟩ := first_any k1 k2 hN
    obtain ⟨_, _, _, _, _, _, _, _, q1, _⟩ := k1.first
    obtain ⟨_, _, _, _, _, _, _, _, q2, _⟩ := k2.first
    exact ⟨pre, r, t, ts, u, us, va', vb', rfl, ha, hb, fun x hx => h x (by simp [hx]), q1, q2, (h1 W (Below.refl _ _)).1, (h1 W (Below.refl _ _)).2, h2⟩
  · have k1 := h3.1
    have k2 := h3.2
    rw [h1] at k1
    rw [h2] at k2
    obtain ⟨va', vb', q1, q2⟩ := first_any k1 k2 (Nat.le_refl _)
    exact ⟨[], r, t, [], u, [], va', vb', rfl, h1, h2, (fun x hx => by cases hx), h4, h5, (q1 W (Below.refl _ _)).1.nil_any, (q1 W (Below.refl _ _)).2.nil_any, q2⟩

/-- the row without its last one -/
theorem own_cut {w : World} {base e sz n cap : Nat} {A : Option Addr} {xs ys : List Value} {m : Nat} (h : w.ownsRow base e sz (.slice A n cap) n (xs ++ ys)) (hx : xs.length = m * sz) (hm : m < n) : w.ownsRow base e sz (.slice A m cap) m xs := by
  refine ⟨hx, ?_⟩
  rcases h.2 with ⟨he, h0⟩ | ⟨g, c2, cur, he, hb, hg, hc, hc2, hs, ht⟩
  · omega
  · injection he with e1 e2 e3
    subst e1 e3
    refine .inr ⟨g, cap, cur, rfl, hb, hg, by omega, hc2, hs, ?_⟩
    have : cur.toList.take (m * sz) = (cur.toList.take (n * sz)).take (m * sz) := by rw [List.take_take, Nat.min_eq_left (Nat.mul_le_mul_right _ (by omega))]
    rw [this, ht, ← hx, List.take_left']
    rfl
end Go.Proofs.YtnccgaanfjaimaaDoor

namespace Go.Proofs.YtnccgaanfjaimaaDoor
open Go.ChangeShapes Go.WideShapes Go.ChangeAt Go.RowKit
set_option linter.unusedVariables false
set_option linter.unusedSimpArgs false

attribute [local go_sem] Oper.semAt_some

theorem own_bel {w w' : World} {base e sz n : Nat} {v : Value} {xs : List Value} (h : w.ownsRow base e sz v n xs) (hb : Below w.heap.size w w') : w'.ownsRow base e sz v n xs := by
  refine ⟨h.1, ?_⟩
  rcases h.2 with hn | ⟨g, cap, cur, e1, hbg, hg, rest⟩
  · exact .inl hn
  · exact .inr ⟨g, cap, cur, e1, hbg, (hb.block _ (Array.getElem?_eq_some_iff.1 hg).1).trans hg, rest⟩

/-- what the next rows are made of lies as it lay -/
def S5 (W4 : World) (p : Nat) (k6 k7 u v : Value) (w' : World) : Prop := w'.cell? ⟨p, 2, none⟩ = some k6 ∧ w'.cell? ⟨p + 1, 2, none⟩ = some k7 ∧ w'.cell? ⟨p + 1 + 1, 0, none⟩ = some u ∧ w'.cell? ⟨p + 1 + 1, 1, none⟩ = some v
theorem S5.drew {W4 : World} {p : Nat} {k6 k7 u v : Value} {w' : World} (h : S5 W4 p k6 k7 u v w') : S5 W4 p k6 k7 u v w'.drew := ⟨h.1, h.2.1, h.2.2.1, h.2.2.2⟩
theorem S5.alloc {W4 : World} {p : Nat} {k6 k7 u v : Value} {w' : World} (h : S5 W4 p k6 k7 u v w') (o : Obj) : S5 W4 p k6 k7 u v (w'.alloc o) := by
  have hb : Below w'.heap.size w' (w'.alloc o) := (Below.refl _ _).alloc (Nat.le_refl _) o
  obtain ⟨h1, h2, h3, h4⟩ := h
  have hc : ∀ {a : Addr} {x : Value}, w'.cell? a = some x → (w'.alloc o).cell? a = some x := fun {a x} hx => (hb.cell (World.block_lt_of_cell? _ _ hx)).trans hx
  exact ⟨hc h1, hc h2, hc h3, hc h4⟩
theorem S5.fr {W4 : World} {p : Nat} {k6 k7 u v : Value} {w' w6 : World} {g n q : Nat} (h : S5 W4 p k6 k7 u v w') (hg : g < p) (hf : Fr (.slice (some ⟨g, 0, none⟩) n q) w' w6) : S5 W4 p k6 k7 u v w6 := by
  obtain ⟨h1, h2, h3, h4⟩ := h
  have hc : ∀ {a : Addr} {x : Value}, g < a.block → w'.cell? a = some x → w6.cell? a = some x := fun {a x} ha hx => (World.cell?_of_block (hf _ (World.block_lt_of_cell? _ _ hx) (by simp only [Value.ownBlock]; intro e; injection e with e; omega))).trans hx
  exact ⟨hc hg h1, hc (by show g < p + 1; omega) h2, hc (by show g < p + 1 + 1; omega) h3, hc (by show g < p + 1 + 1; omega) h4⟩

def encZ (z : T × T) : Array Value := #[z.1.v, z.2.v]

set_option maxRecDepth 100000 in
set_option maxHeartbeats 8000000 in
theorem pairs_seq {w0 : World} {N : Nat} (n : Nat) (hn : 2 ≤ n) {a b : T} {Ba Bb : Nat} (hA : w0.heap[Ba]? = some (.cells #[.int .i64 a.kind, .string a.lab, a.kv] 25 (0, 0))) (hB : w0.heap[Bb]? = some (.cells #[.int .i64 b.kind, .string b.lab, b.kv] 25 (0, 0)))
    (ha : TR N w0 a.kv a.kids) (hb : TR N w0 b.kv b.kids) (hN : N ≤ w0.heap.size) (hsz : (zipT a b).length ≤ 100000) :
    SeqX Fence.wide n Tryd.prog 92 #[.pointer (some ⟨Ba, 0, none⟩), .pointer (some ⟨Bb, 0, none⟩)] encZ (KpX N) (zipT a b) w0 := by
  intro l J Jx W hW hJ hJx hY h0
  have HY := Lib.hid hY
  have HJ := Lib.hid hJ
  have HA := Lib.hid ((hW.block _ (Array.getElem?_eq_some_iff.1 hA).1).trans hA)
  have HB := Lib.hid ((hW.block _ (Array.getElem?_eq_some_iff.1 hB).1).trans hB)
  have hNW : N ≤ W.heap.size := Nat.le_trans hN hW.size
  have HTa := Lib.hid (ha.bel (hW.mono hN))
  have HTb := Lib.hid (hb.bel (hW.mono hN))
  have HJ0 := Lib.hid h0
  obtain ⟨A1, c1, hka, -⟩ := ha.form
  obtain ⟨A2, c2, hkb, -⟩ := hb.form
  have a0 := cell_of_row _ _ 0 _ 25 (0, 0) HA.out
  have a1 := cell_of_row _ _ 1 _ 25 (0, 0) HA.out
  have a2 := cell_of_row _ _ 2 _ 25 (0, 0) HA.out
  have b0 := cell_of_row _ _ 0 _ 25 (0, 0) HB.out
  have b1 := cell_of_row _ _ 1 _ 25 (0, 0) HB.out
  have b2 := cell_of_row _ _ 2 _ 25 (0, 0) HB.out
  simp only [List.getElem?_toArray, List.getElem?_cons_zero, List.getElem?_cons_succ] at a0 a1 a2 b0 b1 b2
  rw [hka] at a2
  rw [hkb] at b2
  have HK := Lib.hid (And.intro hka hkb)
  have hla : Ba < W.heap.size := (Array.getElem?_eq_some_iff.1 HA.out).1
  have hlb : Bb < W.heap.size := (Array.getElem?_eq_some_iff.1 HB.out).1
  clear hY hJ h0 hJx hA hB ha hb hW hN hka hkb
  refine callsIn_of_wp Tryd.func92 rfl trivial ?_ rfl
  simp only [Tryd.ntmps92, List.size_toArray, List.length_cons, List.length_nil, Nat.reduceAdd, Nat.reduceSub, Array.replicate_succ, Array.replicate_zero, List.push_toArray, List.append_toArray, List.nil_append, List.cons_append]
  refine wpIn_wide.2 ?_
  go_wp2_with fail
  obtain ⟨W1, hW1⟩ : ∃ W1, (((W.alloc (.cells #[.int .i64 a.kind, .string a.lab, .slice A1 a.kids.length c1] 25)).alloc (.cells #[.int .i64 b.kind, .string b.lab, .slice A2 b.kids.length c2] 25)).alloc (.cells #[.slice (some ⟨W.heap.size, 0, none⟩) 1 1, .slice (some ⟨W.heap.size + 1, 0, none⟩) 1 1] 122)) = W1 := ⟨_, rfl⟩
  have hB1 : Below W.heap.size W W1 := by rw [← hW1]; exact (((Below.refl _ W).alloc (Nat.le_refl _) _).alloc (by simp) _).alloc (by simp; try omega) _
  have hz1 : W1.heap.size = W.heap.size + 3 := by rw [← hW1]; simp
  obtain ⟨r0, hr0⟩ : ∃ r0 : Rw, r0 = ⟨.slice (some ⟨W.heap.size, 0, none⟩) 1 1, .slice (some ⟨W.heap.size + 1, 0, none⟩) 1 1, [a], [b]⟩ := ⟨_, rfl⟩
  have hrow0 : W1.ownsRow W.heap.size 122 2 (.slice (some ⟨W.heap.size + 1 + 1, 0, none⟩) [r0].length 1) [r0].length (flatR [r0]) := by
    rw [hr0]
    refine ⟨by simp [flatR], .inr ⟨W.heap.size + 1 + 1, 1, #[.slice (some ⟨W.heap.size, 0, none⟩) 1 1, .slice (some ⟨W.heap.size + 1, 0, none⟩) 1 1], rfl, by omega, ?_, by simp, by unfold maxLen; omega, rfl, rfl⟩⟩
    rw [← hW1]
    have := World.alloc_heap_new ((W.alloc (.cells #[.int .i64 a.kind, .string a.lab, .slice A1 a.kids.length c1] 25)).alloc (.cells #[.int .i64 b.kind, .string b.lab, .slice A2 b.kids.length c2] 25)) (.cells #[.slice (some ⟨W.heap.size, 0, none⟩) 1 1, .slice (some ⟨W.heap.size + 1, 0, none⟩) 1 1] 122)
    simpa [flatR] using this
  have hone : ∀ (t : T) (g : Nat) (A : Option Addr) (c : Nat), t.kv = .slice A t.kids.length c → W1.heap[g]? = some (.cells #[.int .i64 t.kind, .string t.lab, .slice A t.kids.length c] 25 (0, 0)) → TR N W1 t.kv t.kids → TR W1.heap.size W1 (.slice (some ⟨g, 0, none⟩) 1 1) [t] := by
    intro t g A c hkv hg ht
    have hgl := (Array.getElem?_eq_some_iff.1 hg).1
    refine .mk (some ⟨g, 0, none⟩) 1 [t] ⟨g, 0, none⟩ (by simp) (fun _ => ⟨rfl, hgl⟩) (fun i hi => ?_) (fun i hi => ?_) (fun i hi => ?_) (fun i hi => ?_)
    all_goals obtain rfl : i = 0 := by simpa using hi
    · simpa [Addr.add] using cell_of_row _ _ 0 _ 25 (0, 0) hg
    · simpa [Addr.add] using cell_of_row _ _ 1 _ 25 (0, 0) hg
    · simpa [Addr.add, hkv] using cell_of_row _ _ 2 _ 25 (0, 0) hg
    · have hms : ∀ {N N' : Nat} {w : World} {v : Value} {l : List T}, TR N w v l → N ≤ N' → TR N' w v l := by
        intro N N' w v l h hN
        induction h with
        | mk A c l ad hlc hA h0 h1 h2 hk ih => exact .mk A c l ad hlc (fun h => ⟨(hA h).1, Nat.lt_of_lt_of_le (hA h).2 hN⟩) h0 h1 h2 ih
      exact hms ht (by omega)
  have hrl0 : Rl N W1 [r0] := by
    refine .inr ⟨r0, a, b, rfl, by rw [hr0], by rw [hr0], ?_, HTa.out.bel (hB1.mono hNW), HTb.out.bel (hB1.mono hNW)⟩
    rw [hr0]
    refine ⟨hone a _ A1 c1 HK.out.1 ?_ (HTa.out.bel (hB1.mono hNW)), hone b _ A2 c2 HK.out.2 ?_ (HTb.out.bel (hB1.mono hNW))⟩
    · show W1.heap[W.heap.size]? = _
      rw [← hW1, Below.heap_alloc _ _ _ (by simp; try omega), Below.heap_alloc _ _ _ (by simp)]
      exact World.alloc_heap_new W _
    · show W1.heap[W.heap.size + 1]? = _
      rw [← hW1, Below.heap_alloc _ _ _ (by simp)]
      have := World.alloc_heap_new (W.alloc (.cells #[.int .i64 a.kind, .string a.lab, .slice A1 a.kids.length c1] 25)) (.cells #[.int .i64 b.kind, .string b.lab, .slice A2 b.kids.length c2] 25)
      rwa [World.size_alloc] at this
  have hj1 : J [] W1 := HJ.out [] W W1 HJ0.out (Rel.of_below hB1)
  have hout0 : [] ++ outS [r0] = zipT a b := by rw [hr0]; simp [outS, zipTL_cons, zipTL_nil]
  have S0 := Lib.hid (show W1.ownsRow W.heap.size 122 2 (.slice (some ⟨W.heap.size + 1 + 1, 0, none⟩) [r0].length 1) [r0].length (flatR [r0]) ∧ Rl N W1 [r0] ∧ [] ++ outS [r0] = zipT a b ∧ J [] W1 ∧ W.heap.size ≤ W1.heap.size from ⟨hrow0, hrl0, hout0, hj1, hB1.size⟩)
  try rw [hW1]
  clear a0 a1 a2 b0 b1 b2 hrow0 hone hrl0 hj1 hout0 hr0 hB1 hz1 HK HTa HTb HA HB hW1 HJ0
  go_loopg [4] ((outS [r0]).length) (fun k v wr => ∃ (st : List Rw) (done : List (T × T)) (A : Option Addr) (q : Nat), v = .slice A st.length q ∧ wr.ownsRow W.heap.size 122 2 (.slice A st.length q) st.length (flatR st) ∧ Rl N wr st ∧ done ++ outS st = zipT a b ∧ J done wr ∧ W.heap.size ≤ wr.heap.size ∧ k = (outS st).length)
  case atStart => exact ⟨[r0], [], _, _, rfl, S0.out.1, S0.out.2.1, S0.out.2.2.1, S0.out.2.2.2.1, S0.out.2.2.2.2, rfl⟩
  case round =>
    obtain ⟨st, done, A, q, rfl, hrow, hrl, hdone, hj, hwz, rfl⟩ := hrel
    by_cases h0 : st = []
    · subst h0
      have hd : done = zipT a b := by rw [← hdone]; simp [outS]
      subst hd
      have HJE := Lib.hid hj
      clear hrow hrl hdone hj
      go_wp2_with fail
      go_end0
      exact ⟨⟨_, rfl⟩, .inl HJE.out⟩
    · obtain ⟨pre, r, t, ts, u, us, va', vb', rfl, hra, hrb, hpre, ht, hu, hva, hvb, hcall⟩ := hrl.top (Nat.le_trans hNW hwz) h0
      obtain ⟨A3, c3, hkt, -⟩ := ht.form
      obtain ⟨A4, c4, hku, -⟩ := hu.form
      obtain ⟨A5, c5, hk5, -⟩ := hva.form
      obtain ⟨A6, c6, hk6, -⟩ := hvb.form
      have hrl2 : 0 < (pre ++ [r]).length := by simp
      have hcut : wr.ownsRow W.heap.size 122 2 (.slice A pre.length q) pre.length (flatR pre) := own_cut (n := (pre ++ [r]).length) (ys := flatR [r]) (by rw [← flatR_app]; exact hrow) (flatR_len pre) (by simp)
      obtain ⟨g, rfl⟩ : ∃ g, A = some ⟨g, 0, none⟩ := by
        rcases hrow.2 with ⟨he, h0⟩ | ⟨g, c2, cur, he, _⟩
        · simp at h0
        · injection he with e1 _ _; exact ⟨g, e1⟩
      have q0 : wr.cell? ⟨g, pre.length * 2, none⟩ = some r.va := by
        have := hrow.cells (g := g) rfl (pre.length * 2) r.va (by rw [flatR_app, List.getElem?_append_right (by rw [flatR_len]; exact Nat.le_refl _), flatR_len, Nat.sub_self]; simp [flatR])
        by_cases hk0 : pre.length * 2 = 0
        · rw [hk0] at this ⊢; simpa [Addr.add] using this
        · simpa [Addr.add, hk0] using this
      have q1 : wr.cell? ⟨g, pre.length * 2 + 1, none⟩ = some r.vb := by
        have := hrow.cells (g := g) rfl (pre.length * 2 + 1) r.vb (by rw [flatR_app, List.getElem?_append_right (by rw [flatR_len]; omega), flatR_len, Nat.add_sub_cancel_left]; simp [flatR])
        simpa [Addr.add] using this
      have hlast : ((pre ++ [r]).length : Int) - 1 = (pre.length : Int) := by simp
      have hlt1 : (pre.length : Int) < ((pre ++ [r]).length : Int) := by simp; omega
      have hge1 : (0 : Int) < ((pre ++ [r]).length : Int) := by simp; try omega
      have hlen : (pre ++ [r]).length ≤ 100000 := by
        have h1 := outS_len _ hrl.full
        have h2 : (outS (pre ++ [r])).length ≤ (zipT a b).length := by rw [← hdone]; simp
        omega
      have hdn : done ++ (t, u) :: outS (pre ++ fulls [⟨va', vb', ts, us⟩, ⟨t.kv, u.kv, t.kids, u.kids⟩]) = zipT a b := by
        rw [← hdone, outS_fulls, outS_snoc, hra, hrb, zipTL_cons, zipT_eq]
        simp
      have hme : (outS (pre ++ [r])).length = (outS (pre ++ fulls [⟨va', vb', ts, us⟩, ⟨t.kv, u.kv, t.kids, u.kids⟩])).length + 1 := by
        rw [outS_fulls, outS_snoc, hra, hrb, zipTL_cons, zipT_eq]
        simp
      unfold FirstR T.v Rw.v at hcall
      have S1 := Lib.hid (And.intro hcut (And.intro hpre (And.intro hdn (And.intro hme (And.intro hj hwz)))))
      have S2 := Lib.hid (And.intro ht (And.intro hu (And.intro hva hvb)))
      have HC := Lib.hid hcall
      have HK2 := Lib.hid (And.intro hkt (And.intro hku (And.intro hk5 hk6)))
      rw [hkt, hku, hk5, hk6] at HC
      have hpn : (pre ++ [r]).length = pre.length + 1 := by simp
      rw [hpn] at hlast hlt1 hge1 hlen ⊢
      generalize r.va = Va at *
      generalize r.vb = Vb at *
      clear hrow hrl hdone hj hwz hra hrb hpre ht hu hva hvb hcall hcut hdn hme hkt hku hk5 hk6 h0 hrl2 hpn
      go_upto_region 4 with (go_at_call 93; refine HC.out.mono ?_; rintro e w1 ⟨rfl, hb1⟩; have HB1 := Lib.hid hb1; clear hb1)
      obtain ⟨W3, hW3⟩ : ∃ W3, ((w1.alloc (.cells #[.int .i64 t.kind, .string t.lab, .slice A3 t.kids.length c3] 25)).alloc (.cells #[.int .i64 u.kind, .string u.lab, .slice A4 u.kids.length c4] 25)).alloc (.cells #[.slice A5 ts.length c5, .slice A6 us.length c6] 122) = W3 := ⟨_, rfl⟩
      have hb3 : Below wr.heap.size wr W3 := by rw [← hW3]; exact (((HB1.out.alloc HB1.out.size _).alloc (by have := HB1.out.size; simp; omega) _).alloc (by have := HB1.out.size; simp; omega) _)
      have x6 : W3.heap[w1.heap.size]? = some (.cells #[.int .i64 t.kind, .string t.lab, .slice A3 t.kids.length c3] 25 (0, 0)) := by
        rw [← hW3, Below.heap_alloc _ _ _ (by simp; try omega), Below.heap_alloc _ _ _ (by simp)]
        exact World.alloc_heap_new w1 _
      have x7 : W3.heap[w1.heap.size + 1]? = some (.cells #[.int .i64 u.kind, .string u.lab, .slice A4 u.kids.length c4] 25 (0, 0)) := by
        rw [← hW3, Below.heap_alloc _ _ _ (by simp)]
        have := World.alloc_heap_new (w1.alloc (.cells #[.int .i64 t.kind, .string t.lab, .slice A3 t.kids.length c3] 25)) (.cells #[.int .i64 u.kind, .string u.lab, .slice A4 u.kids.length c4] 25)
        rwa [World.size_alloc] at this
      have x8 : W3.heap[w1.heap.size + 1 + 1]? = some (.cells #[.slice A5 ts.length c5, .slice A6 us.length c6] 122 (0, 0)) := by
        rw [← hW3]
        have := World.alloc_heap_new ((w1.alloc (.cells #[.int .i64 t.kind, .string t.lab, .slice A3 t.kids.length c3] 25)).alloc (.cells #[.int .i64 u.kind, .string u.lab, .slice A4 u.kids.length c4] 25)) (.cells #[.slice A5 ts.length c5, .slice A6 us.length c6] 122)
        rwa [World.size_alloc, World.size_alloc] at this
      have y0 := cell_of_row _ _ 0 _ 25 (0, 0) x6
      have y1 := cell_of_row _ _ 1 _ 25 (0, 0) x6
      have y2 := cell_of_row _ _ 2 _ 25 (0, 0) x6
      have z0 := cell_of_row _ _ 0 _ 25 (0, 0) x7
      have z1 := cell_of_row _ _ 1 _ 25 (0, 0) x7
      have z2 := cell_of_row _ _ 2 _ 25 (0, 0) x7
      simp only [List.getElem?_toArray, List.getElem?_cons_zero, List.getElem?_cons_succ] at y0 y1 y2 z0 z1 z2
      have hj3 : J done W3 := HJ.out done wr W3 S1.out.2.2.2.2.1 (Rel.of_below hb3)
      have hw3 : W.heap.size ≤ W3.heap.size := Nat.le_trans S1.out.2.2.2.2.2 hb3.size
      have hpfx : done ++ [(t, u)] <+: zipT a b := ⟨_, (List.append_assoc _ _ _).trans S1.out.2.2.1⟩
      have HPF := Lib.hid hpfx
      obtain ⟨fn, tmps, assign, body, hy, hR⟩ := HY.out done (t, u) W3 hpfx hw3 hj3
      simp only [encZ, T.v] at hy
      rw [HK2.out.1, HK2.out.2.1] at hy
      have X3 := Lib.hid (And.intro x6 (And.intro x7 (And.intro x8 (And.intro hb3 hw3))))
      have HR := Lib.hid hR
      clear x6 x7 x8 hb3 hj3 hw3 hpfx hR
      try rw [hW3]
      clear hW3
      refine wpIn_wide.1 (?_ : Code.wpIn Fence.wide n Tryd.prog _ _ _ _)
      gi_wp2
      refine ⟨fun h => (by cases h), ?_⟩
      refine HR.out.mono ?_
      rintro e W4 ⟨hkf, (⟨rfl, hJ4, hk4⟩ | ⟨rfl, hJx4⟩)⟩
      · have X4 := Lib.hid (And.intro hkf (And.intro hJ4 hk4))
        clear hkf hJ4 hk4
        gi_wp2
        go_upto_region 5 with (fail)
        obtain ⟨x6, x7, x8, hb3, hw3⟩ := X3.out
        obtain ⟨hkf, hJ4, hk4⟩ := X4.out
        have x6' := hk4.cells _ _ _ _ x6 rfl
        have x7' := hk4.cells _ _ _ _ x7 rfl
        have x8' := hk4.cells _ _ _ _ x8 rfl
        have y2' := cell_of_row _ _ 2 _ 25 (0, 0) x6'
        have z2' := cell_of_row _ _ 2 _ 25 (0, 0) x7'
        have u0 := cell_of_row _ _ 0 _ 122 (0, 0) x8'
        have u1 := cell_of_row _ _ 1 _ 122 (0, 0) x8'
        simp only [List.getElem?_toArray, List.getElem?_cons_zero, List.getElem?_cons_succ] at y2' z2' u0 u1
        have S5' := Lib.hid (show S5 W4 w1.heap.size (.slice A3 t.kids.length c3) (.slice A4 u.kids.length c4) (.slice A5 ts.length c5) (.slice A6 us.length c6) W4.drew from S5.drew ⟨y2', z2', u0, u1⟩)
        -- what stands lies as it lay
        obtain ⟨hcut, hpre, hdn, hme, -, hwz⟩ := S1.out
        obtain ⟨ht, hu, hva, hvb⟩ := S2.out
        have hNr : N ≤ wr.heap.size := Nat.le_trans hNW hwz
        have hall : ∀ {v : Value} {l : List T}, TR N wr v l → TR N W4 v l := fun h => (h.bel (hb3.mono hNr)).kp hk4
        have hcut4 : W4.ownsRow W.heap.size 122 2 (.slice (some ⟨g, 0, none⟩) pre.length q) pre.length (flatR pre) := KpX.row (own_bel hcut hb3) hk4 rfl
        have hgl : g < W4.heap.size := by
          rcases hcut4.2 with ⟨he, _⟩ | ⟨g', c2, cur, he, _, hg', _⟩
          · cases he
          · injection he with e1 _ _
            injection e1 with e1
            injection e1 with e1 _ _
            subst e1
            exact (Array.getElem?_eq_some_iff.1 hg').1
        have hrl4 : ∀ x ∈ pre ++ fulls [(⟨va', vb', ts, us⟩ : Rw), ⟨t.kv, u.kv, t.kids, u.kids⟩], x.full ∧ x.ok N W4 := by
          intro x hx
          rcases List.mem_append.1 hx with hx | hx
          · obtain ⟨h1, h2, h3⟩ := hpre x hx
            exact ⟨h1, hall h2, hall h3⟩
          · obtain ⟨h1, h2⟩ := List.mem_filter.1 hx
            refine ⟨by simpa using h2, ?_⟩
            simp only [List.mem_cons, List.not_mem_nil, or_false] at h1
            rcases h1 with rfl | rfl
            · exact ⟨hall hva, hall hvb⟩
            · exact ⟨hall ht, hall hu⟩
        have hform : ∀ r ∈ [(⟨va', vb', ts, us⟩ : Rw), ⟨t.kv, u.kv, t.kids, u.kids⟩], r.formed := by
          intro x hx
          simp only [List.mem_cons, List.not_mem_nil, or_false] at hx
          rcases hx with rfl | rfl
          · exact ⟨_, _, _, _, HK2.out.2.2.1, HK2.out.2.2.2⟩
          · exact ⟨_, _, _, _, HK2.out.1, HK2.out.2.1⟩
        have hbA : Below W4.heap.size W4 (W4.alloc (.cells #[.slice A5 ts.length c5, .slice A6 us.length c6, .slice A3 t.kids.length c3, .slice A4 u.kids.length c4] 122)).drew := ((Below.refl _ W4).alloc (Nat.le_refl _) _).drew
        have hwith : Calls Tryd.prog 94 #[.slice (some ⟨g, 0, none⟩) pre.length q, .slice (some ⟨W4.heap.size, 0, none⟩) 2 2] (W4.alloc (.cells #[.slice A5 ts.length c5, .slice A6 us.length c6, .slice A3 t.kids.length c3, .slice A4 u.kids.length c4] 122)).drew (WithR W.heap.size (.slice (some ⟨g, 0, none⟩) pre.length q) (pre ++ fulls [⟨va', vb', ts, us⟩, ⟨t.kv, u.kv, t.kids, u.kids⟩]) (W4.alloc (.cells #[.slice A5 ts.length c5, .slice A6 us.length c6, .slice A3 t.kids.length c3, .slice A4 u.kids.length c4] 122)).drew) := by
          refine with_any (own_bel hcut4 hbA) ?_ ?_ ?_ hform ?_
          · have := hkf.size; have := hbA.size; omega
          · rw [HK2.out.1, HK2.out.2.1, HK2.out.2.2.1, HK2.out.2.2.2]; exact World.alloc_heap_new W4 _
          · simp only [Value.ownBlock]; intro e; injection e with e; omega
          · omega
        have SA := Lib.hid (show S5 W4 w1.heap.size (.slice A3 t.kids.length c3) (.slice A4 u.kids.length c4) (.slice A5 ts.length c5) (.slice A6 us.length c6) (W4.alloc (.cells #[.slice A5 ts.length c5, .slice A6 us.length c6, .slice A3 t.kids.length c3, .slice A4 u.kids.length c4] 122)).drew from S5.drew (S5.alloc ⟨y2', z2', u0, u1⟩ _))
        have hRA : Rel W.heap.size W4 (W4.alloc (.cells #[.slice A5 ts.length c5, .slice A6 us.length c6, .slice A3 t.kids.length c3, .slice A4 u.kids.length c4] 122)).drew := Rel.of_below hbA
        have HRA := Lib.hid hRA
        have hgp : g < w1.heap.size := by
          have h1 := HB1.out.size
          rcases hcut.2 with ⟨he, _⟩ | ⟨g', c2, cur, he, _, hg', _⟩
          · cases he
          · injection he with e1 _ _
            injection e1 with e1
            injection e1 with e1 _ _
            subst e1
            have := (Array.getElem?_eq_some_iff.1 hg').1
            omega
        have HGP := Lib.hid hgp
        clear hgp
        have HWT := Lib.hid hwith
        have HRL := Lib.hid hrl4
        have X5 := Lib.hid (And.intro hJ4 (And.intro hkf (And.intro hdn hme)))
        have hlq : (pre.length : Int) ≤ (q : Int) := by
          rcases hcut4.2 with ⟨he, _⟩ | ⟨g', c2, cur, he, _, _, hc, _⟩
          · cases he
          · injection he with _ _ e3; omega
        clear x6 x7 x8 hb3 hw3 hkf hJ4 hk4 x6' x7' x8' hcut hpre hdn hme hwz ht hu hva hvb hNr hall hcut4 hgl hrl4 hform hwith hbA hRA y0 y1 y2 z0 z1 z2 y2' z2' u0 u1 hy
        generalize w1.heap.size = p at *
        generalize hTs : ts.length = n5 at *
        generalize hUs : us.length = n6 at *
        generalize hTk : t.kids.length = n3 at *
        generalize hUk : u.kids.length = n4 at *
        go_region_held3 (fun w' => w'.cell? ⟨p, 2, none⟩ = some (.slice A3 n3 c3) ∧ w'.cell? ⟨p + 1, 2, none⟩ = some (.slice A4 n4 c4) ∧ w'.cell? ⟨p + 1 + 1, 0, none⟩ = some (.slice A5 n5 c5) ∧ w'.cell? ⟨p + 1 + 1, 1, none⟩ = some (.slice A6 n6 c6)) (first | exact S5'.out | exact SA.out | exact S6.out)
          (first | (go_at_call 94; refine HWT.out.mono ?_; rintro e w6 ⟨v6, rfl, hrow6, hrel6, hfr6⟩; have X6 := Lib.hid (And.intro hrow6 hrel6); have S6 := Lib.hid (S5.fr SA.out HGP.out hfr6); clear hrow6 hrel6 hfr6))
        obtain ⟨hrow6, hrel6⟩ := X6.out
        obtain ⟨hJ4, hkf, hdn, hme⟩ := X5.out
        have hrl6 := HRA.out.trans hrel6
        have hj6 := HJ.out _ W4 w6 hJ4 hrl6
        have hsz6 : W.heap.size ≤ w6.heap.size := by have h1 := hrl6.size; have h2 := hkf.size; have h3 := X3.out.2.2.2.2; omega
        have hok6 : Rl N w6 (pre ++ fulls [⟨va', vb', ts, us⟩, ⟨t.kv, u.kv, t.kids, u.kids⟩]) := by
          refine .inl fun x hx => ?_
          obtain ⟨h1, h2, h3⟩ := HRL.out x hx
          have hlow : ∀ k, k < N → w6.heap[k]? = W4.heap[k]? := fun k hk => hrl6.block k (by have h2 := hkf.size; have h3 := X3.out.2.2.2.2; omega) (.inl (by omega))
          exact ⟨h1, h2.keep hlow, h3.keep hlow⟩
        obtain ⟨A7, q7, rfl⟩ := row_form hrow6
        have R := Lib.hid (And.intro hrow6 (And.intro hok6 (And.intro hdn (And.intro hj6 (And.intro hsz6 hme)))))
        clear hrow6 hrel6 hJ4 hkf hdn hme hrl6 hj6 hsz6 hok6
        go_wp2_with fail
        go_roundg ((outS (pre ++ fulls [⟨va', vb', ts, us⟩, ⟨t.kv, u.kv, t.kids, u.kids⟩])).length)
        case measure => have := R.out.2.2.2.2.2; omega
        case rel => exact ⟨_, _, _, _, rfl, R.out.1, R.out.2.1, by rw [List.append_assoc]; exact R.out.2.2.1, R.out.2.2.2.1, R.out.2.2.2.2.1, rfl⟩
      · have X4 := Lib.hid hJx4
        clear hkf hJx4
        gi_wp2
        go_wp2_with fail
        refine bodyPost_ret (results_none rfl _ _ _) rfl ?_
        exact ⟨⟨_, rfl⟩, .inr ⟨_, HPF.out, X4.out⟩⟩
end Go.Proofs.YtnccgaanfjaimaaDoor
