/- Texts QO, QP, one behind the other. -/
import Derived.Test.YtnccgaanfjaimaaDoorJ10
import Derived.Test.YtnccgaanfjaimaaDoorJ16
import Derived.Laws.Concat
set_option linter.unusedSimpArgs false
set_option linter.unusedVariables false
namespace Go.Proofs.YtnccgaanfjaimaaDoor
open Go.ChangeShapes Go.WideShapes Go.ChangeAt Go.RowKit
set_option linter.unusedVariables false
set_option linter.unusedSimpArgs false

attribute [local go_sem] Oper.semAt_some

def z25 : Obj := .cells #[.int .i64 0, .string ⟨#[]⟩, .slice none 0 0] 25
/-- a box filled -/
def set3 (u : World) (E : Nat) (a0 a1 a2 : Value) : World := ((u.setCell ⟨E, 0, none⟩ a0).setCell ⟨E, 1, none⟩ a1).setCell ⟨E, 2, none⟩ a2
theorem set3_other {u : World} {E b : Nat} (a0 a1 a2 : Value) (h : b ≠ E) : (set3 u E a0 a1 a2).heap[b]? = u.heap[b]? := by
 unfold set3
 rw [Below.heap_setCell _ _ _ _ h, Below.heap_setCell _ _ _ _ h, Below.heap_setCell _ _ _ _ h]
theorem set3_self {u : World} {E : Nat} (a0 a1 a2 : Value) (h : u.heap[E]? = some z25) : (set3 u E a0 a1 a2).heap[E]? = some (.cells #[a0, a1, a2] 25 (0, 0)) := by
 unfold set3 World.setCell
 simp [Array.getElem?_modify, h, z25]
theorem set3_size (u : World) (E : Nat) (a0 a1 a2 : Value) : (set3 u E a0 a1 a2).heap.size = u.heap.size := by simp [set3, World.setCell]
theorem set3_below {B : Nat} {W0 u : World} {E : Nat} (h : Below B W0 u) (hE : B ≤ E) (a0 a1 a2 : Value) : Below B W0 (set3 u E a0 a1 a2) :=
 ((h.setCell (p := ⟨E, 0, none⟩) hE a0).setCell (p := ⟨E, 1, none⟩) hE a1).setCell (p := ⟨E, 2, none⟩) hE a2
/-- cells of a box of noughts -/
theorem z25_cells {u : World} {E : Nat} (h : u.heap[E]? = some z25) : (u.cell? ⟨E, 0, none⟩ = some (.int .i64 0) ∧ u.cell? ⟨E, 1, none⟩ = some (.string ⟨#[]⟩) ∧ u.cell? ⟨E, 2, none⟩ = some (.slice none 0 0)) ∧ u.frozen? ⟨E, 0, none⟩ = false ∧ u.frozen? ⟨E, 1, none⟩ = false ∧ u.frozen? ⟨E, 2, none⟩ = false := by
 have h2 : u.heap[E]? = some (.cells #[.int .i64 0, .string ⟨#[]⟩, .slice none 0 0] 25 (0, 0)) := h
 exact ⟨box3 h2, by simp [World.frozen?, h2], by simp [World.frozen?, h2], by simp [World.frozen?, h2]⟩

/-- the slice holds just the expressions of xs; all lies in blocks of the kind q -/
inductive XQ (q : Nat → Prop) (w : World) : Value → List X → Prop where
 | nil (A : Option Addr) (c : Nat) : XQ q w (.slice A 0 c) []
 | mk (g c : Nat) (ps : List (X × Value)) (hq : q g) (hc : ps.length ≤ c) (hcell : ∀ j u, (flatP ps)[j]? = some u → w.cell? ⟨g, j, none⟩ = some u) (hk : ∀ p, p ∈ ps → XQ q w p.2 p.1.kids) : XQ q w (.slice (some ⟨g, 0, none⟩) ps.length c) (ps.map Prod.fst)
theorem XQ.keep {q q' : Nat → Prop} {w w' : World} {v : Value} {xs : List X} (h : XQ q w v xs) (hw : ∀ b, q b → w'.heap[b]? = w.heap[b]?) (hq : ∀ b, q b → q' b) : XQ q' w' v xs := by
 induction h with
 | nil A c => exact .nil A c
 | mk g c ps hg hc hcell hk ih => exact .mk g c ps (hq g hg) hc (fun j u hu => (World.cell?_of_block (a := ⟨g, j, none⟩) (hw g hg)).trans (hcell j u hu)) ih
theorem XQ.xr {q : Nat → Prop} {w : World} {v : Value} {xs : List X} (h : XQ q w v xs) {B : Nat} (hB : ∀ b, q b → b < B) : XR B w v xs := by
 induction h with
 | nil A c => exact XR.nil _ _ _ _
 | mk g c ps hg hc hcell hk ih =>
  have hl : (ps.map Prod.fst).length = ps.length := by simp
  have hat : ∀ i (h : i < ps.length), w.cell? ⟨g, i * 3, none⟩ = some (.int .i64 ps[i].1.kind) ∧ w.cell? ⟨g, i * 3 + 1, none⟩ = some (.string ps[i].1.lab) ∧ w.cell? ⟨g, i * 3 + 2, none⟩ = some ps[i].2 := fun i h => by
   obtain ⟨h0, h1, h2⟩ := flatP_at ps i h
   exact ⟨hcell _ _ h0, hcell _ _ h1, hcell _ _ h2⟩
  have := XR.mk (B := B) (w := w) (some ⟨g, 0, none⟩) c (ps.map Prod.fst) ⟨g, 0, none⟩ (fun i => ((ps[i]?).map Prod.snd).getD undef) (by omega) (fun _ => ⟨rfl, hB g hg⟩)
   (fun i h => by rw [at_zero, List.getElem_map]; exact (hat i (by omega)).1) (fun i h => by rw [at_zero, List.getElem_map]; exact (hat i (by omega)).2.1)
   (fun i h => by rw [at_zero, List.getElem?_eq_getElem (by omega)]; exact (hat i (by omega)).2.2) (fun i h => by
    rw [List.getElem?_eq_getElem (by omega), List.getElem_map]
    exact ih _ (List.getElem_mem _))
  rwa [hl] at this
theorem XQ.form {q : Nat → Prop} {w : World} {v : Value} {xs : List X} (h : XQ q w v xs) : ∃ A c, v = .slice A xs.length c := by
 cases h with
 | nil A c => exact ⟨A, c, rfl⟩
 | mk g c ps hg hc hcell hk => exact ⟨some ⟨g, 0, none⟩, c, by simp⟩
theorem lit_cell {w : World} {g : Nat} {ps : List (X × Value)} {fr : Nat × Nat} (h : w.heap[g]? = some (.cells (flatP ps).toArray 25 fr)) : ∀ j u, (flatP ps)[j]? = some u → w.cell? ⟨g, j, none⟩ = some u := by
 intro j u hu
 rw [cell_of_row _ _ _ _ _ _ h]
 simpa using hu

/-- what small tells: some expression of its own, not great -/
def S33 (w : World) (e : Ending) (w' : World) : Prop := ∃ (x : X) (kv : Value), e = .returned (.agg #[.int .i64 x.kind, .string x.lab, kv]) ∧ XQ (fun b => w.heap.size < b ∧ b < w'.heap.size) w' kv x.kids ∧ x.lit ∧ Below w.heap.size w w'
theorem lit_lab (s : ByteArray) (h : s.size ≤ 100) : (labX s).lit := by
 intro p hp
 unfold labX at hp
 rw [X.parts_eq] at hp
 simp [X.kids, partsL_nil] at hp
 subst hp
 show s.size ≤ maxLen
 unfold maxLen
 omega
theorem sz_lab (s : ByteArray) : (labX s).sz = 1 := by rw [X.sz_eq]; simp [labX, X.kids, szL_nil]

set_option maxRecDepth 100000 in
set_option maxHeartbeats 4000000 in
theorem small_label (n d : Nat) (hn : n ≤ 100000) (hd : d ≤ 100) (h : d = 0 ∨ n % 8 < 2) (w : World) : Calls Tryd.prog 33 #[.int .i64 n, .int .i64 d] w (S33 w) := by
 obtain ⟨W0, hW0⟩ : ∃ W0, w.alloc (.cells #[.int .i64 0, .string ⟨#[]⟩, .slice none 0 0] 25) = W0 := ⟨_, rfl⟩
 have hb0 : Below w.heap.size w W0 := by rw [← hW0]; exact (Below.refl _ w).alloc (Nat.le_refl _) _
 have hz0 : W0.heap.size = w.heap.size + 1 := by rw [← hW0]; simp
 have hc0 : W0.heap[w.heap.size]? = some z25 := by rw [← hW0]; exact at_push _ _
 have HB0 := Lib.hid hb0
 have HZ := Lib.hid (fun W (h : Below W0.heap.size W0 W) => z25_cells ((h.block _ (by omega)).trans hc0))
 clear hb0 hz0 hc0
 have hcond : (d : Int) = 0 ∨ ((d : Int) ≠ 0 ∧ (n : Int) % 8 < 2) := by omega
 clear h
 have hpar : (n : Int) % 2 = 0 ∨ (n : Int) % 2 = 1 := by omega
 unfold S33
 rcases hcond with hd0 | ⟨hd0, hn8⟩
 ·rcases hpar with hp | hp
  ·go_enter Tryd.func33, Tryd.ntmps33
   go_upto_region 1 with (fail)
   try rw [hW0]
   go_wp2_with (go_at_call 35; refine (label_any _ _).mono ?_; rintro e w1 ⟨rfl, hg⟩; have H1 := Lib.hid (show Below W0.heap.size W0 w1 from ((Below.refl _ W0).alloc (Nat.le_refl _) _).trans (hg.below.mono (by simp))); obtain ⟨⟨d0, d1, d2⟩, f0, f1, f2⟩ := HZ.out w1 H1.out; clear hg)
   have hW : Below w.heap.size w (set3 w1 w.heap.size (.int .i64 1) (.string ⟨#[97]⟩) (.slice none 0 0)) := set3_below (HB0.out.trans (H1.out.mono HB0.out.size)) (Nat.le_refl _) _ _ _
   exact bodyPost_ret (v := .agg #[.int .i64 1, .string ⟨#[97]⟩, .slice none 0 0]) (by simp [results, Tryd.results33, go_sem, d0, d1, d2, f0, f1, f2]) rfl ⟨labX ⟨#[97]⟩, .slice none 0 0, rfl, XQ.nil _ _, lit_lab _ (by decide), hW⟩
  ·go_enter Tryd.func33, Tryd.ntmps33
   go_upto_region 1 with (fail)
   try rw [hW0]
   go_wp2_with (go_at_call 35; refine (label_any _ _).mono ?_; rintro e w1 ⟨rfl, hg⟩; have H1 := Lib.hid (show Below W0.heap.size W0 w1 from ((Below.refl _ W0).alloc (Nat.le_refl _) _).trans (hg.below.mono (by simp))); obtain ⟨⟨d0, d1, d2⟩, f0, f1, f2⟩ := HZ.out w1 H1.out; clear hg)
   have hW : Below w.heap.size w (set3 w1 w.heap.size (.int .i64 1) (.string ⟨#[98]⟩) (.slice none 0 0)) := set3_below (HB0.out.trans (H1.out.mono HB0.out.size)) (Nat.le_refl _) _ _ _
   exact bodyPost_ret (v := .agg #[.int .i64 1, .string ⟨#[98]⟩, .slice none 0 0]) (by simp [results, Tryd.results33, go_sem, d0, d1, d2, f0, f1, f2]) rfl ⟨labX ⟨#[98]⟩, .slice none 0 0, rfl, XQ.nil _ _, lit_lab _ (by decide), hW⟩
 ·have hdb : ((d : Int) == 0) = false := by simp; omega
  rcases hpar with hp | hp
  ·go_enter Tryd.func33, Tryd.ntmps33
   go_upto_region 1 with (fail)
   try rw [hW0]
   go_wp2_with (go_at_call 35; refine (label_any _ _).mono ?_; rintro e w1 ⟨rfl, hg⟩; have H1 := Lib.hid (show Below W0.heap.size W0 w1 from ((Below.refl _ W0).alloc (Nat.le_refl _) _).trans (hg.below.mono (by simp))); obtain ⟨⟨d0, d1, d2⟩, f0, f1, f2⟩ := HZ.out w1 H1.out; clear hg)
   have hW : Below w.heap.size w (set3 w1 w.heap.size (.int .i64 1) (.string ⟨#[97]⟩) (.slice none 0 0)) := set3_below (HB0.out.trans (H1.out.mono HB0.out.size)) (Nat.le_refl _) _ _ _
   exact bodyPost_ret (v := .agg #[.int .i64 1, .string ⟨#[97]⟩, .slice none 0 0]) (by simp [results, Tryd.results33, go_sem, d0, d1, d2, f0, f1, f2]) rfl ⟨labX ⟨#[97]⟩, .slice none 0 0, rfl, XQ.nil _ _, lit_lab _ (by decide), hW⟩
  ·go_enter Tryd.func33, Tryd.ntmps33
   go_upto_region 1 with (fail)
   try rw [hW0]
   go_wp2_with (go_at_call 35; refine (label_any _ _).mono ?_; rintro e w1 ⟨rfl, hg⟩; have H1 := Lib.hid (show Below W0.heap.size W0 w1 from ((Below.refl _ W0).alloc (Nat.le_refl _) _).trans (hg.below.mono (by simp))); obtain ⟨⟨d0, d1, d2⟩, f0, f1, f2⟩ := HZ.out w1 H1.out; clear hg)
   have hW : Below w.heap.size w (set3 w1 w.heap.size (.int .i64 1) (.string ⟨#[98]⟩) (.slice none 0 0)) := set3_below (HB0.out.trans (H1.out.mono HB0.out.size)) (Nat.le_refl _) _ _ _
   exact bodyPost_ret (v := .agg #[.int .i64 1, .string ⟨#[98]⟩, .slice none 0 0]) (by simp [results, Tryd.results33, go_sem, d0, d1, d2, f0, f1, f2]) rfl ⟨labX ⟨#[98]⟩, .slice none 0 0, rfl, XQ.nil _ _, lit_lab _ (by decide), hW⟩
end Go.Proofs.YtnccgaanfjaimaaDoor

namespace Go.Proofs.YtnccgaanfjaimaaDoor
open Go.ChangeShapes Go.WideShapes Go.ChangeAt Go.RowKit
set_option linter.unusedVariables false
set_option linter.unusedSimpArgs false

attribute [local go_sem] Oper.semAt_some

theorem two_q {B : Nat} {W w5 : World} {x y : X} {kx ky : Value} (hx : XQ (fun b => B < b ∧ b < W.heap.size) W kx x.kids) (hy : XQ (fun b => B < b ∧ b < W.heap.size) W ky y.kids) (hB : B < W.heap.size)
  (hg : Gr (W.alloc (.cells #[.int .i64 x.kind, .string x.lab, kx, .int .i64 y.kind, .string y.lab, ky] 25)) w5) (a0 a1 a2 : Value) : XQ (fun b => B < b ∧ b < (set3 w5 B a0 a1 a2).heap.size) (set3 w5 B a0 a1 a2) (.slice (some ⟨W.heap.size, 0, none⟩) 2 2) [x, y] := by
 have hb := hg.below
 have hz : (W.alloc (.cells #[.int .i64 x.kind, .string x.lab, kx, .int .i64 y.kind, .string y.lab, ky] 25)).heap.size = W.heap.size + 1 := by simp
 have hz2 := hb.size
 have hold : ∀ b, B < b ∧ b < W.heap.size → (set3 w5 B a0 a1 a2).heap[b]? = W.heap[b]? := fun b hq => by
  rw [set3_other _ _ _ (by omega), hb.block b (by omega), Below.heap_alloc _ _ _ hq.2]
 exact XQ.mk (q := fun b => B < b ∧ b < (set3 w5 B a0 a1 a2).heap.size) W.heap.size 2 [(x, kx), (y, ky)] ⟨hB, by rw [set3_size]; omega⟩ (by simp) (lit_cell (fr := (0, 0)) (by
  rw [set3_other _ _ _ (by omega), hb.block _ (by omega)]
  exact at_push _ _)) (fun p hp => by
  rcases List.mem_cons.1 hp with rfl | hp
  ·exact hx.keep hold (fun b hq => ⟨hq.1, by rw [set3_size]; omega⟩)
  ·rw [List.mem_singleton] at hp
   subst hp
   exact hy.keep hold (fun b hq => ⟨hq.1, by rw [set3_size]; omega⟩))
theorem four_q {B gc gd gq : Nat} {W w8 : World} {x y : X} {kx ky : Value} (hx : XQ (fun b => B < b ∧ b < W.heap.size) W kx x.kids) (hy : XQ (fun b => B < b ∧ b < W.heap.size) W ky y.kids) (hB : B < W.heap.size) (hb : Below W.heap.size W w8)
  (hc : w8.heap[gc]? = some (.cells #[.int .i64 1, .string ⟨#[99]⟩, .slice none 0 0] 25 (0, 0)) ∧ W.heap.size ≤ gc) (hd : w8.heap[gd]? = some (.cells #[.int .i64 1, .string ⟨#[100]⟩, .slice none 0 0] 25 (0, 0)) ∧ W.heap.size ≤ gd)
  (hq : w8.heap[gq]? = some (.cells #[.int .i64 x.kind, .string x.lab, kx, .int .i64 6, .string ⟨#[]⟩, .slice (some ⟨gc, 0, none⟩) 1 1, .int .i64 4, .string ⟨#[]⟩, .slice (some ⟨gd, 0, none⟩) 1 1, .int .i64 y.kind, .string y.lab, ky] 25 (0, 0)) ∧ W.heap.size ≤ gq) (a0 a1 a2 : Value) :
  XQ (fun b => B < b ∧ b < (set3 w8 B a0 a1 a2).heap.size) (set3 w8 B a0 a1 a2) (.slice (some ⟨gq, 0, none⟩) 4 4) [x, ofX 6 [labX ⟨#[99]⟩], ofX 4 [labX ⟨#[100]⟩], y] := by
 have hold : ∀ b, B < b ∧ b < W.heap.size → (set3 w8 B a0 a1 a2).heap[b]? = W.heap[b]? := fun b hq => by
  rw [set3_other _ _ _ (by omega), hb.block b (by omega)]
 have hlt : ∀ (g : Nat) (o : Obj), w8.heap[g]? = some o ∧ W.heap.size ≤ g → B < g ∧ g < (set3 w8 B a0 a1 a2).heap.size := fun g o h => ⟨by omega, by rw [set3_size]; exact (Array.getElem?_eq_some_iff.1 h.1).1⟩
 have hz := hb.size
 have hone : ∀ (g : Nat) (s : ByteArray), w8.heap[g]? = some (.cells #[.int .i64 1, .string s, .slice none 0 0] 25 (0, 0)) ∧ W.heap.size ≤ g → XQ (fun b => B < b ∧ b < (set3 w8 B a0 a1 a2).heap.size) (set3 w8 B a0 a1 a2) (.slice (some ⟨g, 0, none⟩) 1 1) [labX s] := fun g s h =>
  XQ.mk g 1 [(labX s, .slice none 0 0)] (hlt g _ h) (Nat.le_refl _) (lit_cell (fr := (0, 0)) (by rw [set3_other _ _ _ (by omega)]; exact h.1)) (fun p hp => by rw [List.mem_singleton] at hp; subst hp; exact XQ.nil _ _)
 refine XQ.mk (q := fun b => B < b ∧ b < (set3 w8 B a0 a1 a2).heap.size) gq 4 [(x, kx), (ofX 6 [labX ⟨#[99]⟩], .slice (some ⟨gc, 0, none⟩) 1 1), (ofX 4 [labX ⟨#[100]⟩], .slice (some ⟨gd, 0, none⟩) 1 1), (y, ky)] (hlt gq _ hq) (Nat.le_refl _) (lit_cell (fr := (0, 0)) (by rw [set3_other _ _ _ (by omega)]; exact hq.1)) (fun p hp => ?_)
 simp only [List.mem_cons, List.not_mem_nil, or_false] at hp
 rcases hp with rfl | rfl | rfl | rfl
 ·exact hx.keep hold (fun b hq => ⟨hq.1, by rw [set3_size]; omega⟩)
 ·exact hone gc _ hc
 ·exact hone gd _ hd
 ·exact hy.keep hold (fun b hq => ⟨hq.1, by rw [set3_size]; omega⟩)
theorem one_q {B : Nat} {W w5 : World} {x : X} {kx : Value} (hx : XQ (fun b => B < b ∧ b < W.heap.size) W kx x.kids) (hB : B < W.heap.size)
  (hg : Gr (W.alloc (.cells #[.int .i64 x.kind, .string x.lab, kx] 25)) w5) (a0 a1 a2 : Value) : XQ (fun b => B < b ∧ b < (set3 w5 B a0 a1 a2).heap.size) (set3 w5 B a0 a1 a2) (.slice (some ⟨W.heap.size, 0, none⟩) 1 1) [x] := by
 have hb := hg.below
 have hz : (W.alloc (.cells #[.int .i64 x.kind, .string x.lab, kx] 25)).heap.size = W.heap.size + 1 := by simp
 have hz2 := hb.size
 have hold : ∀ b, B < b ∧ b < W.heap.size → (set3 w5 B a0 a1 a2).heap[b]? = W.heap[b]? := fun b hq => by
  rw [set3_other _ _ _ (by omega), hb.block b (by omega), Below.heap_alloc _ _ _ hq.2]
 exact XQ.mk (q := fun b => B < b ∧ b < (set3 w5 B a0 a1 a2).heap.size) W.heap.size 1 [(x, kx)] ⟨hB, by rw [set3_size]; omega⟩ (by simp) (lit_cell (fr := (0, 0)) (by
  rw [set3_other _ _ _ (by omega), hb.block _ (by omega)]
  exact at_push _ _)) (fun p hp => by
  rw [List.mem_singleton] at hp
  subst hp
  exact hx.keep hold (fun b hq => ⟨hq.1, by rw [set3_size]; omega⟩))

set_option maxRecDepth 100000 in
set_option maxHeartbeats 8000000 in
theorem small_rest {d : Nat} (hd : d ≤ 100) (ih : ∀ (m : Nat), m ≤ 100000 → ∀ w, Calls Tryd.prog 33 #[.int .i64 m, .int .i64 d] w (S33 w)) (n : Nat) (hn : n ≤ 100000) (h : ¬ n % 8 < 2) (w : World) : Calls Tryd.prog 33 #[.int .i64 n, .int .i64 ((d : Int) + 1)] w (S33 w) := by
 have e8 : (n : Int) / 8 = ((n / 8 : Nat) : Int) := by omega
 have e64 : (n : Int) / 64 = ((n / 64 : Nat) : Int) := by omega
 have HI8 := Lib.hid (fun W => (show Calls Tryd.prog 33 #[.int .i64 ((n : Int) / 8), .int .i64 d] W (S33 W) by rw [e8]; exact ih _ (by omega) W))
 have HI64 := Lib.hid (fun W => (show Calls Tryd.prog 33 #[.int .i64 ((n : Int) / 64), .int .i64 d] W (S33 W) by rw [e64]; exact ih _ (by omega) W))
 clear ih e8 e64
 obtain ⟨W0, hW0⟩ : ∃ W0, w.alloc (.cells #[.int .i64 0, .string ⟨#[]⟩, .slice none 0 0] 25) = W0 := ⟨_, rfl⟩
 have hb0 : Below w.heap.size w W0 := by rw [← hW0]; exact (Below.refl _ w).alloc (Nat.le_refl _) _
 have hz0 : W0.heap.size = w.heap.size + 1 := by rw [← hW0]; simp
 have hc0 : W0.heap[w.heap.size]? = some z25 := by rw [← hW0]; exact at_push _ _
 have HB0 := Lib.hid hb0
 have HZ := Lib.hid (fun W (h : Below W0.heap.size W0 W) => z25_cells ((h.block _ (by omega)).trans hc0))
 have HC0 := Lib.hid hc0
 clear hb0 hz0 hc0
 have hdb : ((d : Int) + 1 == 0) = false := by simp; omega
 have hd0 : ¬ ((d : Int) + 1 = 0) := by omega
 have hn8 : ¬ (n : Int) % 8 < 2 := by omega
 unfold S33 at HI8 HI64 ⊢
 go_enter Tryd.func33, Tryd.ntmps33
 go_upto_region 1 with (fail)
 try rw [hW0]
 go_upto_region 4 with (go_at_call 33; first
  | (refine (HJ64.out _).mono ?_; rintro e w2 ⟨y, ky, rfl, hy, hyl, hb2⟩; obtain ⟨Ay, cy, rfl⟩ := hy.form; have H2 := Lib.hid (And.intro hy (And.intro hyl hb2)); clear hy hyl hb2)
  | (refine (HI8.out _).mono ?_; rintro e w1 ⟨x, kx, rfl, hx, hxl, hb1⟩; obtain ⟨Ax, cx, rfl⟩ := hx.form; have H1 := Lib.hid (And.intro hx (And.intro hxl hb1)); have HJ64 := HI64; clear hx hxl hb1))
 obtain ⟨W4, hW4⟩ : ∃ W4, ((w2.alloc (.cells #[.int .i64 x.kind, .string x.lab, .slice Ax x.kids.length cx] 25)).alloc (.cells #[.int .i64 y.kind, .string y.lab, .slice Ay y.kids.length cy] 25)) = W4 := ⟨_, rfl⟩
 rw [hW4]
 have hz4 : W4.heap.size = w2.heap.size + 2 := by rw [← hW4]; simp
 have hb24 : Below w2.heap.size w2 W4 := by rw [← hW4]; exact ((Below.refl _ w2).alloc (Nat.le_refl _) _).alloc (by simp) _
 have hc5 : W4.heap[w2.heap.size]? = some (.cells #[.int .i64 x.kind, .string x.lab, .slice Ax x.kids.length cx] 25) := by rw [← hW4, Below.heap_alloc _ _ _ (by simp)]; exact at_push _ _
 have hc6 : W4.heap[w2.heap.size + 1]? = some (.cells #[.int .i64 y.kind, .string y.lab, .slice Ay y.kids.length cy] 25) := by
  rw [← hW4]
  have := at_push (w2.alloc (.cells #[.int .i64 x.kind, .string x.lab, .slice Ax x.kids.length cx] 25)) (.cells #[.int .i64 y.kind, .string y.lab, .slice Ay y.kids.length cy] 25)
  rwa [World.size_alloc] at this
 obtain ⟨hx, hxl, hb1⟩ := H1.out
 obtain ⟨hy, hyl, hb2⟩ := H2.out
 have hs01 := hb1.size
 have hs12 := hb2.size
 have hs0 : w.heap.size < W0.heap.size := by rw [← hW0]; simp
 have hb14 : Below w1.heap.size w1 W4 := hb2.trans (hb24.mono hs12)
 have hb04 : Below W0.heap.size W0 W4 := hb1.trans (hb14.mono hs01)
 have HQX := Lib.hid (show XQ (fun b => w.heap.size < b ∧ b < W4.heap.size) W4 (.slice Ax x.kids.length cx) x.kids from hx.keep (fun b hq => hb14.block b hq.2) (fun b hq => ⟨by omega, by omega⟩))
 have HQY := Lib.hid (show XQ (fun b => w.heap.size < b ∧ b < W4.heap.size) W4 (.slice Ay y.kids.length cy) y.kids from hy.keep (fun b hq => hb24.block b hq.2) (fun b hq => ⟨by omega, by omega⟩))
 have HSZ := Lib.hid (And.intro hxl hyl)
 have HB4 := Lib.hid (fun W (h : Below W4.heap.size W4 W) => And.intro (HZ.out W (hb04.trans (h.mono hb04.size))) (And.intro (box3 ((h.block _ (by omega)).trans hc5)) (box3 ((h.block _ (by omega)).trans hc6))))
 have HBK := Lib.hid (And.intro (show w2.heap.size ≠ w.heap.size by omega) (And.intro (show w2.heap.size + 1 ≠ w.heap.size by omega) (And.intro trivial (fun W (h : Below W4.heap.size W4 W) => And.intro ((h.block _ (by omega)).trans hc5) (And.intro ((h.block _ (by omega)).trans hc6) (((hb04.trans (h.mono hb04.size)).block _ hs0).trans HC0.out))))))
 have HW4 := Lib.hid (And.intro (HB0.out.trans (hb04.mono HB0.out.size)) (show w.heap.size < W4.heap.size by omega))
 obtain ⟨-, ⟨a0, a1, a2⟩, a3, a4, a5⟩ := HB4.out W4 (Below.refl _ _)
 have hcase : (n : Int) % 8 = 2 ∨ (n : Int) % 8 = 3 ∨ (n : Int) % 8 = 4 ∨ (n : Int) % 8 = 5 ∨ (n : Int) % 8 = 6 ∨ (n : Int) % 8 = 7 := by omega
 clear H1 H2 HJ64 HI8 HI64 hx hxl hb1 hy hyl hb2 hs01 hs12 hs0 hb14 hb04 hc5 hc6 hz4 hb24 hW4 HZ HB0 HC0 hn8 h
 generalize hxk : x.kind = xk at *
 generalize hxlb : x.lab = xl at *
 generalize hyk : y.kind = yk at *
 generalize hylb : y.lab = yl at *
 have HKX := Lib.hid (And.intro hxk (And.intro hxlb (And.intro hyk hylb)))
 generalize hnx : x.kids.length = nx at *
 generalize hny : y.kids.length = ny at *
 clear hxk hxlb hyk hylb hnx hny
 rcases hcase with hc | hc | hc | hc | hc | hc
 ·go_wp2_with (go_at_call 34; refine (of_any _ _ _ _ _).mono ?_; rintro e w5 ⟨rfl, hg⟩; have H5 := Lib.hid hg; have hb5 : Below W4.heap.size W4 w5 := ((Below.refl _ W4).alloc (Nat.le_refl _) _).trans (hg.below.mono (by simp)); have HB5 := Lib.hid hb5; obtain ⟨⟨⟨d0, d1, d2⟩, f0, f1, f2⟩, -⟩ := HB4.out w5 hb5; clear hg hb5)
  have hW : Below w.heap.size w (set3 w5 w.heap.size (.int .i64 2) (.string ⟨#[]⟩) (.slice (some ⟨W4.heap.size, 0, none⟩) 2 2)) := set3_below (HW4.out.1.trans (HB5.out.mono HW4.out.1.size)) (Nat.le_refl _) _ _ _
  have hg2 := H5.out
  rw [← HKX.out.1, ← HKX.out.2.1, ← HKX.out.2.2.1, ← HKX.out.2.2.2] at hg2
  exact bodyPost_ret (v := .agg #[.int .i64 2, .string ⟨#[]⟩, .slice (some ⟨W4.heap.size, 0, none⟩) 2 2]) (by simp [results, Tryd.results33, go_sem, d0, d1, d2, f0, f1, f2]) rfl ⟨ofX 2 [x, y], _, rfl, two_q HQX.out HQY.out HW4.out.2 hg2 _ _ _, lit_of (fun z hz => by
   rcases List.mem_cons.1 hz with rfl | hz
   ·exact HSZ.out.1
   ·rw [List.mem_singleton] at hz; subst hz; exact HSZ.out.2), hW⟩
 ·go_upto_region 8 with (fail)
  clear a0 a1 a2 a3 a4 a5
  obtain ⟨P5, hP5⟩ : ∃ z, w2.heap.size = z := ⟨_, rfl⟩
  obtain ⟨P6, hP6⟩ : ∃ z, P5 + 1 = z := ⟨_, rfl⟩
  rw [hP5, hP6] at HBK ⊢
  clear hP5 hP6 HB4
  have HB4b := Lib.hid (fun W (h : Below W4.heap.size W4 W) => And.intro (box3 (HBK.out.2.2.2 W h).1) (box3 (HBK.out.2.2.2 W h).2.1))
  obtain ⟨u0, hu0⟩ : ∃ z, W4.drew = z := ⟨_, rfl⟩
  have G0 := Lib.hid (show Below W4.heap.size W4 u0 by rw [← hu0]; exact (Below.refl _ _).drew)
  refine wp_region_noPanic ?_
  refine wp_region_held_drew (S := fun W => (W.cell? ⟨P5, 0, none⟩ = some (.int .i64 xk) ∧ W.cell? ⟨P5, 1, none⟩ = some (.string xl) ∧ W.cell? ⟨P5, 2, none⟩ = some (.slice Ax nx cx)) ∧ (W.cell? ⟨P6, 0, none⟩ = some (.int .i64 yk) ∧ W.cell? ⟨P6, 1, none⟩ = some (.string yl) ∧ W.cell? ⟨P6, 2, none⟩ = some (.slice Ay ny cy))) (by kernel_rfl) (by rw [hu0]; exact HB4b.out _ G0.out) (fun hHeld => ?_)
  clear hHeld
  rw [hu0]
  clear hu0
  refine tkI (i := 0) (v := .agg #[.int .i64 xk, .string xl, .slice Ax nx cx]) rfl ⟨by rfl, ?_⟩ (HB4b.out _ G0.out) ?_
  ·intro ww hSw
   obtain ⟨⟨a0, a1, a2⟩, a3, a4, a5⟩ := hSw
   go_simp
  try simp only [Act.put, z1, z2, z3, z4, z5, z6]
  refine tkI (i := 7) (v := .agg #[.int .i64 yk, .string yl, .slice Ay ny cy]) rfl ⟨by rfl, ?_⟩ (HB4b.out _ G0.out) ?_
  ·intro ww hSw
   obtain ⟨⟨a0, a1, a2⟩, a3, a4, a5⟩ := hSw
   go_simp
  try simp only [Act.put, z1, z2, z3, z4, z5, z6]
  refine wpAnyH_ready (rs := [1]) (by kernel_rfl) (by simp) ?_
  refine AllReadyH.cons rfl (fun k_ hK => ?_) AllReadyH.nil
  go_simp
  refine (label_any _ _).mono ?_
  rintro e u1 ⟨rfl, hg⟩
  have G1 := Lib.hid (G0.out.trans (hg.below.mono G0.out.size))
  clear hg
  refine hK.out _ _ (HB4b.out _ G1.out) (fun _ => ?_)
  clear hK
  try simp only [Act.put, z1, z2, z3, z4, z5, z6]
  refine wpAnyH_ready (rs := [2]) (by kernel_rfl) (by simp) ?_
  refine AllReadyH.cons rfl (fun k_ hK => ?_) AllReadyH.nil
  go_simp
  have hq := (Below.refl _ u1).alloc (Nat.le_refl _) (.cells #[.int .i64 1, .string ⟨#[99]⟩, .slice none 0 0] 25)
  have hp := at_push u1 (.cells #[.int .i64 1, .string ⟨#[99]⟩, .slice none 0 0] 25)
  have hgt : W4.heap.size ≤ u1.heap.size := G1.out.size
  refine hK.out _ _ (HB4b.out _ (G1.out.trans (hq.mono G1.out.size))) (fun _ => ?_)
  clear hK
  try simp only [Act.put, z1, z2, z3, z4, z5, z6]
  obtain ⟨gc, hgg⟩ : ∃ z, u1.heap.size = z := ⟨_, rfl⟩
  obtain ⟨u2, huu⟩ : ∃ z, u1.alloc (.cells #[.int .i64 1, .string ⟨#[99]⟩, .slice none 0 0] 25) = z := ⟨_, rfl⟩
  rw [huu] at hq hp ⊢
  have G2 := Lib.hid (G1.out.trans (hq.mono G1.out.size))
  rw [hgg] at hp hgt ⊢
  have FC := Lib.hid (And.intro hp hgt)
  clear hq hp huu hgg hgt
  refine wpAnyH_ready (rs := [3]) (by kernel_rfl) (by simp) ?_
  refine AllReadyH.cons rfl (fun k_ hK => ?_) AllReadyH.nil
  go_simp
  refine (of_any _ _ _ _ _).mono ?_
  rintro e u3 ⟨rfl, hg⟩
  have G3 := Lib.hid (G2.out.trans (hg.below.mono G2.out.size))
  have FC := Lib.hid (And.intro (((hg.below).block _ (Array.getElem?_eq_some_iff.1 FC.out.1).1).trans FC.out.1) FC.out.2)
  clear hg
  refine hK.out _ _ (HB4b.out _ G3.out) (fun _ => ?_)
  clear hK
  try simp only [Act.put, z1, z2, z3, z4, z5, z6]
  refine wpAnyH_ready (rs := [4]) (by kernel_rfl) (by simp) ?_
  refine AllReadyH.cons rfl (fun k_ hK => ?_) AllReadyH.nil
  go_simp
  refine (label_any _ _).mono ?_
  rintro e u4 ⟨rfl, hg⟩
  have G4 := Lib.hid (G3.out.trans (hg.below.mono G3.out.size))
  have FC := Lib.hid (And.intro (((hg.below).block _ (Array.getElem?_eq_some_iff.1 FC.out.1).1).trans FC.out.1) FC.out.2)
  clear hg
  refine hK.out _ _ (HB4b.out _ G4.out) (fun _ => ?_)
  clear hK
  try simp only [Act.put, z1, z2, z3, z4, z5, z6]
  refine wpAnyH_ready (rs := [5]) (by kernel_rfl) (by simp) ?_
  refine AllReadyH.cons rfl (fun k_ hK => ?_) AllReadyH.nil
  go_simp
  have hq := (Below.refl _ u4).alloc (Nat.le_refl _) (.cells #[.int .i64 1, .string ⟨#[100]⟩, .slice none 0 0] 25)
  have hp := at_push u4 (.cells #[.int .i64 1, .string ⟨#[100]⟩, .slice none 0 0] 25)
  have hgt : W4.heap.size ≤ u4.heap.size := G4.out.size
  refine hK.out _ _ (HB4b.out _ (G4.out.trans (hq.mono G4.out.size))) (fun _ => ?_)
  clear hK
  try simp only [Act.put, z1, z2, z3, z4, z5, z6]
  obtain ⟨gd, hgg⟩ : ∃ z, u4.heap.size = z := ⟨_, rfl⟩
  obtain ⟨u5, huu⟩ : ∃ z, u4.alloc (.cells #[.int .i64 1, .string ⟨#[100]⟩, .slice none 0 0] 25) = z := ⟨_, rfl⟩
  rw [huu] at hq hp ⊢
  have G5 := Lib.hid (G4.out.trans (hq.mono G4.out.size))
  have FC := Lib.hid (And.intro (((hq).block _ (Array.getElem?_eq_some_iff.1 FC.out.1).1).trans FC.out.1) FC.out.2)
  rw [hgg] at hp hgt ⊢
  have FD := Lib.hid (And.intro hp hgt)
  clear hq hp huu hgg hgt
  refine wpAnyH_ready (rs := [6]) (by kernel_rfl) (by simp) ?_
  refine AllReadyH.cons rfl (fun k_ hK => ?_) AllReadyH.nil
  go_simp
  refine (of_any _ _ _ _ _).mono ?_
  rintro e u6 ⟨rfl, hg⟩
  have G6 := Lib.hid (G5.out.trans (hg.below.mono G5.out.size))
  have FC := Lib.hid (And.intro (((hg.below).block _ (Array.getElem?_eq_some_iff.1 FC.out.1).1).trans FC.out.1) FC.out.2)
  have FD := Lib.hid (And.intro (((hg.below).block _ (Array.getElem?_eq_some_iff.1 FD.out.1).1).trans FD.out.1) FD.out.2)
  clear hg
  refine hK.out _ _ (HB4b.out _ G6.out) (fun _ => ?_)
  clear hK
  try simp only [Act.put, z1, z2, z3, z4, z5, z6]
  refine wpAnyH_ready (rs := [8]) (by kernel_rfl) (by simp) ?_
  refine AllReadyH.cons rfl (fun k_ hK => ?_) AllReadyH.nil
  go_simp
  have hq := (Below.refl _ u6).alloc (Nat.le_refl _) (.cells #[.int .i64 xk, .string xl, .slice Ax nx cx, .int .i64 6, .string ⟨#[]⟩, .slice (some ⟨gc, 0, none⟩) 1 1, .int .i64 4, .string ⟨#[]⟩, .slice (some ⟨gd, 0, none⟩) 1 1, .int .i64 yk, .string yl, .slice Ay ny cy] 25)
  have hp := at_push u6 (.cells #[.int .i64 xk, .string xl, .slice Ax nx cx, .int .i64 6, .string ⟨#[]⟩, .slice (some ⟨gc, 0, none⟩) 1 1, .int .i64 4, .string ⟨#[]⟩, .slice (some ⟨gd, 0, none⟩) 1 1, .int .i64 yk, .string yl, .slice Ay ny cy] 25)
  have hgt : W4.heap.size ≤ u6.heap.size := G6.out.size
  refine hK.out _ _ (HB4b.out _ (G6.out.trans (hq.mono G6.out.size))) (fun _ => ?_)
  clear hK
  try simp only [Act.put, z1, z2, z3, z4, z5, z6]
  obtain ⟨gq, hgg⟩ : ∃ z, u6.heap.size = z := ⟨_, rfl⟩
  obtain ⟨u7, huu⟩ : ∃ z, u6.alloc (.cells #[.int .i64 xk, .string xl, .slice Ax nx cx, .int .i64 6, .string ⟨#[]⟩, .slice (some ⟨gc, 0, none⟩) 1 1, .int .i64 4, .string ⟨#[]⟩, .slice (some ⟨gd, 0, none⟩) 1 1, .int .i64 yk, .string yl, .slice Ay ny cy] 25) = z := ⟨_, rfl⟩
  rw [huu] at hq hp ⊢
  have G7 := Lib.hid (G6.out.trans (hq.mono G6.out.size))
  have FC := Lib.hid (And.intro (((hq).block _ (Array.getElem?_eq_some_iff.1 FC.out.1).1).trans FC.out.1) FC.out.2)
  have FD := Lib.hid (And.intro (((hq).block _ (Array.getElem?_eq_some_iff.1 FD.out.1).1).trans FD.out.1) FD.out.2)
  rw [hgg] at hp hgt ⊢
  have FQ := Lib.hid (And.intro hp hgt)
  clear hq hp huu hgg hgt
  refine wpAnyH_ready (rs := [9]) (by kernel_rfl) (by simp) ?_
  refine AllReadyH.cons rfl (fun k_ hK => ?_) AllReadyH.nil
  go_simp
  refine (of_any _ _ _ _ _).mono ?_
  rintro e u8 ⟨rfl, hg⟩
  have G8 := Lib.hid (G7.out.trans (hg.below.mono G7.out.size))
  have FC := Lib.hid (And.intro (((hg.below).block _ (Array.getElem?_eq_some_iff.1 FC.out.1).1).trans FC.out.1) FC.out.2)
  have FD := Lib.hid (And.intro (((hg.below).block _ (Array.getElem?_eq_some_iff.1 FD.out.1).1).trans FD.out.1) FD.out.2)
  have FQ := Lib.hid (And.intro (((hg.below).block _ (Array.getElem?_eq_some_iff.1 FQ.out.1).1).trans FQ.out.1) FQ.out.2)
  clear hg
  refine hK.out _ _ (HB4b.out _ G8.out) (fun _ => ?_)
  clear hK
  try simp only [Act.put, z1, z2, z3, z4, z5, z6]
  refine wpAnyH_ready (rs := [10]) (by kernel_rfl) (by simp) ?_
  refine AllReadyH.cons rfl (fun k_ hK => ?_) AllReadyH.nil
  have hb8 := HBK.out.2.2.2 _ G8.out
  obtain ⟨⟨d0, d1, d2⟩, f0, f1, f2⟩ := z25_cells hb8.2.2
  go_simp
  clear d0 d1 d2 f0 f1 f2
  have s5 := (set3_other (u := u8) (E := w.heap.size) (.int .i64 2) (.string ⟨#[]⟩) (.slice (some ⟨gq, 0, none⟩) 4 4) HBK.out.1).trans hb8.1
  have s6 := (set3_other (u := u8) (E := w.heap.size) (.int .i64 2) (.string ⟨#[]⟩) (.slice (some ⟨gq, 0, none⟩) 4 4) HBK.out.2.1).trans hb8.2.1
  unfold set3 at s5 s6
  refine hK.out _ _ ⟨box3 s5, box3 s6⟩ (fun _ => ?_)
  clear hK s5 s6
  try simp only [Act.put, z1, z2, z3, z4, z5, z6]
  refine ⟨by kernel_rfl, ?_⟩
  refine NoPanic.normal ?_
  have hW : Below w.heap.size w (set3 u8 w.heap.size (.int .i64 2) (.string ⟨#[]⟩) (.slice (some ⟨gq, 0, none⟩) 4 4)) := set3_below (HW4.out.1.trans (G8.out.mono HW4.out.1.size)) (Nat.le_refl _) _ _ _
  have hd := box3 (set3_self (.int .i64 2) (.string ⟨#[]⟩) (.slice (some ⟨gq, 0, none⟩) 4 4) hb8.2.2)
  have HWW := Lib.hid hW
  unfold set3 at hd
  obtain ⟨e0, e1, e2⟩ := hd
  clear hW hb8
  go_wp2_with fail
  refine bodyPost_ret (v := .agg #[.int .i64 2, .string ⟨#[]⟩, .slice (some ⟨gq, 0, none⟩) 4 4]) (by simp [results, Tryd.results33, go_sem, e0, e1, e2]) rfl ⟨ofX 2 [x, ofX 6 [labX ⟨#[99]⟩], ofX 4 [labX ⟨#[100]⟩], y], _, rfl, ?_, lit_of (fun z hz => ?_), HWW.out⟩
  ·have q4 := FQ.out
   rw [← HKX.out.1, ← HKX.out.2.1, ← HKX.out.2.2.1, ← HKX.out.2.2.2] at q4
   exact four_q HQX.out HQY.out HW4.out.2 G8.out FC.out FD.out q4 _ _ _
  ·simp only [List.mem_cons, List.not_mem_nil, or_false] at hz
   rcases hz with rfl | rfl | rfl | rfl
   ·exact HSZ.out.1
   ·exact lit_of (fun z hz => by rw [List.mem_singleton] at hz; subst hz; exact lit_lab _ (by decide))
   ·exact lit_of (fun z hz => by rw [List.mem_singleton] at hz; subst hz; exact lit_lab _ (by decide))
   ·exact HSZ.out.2
 ·go_wp2_with (go_at_call 34; refine (of_any _ _ _ _ _).mono ?_; rintro e w5 ⟨rfl, hg⟩; have H5 := Lib.hid hg; have hb5 : Below W4.heap.size W4 w5 := ((Below.refl _ W4).alloc (Nat.le_refl _) _).trans (hg.below.mono (by simp)); have HB5 := Lib.hid hb5; obtain ⟨⟨⟨d0, d1, d2⟩, f0, f1, f2⟩, -⟩ := HB4.out w5 hb5; clear hg hb5)
  have hW : Below w.heap.size w (set3 w5 w.heap.size (.int .i64 3) (.string ⟨#[]⟩) (.slice (some ⟨W4.heap.size, 0, none⟩) 2 2)) := set3_below (HW4.out.1.trans (HB5.out.mono HW4.out.1.size)) (Nat.le_refl _) _ _ _
  have hg2 := H5.out
  rw [← HKX.out.1, ← HKX.out.2.1, ← HKX.out.2.2.1, ← HKX.out.2.2.2] at hg2
  exact bodyPost_ret (v := .agg #[.int .i64 3, .string ⟨#[]⟩, .slice (some ⟨W4.heap.size, 0, none⟩) 2 2]) (by simp [results, Tryd.results33, go_sem, d0, d1, d2, f0, f1, f2]) rfl ⟨ofX 3 [x, y], _, rfl, two_q HQX.out HQY.out HW4.out.2 hg2 _ _ _, lit_of (fun z hz => by
   rcases List.mem_cons.1 hz with rfl | hz
   ·exact HSZ.out.1
   ·rw [List.mem_singleton] at hz; subst hz; exact HSZ.out.2), hW⟩
 ·go_wp2_with (go_at_call 34; refine (of_any _ _ _ _ _).mono ?_; rintro e w5 ⟨rfl, hg⟩; have H5 := Lib.hid hg; have hb5 : Below W4.heap.size W4 w5 := ((Below.refl _ W4).alloc (Nat.le_refl _) _).trans (hg.below.mono (by simp)); have HB5 := Lib.hid hb5; obtain ⟨⟨⟨d0, d1, d2⟩, f0, f1, f2⟩, -⟩ := HB4.out w5 hb5; clear hg hb5)
  have hW : Below w.heap.size w (set3 w5 w.heap.size (.int .i64 4) (.string ⟨#[]⟩) (.slice (some ⟨W4.heap.size, 0, none⟩) 1 1)) := set3_below (HW4.out.1.trans (HB5.out.mono HW4.out.1.size)) (Nat.le_refl _) _ _ _
  have hg2 := H5.out
  rw [← HKX.out.1, ← HKX.out.2.1] at hg2
  exact bodyPost_ret (v := .agg #[.int .i64 4, .string ⟨#[]⟩, .slice (some ⟨W4.heap.size, 0, none⟩) 1 1]) (by simp [results, Tryd.results33, go_sem, d0, d1, d2, f0, f1, f2]) rfl ⟨ofX 4 [x], _, rfl, one_q HQX.out HW4.out.2 hg2 _ _ _, lit_of (fun z hz => by rw [List.mem_singleton] at hz; subst hz; exact HSZ.out.1), hW⟩
 ·go_wp2_with (go_at_call 34; refine (of_any _ _ _ _ _).mono ?_; rintro e w5 ⟨rfl, hg⟩; have H5 := Lib.hid hg; have hb5 : Below W4.heap.size W4 w5 := ((Below.refl _ W4).alloc (Nat.le_refl _) _).trans (hg.below.mono (by simp)); have HB5 := Lib.hid hb5; obtain ⟨⟨⟨d0, d1, d2⟩, f0, f1, f2⟩, -⟩ := HB4.out w5 hb5; clear hg hb5)
  have hW : Below w.heap.size w (set3 w5 w.heap.size (.int .i64 5) (.string ⟨#[]⟩) (.slice (some ⟨W4.heap.size, 0, none⟩) 1 1)) := set3_below (HW4.out.1.trans (HB5.out.mono HW4.out.1.size)) (Nat.le_refl _) _ _ _
  have hg2 := H5.out
  rw [← HKX.out.1, ← HKX.out.2.1] at hg2
  exact bodyPost_ret (v := .agg #[.int .i64 5, .string ⟨#[]⟩, .slice (some ⟨W4.heap.size, 0, none⟩) 1 1]) (by simp [results, Tryd.results33, go_sem, d0, d1, d2, f0, f1, f2]) rfl ⟨ofX 5 [x], _, rfl, one_q HQX.out HW4.out.2 hg2 _ _ _, lit_of (fun z hz => by rw [List.mem_singleton] at hz; subst hz; exact HSZ.out.1), hW⟩
 ·go_wp2_with (go_at_call 34; refine (of_any _ _ _ _ _).mono ?_; rintro e w5 ⟨rfl, hg⟩; have H5 := Lib.hid hg; have hb5 : Below W4.heap.size W4 w5 := ((Below.refl _ W4).alloc (Nat.le_refl _) _).trans (hg.below.mono (by simp)); have HB5 := Lib.hid hb5; obtain ⟨⟨⟨d0, d1, d2⟩, f0, f1, f2⟩, -⟩ := HB4.out w5 hb5; clear hg hb5)
  have hW : Below w.heap.size w (set3 w5 w.heap.size (.int .i64 6) (.string ⟨#[]⟩) (.slice (some ⟨W4.heap.size, 0, none⟩) 1 1)) := set3_below (HW4.out.1.trans (HB5.out.mono HW4.out.1.size)) (Nat.le_refl _) _ _ _
  have hg2 := H5.out
  rw [← HKX.out.1, ← HKX.out.2.1] at hg2
  exact bodyPost_ret (v := .agg #[.int .i64 6, .string ⟨#[]⟩, .slice (some ⟨W4.heap.size, 0, none⟩) 1 1]) (by simp [results, Tryd.results33, go_sem, d0, d1, d2, f0, f1, f2]) rfl ⟨ofX 6 [x], _, rfl, one_q HQX.out HW4.out.2 hg2 _ _ _, lit_of (fun z hz => by rw [List.mem_singleton] at hz; subst hz; exact HSZ.out.1), hW⟩

theorem small33_any : ∀ (d : Nat), d ≤ 3 → ∀ (n : Nat), n ≤ 100000 → ∀ w, Calls Tryd.prog 33 #[.int .i64 n, .int .i64 d] w (S33 w)
 | 0, _, n, hn, w => small_label n 0 hn (by omega) (.inl rfl) w
 | d + 1, hd, n, hn, w => by
  by_cases h : n % 8 < 2
  ·exact small_label n (d + 1) hn (by omega) (.inr h) w
  ·have := small_rest (d := d) (by omega) (fun m hm w => small33_any d (by omega) m hm w) n hn h w
   have e : ((d + 1 : Nat) : Int) = (d : Int) + 1 := by omega
   rw [e]
   exact this
end Go.Proofs.YtnccgaanfjaimaaDoor

namespace Go.Proofs.YtnccgaanfjaimaaDoor
open Go.ChangeShapes Go.WideShapes Go.ChangeAt Go.RowKit
set_option linter.unusedVariables false
set_option linter.unusedSimpArgs false

theorem heap_keep {w w' : World} {b : Nat} {o : Obj} (hb : Below w.heap.size w w') (h : w.heap[b]? = some o) : w'.heap[b]? = some o := (hb.block b (Array.getElem?_eq_some_iff.1 h).1).trans h
theorem heap_lt {w : World} {b : Nat} {o : Obj} (h : w.heap[b]? = some o) : b < w.heap.size := (Array.getElem?_eq_some_iff.1 h).1
/-- a row of its own, its kids of the kind q: as a row of expressions -/
theorem own_XR {q : Nat → Prop} {w : World} {B : Nat} {u : Value} {ps : List (X × Value)} (hown : w.ownsRow B 25 3 u ps.length (flatP ps)) (hk : ∀ p, p ∈ ps → XQ q w p.2 p.1.kids) (hq : ∀ b, q b → b < w.heap.size) : XR w.heap.size w u (ps.map Prod.fst) := by
 match ps, hown, hk with
 | [], hown, _ =>
  obtain ⟨A, c, rfl⟩ := row_form hown
  exact XR.nil _ _ _ _
 | p :: ps, hown, hk =>
  obtain ⟨g, cap, e, h1, _, _, h2⟩ := own_succ2 (k := ps.length) hown
  subst e
  exact (XQ.mk (q := fun b => b < w.heap.size) g cap (p :: ps) h2 (by simpa using h1) (fun j u hu => by
   have := hown.cells (g := g) rfl j u hu
   rwa [at_zero] at this) (fun r hr => (hk r hr).keep (fun _ _ => rfl) hq)).xr (fun b hb => hb)
theorem own_XQ {q : Nat → Prop} {w : World} {B : Nat} {u : Value} {ps : List (X × Value)} (hown : w.ownsRow B 25 3 u ps.length (flatP ps)) (hk : ∀ p, p ∈ ps → XQ q w p.2 p.1.kids) (hq : ∀ b, q b → b < w.heap.size) : XQ (fun b => b < w.heap.size) w u (ps.map Prod.fst) := by
 match ps, hown, hk with
 | [], hown, _ =>
  obtain ⟨A, c, rfl⟩ := row_form hown
  exact XQ.nil _ _
 | p :: ps, hown, hk =>
  obtain ⟨g, cap, e, h1, _, _, h2⟩ := own_succ2 (k := ps.length) hown
  subst e
  exact XQ.mk (q := fun b => b < w.heap.size) g cap (p :: ps) h2 (by simpa using h1) (fun j u hu => by
   have := hown.cells (g := g) rfl j u hu
   rwa [at_zero] at this) (fun r hr => (hk r hr).keep (fun _ _ => rfl) hq)
end Go.Proofs.YtnccgaanfjaimaaDoor

namespace Go.Proofs.YtnccgaanfjaimaaDoor
open Go.ChangeShapes Go.WideShapes Go.ChangeAt Go.RowKit
set_option linter.unusedVariables false
set_option linter.unusedSimpArgs false

attribute [local go_sem] Oper.semAt_some

def zNf : Obj := .cells #[.pointer none, .slice none 0 0, .int .u32 0, .int .u32 0, .int .u32 0, .int .u32 0, .int .u32 0, .int .u32 0, .int .u32 0, .int .u32 0, .int .u32 0, .int .u32 0, .int .u32 0, .int .u32 0, .int .u32 0, .int .u32 0, .int .u32 0, .int .u32 0, .int .u32 0, .int .u32 0, .int .u32 0, .int .u32 0, .int .u32 0, .int .u32 0, .int .u32 0, .int .u32 0, .int .u32 0, .int .u32 0, .bool false] 72
/-- no Nfa: none at all, or one that New did not answer -/
def NoN (w : World) (v : Value) : Prop := v = .pointer none ∨ ∃ N, v = .pointer (some ⟨N, 0, none⟩) ∧ w.heap[N]? = some zNf
theorem none29 (w : World) (a : Addr) : (binOp .eql 29 (.pointer none) (.pointer (some a))).run Tryd.prog w = .ok (.bool false) w := by
 have h : ∀ d : Nat, (Op.equalIn (d + 1) 29 (.pointer none) (.pointer (some a))).run Tryd.prog w = .ok false w := fun d => by
  simp [Op.equalIn, run_underlying Tryd.underlying29]
 simp only [binOp]
 simp [Op.equal, Op.maxDepth, h 9999]

set_option maxRecDepth 100000 in
theorem made_no {w : World} {v : Value} (h : NoN w v) : Calls Tryd.prog 52 #[v] w fun e w' => e = .returned (.bool false) ∧ w = w' := by
 rcases h with rfl | ⟨N, rfl, h⟩
 ·go_enter Tryd.func52, Tryd.ntmps52
  go_wp2_with fail
  go_ret
  exact ⟨rfl, rfl⟩
 ·have c0 : w.cell? ⟨N, 0, none⟩ = some (.pointer none) := cell_of_row _ _ 0 _ 72 (0, 0) h
  have hs := fun W => none29 W ⟨N, 0, none⟩
  clear h
  go_enter Tryd.func52, Tryd.ntmps52
  go_wp2_with fail
  go_ret
  exact ⟨rfl, rfl⟩
theorem len_no {w : World} {v : Value} (h : NoN w v) : Calls Tryd.prog 16 #[v] w fun e w' => e = .returned (.int .i64 0) ∧ w = w' := by
 have HM := Lib.hid (made_no h)
 clear h
 go_enter Tryd.func16, Tryd.ntmps16
 go_wp2_with (go_at_call 52; refine HM.out.mono ?_; rintro e w1 ⟨rfl, rfl⟩)
 go_ret
 exact ⟨rfl, rfl⟩
theorem has_no {w : World} {v : Value} (h : NoN w v) : Calls Tryd.prog 55 #[v, .int .i64 1] w fun e w' => e = .returned (.bool false) ∧ w = w' := by
 have HM := Lib.hid (len_no h)
 clear h
 go_enter Tryd.func55, Tryd.ntmps55
 go_wp2_with (go_at_call 16; refine HM.out.mono ?_; rintro e w1 ⟨rfl, rfl⟩)
 go_ret
 exact ⟨rfl, rfl⟩
theorem label_no {w : World} {v : Value} (h : NoN w v) : Calls Tryd.prog 18 #[v, .int .i64 1] w fun e w' => e = .returned (.string ⟨#[]⟩) ∧ w = w' := by
 have HM := Lib.hid (has_no h)
 clear h
 go_enter Tryd.func18, Tryd.ntmps18
 go_wp2_with (go_at_call 55; refine HM.out.mono ?_; rintro e w1 ⟨rfl, rfl⟩)
 go_ret
 exact ⟨rfl, rfl⟩
theorem first_no {w : World} {v : Value} (h : NoN w v) : Calls Tryd.prog 14 #[v] w fun e w' => e = .returned (.slice none 0 0) ∧ w = w' := by
 have HM := Lib.hid (made_no h)
 clear h
 go_enter Tryd.func14, Tryd.ntmps14
 go_wp2_with (go_at_call 52; refine HM.out.mono ?_; rintro e w1 ⟨rfl, rfl⟩)
 go_ret
 exact ⟨rfl, rfl⟩
theorem last_no {w : World} {v : Value} (h : NoN w v) : Calls Tryd.prog 24 #[v] w fun e w' => e = .returned (.slice none 0 0) ∧ w = w' := by
 have HM := Lib.hid (made_no h)
 clear h
 go_enter Tryd.func24, Tryd.ntmps24
 go_wp2_with (go_at_call 52; refine HM.out.mono ?_; rintro e w1 ⟨rfl, rfl⟩)
 go_ret
 exact ⟨rfl, rfl⟩
theorem follow_no {w : World} {v : Value} (h : NoN w v) : Calls Tryd.prog 21 #[v, .int .i64 1] w fun e w' => e = .returned (.slice none 0 0) ∧ w = w' := by
 have HM := Lib.hid (has_no h)
 clear h
 go_enter Tryd.func21, Tryd.ntmps21
 go_wp2_with (go_at_call 55; refine HM.out.mono ?_; rintro e w1 ⟨rfl, rfl⟩)
 go_ret
 exact ⟨rfl, rfl⟩
theorem step_no {w : World} {v : Value} (h : NoN w v) (u : Value) (s : ByteArray) : Calls Tryd.prog 27 #[v, u, .string s] w fun e w' => e = .returned (.slice none 0 0) ∧ w = w' := by
 have HM := Lib.hid (made_no h)
 clear h
 go_enter Tryd.func27, Tryd.ntmps27
 go_wp2_with (go_at_call 52; refine HM.out.mono ?_; rintro e w1 ⟨rfl, rfl⟩)
 go_ret
 exact ⟨rfl, rfl⟩
theorem empty_no {w : World} {v : Value} (h : NoN w v) : Calls Tryd.prog 17 #[v] w fun e w' => e = .returned (.bool false) ∧ w = w' := by
 have HM := Lib.hid (made_no h)
 clear h
 go_enter Tryd.func17, Tryd.ntmps17
 go_wp2_with (go_at_call 52; refine HM.out.mono ?_; rintro e w1 ⟨rfl, rfl⟩)
 go_ret
 exact ⟨rfl, rfl⟩
theorem takes_no {w : World} {v : Value} (h : NoN w v) (u : Value) : Calls Tryd.prog 29 #[v, u] w fun e w' => e = .returned (.bool false) ∧ w = w' := by
 have HM := Lib.hid (made_no h)
 clear h
 go_enter Tryd.func29, Tryd.ntmps29
 go_wp2_with (go_at_call 52; refine HM.out.mono ?_; rintro e w1 ⟨rfl, rfl⟩)
 go_ret
 exact ⟨rfl, rfl⟩

set_option maxRecDepth 100000 in
set_option maxHeartbeats 1000000 in
theorem none36_any (w : World) : Calls Tryd.prog 36 #[] w fun e w' => e = .returned (.bool true) ∧ Below w.heap.size w w' := by
 have N0 := Lib.hid (fun W : World => show NoN W (.pointer none) from .inl rfl)
 obtain ⟨W1, hW1⟩ : ∃ z, w.alloc zNf = z := ⟨_, rfl⟩
 have hb1 : Below w.heap.size w W1 := by rw [← hW1]; exact (Below.refl _ w).alloc (Nat.le_refl _) _
 have hz : W1.heap[w.heap.size]? = some zNf := by rw [← hW1]; exact at_push _ _
 have hlt : w.heap.size < W1.heap.size := (Array.getElem?_eq_some_iff.1 hz).1
 have NZ := Lib.hid (fun W (h : Below W1.heap.size W1 W) => show NoN W (.pointer (some ⟨w.heap.size, 0, none⟩)) from .inr ⟨_, rfl, (h.block _ hlt).trans hz⟩)
 have HB := Lib.hid hb1
 obtain ⟨g, hg⟩ : ∃ z, w.heap.size = z := ⟨_, rfl⟩
 unfold zNf at hW1
 clear hz hlt hb1
 have hS : ∀ W : World, (Op.stringOp .add ⟨#[]⟩ ⟨#[]⟩).run Tryd.prog W = .ok (.string ⟨#[]⟩) W := fun W => by have h := run_string_add_lists (P := Tryd.prog) W [] [] (by simp) (by simp); simpa using h
 have hE : ((⟨#[]⟩ : ByteArray).toList == (⟨#[]⟩ : ByteArray).toList) = true := by simp
 have hE2 : (⟨#[]⟩ : ByteArray).toList.isEmpty = true := by rw [ByteArray.toList_eq]; rfl
 go_enter Tryd.func36, Tryd.ntmps36
 go_wp2_with fail
 rw [hg] at NZ
 clear hW1 hg
 refine (len_no (N0.out _)).mono ?_
 rintro e w1 ⟨rfl, hw⟩
 subst hw
 go_wp2_with (first
  | (go_at_call 16; refine (len_no (by with_reducible first | exact N0.out _ | exact NZ.out _ (Below.refl _ _))).mono ?_; rintro e w1 ⟨rfl, hw⟩; subst hw)
  | (go_at_call 18; refine (label_no (by with_reducible first | exact N0.out _ | exact NZ.out _ (Below.refl _ _))).mono ?_; rintro e w1 ⟨rfl, hw⟩; subst hw)
  | (go_at_call 14; refine (first_no (by with_reducible first | exact N0.out _ | exact NZ.out _ ((Below.refl _ _).alloc (Nat.le_refl _) _))).mono ?_; rintro e w1 ⟨rfl, hw⟩; subst hw)
  | (go_at_call 24; refine (last_no (by with_reducible first | exact N0.out _ | exact NZ.out _ ((Below.refl _ _).alloc (Nat.le_refl _) _))).mono ?_; rintro e w1 ⟨rfl, hw⟩; subst hw)
  | (go_at_call 21; refine (follow_no (by with_reducible first | exact N0.out _ | exact NZ.out _ ((Below.refl _ _).alloc (Nat.le_refl _) _))).mono ?_; rintro e w1 ⟨rfl, hw⟩; subst hw)
  | (go_at_call 27; refine (step_no (by with_reducible first | exact N0.out _ | exact NZ.out _ (((Below.refl _ _).alloc (Nat.le_refl _) _).alloc (by simp) _)) _ _).mono ?_; rintro e w1 ⟨rfl, hw⟩; subst hw)
  | (go_at_call 17; refine (empty_no (by with_reducible first | exact N0.out _ | exact NZ.out _ (((Below.refl _ _).alloc (Nat.le_refl _) _).alloc (by simp) _))).mono ?_; rintro e w1 ⟨rfl, hw⟩; subst hw)
  | (go_at_call 29; refine (takes_no (by with_reducible first | exact N0.out _ | exact NZ.out _ ((((Below.refl _ _).alloc (Nat.le_refl _) _).alloc (by simp) _).alloc (by simp; omega) _)) _).mono ?_; rintro e w1 ⟨rfl, hw⟩; subst hw))
 go_ret
 exact ⟨rfl, HB.out.trans ((((((Below.refl _ _).alloc (Nat.le_refl _) _).alloc (by simp) _).alloc (by simp; omega) _)).mono HB.out.size)⟩
end Go.Proofs.YtnccgaanfjaimaaDoor
