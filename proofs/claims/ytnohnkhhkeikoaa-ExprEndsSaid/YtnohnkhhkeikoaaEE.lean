/- Small expressions; rows of expressions that grow; boxes. -/
import Derived.Test.YtnohnkhhkeikoaaDA
import Derived.Test.YtnohnkhhkeikoaaKA
import Derived.Test.YtnohnkhhkeikoaaDB
import Derived.OneCell
namespace Go.Proofs.Ytnohnkhhkeikoaa
open Go.ChangeShapes Go.WideShapes Go.ChangeAt Go.RowKit
set_option linter.unusedVariables false
set_option linter.unusedSimpArgs false

attribute [local go_sem] Oper.semAt_some

/-- the slice holds just the expressions of xs; all lies in blocks of the kind q -/
inductive XQ (q : Nat → Prop) (w : World) : Value → List X → Prop where
  | nil (A : Option Addr) (c : Nat) : XQ q w (.slice A 0 c) []
  | mk (g c : Nat) (ps : List (X × Value)) (hq : q g) (hc : ps.length ≤ c) (hcell : ∀ j u, (flatP ps)[j]? = some u → w.cell? ⟨g, j, none⟩ = some u) (hk : ∀ p, p ∈ ps → XQ q w p.2 p.1.kids) : XQ q w (.slice (some ⟨g, 0, none⟩) ps.length c) (ps.map Prod.fst)
theorem XQ.keep {q q' : Nat → Prop} {w w' : World} {v : Value} {xs : List X} (h : XQ q w v xs) (hw : ∀ b, q b → w'.heap[b]? = w.heap[b]?) (hq : ∀ b, q b → q' b) : XQ q' w' v xs := by
  induction h with
  | nil A c => exact .nil A c
  | mk g c ps hg hc hcell hk ih => exact .mk g c ps (hq g hg) hc (fun j u hu => (World.cell?_of_block (a := ⟨g, j, none⟩) (hw g hg)).trans (hcell j u hu)) ih
theorem XQ.xr {q : Nat → Prop} {w : World} {v : Value} {xs : List X} (h : XQ q w v xs) {B : Nat} (hB : ∀ b, q b → b < B) : XR B w v xs := by
  induction h with
  | nil A c => exact XR.nil _ _ _ _
  | mk g c ps hg hc hcell hk ih =>
    have hl : (ps.map Prod.fst).length = ps.length := by simp
    have hat : ∀ i (h : i < ps.length), w.cell? ⟨g, i * 3, none⟩ = some (.int .i64 ps[i].1.kind) ∧ w.cell? ⟨g, i * 3 + 1, none⟩ = some (.string ps[i].1.lab) ∧ w.cell? ⟨g, i * 3 + 2, none⟩ = some ps[i].2 := fun i h => by
      obtain ⟨h0, h1, h2⟩ := flatP_at ps i h
      exact ⟨hcell _ _ h0, hcell _ _ h1, hcell _ _ h2⟩
    have := XR.mk (B := B) (w := w) (some ⟨g, 0, none⟩) c (ps.map Prod.fst) ⟨g, 0, none⟩ (fun i => ((ps[i]?).map Prod.snd).getD undef) (by omega) (fun _ => ⟨rfl, hB g hg⟩)
      (fun i h => by rw [at_zero, List.getElem_map]; exact (hat i (by omega)).1) (fun i h => by rw [at_zero, List.getElem_map]; exact (hat i (by omega)).2.1)
      (fun i h => by rw [at_zero, List.getElem?_eq_getElem (by omega)]; exact (hat i (by omega)).2.2) (fun i h => by
        rw [List.getElem?_eq_getElem (by omega), List.getElem_map]
        exact ih _ (List.getElem_mem _))
    rwa [hl] at this
theorem XQ.form {q : Nat → Prop} {w : World} {v : Value} {xs : List X} (h : XQ q w v xs) : ∃ A c, v = .slice A xs.length c := by
  cases h with
  | nil A c => exact ⟨A, c, rfl⟩
  | mk g c ps hg hc hcell hk => exact ⟨some ⟨g, 0, none⟩, c, by simp⟩
theorem lit_cell {w : World} {g : Nat} {ps : List (X × Value)} {fr : Nat × Nat} (h : w.heap[g]? = some (.cells (flatP ps).toArray 25 fr)) : ∀ j u, (flatP ps)[j]? = some u → w.cell? ⟨g, j, none⟩ = some u := by
  intro j u hu
  rw [cell_of_row _ _ _ _ _ _ h]
  simpa using hu

/-- what small tells: some expression of its own, not great -/
def S27 (m : Nat) (w : World) (e : Ending) (w' : World) : Prop := ∃ (x : X) (kv : Value), e = .returned (.agg #[.int .i64 x.kind, .string x.lab, kv]) ∧ XQ (fun b => w.heap.size < b ∧ b < w'.heap.size) w' kv x.kids ∧ x.sz ≤ m ∧ x.lit ∧ Below w.heap.size w w'
theorem lit_lab (s : ByteArray) (h : s.size ≤ 100) : (labX s).lit := by
  intro p hp
  unfold labX at hp
  rw [X.parts_eq] at hp
  simp [X.kids, partsL_nil] at hp
  subst hp
  show s.size ≤ maxLen
  unfold maxLen
  omega
theorem sz_lab (s : ByteArray) : (labX s).sz = 1 := by rw [X.sz_eq]; simp [labX, X.kids, szL_nil]

set_option maxRecDepth 100000 in
set_option maxHeartbeats 4000000 in
theorem small_label (n d : Nat) (hn : n ≤ 100000) (hd : d ≤ 100) (h : d = 0 ∨ n % 8 < 2) (w : World) : Calls Try.prog 27 #[.int .i64 n, .int .i64 d] w (S27 1 w) := by
  obtain ⟨W0, hW0⟩ : ∃ W0, w.alloc (.cells #[.int .i64 0, .string ⟨#[]⟩, .slice none 0 0] 25) = W0 := ⟨_, rfl⟩
  have hb0 : Below w.heap.size w W0 := by rw [← hW0]; exact (Below.refl _ w).alloc (Nat.le_refl _) _
  have hz0 : W0.heap.size = w.heap.size + 1 := by rw [← hW0]; simp
  have hc0 : W0.heap[w.heap.size]? = some z25 := by rw [← hW0]; exact at_push _ _
  have HB0 := Lib.hid hb0
  have HZ := Lib.hid (fun W (h : Below W0.heap.size W0 W) => z25_cells ((h.block _ (by omega)).trans hc0))
  clear hb0 hz0 hc0
  have hcond : (d : Int) = 0 ∨ ((d : Int) ≠ 0 ∧ (n : Int) % 8 < 2) := by omega
  clear h
  have hpar : (n : Int) % 2 = 0 ∨ (n : Int) % 2 = 1 := by omega
  unfold S27
  rcases hcond with hd0 | ⟨hd0, hn8⟩
  · rcases hpar with hp | hp
    · go_enter Try.func27, Try.ntmps27
      go_upto_region 1 with (fail)
      try rw [hW0]
      go_wp2_with (go_at_call 28; refine (label_any _ _).mono ?_; rintro e w1 ⟨rfl, hg⟩; have H1 := Lib.hid (show Below W0.heap.size W0 w1 from ((Below.refl _ W0).alloc (Nat.le_refl _) _).trans (hg.below.mono (by simp))); obtain ⟨⟨d0, d1, d2⟩, f0, f1, f2⟩ := HZ.out w1 H1.out; clear hg)
      have hW : Below w.heap.size w (set3 w1 w.heap.size (.int .i64 1) (.string ⟨#[97]⟩) (.slice none 0 0)) := set3_below (HB0.out.trans (H1.out.mono HB0.out.size)) (Nat.le_refl _) _ _ _
      exact bodyPost_ret (v := .agg #[.int .i64 1, .string ⟨#[97]⟩, .slice none 0 0]) (by simp [results, Try.results27, go_sem, d0, d1, d2, f0, f1, f2]) rfl ⟨labX ⟨#[97]⟩, .slice none 0 0, rfl, XQ.nil _ _, by rw [sz_lab]; omega, lit_lab _ (by decide), hW⟩
    · go_enter Try.func27, Try.ntmps27
      go_upto_region 1 with (fail)
      try rw [hW0]
      go_wp2_with (go_at_call 28; refine (label_any _ _).mono ?_; rintro e w1 ⟨rfl, hg⟩; have H1 := Lib.hid (show Below W0.heap.size W0 w1 from ((Below.refl _ W0).alloc (Nat.le_refl _) _).trans (hg.below.mono (by simp))); obtain ⟨⟨d0, d1, d2⟩, f0, f1, f2⟩ := HZ.out w1 H1.out; clear hg)
      have hW : Below w.heap.size w (set3 w1 w.heap.size (.int .i64 1) (.string ⟨#[98]⟩) (.slice none 0 0)) := set3_below (HB0.out.trans (H1.out.mono HB0.out.size)) (Nat.le_refl _) _ _ _
      exact bodyPost_ret (v := .agg #[.int .i64 1, .string ⟨#[98]⟩, .slice none 0 0]) (by simp [results, Try.results27, go_sem, d0, d1, d2, f0, f1, f2]) rfl ⟨labX ⟨#[98]⟩, .slice none 0 0, rfl, XQ.nil _ _, by rw [sz_lab]; omega, lit_lab _ (by decide), hW⟩
  · have hdb : ((d : Int) == 0) = false := by simp; omega
    rcases hpar with hp | hp
    · go_enter Try.func27, Try.ntmps27
      go_upto_region 1 with (fail)
      try rw [hW0]
      go_wp2_with (go_at_call 28; refine (label_any _ _).mono ?_; rintro e w1 ⟨rfl, hg⟩; have H1 := Lib.hid (show Below W0.heap.size W0 w1 from ((Below.refl _ W0).alloc (Nat.le_refl _) _).trans (hg.below.mono (by simp))); obtain ⟨⟨d0, d1, d2⟩, f0, f1, f2⟩ := HZ.out w1 H1.out; clear hg)
      have hW : Below w.heap.size w (set3 w1 w.heap.size (.int .i64 1) (.string ⟨#[97]⟩) (.slice none 0 0)) := set3_below (HB0.out.trans (H1.out.mono HB0.out.size)) (Nat.le_refl _) _ _ _
      exact bodyPost_ret (v := .agg #[.int .i64 1, .string ⟨#[97]⟩, .slice none 0 0]) (by simp [results, Try.results27, go_sem, d0, d1, d2, f0, f1, f2]) rfl ⟨labX ⟨#[97]⟩, .slice none 0 0, rfl, XQ.nil _ _, by rw [sz_lab]; omega, lit_lab _ (by decide), hW⟩
    · go_enter Try.func27, Try.ntmps27
      go_upto_region 1 with (fail)
      try rw [hW0]
      go_wp2_with (go_at_call 28; refine (label_any _ _).mono ?_; rintro e w1 ⟨rfl, hg⟩; have H1 := Lib.hid (show Below W0.heap.size W0 w1 from ((Below.refl _ W0).alloc (Nat.le_refl _) _).trans (hg.below.mono (by simp))); obtain ⟨⟨d0, d1, d2⟩, f0, f1, f2⟩ := HZ.out w1 H1.out; clear hg)
      have hW : Below w.heap.size w (set3 w1 w.heap.size (.int .i64 1) (.string ⟨#[98]⟩) (.slice none 0 0)) := set3_below (HB0.out.trans (H1.out.mono HB0.out.size)) (Nat.le_refl _) _ _ _
      exact bodyPost_ret (v := .agg #[.int .i64 1, .string ⟨#[98]⟩, .slice none 0 0]) (by simp [results, Try.results27, go_sem, d0, d1, d2, f0, f1, f2]) rfl ⟨labX ⟨#[98]⟩, .slice none 0 0, rfl, XQ.nil _ _, by rw [sz_lab]; omega, lit_lab _ (by decide), hW⟩
end Go.Proofs.Ytnohnkhhkeikoaa

namespace Go.Proofs.Ytnohnkhhkeikoaa
open Go.ChangeShapes Go.WideShapes Go.ChangeAt Go.RowKit
set_option linter.unusedVariables false
set_option linter.unusedSimpArgs false

attribute [local go_sem] Oper.semAt_some

theorem two_q {B : Nat} {W w5 : World} {x y : X} {kx ky : Value} (hx : XQ (fun b => B < b ∧ b < W.heap.size) W kx x.kids) (hy : XQ (fun b => B < b ∧ b < W.heap.size) W ky y.kids) (hB : B < W.heap.size)
    (hg : Gr (W.alloc (.cells #[.int .i64 x.kind, .string x.lab, kx, .int .i64 y.kind, .string y.lab, ky] 25)) w5) (a0 a1 a2 : Value) : XQ (fun b => B < b ∧ b < (set3 w5 B a0 a1 a2).heap.size) (set3 w5 B a0 a1 a2) (.slice (some ⟨W.heap.size, 0, none⟩) 2 2) [x, y] := by
  have hb := hg.below
  have hz : (W.alloc (.cells #[.int .i64 x.kind, .string x.lab, kx, .int .i64 y.kind, .string y.lab, ky] 25)).heap.size = W.heap.size + 1 := by simp
  have hz2 := hb.size
  have hold : ∀ b, B < b ∧ b < W.heap.size → (set3 w5 B a0 a1 a2).heap[b]? = W.heap[b]? := fun b hq => by
    rw [set3_other _ _ _ (by omega), hb.block b (by omega), Below.heap_alloc _ _ _ hq.2]
  exact XQ.mk (q := fun b => B < b ∧ b < (set3 w5 B a0 a1 a2).heap.size) W.heap.size 2 [(x, kx), (y, ky)] ⟨hB, by rw [set3_size]; omega⟩ (by simp) (lit_cell (fr := (0, 0)) (by
    rw [set3_other _ _ _ (by omega), hb.block _ (by omega)]
    exact at_push _ _)) (fun p hp => by
    rcases List.mem_cons.1 hp with rfl | hp
    · exact hx.keep hold (fun b hq => ⟨hq.1, by rw [set3_size]; omega⟩)
    · rw [List.mem_singleton] at hp
      subst hp
      exact hy.keep hold (fun b hq => ⟨hq.1, by rw [set3_size]; omega⟩))
theorem one_q {B : Nat} {W w5 : World} {x : X} {kx : Value} (hx : XQ (fun b => B < b ∧ b < W.heap.size) W kx x.kids) (hB : B < W.heap.size)
    (hg : Gr (W.alloc (.cells #[.int .i64 x.kind, .string x.lab, kx] 25)) w5) (a0 a1 a2 : Value) : XQ (fun b => B < b ∧ b < (set3 w5 B a0 a1 a2).heap.size) (set3 w5 B a0 a1 a2) (.slice (some ⟨W.heap.size, 0, none⟩) 1 1) [x] := by
  have hb := hg.below
  have hz : (W.alloc (.cells #[.int .i64 x.kind, .string x.lab, kx] 25)).heap.size = W.heap.size + 1 := by simp
  have hz2 := hb.size
  have hold : ∀ b, B < b ∧ b < W.heap.size → (set3 w5 B a0 a1 a2).heap[b]? = W.heap[b]? := fun b hq => by
    rw [set3_other _ _ _ (by omega), hb.block b (by omega), Below.heap_alloc _ _ _ hq.2]
  exact XQ.mk (q := fun b => B < b ∧ b < (set3 w5 B a0 a1 a2).heap.size) W.heap.size 1 [(x, kx)] ⟨hB, by rw [set3_size]; omega⟩ (by simp) (lit_cell (fr := (0, 0)) (by
    rw [set3_other _ _ _ (by omega), hb.block _ (by omega)]
    exact at_push _ _)) (fun p hp => by
    rw [List.mem_singleton] at hp
    subst hp
    exact hx.keep hold (fun b hq => ⟨hq.1, by rw [set3_size]; omega⟩))

set_option maxRecDepth 100000 in
set_option maxHeartbeats 8000000 in
theorem small_rest {M d : Nat} (hd : d ≤ 100) (ih : ∀ (m : Nat), m ≤ 100000 → ∀ w, Calls Try.prog 27 #[.int .i64 m, .int .i64 d] w (S27 M w)) (n : Nat) (hn : n ≤ 100000) (h : ¬ n % 8 < 2) (w : World) : Calls Try.prog 27 #[.int .i64 n, .int .i64 ((d : Int) + 1)] w (S27 (2 * M + 1) w) := by
  have e8 : (n : Int) / 8 = ((n / 8 : Nat) : Int) := by omega
  have e64 : (n : Int) / 64 = ((n / 64 : Nat) : Int) := by omega
  have HI8 := Lib.hid (fun W => (show Calls Try.prog 27 #[.int .i64 ((n : Int) / 8), .int .i64 d] W (S27 M W) by rw [e8]; exact ih _ (by omega) W))
  have HI64 := Lib.hid (fun W => (show Calls Try.prog 27 #[.int .i64 ((n : Int) / 64), .int .i64 d] W (S27 M W) by rw [e64]; exact ih _ (by omega) W))
  clear ih e8 e64
  obtain ⟨W0, hW0⟩ : ∃ W0, w.alloc (.cells #[.int .i64 0, .string ⟨#[]⟩, .slice none 0 0] 25) = W0 := ⟨_, rfl⟩
  have hb0 : Below w.heap.size w W0 := by rw [← hW0]; exact (Below.refl _ w).alloc (Nat.le_refl _) _
  have hz0 : W0.heap.size = w.heap.size + 1 := by rw [← hW0]; simp
  have hc0 : W0.heap[w.heap.size]? = some z25 := by rw [← hW0]; exact at_push _ _
  have HB0 := Lib.hid hb0
  have HZ := Lib.hid (fun W (h : Below W0.heap.size W0 W) => z25_cells ((h.block _ (by omega)).trans hc0))
  clear hb0 hz0 hc0
  have hdb : ((d : Int) + 1 == 0) = false := by simp; omega
  have hd0 : ¬ ((d : Int) + 1 = 0) := by omega
  have hn8 : ¬ (n : Int) % 8 < 2 := by omega
  unfold S27 at HI8 HI64 ⊢
  go_enter Try.func27, Try.ntmps27
  go_upto_region 1 with (fail)
  try rw [hW0]
  go_upto_region 4 with (go_at_call 27; first
    | (refine (HJ64.out _).mono ?_; rintro e w2 ⟨y, ky, rfl, hy, hyz, hyl, hb2⟩; obtain ⟨Ay, cy, rfl⟩ := hy.form; have H2 := Lib.hid (And.intro hy (And.intro hyz (And.intro hyl hb2))); clear hy hyz hyl hb2)
    | (refine (HI8.out _).mono ?_; rintro e w1 ⟨x, kx, rfl, hx, hxz, hxl, hb1⟩; obtain ⟨Ax, cx, rfl⟩ := hx.form; have H1 := Lib.hid (And.intro hx (And.intro hxz (And.intro hxl hb1))); have HJ64 := HI64; clear hx hxz hxl hb1))
  obtain ⟨W4, hW4⟩ : ∃ W4, ((w2.alloc (.cells #[.int .i64 x.kind, .string x.lab, .slice Ax x.kids.length cx] 25)).alloc (.cells #[.int .i64 y.kind, .string y.lab, .slice Ay y.kids.length cy] 25)) = W4 := ⟨_, rfl⟩
  rw [hW4]
  have hz4 : W4.heap.size = w2.heap.size + 2 := by rw [← hW4]; simp
  have hb24 : Below w2.heap.size w2 W4 := by rw [← hW4]; exact ((Below.refl _ w2).alloc (Nat.le_refl _) _).alloc (by simp) _
  have hc5 : W4.heap[w2.heap.size]? = some (.cells #[.int .i64 x.kind, .string x.lab, .slice Ax x.kids.length cx] 25) := by rw [← hW4, Below.heap_alloc _ _ _ (by simp)]; exact at_push _ _
  have hc6 : W4.heap[w2.heap.size + 1]? = some (.cells #[.int .i64 y.kind, .string y.lab, .slice Ay y.kids.length cy] 25) := by
    rw [← hW4]
    have := at_push (w2.alloc (.cells #[.int .i64 x.kind, .string x.lab, .slice Ax x.kids.length cx] 25)) (.cells #[.int .i64 y.kind, .string y.lab, .slice Ay y.kids.length cy] 25)
    rwa [World.size_alloc] at this
  obtain ⟨hx, hxz, hxl, hb1⟩ := H1.out
  obtain ⟨hy, hyz, hyl, hb2⟩ := H2.out
  have hs01 := hb1.size
  have hs12 := hb2.size
  have hs0 : w.heap.size < W0.heap.size := by rw [← hW0]; simp
  have hb14 : Below w1.heap.size w1 W4 := hb2.trans (hb24.mono hs12)
  have hb04 : Below W0.heap.size W0 W4 := hb1.trans (hb14.mono hs01)
  have HQX := Lib.hid (show XQ (fun b => w.heap.size < b ∧ b < W4.heap.size) W4 (.slice Ax x.kids.length cx) x.kids from hx.keep (fun b hq => hb14.block b hq.2) (fun b hq => ⟨by omega, by omega⟩))
  have HQY := Lib.hid (show XQ (fun b => w.heap.size < b ∧ b < W4.heap.size) W4 (.slice Ay y.kids.length cy) y.kids from hy.keep (fun b hq => hb24.block b hq.2) (fun b hq => ⟨by omega, by omega⟩))
  have HSZ := Lib.hid (And.intro hxz (And.intro hyz (And.intro hxl hyl)))
  have HB4 := Lib.hid (fun W (h : Below W4.heap.size W4 W) => And.intro (HZ.out W (hb04.trans (h.mono hb04.size))) (And.intro (box3 ((h.block _ (by omega)).trans hc5)) (box3 ((h.block _ (by omega)).trans hc6))))
  have HW4 := Lib.hid (And.intro (HB0.out.trans (hb04.mono HB0.out.size)) (show w.heap.size < W4.heap.size by omega))
  obtain ⟨-, ⟨a0, a1, a2⟩, a3, a4, a5⟩ := HB4.out W4 (Below.refl _ _)
  have hcase : (n : Int) % 8 = 2 ∨ (n : Int) % 8 = 3 ∨ (n : Int) % 8 = 4 ∨ (n : Int) % 8 = 5 ∨ (n : Int) % 8 = 6 ∨ (n : Int) % 8 = 7 := by omega
  clear H1 H2 HJ64 HI8 HI64 hx hxz hxl hb1 hy hyz hyl hb2 hs01 hs12 hs0 hb14 hb04 hc5 hc6 hz4 hb24 hW4 HZ HB0 hn8 h
  generalize hxk : x.kind = xk at *
  generalize hxlb : x.lab = xl at *
  generalize hyk : y.kind = yk at *
  generalize hylb : y.lab = yl at *
  have HKX := Lib.hid (And.intro hxk (And.intro hxlb (And.intro hyk hylb)))
  generalize hnx : x.kids.length = nx at *
  generalize hny : y.kids.length = ny at *
  clear hxk hxlb hyk hylb hnx hny
  rcases hcase with hc | hc | hc | hc | hc | hc
  · go_wp2_with (go_at_call 29; refine (of_any _ _ _ _ _).mono ?_; rintro e w5 ⟨rfl, hg⟩; have H5 := Lib.hid hg; have hb5 : Below W4.heap.size W4 w5 := ((Below.refl _ W4).alloc (Nat.le_refl _) _).trans (hg.below.mono (by simp)); have HB5 := Lib.hid hb5; obtain ⟨⟨⟨d0, d1, d2⟩, f0, f1, f2⟩, -⟩ := HB4.out w5 hb5; clear hg hb5)
    have hW : Below w.heap.size w (set3 w5 w.heap.size (.int .i64 2) (.string ⟨#[]⟩) (.slice (some ⟨W4.heap.size, 0, none⟩) 2 2)) := set3_below (HW4.out.1.trans (HB5.out.mono HW4.out.1.size)) (Nat.le_refl _) _ _ _
    have hg2 := H5.out
    rw [← HKX.out.1, ← HKX.out.2.1, ← HKX.out.2.2.1, ← HKX.out.2.2.2] at hg2
    exact bodyPost_ret (v := .agg #[.int .i64 2, .string ⟨#[]⟩, .slice (some ⟨W4.heap.size, 0, none⟩) 2 2]) (by simp [results, Try.results27, go_sem, d0, d1, d2, f0, f1, f2]) rfl ⟨ofX 2 [x, y], _, rfl, two_q HQX.out HQY.out HW4.out.2 hg2 _ _ _, by have := HSZ.out.1; have := HSZ.out.2.1; rw [ofX_sz, szL_two]; omega, lit_of (fun z hz => by
      rcases List.mem_cons.1 hz with rfl | hz
      · exact HSZ.out.2.2.1
      · rw [List.mem_singleton] at hz; subst hz; exact HSZ.out.2.2.2), hW⟩
  · go_wp2_with (go_at_call 29; refine (of_any _ _ _ _ _).mono ?_; rintro e w5 ⟨rfl, hg⟩; have H5 := Lib.hid hg; have hb5 : Below W4.heap.size W4 w5 := ((Below.refl _ W4).alloc (Nat.le_refl _) _).trans (hg.below.mono (by simp)); have HB5 := Lib.hid hb5; obtain ⟨⟨⟨d0, d1, d2⟩, f0, f1, f2⟩, -⟩ := HB4.out w5 hb5; clear hg hb5)
    have hW : Below w.heap.size w (set3 w5 w.heap.size (.int .i64 2) (.string ⟨#[]⟩) (.slice (some ⟨W4.heap.size, 0, none⟩) 2 2)) := set3_below (HW4.out.1.trans (HB5.out.mono HW4.out.1.size)) (Nat.le_refl _) _ _ _
    have hg2 := H5.out
    rw [← HKX.out.1, ← HKX.out.2.1, ← HKX.out.2.2.1, ← HKX.out.2.2.2] at hg2
    exact bodyPost_ret (v := .agg #[.int .i64 2, .string ⟨#[]⟩, .slice (some ⟨W4.heap.size, 0, none⟩) 2 2]) (by simp [results, Try.results27, go_sem, d0, d1, d2, f0, f1, f2]) rfl ⟨ofX 2 [x, y], _, rfl, two_q HQX.out HQY.out HW4.out.2 hg2 _ _ _, by have := HSZ.out.1; have := HSZ.out.2.1; rw [ofX_sz, szL_two]; omega, lit_of (fun z hz => by
      rcases List.mem_cons.1 hz with rfl | hz
      · exact HSZ.out.2.2.1
      · rw [List.mem_singleton] at hz; subst hz; exact HSZ.out.2.2.2), hW⟩
  · go_wp2_with (go_at_call 29; refine (of_any _ _ _ _ _).mono ?_; rintro e w5 ⟨rfl, hg⟩; have H5 := Lib.hid hg; have hb5 : Below W4.heap.size W4 w5 := ((Below.refl _ W4).alloc (Nat.le_refl _) _).trans (hg.below.mono (by simp)); have HB5 := Lib.hid hb5; obtain ⟨⟨⟨d0, d1, d2⟩, f0, f1, f2⟩, -⟩ := HB4.out w5 hb5; clear hg hb5)
    have hW : Below w.heap.size w (set3 w5 w.heap.size (.int .i64 3) (.string ⟨#[]⟩) (.slice (some ⟨W4.heap.size, 0, none⟩) 2 2)) := set3_below (HW4.out.1.trans (HB5.out.mono HW4.out.1.size)) (Nat.le_refl _) _ _ _
    have hg2 := H5.out
    rw [← HKX.out.1, ← HKX.out.2.1, ← HKX.out.2.2.1, ← HKX.out.2.2.2] at hg2
    exact bodyPost_ret (v := .agg #[.int .i64 3, .string ⟨#[]⟩, .slice (some ⟨W4.heap.size, 0, none⟩) 2 2]) (by simp [results, Try.results27, go_sem, d0, d1, d2, f0, f1, f2]) rfl ⟨ofX 3 [x, y], _, rfl, two_q HQX.out HQY.out HW4.out.2 hg2 _ _ _, by have := HSZ.out.1; have := HSZ.out.2.1; rw [ofX_sz, szL_two]; omega, lit_of (fun z hz => by
      rcases List.mem_cons.1 hz with rfl | hz
      · exact HSZ.out.2.2.1
      · rw [List.mem_singleton] at hz; subst hz; exact HSZ.out.2.2.2), hW⟩
  · go_wp2_with (go_at_call 29; refine (of_any _ _ _ _ _).mono ?_; rintro e w5 ⟨rfl, hg⟩; have H5 := Lib.hid hg; have hb5 : Below W4.heap.size W4 w5 := ((Below.refl _ W4).alloc (Nat.le_refl _) _).trans (hg.below.mono (by simp)); have HB5 := Lib.hid hb5; obtain ⟨⟨⟨d0, d1, d2⟩, f0, f1, f2⟩, -⟩ := HB4.out w5 hb5; clear hg hb5)
    have hW : Below w.heap.size w (set3 w5 w.heap.size (.int .i64 4) (.string ⟨#[]⟩) (.slice (some ⟨W4.heap.size, 0, none⟩) 1 1)) := set3_below (HW4.out.1.trans (HB5.out.mono HW4.out.1.size)) (Nat.le_refl _) _ _ _
    have hg2 := H5.out
    rw [← HKX.out.1, ← HKX.out.2.1] at hg2
    exact bodyPost_ret (v := .agg #[.int .i64 4, .string ⟨#[]⟩, .slice (some ⟨W4.heap.size, 0, none⟩) 1 1]) (by simp [results, Try.results27, go_sem, d0, d1, d2, f0, f1, f2]) rfl ⟨ofX 4 [x], _, rfl, one_q HQX.out HW4.out.2 hg2 _ _ _, by have := HSZ.out.1; rw [ofX_sz, szL_one]; omega, lit_of (fun z hz => by rw [List.mem_singleton] at hz; subst hz; exact HSZ.out.2.2.1), hW⟩
  · go_wp2_with (go_at_call 29; refine (of_any _ _ _ _ _).mono ?_; rintro e w5 ⟨rfl, hg⟩; have H5 := Lib.hid hg; have hb5 : Below W4.heap.size W4 w5 := ((Below.refl _ W4).alloc (Nat.le_refl _) _).trans (hg.below.mono (by simp)); have HB5 := Lib.hid hb5; obtain ⟨⟨⟨d0, d1, d2⟩, f0, f1, f2⟩, -⟩ := HB4.out w5 hb5; clear hg hb5)
    have hW : Below w.heap.size w (set3 w5 w.heap.size (.int .i64 5) (.string ⟨#[]⟩) (.slice (some ⟨W4.heap.size, 0, none⟩) 1 1)) := set3_below (HW4.out.1.trans (HB5.out.mono HW4.out.1.size)) (Nat.le_refl _) _ _ _
    have hg2 := H5.out
    rw [← HKX.out.1, ← HKX.out.2.1] at hg2
    exact bodyPost_ret (v := .agg #[.int .i64 5, .string ⟨#[]⟩, .slice (some ⟨W4.heap.size, 0, none⟩) 1 1]) (by simp [results, Try.results27, go_sem, d0, d1, d2, f0, f1, f2]) rfl ⟨ofX 5 [x], _, rfl, one_q HQX.out HW4.out.2 hg2 _ _ _, by have := HSZ.out.1; rw [ofX_sz, szL_one]; omega, lit_of (fun z hz => by rw [List.mem_singleton] at hz; subst hz; exact HSZ.out.2.2.1), hW⟩
  · go_wp2_with (go_at_call 29; refine (of_any _ _ _ _ _).mono ?_; rintro e w5 ⟨rfl, hg⟩; have H5 := Lib.hid hg; have hb5 : Below W4.heap.size W4 w5 := ((Below.refl _ W4).alloc (Nat.le_refl _) _).trans (hg.below.mono (by simp)); have HB5 := Lib.hid hb5; obtain ⟨⟨⟨d0, d1, d2⟩, f0, f1, f2⟩, -⟩ := HB4.out w5 hb5; clear hg hb5)
    have hW : Below w.heap.size w (set3 w5 w.heap.size (.int .i64 6) (.string ⟨#[]⟩) (.slice (some ⟨W4.heap.size, 0, none⟩) 1 1)) := set3_below (HW4.out.1.trans (HB5.out.mono HW4.out.1.size)) (Nat.le_refl _) _ _ _
    have hg2 := H5.out
    rw [← HKX.out.1, ← HKX.out.2.1] at hg2
    exact bodyPost_ret (v := .agg #[.int .i64 6, .string ⟨#[]⟩, .slice (some ⟨W4.heap.size, 0, none⟩) 1 1]) (by simp [results, Try.results27, go_sem, d0, d1, d2, f0, f1, f2]) rfl ⟨ofX 6 [x], _, rfl, one_q HQX.out HW4.out.2 hg2 _ _ _, by have := HSZ.out.1; rw [ofX_sz, szL_one]; omega, lit_of (fun z hz => by rw [List.mem_singleton] at hz; subst hz; exact HSZ.out.2.2.1), hW⟩

theorem small27_any : ∀ (d : Nat), d ≤ 3 → ∀ (n : Nat), n ≤ 100000 → ∀ w, Calls Try.prog 27 #[.int .i64 n, .int .i64 d] w (S27 (2 ^ (d + 1) - 1) w)
  | 0, _, n, hn, w => small_label n 0 hn (by omega) (.inl rfl) w
  | d + 1, hd, n, hn, w => by
    have hp : 1 ≤ 2 ^ (d + 1) := Nat.one_le_two_pow
    have hp2 : 2 ^ (d + 1 + 1) = 2 * 2 ^ (d + 1) := by rw [Nat.pow_succ]; omega
    by_cases h : n % 8 < 2
    · refine (small_label n (d + 1) hn (by omega) (.inr h) w).mono ?_
      rintro e w' ⟨x, kv, rfl, h1, h2, h3, h4⟩
      exact ⟨x, kv, rfl, h1, by omega, h3, h4⟩
    · have := small_rest (M := 2 ^ (d + 1) - 1) (d := d) (by omega) (fun m hm w => small27_any d (by omega) m hm w) n hn h w
      have e : ((d + 1 : Nat) : Int) = (d : Int) + 1 := by omega
      rw [e, show 2 ^ (d + 1 + 1) - 1 = 2 * (2 ^ (d + 1) - 1) + 1 by omega]
      exact this
end Go.Proofs.Ytnohnkhhkeikoaa

namespace Go.Proofs.Ytnohnkhhkeikoaa
open Go.ChangeShapes Go.WideShapes Go.ChangeAt Go.RowKit
set_option linter.unusedVariables false
set_option linter.unusedSimpArgs false

theorem heap_keep {w w' : World} {b : Nat} {o : Obj} (hb : Below w.heap.size w w') (h : w.heap[b]? = some o) : w'.heap[b]? = some o := (hb.block b (Array.getElem?_eq_some_iff.1 h).1).trans h
theorem heap_lt {w : World} {b : Nat} {o : Obj} (h : w.heap[b]? = some o) : b < w.heap.size := (Array.getElem?_eq_some_iff.1 h).1
/-- a row of its own, its kids of the kind q: as a row of expressions -/
theorem own_XR {q : Nat → Prop} {w : World} {B : Nat} {u : Value} {ps : List (X × Value)} (hown : w.ownsRow B 25 3 u ps.length (flatP ps)) (hk : ∀ p, p ∈ ps → XQ q w p.2 p.1.kids) (hq : ∀ b, q b → b < w.heap.size) : XR w.heap.size w u (ps.map Prod.fst) := by
  match ps, hown, hk with
  | [], hown, _ =>
    obtain ⟨A, c, rfl⟩ := row_form hown
    exact XR.nil _ _ _ _
  | p :: ps, hown, hk =>
    obtain ⟨g, cap, e, h1, _, _, h2⟩ := own_succ2 (k := ps.length) hown
    subst e
    exact (XQ.mk (q := fun b => b < w.heap.size) g cap (p :: ps) h2 (by simpa using h1) (fun j u hu => by
      have := hown.cells (g := g) rfl j u hu
      rwa [at_zero] at this) (fun r hr => (hk r hr).keep (fun _ _ => rfl) hq)).xr (fun b hb => hb)
theorem own_XQ {q : Nat → Prop} {w : World} {B : Nat} {u : Value} {ps : List (X × Value)} (hown : w.ownsRow B 25 3 u ps.length (flatP ps)) (hk : ∀ p, p ∈ ps → XQ q w p.2 p.1.kids) (hq : ∀ b, q b → b < w.heap.size) : XQ (fun b => b < w.heap.size) w u (ps.map Prod.fst) := by
  match ps, hown, hk with
  | [], hown, _ =>
    obtain ⟨A, c, rfl⟩ := row_form hown
    exact XQ.nil _ _
  | p :: ps, hown, hk =>
    obtain ⟨g, cap, e, h1, _, _, h2⟩ := own_succ2 (k := ps.length) hown
    subst e
    exact XQ.mk (q := fun b => b < w.heap.size) g cap (p :: ps) h2 (by simpa using h1) (fun j u hu => by
      have := hown.cells (g := g) rfl j u hu
      rwa [at_zero] at this) (fun r hr => (hk r hr).keep (fun _ _ => rfl) hq)
/-- the kids of a row that grows: in blocks at B or above, neither the row's own nor the box E -/
structure GK (W : World) (B E : Nat) (v : Value) (ps : List (X × Value)) : Prop where
  hk : ∀ p, p ∈ ps → XQ (fun b => B ≤ b ∧ b < W.heap.size ∧ b ≠ E ∧ v.ownBlock ≠ some b) W p.2 p.1.kids
  hs : ∀ p, p ∈ ps → p.1.sz ≤ 2 ∧ p.1.lit
theorem GK.step {W W' : World} {B E : Nat} {v : Value} {ps : List (X × Value)} (h : GK W B E v ps) (hb : Below W.heap.size W W') : GK W' B E v ps :=
  ⟨fun p hp => (h.hk p hp).keep (fun b hq => hb.block b hq.2.1) (fun b hq => ⟨hq.1, Nat.lt_of_lt_of_le hq.2.1 hb.size, hq.2.2⟩), h.hs⟩
theorem GK.grown {W W' : World} {B E : Nat} {v v' : Value} {ps : List (X × Value)} (h : GK W B E v ps) (hg : W.grownBy W' v.ownBlock) (hat : v'.ownBlock = v.ownBlock ∨ v'.ownBlock = some W.heap.size) {p : X × Value} (hp : XQ (fun b => B ≤ b ∧ b < W.heap.size ∧ b ≠ E ∧ v.ownBlock ≠ some b) W p.2 p.1.kids) (hps : p.1.sz ≤ 2 ∧ p.1.lit) : GK W' B E v' (ps ++ [p]) := by
  have key : ∀ (kv : Value) (xs : List X), XQ (fun b => B ≤ b ∧ b < W.heap.size ∧ b ≠ E ∧ v.ownBlock ≠ some b) W kv xs → XQ (fun b => B ≤ b ∧ b < W'.heap.size ∧ b ≠ E ∧ v'.ownBlock ≠ some b) W' kv xs := fun kv xs hx =>
    hx.keep (fun b hq => hg.block b hq.2.1 (fun e => hq.2.2.2 e.symm)) (fun b hq => ⟨hq.1, Nat.lt_of_lt_of_le hq.2.1 hg.size, hq.2.2.1, fun e => by
      rcases hat with h1 | h1
      · rw [h1] at e; exact hq.2.2.2 e
      · rw [h1] at e; injection e with e; have := hq.2.1; omega⟩)
  refine ⟨fun r hr => ?_, fun r hr => ?_⟩
  · rcases List.mem_append.1 hr with hr | hr
    · exact key _ _ (h.hk r hr)
    · rw [List.mem_singleton] at hr; subst hr; exact key _ _ hp
  · rcases List.mem_append.1 hr with hr | hr
    · exact h.hs r hr
    · rw [List.mem_singleton] at hr; subst hr; exact hps
theorem GK.store {W : World} {B E : Nat} {v : Value} {ps : List (X × Value)} (h : GK W B E v ps) (k : Nat) (u : Value) : GK (W.setCell ⟨E, k, none⟩ u) B E v ps :=
  ⟨fun p hp => (h.hk p hp).keep (fun b hq => Below.heap_setCell _ _ _ _ hq.2.2.1) (fun b hq => ⟨hq.1, by simpa [World.setCell] using hq.2.1, hq.2.2⟩), h.hs⟩
/-- what a growing row amounts to -/
theorem szL_le2 : ∀ (ps : List (X × Value)), (∀ p, p ∈ ps → p.1.sz ≤ 2 ∧ p.1.lit) → szL (ps.map Prod.fst) ≤ 2 * ps.length
  | [], _ => by rw [List.map_nil, szL_nil]; omega
  | p :: ps, h => by
    rw [List.map_cons, szL_cons]
    have h1 := szL_le2 ps (fun r hr => h r (List.mem_cons_of_mem _ hr))
    have h2 := (h p List.mem_cons_self).1
    simp
    omega
theorem lit_mk {k : Int} {s : ByteArray} {ks : List X} (hs : s.size ≤ 100) (h : ∀ y ∈ ks, y.lit) : (X.mk k s ks).lit := by
  intro p hp
  rw [X.parts_eq] at hp
  rcases List.mem_cons.1 hp with rfl | hp
  · show s.size ≤ maxLen
    unfold maxLen
    omega
  · exact lit_L h p hp
theorem XV.box {B : Nat} {w : World} {k : Int} {s : ByteArray} {u : Value} {ks : List X} (h : XR B w u ks) : XV B w (.agg #[.int .i64 k, .string s, u]) (X.mk k s ks) := ⟨u, rfl, h⟩
theorem XV.lab (B : Nat) (w : World) (s : ByteArray) : XV B w (.agg #[.int .i64 1, .string s, .slice none 0 0]) (labX s) := ⟨_, rfl, XR.nil _ _ _ _⟩
/-- a store into a box of three cells -/
theorem box_set2 {W : World} {E : Nat} {a b c : Value} {t : TypeId} (h : W.heap[E]? = some (.cells #[a, b, c] t (0, 0))) (u : Value) : (W.setCell ⟨E, 2, none⟩ u).heap[E]? = some (.cells #[a, b, u] t (0, 0)) := by
  simp [World.setCell, Array.getElem?_modify, h]
theorem box_frozen {W : World} {E : Nat} {a b c : Value} {t : TypeId} (h : W.heap[E]? = some (.cells #[a, b, c] t (0, 0))) (k : Nat) : W.frozen? ⟨E, k, none⟩ = false := by simp [World.frozen?, h]
theorem SR_two {W : World} {g : Nat} {a b : ByteArray} (h : W.heap[g]? = some (.cells #[.string a, .string b] 9 (0, 0))) : SR (g + 1) W (.slice (some ⟨g, 0, none⟩) 2 2) [a, b] := by
  refine ⟨_, 2, rfl, fun _ => ⟨⟨g, 0, none⟩, rfl, Nat.lt_succ_self _, fun k hk => ?_⟩⟩
  rw [at_zero, cell_of_row _ _ _ _ _ _ h]
  match k, hk with
  | 0, _ => rfl
  | 1, _ => rfl
theorem SR_one {W : World} {g : Nat} {a : ByteArray} (h : W.heap[g]? = some (.cells #[.string a] 9 (0, 0))) : SR (g + 1) W (.slice (some ⟨g, 0, none⟩) 1 1) [a] := by
  refine ⟨_, 1, rfl, fun _ => ⟨⟨g, 0, none⟩, rfl, Nat.lt_succ_self _, fun k hk => ?_⟩⟩
  rw [at_zero, cell_of_row _ _ _ _ _ _ h]
  match k, hk with
  | 0, _ => rfl
theorem row_cells {W : World} {g : Nat} {l : List Value} {t : TypeId} {fr : Nat × Nat} (h : W.heap[g]? = some (.cells l.toArray t fr)) : ∀ j u, l[j]? = some u → W.cell? ((⟨g, 0, none⟩ : Addr).add j) = some u := by
  intro j u hu
  rw [at_zero, cell_of_row _ _ _ _ _ _ h]
  simpa using hu
/-- the kids of the chapter's alternative: a label, and what may be left out -/
theorem zkids {W4 W : World} {k : Int} {u : Value} {ks : List X} {g1 g2 : Nat} (hx : XQ (fun b => b < W4.heap.size) W4 u ks) (hb : Below W4.heap.size W4 W) (h1 : W.heap[g1]? = some (.cells #[.int .i64 k, .string ⟨#[]⟩, u] 25 (0, 0)))
    (h2 : W.heap[g2]? = some (.cells #[.int .i64 1, .string ⟨#[99]⟩, .slice none 0 0, .int .i64 6, .string ⟨#[]⟩, .slice (some ⟨g1, 0, none⟩) 1 1] 25 (0, 0))) : XR W.heap.size W (.slice (some ⟨g2, 0, none⟩) 2 2) [labX ⟨#[99]⟩, X.mk 6 ⟨#[]⟩ [X.mk k ⟨#[]⟩ ks]] := by
  have hx2 := hx.keep (w' := W) (q' := fun b => b < W.heap.size) (fun b hq => hb.block b hq) (fun b hq => Nat.lt_of_lt_of_le hq hb.size)
  have h3 : XQ (fun b => b < W.heap.size) W (.slice (some ⟨g1, 0, none⟩) 1 1) [X.mk k ⟨#[]⟩ ks] := XQ.mk g1 1 [(X.mk k ⟨#[]⟩ ks, u)] (heap_lt h1) (Nat.le_refl _) (lit_cell (fr := (0, 0)) h1) (fun p hp => by rw [List.mem_singleton] at hp; subst hp; exact hx2)
  exact (XQ.mk (q := fun b => b < W.heap.size) g2 2 [(labX ⟨#[99]⟩, .slice none 0 0), (X.mk 6 ⟨#[]⟩ [X.mk k ⟨#[]⟩ ks], .slice (some ⟨g1, 0, none⟩) 1 1)] (heap_lt h2) (Nat.le_refl _) (lit_cell (fr := (0, 0)) h2) (fun p hp => by
    rcases List.mem_cons.1 hp with rfl | hp
    · exact XQ.nil _ _
    · rw [List.mem_singleton] at hp
      subst hp
      exact h3)).xr (fun b hb => hb)
theorem ykids {W : World} {k : Int} {s : ByteArray} {u : Value} {ks : List X} {g : Nat} (hx : XQ (fun b => b < W.heap.size) W u ks) (h : W.heap[g]? = some (.cells #[.int .i64 k, .string s, u] 25 (0, 0))) : XR W.heap.size W (.slice (some ⟨g, 0, none⟩) 1 1) [X.mk k s ks] :=
  (XQ.mk (q := fun b => b < W.heap.size) g 1 [(X.mk k s ks, u)] (heap_lt h) (Nat.le_refl _) (lit_cell (fr := (0, 0)) h) (fun p hp => by rw [List.mem_singleton] at hp; subst hp; exact hx)).xr (fun b hb => hb)
theorem SR_nil2 (B : Nat) (W : World) : SR B W (.slice none 0 0) [] := ⟨none, 0, rfl, fun h => absurd h (Nat.lt_irrefl _)⟩
/-- an optional label in a row of one -/
theorem opt_XQ {q : Nat → Prop} {W : World} {g : Nat} {s : ByteArray} (h : W.heap[g]? = some (.cells #[.int .i64 1, .string s, .slice none 0 0] 25 (0, 0))) (hq : q g) (c : Nat) (hc : 1 ≤ c) : XQ q W (.slice (some ⟨g, 0, none⟩) 1 c) [labX s] :=
  XQ.mk g c [(labX s, .slice none 0 0)] hq hc (lit_cell (fr := (0, 0)) h) (fun p hp => by rw [List.mem_singleton] at hp; subst hp; exact XQ.nil _ _)
end Go.Proofs.Ytnohnkhhkeikoaa
