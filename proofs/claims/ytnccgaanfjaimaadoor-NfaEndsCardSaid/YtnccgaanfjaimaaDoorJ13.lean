/- Texts QE1, QE2, one behind the other. -/
import Derived.Test.YtnccgaanfjaimaaDoorJ11
set_option linter.unusedSimpArgs false
set_option linter.unusedVariables false
namespace Go.Proofs.YtnccgaanfjaimaaDoor
open Go.ChangeShapes Go.WideShapes Go.ChangeAt Go.RowKit
set_option linter.unusedVariables false
set_option linter.unusedSimpArgs false

theorem parts79 : (Tryd.prog.info? 79).map (fun i => (i.zero, i.size, i.bytes)) = some (some (.agg #[.slice none 0 0, .slice none 0 0, .bool false]), 3, 56) := by kernel_rfl
theorem D3.bel {B : Nat} {w W W' : World} {K : RK} {x : X} {n c : Nat} {A : Option Addr} {vl : Value} {labs : List ByteArray} {P : Nat → Nat → Prop} {g1 g2 g6 : Nat} {Q1 Q2 : Nat → Prop} (h : D3 B w W K x n c A vl labs P g1 g2 g6 Q1 Q2) (hB : B ≤ w.heap.size) (hb : Below W.heap.size W W') : D3 B w W' K x n c A vl labs P g1 g2 g6 Q1 Q2 :=
 ⟨(hb.block _ (Array.getElem?_eq_some_iff.1 h.bx).1).trans h.bx, (hb.block _ (Array.getElem?_eq_some_iff.1 h.rb).1).trans h.rb, h.rn.bel hb, (hb.block _ (Array.getElem?_eq_some_iff.1 h.p6).1).trans h.p6, h.f1.bel hb, h.f2.bel hb, h.kr.bel hB hb⟩
theorem D3.ext {B : Nat} {w W : World} {K : RK} {x : X} {n c : Nat} {A : Option Addr} {vl : Value} {labs : List ByteArray} {P P' : Nat → Nat → Prop} {g1 g2 g6 : Nat} {Q1 Q2 Q1' Q2' : Nat → Prop} (h : D3 B w W K x n c A vl labs P g1 g2 g6 Q1 Q2) (e : ∀ i j, P i j ↔ P' i j) (e1 : ∀ j, Q1 j ↔ Q1' j) (e2 : ∀ j, Q2 j ↔ Q2' j) : D3 B w W K x n c A vl labs P' g1 g2 g6 Q1' Q2' :=
 ⟨h.bx, h.rb, h.rn.ext (fun i j _ _ => e i j), h.p6, h.f1.ext (fun j _ => e1 j), h.f2.ext (fun j _ => e2 j), h.kr⟩
theorem D3.grown {B base m : Nat} {w W W' : World} {K : RK} {x : X} {n c : Nat} {A : Option Addr} {vl v : Value} {xs : List Value} {labs : List ByteArray} {P : Nat → Nat → Prop} {g1 g2 g6 : Nat} {Q1 Q2 : Nat → Prop} (h : D3 B w W K x n c A vl labs P g1 g2 g6 Q1 Q2) (hB : B ≤ w.heap.size) (hg : W.grownBy W' v.ownBlock) (ho : W.ownsRow base 79 3 v m xs) (l6 : w.heap.size + 1 < g6) (lb : g6 < base) : D3 B w W' K x n c A vl labs P g1 g2 g6 Q1 Q2 := by
 have hob : ∀ g, v.ownBlock = some g → base ≤ g := fun g e => (ho.lt g e).1
 have hs : ∀ b a t, b < base → W.heap[b]? = some (Obj.cells a t (0, 0)) → W'.heap[b]? = some (Obj.cells a t (0, 0)) := fun b a t hb hh =>
  (hg.block b (Array.getElem?_eq_some_iff.1 hh).1 (fun e => by have := hob b e.symm; omega)).trans hh
 exact ⟨hs _ _ _ (by omega) h.bx, hs _ _ _ (by omega) h.rb, h.rn.grown hg ho, hs _ _ _ lb h.p6, h.f1.grown hg ho, h.f2.grown hg ho, h.kr.grownNew hB hg (fun g e => by have := hob g e; omega)⟩
theorem D3.put1 {B g' : Nat} {w W : World} {K : RK} {x : X} {n c : Nat} {A : Option Addr} {vl : Value} {labs : List ByteArray} {P : Nat → Nat → Prop} {g1 g2 g6 : Nat} {Q1 Q2 Q : Nat → Prop} (h : D3 B w W K x n c A vl labs P g1 g2 g6 Q1 Q2) (hB : B ≤ w.heap.size) (l6 : w.heap.size + 1 < g6) (hf : FRat w.heap.size W g' K.n Q) :
  D3 B w (W.setCell ⟨g6, 0, none⟩ (.slice (some ⟨g', 0, none⟩) (K.n + 1) (K.n + 1))) K x n c A vl labs P g' g2 g6 Q Q2 :=
 ⟨(Below.heap_setCell _ _ _ _ (by show w.heap.size ≠ g6; omega)).trans h.bx, (Below.heap_setCell _ _ _ _ (by show w.heap.size + 1 ≠ g6; omega)).trans h.rb, h.rn.other h.p6 (by decide) (by decide) (by decide) (by decide) _, heap_set (l := [_, _, _]) h.p6 _, hf.other h.p6 (by decide) _, h.f2.other h.p6 (by decide) _, h.kr.setNew hB (by show w.heap.size ≤ g6; omega) _⟩
theorem D3.put2 {B g' : Nat} {w W : World} {K : RK} {x : X} {n c : Nat} {A : Option Addr} {vl : Value} {labs : List ByteArray} {P : Nat → Nat → Prop} {g1 g2 g6 : Nat} {Q1 Q2 Q : Nat → Prop} (h : D3 B w W K x n c A vl labs P g1 g2 g6 Q1 Q2) (hB : B ≤ w.heap.size) (l6 : w.heap.size + 1 < g6) (hf : FRat w.heap.size W g' K.n Q) :
  D3 B w (W.setCell ⟨g6, 1, none⟩ (.slice (some ⟨g', 0, none⟩) (K.n + 1) (K.n + 1))) K x n c A vl labs P g1 g' g6 Q1 Q :=
 ⟨(Below.heap_setCell _ _ _ _ (by show w.heap.size ≠ g6; omega)).trans h.bx, (Below.heap_setCell _ _ _ _ (by show w.heap.size + 1 ≠ g6; omega)).trans h.rb, h.rn.other h.p6 (by decide) (by decide) (by decide) (by decide) _, heap_set (l := [_, _, _]) h.p6 _, h.f1.other h.p6 (by decide) _, hf.other h.p6 (by decide) _, h.kr.setNew hB (by show w.heap.size ≤ g6; omega) _⟩
/-- and what the kids told -/
structure L2 (B : Nat) (w W : World) (K : RK) (x : X) (n c : Nat) (A : Option Addr) (vl : Value) (labs : List ByteArray) (P : Nat → Nat → Prop) (g1 g2 g6 : Nat) (Q1 Q2 : Nat → Prop) (gk : Nat) (cur : Array Value) (a : Nat) (l : List (Nat × Nat × Bool)) : Prop where
 d : D3 B w W K x n c A vl labs P g1 g2 g6 Q1 Q2
 k : W.heap[gk]? = some (.cells cur 79 (0, 0))
 g : KG w.heap.size W K.n x.kids a l
section
variable {B : Nat} {w W W' : World} {K : RK} {x : X} {n c : Nat} {A : Option Addr} {vl : Value} {labs : List ByteArray} {P P' : Nat → Nat → Prop} {g1 g2 g6 : Nat} {Q1 Q2 Q1' Q2' : Nat → Prop} {gk : Nat} {cur : Array Value} {a : Nat} {l : List (Nat × Nat × Bool)}
theorem L2.bel (h : L2 B w W K x n c A vl labs P g1 g2 g6 Q1 Q2 gk cur a l) (hB : B ≤ w.heap.size) (hb : Below W.heap.size W W') : L2 B w W' K x n c A vl labs P g1 g2 g6 Q1 Q2 gk cur a l :=
 ⟨h.d.bel hB hb, (hb.block _ (Array.getElem?_eq_some_iff.1 h.k).1).trans h.k, h.g.map fun g P hf => hf.bel hb⟩
theorem L2.ext (h : L2 B w W K x n c A vl labs P g1 g2 g6 Q1 Q2 gk cur a l) (e : ∀ i j, P i j ↔ P' i j) (e1 : ∀ j, Q1 j ↔ Q1' j) (e2 : ∀ j, Q2 j ↔ Q2' j) : L2 B w W K x n c A vl labs P' g1 g2 g6 Q1' Q2' gk cur a l := ⟨h.d.ext e e1 e2, h.k, h.g⟩
theorem L2.put1 {g' : Nat} {Q : Nat → Prop} (h : L2 B w W K x n c A vl labs P g1 g2 g6 Q1 Q2 gk cur a l) (hB : B ≤ w.heap.size) (l6 : w.heap.size + 1 < g6) (lk : g6 < gk) (hf : FRat w.heap.size W g' K.n Q) :
  L2 B w (W.setCell ⟨g6, 0, none⟩ (.slice (some ⟨g', 0, none⟩) (K.n + 1) (K.n + 1))) K x n c A vl labs P g' g2 g6 Q Q2 gk cur a l :=
 ⟨h.d.put1 hB l6 hf, (Below.heap_setCell _ _ _ _ (by show gk ≠ g6; omega)).trans h.k, h.g.map fun g P hf => hf.other h.d.p6 (by decide) _⟩
theorem L2.put2 {g' : Nat} {Q : Nat → Prop} (h : L2 B w W K x n c A vl labs P g1 g2 g6 Q1 Q2 gk cur a l) (hB : B ≤ w.heap.size) (l6 : w.heap.size + 1 < g6) (lk : g6 < gk) (hf : FRat w.heap.size W g' K.n Q) :
  L2 B w (W.setCell ⟨g6, 1, none⟩ (.slice (some ⟨g', 0, none⟩) (K.n + 1) (K.n + 1))) K x n c A vl labs P g1 g' g6 Q1 Q gk cur a l :=
 ⟨h.d.put2 hB l6 hf, (Below.heap_setCell _ _ _ _ (by show gk ≠ g6; omega)).trans h.k, h.g.map fun g P hf => hf.other h.d.p6 (by decide) _⟩
theorem L2.kr_to {vl0 vl' : Value} {labs0 labs' : List ByteArray} {P0 : Nat → Nat → Prop} (h : L2 B w W K x n c A vl labs P g1 g2 g6 Q1 Q2 gk cur a l) (h0 : RN B w K vl0 labs0 P0) (hk : Kr B K.r K.n W W') (hr : RN B W' K vl' labs' P') : L2 B w W' K x n c A vl' labs' P' g1 g2 g6 Q1 Q2 gk cur a l :=
 ⟨h.d.kr_to h0 hk hr, hk.boxed h.k (by decide) (by decide) (by decide), h.g.map fun g P hf => hf.kr hk (hf.ne h0)⟩
/-- what a kid's three cells hold -/
theorem L2.kid (h : L2 B w W K x n c A vl labs P g1 g2 g6 Q1 Q2 gk cur a l) (hc : ∀ (i : Nat) (u : Value), (flK K.n l)[i]? = some u → cur[i]? = some u) {t : Nat} (ht : t < l.length) :
  W.cell? ⟨gk, t * 3, none⟩ = some (.slice (some ⟨l[t].1, 0, none⟩) (K.n + 1) (K.n + 1)) ∧ W.cell? ⟨gk, t * 3 + 1, none⟩ = some (.slice (some ⟨l[t].2.1, 0, none⟩) (K.n + 1) (K.n + 1)) ∧ W.cell? ⟨gk, t * 3 + 2, none⟩ = some (.bool l[t].2.2) := by
 obtain ⟨e0, e1, e2⟩ := flK_at K.n l t ht
 exact ⟨(cell_of_row _ _ _ _ 79 (0, 0) h.k).trans (hc _ _ e0), (cell_of_row _ _ _ _ 79 (0, 0) h.k).trans (hc _ _ e1), (cell_of_row _ _ _ _ 79 (0, 0) h.k).trans (hc _ _ e2)⟩
end
/-- a part's positions, of any part -/
def OfS (y : X) : Prop := ∀ (M B : Nat) (w : World) (K : RK) (vl v : Value) (labs : List ByteArray) (P : Nat → Nat → Prop), XV M w v y → M ≤ B → RN B w K vl labs P → K.n ≤ 100000 → y.good → y.sz ≤ 24 → y.lit → labs.length + y.pn ≤ K.n + 1 →
 Calls Tryd.prog 49 #[.pointer (some ⟨K.R, 0, none⟩), v] w (OfR B w K labs P y)
theorem psL_take {ks : List X} {k : Nat} (h : k < ks.length) : psL (ks.take (k + 1)) = psL (ks.take k) ++ ks[k].ps := by
 rw [List.take_succ_eq_append_getElem h]
 generalize ks.take k = l
 induction l with
 | nil => simp [psL_cons, psL_nil]
 | cons y ys ih => rw [List.cons_append, psL_cons, psL_cons, ih, List.append_assoc]
theorem psL_len (ks : List X) : (psL ks).length = pnL ks := rfl
end Go.Proofs.YtnccgaanfjaimaaDoor

namespace Go.Proofs.YtnccgaanfjaimaaDoor
open Go.ChangeShapes Go.WideShapes Go.ChangeAt Go.RowKit
set_option linter.unusedVariables false
set_option linter.unusedSimpArgs false

theorem pB_true {P : Prop} (h : P) : pB P = true := pB_iff.2 h
theorem pB_false {P : Prop} (h : ¬ P) : pB P = false := Bool.eq_false_iff.2 (fun e => h (pB_iff.1 e))
theorem pB_ff {P : Prop} (h : pB P = false) : ¬ P := fun hp => by rw [pB_true hp] at h; cases h
/-- what one kid more does to 'all that are there take the empty word' -/
theorem em_next {ks : List X} {i k : Nat} {y : X} (hy : ks[k]? = some y) (hik : i ≤ k) (C : Prop) : (C → Em ks i (k + 1)) ↔ (C → Em ks i k) ∧ (C → y.emp = true) := by
 rw [Em_more hy hik]
 exact ⟨fun h => ⟨fun c => (h c).1, fun c => (h c).2⟩, fun h c => ⟨h.1 c, h.2 c⟩⟩
theorem Lk_zero (x : X) (a p q : Nat) : Lk x a 0 p q ↔ ∃ t, t < x.kids.length ∧ KO x.kids a t p q := by
 unfold Lk
 constructor
 ·rintro (⟨t, h⟩ | ⟨_, t, h, _⟩)
  ·exact ⟨t, KO_lt h, h⟩
  ·omega
 ·rintro ⟨t, _, h⟩
  exact .inl ⟨t, h⟩
/-- links of one kid to those behind it -/
def Lm (x : X) (a i k p q : Nat) : Prop := x.kind = 2 ∧ ∃ k', i < k' ∧ k' < k ∧ KL x.kids a i p ∧ KF x.kids a k' q ∧ Em x.kids (i + 1) k'
theorem Lm_zero (x : X) (a i p q : Nat) : ¬ Lm x a i (i + 1) p q := by
 rintro ⟨_, k', h1, h2, _⟩
 omega
theorem Lm_more (x : X) (a i k p q : Nat) (hik : i < k) : Lm x a i (k + 1) p q ↔ Lm x a i k p q ∨ ((x.kind = 2 ∧ Em x.kids (i + 1) k) ∧ KL x.kids a i p ∧ KF x.kids a k q) := by
 unfold Lm
 constructor
 ·rintro ⟨h, k', h1, h2, h3, h4, h5⟩
  by_cases e : k' = k
  ·subst e; exact .inr ⟨⟨h, h5⟩, h3, h4⟩
  ·exact .inl ⟨h, k', h1, by omega, h3, h4, h5⟩
 ·rintro (⟨h, k', h1, h2, h3⟩ | ⟨⟨h, h5⟩, h3, h4⟩)
  ·exact ⟨h, k', h1, by omega, h3⟩
  ·exact ⟨h, k, hik, by omega, h3, h4, h5⟩
theorem Lk_more (x : X) (a i k p q : Nat) (hk : k = x.kids.length ∨ ¬ (x.kind = 2 ∧ Em x.kids (i + 1) k)) : (Lk x a i p q ∨ Lm x a i k p q) ↔ Lk x a (i + 1) p q := by
 unfold Lk Lm
 constructor
 ·rintro ((h | ⟨h, t, h1, h2⟩) | ⟨h, k', h1, h2, h3⟩)
  ·exact .inl h
  ·exact .inr ⟨h, t, by omega, h2⟩
  ·exact .inr ⟨h, i, by omega, k', h1, h3⟩
 ·rintro (h | ⟨h, t, h1, k', h2, h3, h4, h5⟩)
  ·exact .inl (.inl h)
  ·by_cases e : t = i
   ·subst e
    refine .inr ⟨h, k', h2, ?_, h3, h4, h5⟩
    rcases hk with hk | hk
    ·rw [hk]; exact KF_lt h4
    ·exact Nat.lt_of_not_le fun hge => hk ⟨h, fun m hm1 hm2 => h5 m hm1 (by omega)⟩
   ·exact .inl (.inr ⟨h, t, by omega, k', h2, h3, h4, h5⟩)
/-- first ones, last ones of those kids that count so far -/
def Qf (x : X) (a i j : Nat) : Prop := ∃ t, t < i ∧ KF x.kids a t j ∧ (x.kind = 2 → Em x.kids 0 t)
def Ql (x : X) (a i j : Nat) : Prop := ∃ t, t < i ∧ KL x.kids a t j ∧ (x.kind = 2 → Em x.kids (t + 1) x.kids.length)
theorem Qf_yes (x : X) (a i j : Nat) (h : x.kind = 2 → Em x.kids 0 i) : Qf x a (i + 1) j ↔ Qf x a i j ∨ KF x.kids a i j := by
 unfold Qf
 constructor
 ·rintro ⟨t, h1, h2, h3⟩
  by_cases e : t = i
  ·subst e; exact .inr h2
  ·exact .inl ⟨t, by omega, h2, h3⟩
 ·rintro (⟨t, h1, h2⟩ | h2)
  ·exact ⟨t, by omega, h2⟩
  ·exact ⟨i, by omega, h2, h⟩
theorem Qf_no (x : X) (a i j : Nat) (h : ¬ (x.kind = 2 → Em x.kids 0 i)) : Qf x a (i + 1) j ↔ Qf x a i j := by
 unfold Qf
 constructor
 ·rintro ⟨t, h1, h2, h3⟩
  by_cases e : t = i
  ·subst e; exact absurd h3 h
  ·exact ⟨t, by omega, h2, h3⟩
 ·rintro ⟨t, h1, h2⟩
  exact ⟨t, by omega, h2⟩
theorem Ql_yes (x : X) (a i j : Nat) (h : x.kind = 2 → Em x.kids (i + 1) x.kids.length) : Ql x a (i + 1) j ↔ Ql x a i j ∨ KL x.kids a i j := by
 unfold Ql
 constructor
 ·rintro ⟨t, h1, h2, h3⟩
  by_cases e : t = i
  ·subst e; exact .inr h2
  ·exact .inl ⟨t, by omega, h2, h3⟩
 ·rintro (⟨t, h1, h2⟩ | h2)
  ·exact ⟨t, by omega, h2⟩
  ·exact ⟨i, by omega, h2, h⟩
theorem Ql_no (x : X) (a i j : Nat) (h : ¬ (x.kind = 2 → Em x.kids (i + 1) x.kids.length)) : Ql x a (i + 1) j ↔ Ql x a i j := by
 unfold Ql
 constructor
 ·rintro ⟨t, h1, h2, h3⟩
  by_cases e : t = i
  ·subst e; exact absurd h3 h
  ·exact ⟨t, by omega, h2, h3⟩
 ·rintro ⟨t, h1, h2⟩
  exact ⟨t, by omega, h2⟩
theorem Qf_zero (x : X) (a j : Nat) : ¬ Qf x a 0 j := by
 rintro ⟨t, h, _⟩
 omega
theorem Ql_zero (x : X) (a j : Nat) : ¬ Ql x a 0 j := by
 rintro ⟨t, h, _⟩
 omega
theorem kids_pos {x : X} (hg : x.good) (h1 : x.kind ≠ 1) : 0 < x.kids.length := by
 have := hg.fit
 unfold X.fits at this
 apply Nat.pos_of_ne_zero
 intro e
 rw [e] at this
 unfold fitB at this
 simp [h1] at this
theorem cur_take {n : Nat} {l : List (Nat × Nat × Bool)} {cur : Array Value} {m : Nat} (h : cur.toList.take m = flK n l) : ∀ (i : Nat) (u : Value), (flK n l)[i]? = some u → cur[i]? = some u := by
 intro i u hi
 rw [← h] at hi
 have hlt : i < m := by
  have := (List.getElem?_eq_some_iff.1 hi).1
  rw [List.length_take] at this
  omega
 rw [List.getElem?_take_of_lt hlt] at hi
 simpa using hi
theorem L2.kid' {B : Nat} {w W : World} {K : RK} {x : X} {n c : Nat} {A : Option Addr} {vl : Value} {labs : List ByteArray} {P : Nat → Nat → Prop} {g1 g2 g6 : Nat} {Q1 Q2 : Nat → Prop} {gk : Nat} {cur : Array Value} {a : Nat} {l : List (Nat × Nat × Bool)} (h : L2 B w W K x n c A vl labs P g1 g2 g6 Q1 Q2 gk cur a l) (hc : ∀ (i : Nat) (u : Value), (flK K.n l)[i]? = some u → cur[i]? = some u) {t gf gg : Nat} {e : Bool} (ht : l[t]? = some (gf, gg, e)) :
  (W.cell? ⟨gk, t * 3, none⟩ = some (.slice (some ⟨gf, 0, none⟩) (K.n + 1) (K.n + 1)) ∧ W.cell? ⟨gk, t * 3 + 1, none⟩ = some (.slice (some ⟨gg, 0, none⟩) (K.n + 1) (K.n + 1)) ∧ W.cell? ⟨gk, t * 3 + 2, none⟩ = some (.bool e)) ∧ FRat w.heap.size W gf K.n (fun j => KF x.kids a t (j + 1)) ∧ FRat w.heap.size W gg K.n (fun j => KL x.kids a t (j + 1)) := by
 obtain ⟨hl, he⟩ := List.getElem?_eq_some_iff.1 ht
 have h1 := h.kid hc hl
 have h2 := h.g.f t hl
 have h3 := h.g.g t hl
 rw [he] at h1 h2 h3
 exact ⟨h1, h2, h3⟩
/-- the ends of the whole -/
theorem fst_Qf {x : X} (h1 : x.kind ≠ 1) (a p : Nat) : Qf x a x.kids.length p ↔ x.fst a p = true := (fst_kids h1 a p).symm
theorem lst_Ql {x : X} (h1 : x.kind ≠ 1) (a p : Nat) : Ql x a x.kids.length p ↔ x.lst a p = true := (lst_kids h1 a p).symm
theorem btw_next {ks : List X} {i k : Nat} {y : X} (hy : ks[k]? = some y) (hik : i ≤ k) (C : Prop) (h : C ∧ Em ks i k) : (C ∧ Em ks i (k + 1)) ↔ y.emp = true := by
 rw [Em_more hy hik]
 exact ⟨fun h => h.2.2, fun e => ⟨h.1, h.2, e⟩⟩
end Go.Proofs.YtnccgaanfjaimaaDoor
