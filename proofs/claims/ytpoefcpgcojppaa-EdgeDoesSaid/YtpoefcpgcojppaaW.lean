/- Rows of props in memory. -/
import Derived.Test.YtpoefcpgcojppaaNH
import Derived.Test.YtpoefcpgcojppaaVF
import Derived.LaidEql
import Derived.Laws.StructEq
import Derived.Shelf.SlSortCmp.QuietGrown
import Derived.Deep.Cut
import Derived.Lib.SmallJoins
namespace Go.Proofs.Ytpoefcpgcojppaa
open Go.ChangeShapes Go.WideShapes Go.ChangeAt Go.RowKit
set_option linter.unusedVariables false

/-- of the blocks that p names nothing has turned -/
structure Keep (p : Nat → Prop) (w w' : World) : Prop where
  os : w'.os = w.os
  tape : w'.tape = w.tape
  output : w'.output = w.output
  size : w.heap.size ≤ w'.heap.size
  block : ∀ k, k < w.heap.size → p k → w'.heap[k]? = w.heap[k]?
theorem Keep.refl (p : Nat → Prop) (w : World) : Keep p w w := ⟨rfl, rfl, rfl, Nat.le_refl _, fun _ _ _ => rfl⟩
theorem Keep.trans {p q : Nat → Prop} {a b c : World} (h : Keep p a b) (k : Keep q b c) (hq : ∀ i, i < a.heap.size → p i → q i) : Keep p a c :=
  ⟨k.os.trans h.os, k.tape.trans h.tape, k.output.trans h.output, Nat.le_trans h.size k.size, fun i hi hp => (k.block i (Nat.lt_of_lt_of_le hi h.size) (hq i hi hp)).trans (h.block i hi hp)⟩
theorem Keep.of_below {p : Nat → Prop} {w w' : World} (h : Below w.heap.size w w') : Keep p w w' := ⟨h.os, h.tape, h.output, h.size, fun k hk _ => h.block k hk⟩
theorem Keep.of_belowN {N : Nat} {w w' : World} (h : Below N w w') : Keep (fun k => k < N) w w' := ⟨h.os, h.tape, h.output, h.size, fun k _ hk => h.block k hk⟩
theorem Keep.of_grown {p : Nat → Prop} {w w' : World} {row : Option Nat} (h : w.grownBy w' row) (hr : ∀ k, k < w.heap.size → p k → some k ≠ row) : Keep p w w' := ⟨h.os, h.tape, h.output, h.size, fun k hk hp => h.block k hk (hr k hk hp)⟩
theorem block_add (a : Addr) (n : Nat) : (a.add n).block = a.block := by unfold Addr.add; split <;> rfl
theorem add_of_add (a : Addr) (i j : Nat) : (a.add i).add j = a.add (i + j) := by
  unfold Addr.add
  by_cases hi : i = 0 <;> by_cases hj : j = 0 <;> simp [hi, hj, Nat.add_assoc]
theorem add_off (a : Addr) {k j : Nat} (hj : 0 < j) : a.add (k + j) = ⟨(a.add k).block, (a.add k).off + j, none⟩ := by
  rw [← add_of_add]
  obtain ⟨B, o, s⟩ := a.add k
  unfold Addr.add
  split
  · rename_i h0
    omega
  · simp

/-- a prop's four cells -/
def encP (x : Pt) : List Value := [.string x.1, .int .i64 x.2.1, .int .i64 x.2.2.1, .string x.2.2.2]
def flatP (l : List Pt) : List Value := l.flatMap encP
theorem flatP_len (l : List Pt) : (flatP l).length = l.length * 4 := by simp [flatP, encP, List.length_flatMap, Function.comp_def, List.map_const']
theorem flatP_app (l m : List Pt) : flatP (l ++ m) = flatP l ++ flatP m := by simp [flatP]
theorem flatP_cons (x : Pt) (l : List Pt) : flatP (x :: l) = .string x.1 :: .int .i64 x.2.1 :: .int .i64 x.2.2.1 :: .string x.2.2.2 :: flatP l := by simp [flatP, encP]
theorem flatP_at : ∀ (l : List Pt) (k : Nat) (h : k < l.length), (flatP l)[k * 4]? = some (.string l[k].1) ∧ (flatP l)[k * 4 + 1]? = some (.int .i64 l[k].2.1) ∧ (flatP l)[k * 4 + 2]? = some (.int .i64 l[k].2.2.1) ∧ (flatP l)[k * 4 + 3]? = some (.string l[k].2.2.2)
  | x :: l, 0, h => by simp [flatP, encP]
  | x :: l, k + 1, h => by
    have := flatP_at l k (by simp at h; omega)
    simp only [List.getElem_cons_succ]
    rw [flatP_cons, show (k + 1) * 4 = k * 4 + 1 + 1 + 1 + 1 by omega, show k * 4 + 1 + 1 + 1 + 1 + 1 = (k * 4 + 1) + 1 + 1 + 1 + 1 by omega, show k * 4 + 1 + 1 + 1 + 1 + 2 = (k * 4 + 2) + 1 + 1 + 1 + 1 by omega, show k * 4 + 1 + 1 + 1 + 1 + 3 = (k * 4 + 3) + 1 + 1 + 1 + 1 by omega]
    simpa only [List.getElem?_cons_succ] using this
theorem flatP_one (l : List Pt) : ∀ v ∈ flatP l, v.oneCell' = true := by
  intro v hv
  obtain ⟨x, _, hx⟩ := List.mem_flatMap.1 hv
  simp [encP] at hx
  rcases hx with rfl | rfl | rfl | rfl <;> rfl

/-- the slice v holds just the props of l -/
def PR (w : World) (v : Value) (l : List Pt) : Prop :=
  ∃ A c, v = .slice A l.length c ∧ (0 < l.length → ∃ ad, A = some ad ∧ ad.block < w.heap.size ∧ ∀ j u, (flatP l)[j]? = some u → w.cell? (ad.add j) = some u)
theorem PR.keep {w w' : World} {v : Value} {l : List Pt} (h : PR w v l) {p : Nat → Prop} (hk : Keep p w w') (hp : 0 < l.length → ∀ g, v.ownBlock = some g → g < w.heap.size → p g) : PR w' v l := by
  obtain ⟨A, c, rfl, h⟩ := h
  refine ⟨A, c, rfl, fun hn => ?_⟩
  obtain ⟨ad, rfl, hg, hc⟩ := h hn
  have hb := hk.block _ hg (hp hn _ rfl hg)
  have hcell : ∀ j, w'.cell? (ad.add j) = w.cell? (ad.add j) := fun j => World.cell?_of_block (a := ad.add j) (by rw [block_add]; exact hb)
  exact ⟨ad, rfl, Nat.lt_of_lt_of_le hg hk.size, fun j u hj => (hcell j).trans (hc j u hj)⟩
theorem PR.below {w w' : World} {v : Value} {l : List Pt} (h : PR w v l) (hb : Below w.heap.size w w') : PR w' v l := h.keep (p := fun _ => True) (Keep.of_below hb) fun _ _ _ _ => trivial
theorem PR.gr {w w' : World} {v : Value} {l : List Pt} (h : PR w v l) (hb : Gr w w') : PR w' v l := h.below hb.below
theorem PR.lt {w : World} {v : Value} {l : List Pt} (h : PR w v l) : 0 < l.length → ∀ g, v.ownBlock = some g → g < w.heap.size := by
  obtain ⟨A, c, rfl, h⟩ := h
  intro hn g e
  obtain ⟨ad, rfl, hg, _⟩ := h hn
  simp [Value.ownBlock] at e
  omega
theorem PR.form {w : World} {v : Value} {l : List Pt} (h : PR w v l) : ∃ A c, v = .slice A l.length c := by
  obtain ⟨A, c, e, _⟩ := h
  exact ⟨A, c, e⟩
theorem PR.nil (w : World) (A : Option Addr) (c : Nat) : PR w (.slice A 0 c) [] := ⟨A, c, rfl, fun h => absurd h (by simp)⟩
theorem PR.of_own {w : World} {base n : Nat} {t : TypeId} {v : Value} {l : List Pt} (h : w.ownsRow base t 4 v n (flatP l)) : PR w v l := by
  have hn : n = l.length := by have := h.1; rw [flatP_len] at this; omega
  subst hn
  rcases h.2 with ⟨rfl, hx⟩ | ⟨g, cap, cur, rfl, _, hh, _⟩
  · have : l = [] := List.eq_nil_of_length_eq_zero hx
    subst this
    exact PR.nil w none 0
  · exact ⟨_, cap, rfl, fun _ => ⟨_, rfl, (Array.getElem?_eq_some_iff.1 hh).1, fun j u hj => h.cells (g := g) rfl _ _ hj⟩⟩
/-- a prop of the row, as the walk reads it -/
theorem PR.at4 {w : World} {A : Option Addr} {n c : Nat} {l : List Pt} (h : PR w (.slice A n c) l) {k : Nat} (hk : k < l.length) :
    ∃ ad, A = some ad ∧ ad.block < w.heap.size ∧ w.cell? (ad.add (k * 4)) = some (.string l[k].1) ∧ w.cell? ⟨(ad.add (k * 4)).block, (ad.add (k * 4)).off + 1, none⟩ = some (.int .i64 l[k].2.1) ∧ w.cell? ⟨(ad.add (k * 4)).block, (ad.add (k * 4)).off + 2, none⟩ = some (.int .i64 l[k].2.2.1) ∧ w.cell? ⟨(ad.add (k * 4)).block, (ad.add (k * 4)).off + 3, none⟩ = some (.string l[k].2.2.2) := by
  obtain ⟨A', c', e, h⟩ := h
  injection e with e1 e2 e3
  subst e1
  obtain ⟨ad, h1, h2, h3⟩ := h (by omega)
  obtain ⟨f0, f1, f2, f3⟩ := flatP_at l k hk
  refine ⟨ad, h1, h2, h3 _ _ f0, ?_, ?_, ?_⟩
  · rw [← add_off ad (by omega)]; exact h3 _ _ f1
  · rw [← add_off ad (by omega)]; exact h3 _ _ f2
  · rw [← add_off ad (by omega)]; exact h3 _ _ f3
theorem PR.take {w : World} {A : Option Addr} {n c : Nat} {l : List Pt} (h : PR w (.slice A n c) l) {k : Nat} (hk : k ≤ n) : PR w (.slice A k c) (l.take k) := by
  obtain ⟨A', c', e, h⟩ := h
  injection e with e1 e2 e3
  subst e1 e2 e3
  have hl : (l.take k).length = k := by rw [List.length_take, Nat.min_eq_left hk]
  refine ⟨A, c, by rw [hl], fun hn => ?_⟩
  obtain ⟨ad, h1, h2, h3⟩ := h (by omega)
  refine ⟨ad, h1, h2, fun j u hj => h3 j u ?_⟩
  have e : flatP l = flatP (l.take k) ++ flatP (l.drop k) := by rw [← flatP_app, List.take_append_drop]
  rw [e, List.getElem?_append_left (List.getElem?_eq_some_iff.1 hj).1]
  exact hj

theorem take_stepP {α : Type} {l1 l2 : List α} {k : Nat} (h : l1.take k = l2.take k) (h1 : k < l1.length) (h2 : k < l2.length) (he : l1[k] = l2[k]) : l1.take (k + 1) = l2.take (k + 1) := by
  rw [List.take_succ_eq_append_getElem h1, List.take_succ_eq_append_getElem h2, h, he]

theorem parts53 : (Try.prog.info? 53).map (fun i => (i.zero, i.size, i.bytes)) = some (some (.agg #[.string ⟨#[]⟩, .int .i64 0, .int .i64 0, .string ⟨#[]⟩]), 4, 48) := by kernel_rfl
end Go.Proofs.Ytpoefcpgcojppaa
