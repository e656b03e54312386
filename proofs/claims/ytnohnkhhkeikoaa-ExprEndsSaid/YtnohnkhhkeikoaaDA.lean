/- Three things made side by side, two boxes for them: in whatever order. -/
import Derived.Test.YtnohnkhhkeikoaaKK
import Derived.Test.YtnohnkhhkeikoaaKT
import Derived.Test.YtnohnkhhkeikoaaRJ
import Derived.Test.YtnohnkhhkeikoaaRH
import Derived.Test.YtnohnkhhkeikoaaRB
namespace Go.Proofs.Ytnohnkhhkeikoaa
open Go.ChangeShapes Go.WideShapes Go.ChangeAt Go.RowKit
set_option linter.unusedVariables false
set_option linter.unusedSimpArgs false

/-- what lies in blocks of the kind q, and what of it stays -/
abbrev Th := (Nat → Prop) → World → Prop
structure Lies (T : Th) (B : Nat) (u : World) (p7 p8 : Option Nat) : Prop where
  keep : ∀ q w w', T q w → (∀ b, q b → w'.heap[b]? = w.heap[b]?) → T q w'
  lies : ∃ q, T q u ∧ ∀ b, q b → B ≤ b ∧ b < u.heap.size ∧ p7 ≠ some b ∧ p8 ≠ some b
theorem Lies.step {T : Th} {B : Nat} {u u' : World} {p7 p8 : Option Nat} (h : Lies T B u p7 p8) (hb : Below u.heap.size u u') : Lies T B u' p7 p8 := by
  obtain ⟨q, h1, h2⟩ := h.lies
  exact ⟨h.keep, q, h.keep q u u' h1 (fun b hq => hb.block b (h2 b hq).2.1), fun b hq => ⟨(h2 b hq).1, Nat.lt_of_lt_of_le (h2 b hq).2.1 hb.size, (h2 b hq).2.2⟩⟩
theorem Lies.new7 {T : Th} {B : Nat} {u : World} {p8 : Option Nat} (h : Lies T B u none p8) (o : Obj) : Lies T B (u.alloc o) (some u.heap.size) p8 := by
  obtain ⟨q, h1, h2⟩ := (h.step ((Below.refl _ u).alloc (Nat.le_refl _) o)).lies
  obtain ⟨q, h1, h2⟩ := h.lies
  refine ⟨h.keep, q, h.keep q u _ h1 (fun b hq => Below.heap_alloc _ _ _ (h2 b hq).2.1), fun b hq => ⟨(h2 b hq).1, by have := (h2 b hq).2.1; simp; omega, fun e => by injection e with e; have := (h2 b hq).2.1; omega, (h2 b hq).2.2.2⟩⟩
theorem Lies.new8 {T : Th} {B : Nat} {u : World} {p7 : Option Nat} (h : Lies T B u p7 none) (o : Obj) : Lies T B (u.alloc o) p7 (some u.heap.size) := by
  obtain ⟨q, h1, h2⟩ := h.lies
  refine ⟨h.keep, q, h.keep q u _ h1 (fun b hq => Below.heap_alloc _ _ _ (h2 b hq).2.1), fun b hq => ⟨(h2 b hq).1, by have := (h2 b hq).2.1; simp; omega, (h2 b hq).2.2.1, fun e => by injection e with e; have := (h2 b hq).2.1; omega⟩⟩

def z25 : Obj := .cells #[.int .i64 0, .string ⟨#[]⟩, .slice none 0 0] 25
structure D3 (W0 u : World) (p7 p8 : Option Nat) (ta tb tw : Option Th) : Prop where
  bel : Below W0.heap.size W0 u
  z7 : ∀ E, p7 = some E → W0.heap.size ≤ E ∧ u.heap[E]? = some z25
  z8 : ∀ E, p8 = some E → W0.heap.size ≤ E ∧ u.heap[E]? = some z25
  ne : ∀ E, p7 = some E → p8 ≠ some E
  la : ∀ T, ta = some T → Lies T W0.heap.size u p7 p8
  lb : ∀ T, tb = some T → Lies T W0.heap.size u p7 p8
  lw : ∀ T, tw = some T → Lies T W0.heap.size u p7 p8
section
variable {W0 u u' : World} {p7 p8 : Option Nat} {ta tb tw : Option Th}
theorem D3.start (h : Below W0.heap.size W0 u) : D3 W0 u none none none none none :=
  ⟨h, fun _ h => (by cases h), fun _ h => (by cases h), fun _ h => (by cases h), fun _ h => (by cases h), fun _ h => (by cases h), fun _ h => (by cases h)⟩
theorem D3.step (h : D3 W0 u p7 p8 ta tb tw) (hb : Below u.heap.size u u') : D3 W0 u' p7 p8 ta tb tw :=
  ⟨h.bel.trans (hb.mono h.bel.size), fun E e => ⟨(h.z7 E e).1, (hb.block E (Array.getElem?_eq_some_iff.1 (h.z7 E e).2).1).trans (h.z7 E e).2⟩, fun E e => ⟨(h.z8 E e).1, (hb.block E (Array.getElem?_eq_some_iff.1 (h.z8 E e).2).1).trans (h.z8 E e).2⟩, h.ne,
    fun T e => (h.la T e).step hb, fun T e => (h.lb T e).step hb, fun T e => (h.lw T e).step hb⟩
theorem D3.lt7 (h : D3 W0 u p7 p8 ta tb tw) {E : Nat} (e : p7 = some E) : E < u.heap.size := (Array.getElem?_eq_some_iff.1 (h.z7 E e).2).1
theorem D3.lt8 (h : D3 W0 u p7 p8 ta tb tw) {E : Nat} (e : p8 = some E) : E < u.heap.size := (Array.getElem?_eq_some_iff.1 (h.z8 E e).2).1
theorem D3.a7 (h : D3 W0 u none p8 ta tb tw) : D3 W0 (u.alloc z25) (some u.heap.size) p8 ta tb tw := by
  have hs := h.step ((Below.refl _ u).alloc (Nat.le_refl _) z25)
  refine ⟨hs.bel, fun E e => ?_, hs.z8, fun E e e8 => ?_, fun T e => (h.la T e).new7 _, fun T e => (h.lb T e).new7 _, fun T e => (h.lw T e).new7 _⟩
  · injection e with e
    subst e
    exact ⟨h.bel.size, at_push _ _⟩
  · injection e with e
    subst e
    exact Nat.lt_irrefl _ (h.lt8 e8)
theorem D3.a8 (h : D3 W0 u p7 none ta tb tw) : D3 W0 (u.alloc z25) p7 (some u.heap.size) ta tb tw := by
  have hs := h.step ((Below.refl _ u).alloc (Nat.le_refl _) z25)
  refine ⟨hs.bel, hs.z7, fun E e => ?_, fun E e7 e => ?_, fun T e => (h.la T e).new8 _, fun T e => (h.lb T e).new8 _, fun T e => (h.lw T e).new8 _⟩
  · injection e with e
    subst e
    exact ⟨h.bel.size, at_push _ _⟩
  · injection e with e
    subst e
    exact Nat.lt_irrefl _ (h.lt7 e7)
theorem D3.made (h : D3 W0 u p7 p8 ta tb tw) (hb : Below u.heap.size u u') {T : Th} (hk : ∀ q w w', T q w → (∀ b, q b → w'.heap[b]? = w.heap[b]?) → T q w') {q : Nat → Prop} (hT : T q u') (hq : ∀ b, q b → u.heap.size ≤ b ∧ b < u'.heap.size) : Lies T W0.heap.size u' p7 p8 :=
  ⟨hk, q, hT, fun b hqb => ⟨Nat.le_trans h.bel.size (hq b hqb).1, (hq b hqb).2, fun e => by have := h.lt7 e; have := (hq b hqb).1; omega, fun e => by have := h.lt8 e; have := (hq b hqb).1; omega⟩⟩
theorem D3.ca (h : D3 W0 u p7 p8 none tb tw) (hb : Below u.heap.size u u') {T : Th} (hk : ∀ q w w', T q w → (∀ b, q b → w'.heap[b]? = w.heap[b]?) → T q w') {q : Nat → Prop} (hT : T q u') (hq : ∀ b, q b → u.heap.size ≤ b ∧ b < u'.heap.size) : D3 W0 u' p7 p8 (some T) tb tw := by
  have hs := h.step hb
  exact ⟨hs.bel, hs.z7, hs.z8, hs.ne, fun T' e => by injection e with e; subst e; exact h.made hb hk hT hq, hs.lb, hs.lw⟩
theorem D3.cb (h : D3 W0 u p7 p8 ta none tw) (hb : Below u.heap.size u u') {T : Th} (hk : ∀ q w w', T q w → (∀ b, q b → w'.heap[b]? = w.heap[b]?) → T q w') {q : Nat → Prop} (hT : T q u') (hq : ∀ b, q b → u.heap.size ≤ b ∧ b < u'.heap.size) : D3 W0 u' p7 p8 ta (some T) tw := by
  have hs := h.step hb
  exact ⟨hs.bel, hs.z7, hs.z8, hs.ne, hs.la, fun T' e => by injection e with e; subst e; exact h.made hb hk hT hq, hs.lw⟩
theorem D3.cw (h : D3 W0 u p7 p8 ta tb none) (hb : Below u.heap.size u u') {T : Th} (hk : ∀ q w w', T q w → (∀ b, q b → w'.heap[b]? = w.heap[b]?) → T q w') {q : Nat → Prop} (hT : T q u') (hq : ∀ b, q b → u.heap.size ≤ b ∧ b < u'.heap.size) : D3 W0 u' p7 p8 ta tb (some T) := by
  have hs := h.step hb
  exact ⟨hs.bel, hs.z7, hs.z8, hs.ne, hs.la, hs.lb, fun T' e => by injection e with e; subst e; exact h.made hb hk hT hq⟩
end

/-- a box filled -/
def set3 (u : World) (E : Nat) (a0 a1 a2 : Value) : World := ((u.setCell ⟨E, 0, none⟩ a0).setCell ⟨E, 1, none⟩ a1).setCell ⟨E, 2, none⟩ a2
theorem set3_other {u : World} {E b : Nat} (a0 a1 a2 : Value) (h : b ≠ E) : (set3 u E a0 a1 a2).heap[b]? = u.heap[b]? := by
  unfold set3
  rw [Below.heap_setCell _ _ _ _ h, Below.heap_setCell _ _ _ _ h, Below.heap_setCell _ _ _ _ h]
theorem set3_self {u : World} {E : Nat} (a0 a1 a2 : Value) (h : u.heap[E]? = some z25) : (set3 u E a0 a1 a2).heap[E]? = some (.cells #[a0, a1, a2] 25 (0, 0)) := by
  unfold set3 World.setCell
  simp [Array.getElem?_modify, h, z25]
theorem set3_size (u : World) (E : Nat) (a0 a1 a2 : Value) : (set3 u E a0 a1 a2).heap.size = u.heap.size := by simp [set3, World.setCell]
theorem set3_below {B : Nat} {W0 u : World} {E : Nat} (h : Below B W0 u) (hE : B ≤ E) (a0 a1 a2 : Value) : Below B W0 (set3 u E a0 a1 a2) :=
  ((h.setCell (p := ⟨E, 0, none⟩) hE a0).setCell (p := ⟨E, 1, none⟩) hE a1).setCell (p := ⟨E, 2, none⟩) hE a2
/-- cells of a box of noughts -/
theorem z25_cells {u : World} {E : Nat} (h : u.heap[E]? = some z25) : (u.cell? ⟨E, 0, none⟩ = some (.int .i64 0) ∧ u.cell? ⟨E, 1, none⟩ = some (.string ⟨#[]⟩) ∧ u.cell? ⟨E, 2, none⟩ = some (.slice none 0 0)) ∧ u.frozen? ⟨E, 0, none⟩ = false ∧ u.frozen? ⟨E, 1, none⟩ = false ∧ u.frozen? ⟨E, 2, none⟩ = false := by
  have h2 : u.heap[E]? = some (.cells #[.int .i64 0, .string ⟨#[]⟩, .slice none 0 0] 25 (0, 0)) := h
  exact ⟨box3 h2, by simp [World.frozen?, h2], by simp [World.frozen?, h2], by simp [World.frozen?, h2]⟩

/-- all three made, the boxes filled -/
structure F3 (W0 u : World) (E7 E8 : Nat) (a0 a1 a2 b0 b1 b2 : Value) (ta tb tw : Th) : Prop where
  bel : Below W0.heap.size W0 u
  b7 : u.heap[E7]? = some (.cells #[a0, a1, a2] 25 (0, 0))
  b8 : u.heap[E8]? = some (.cells #[b0, b1, b2] 25 (0, 0))
  la : ta (fun b => b < u.heap.size) u
  lb : tb (fun b => b < u.heap.size) u
  lw : tw (fun b => b < u.heap.size) u
theorem D3.fin {W0 u : World} {E7 E8 : Nat} {ta tb tw : Th} (h : D3 W0 u (some E7) (some E8) (some ta) (some tb) (some tw)) (a0 a1 a2 b0 b1 b2 : Value) (ma : ∀ q q' w, ta q w → (∀ b, q b → q' b) → ta q' w) (mb : ∀ q q' w, tb q w → (∀ b, q b → q' b) → tb q' w) (mw : ∀ q q' w, tw q w → (∀ b, q b → q' b) → tw q' w) :
    F3 W0 (set3 (set3 u E7 a0 a1 a2) E8 b0 b1 b2) E7 E8 a0 a1 a2 b0 b1 b2 ta tb tw := by
  have hne : E7 ≠ E8 := fun e => h.ne E7 rfl (by rw [e])
  have hz : (set3 (set3 u E7 a0 a1 a2) E8 b0 b1 b2).heap.size = u.heap.size := by rw [set3_size, set3_size]
  have key : ∀ (t : Th), (∀ q q' w, t q w → (∀ b, q b → q' b) → t q' w) → Lies t W0.heap.size u (some E7) (some E8) → t (fun b => b < (set3 (set3 u E7 a0 a1 a2) E8 b0 b1 b2).heap.size) (set3 (set3 u E7 a0 a1 a2) E8 b0 b1 b2) := by
    intro t m hl
    obtain ⟨q, h1, h2⟩ := hl.lies
    refine m q _ _ (hl.keep q u _ h1 (fun b hq => ?_)) (fun b hq => by rw [hz]; exact (h2 b hq).2.1)
    rw [set3_other _ _ _ (fun e => (h2 b hq).2.2.2 (by rw [e])), set3_other _ _ _ (fun e => (h2 b hq).2.2.1 (by rw [e]))]
  refine ⟨set3_below (set3_below h.bel (h.z7 E7 rfl).1 _ _ _) (h.z8 E8 rfl).1 _ _ _, ?_, ?_, key ta ma (h.la ta rfl), key tb mb (h.lb tb rfl), key tw mw (h.lw tw rfl)⟩
  · rw [set3_other _ _ _ hne]
    exact set3_self _ _ _ (h.z7 E7 rfl).2
  · exact set3_self _ _ _ (by rw [set3_other _ _ _ (Ne.symm hne)]; exact (h.z8 E8 rfl).2)

/-- texts that are lent, as a thing -/
def TT (l : Wd) (g : Nat) : Th := fun q w => q g ∧ ∀ j (hj : j < (l ++ mks).length), w.cell? ⟨g, j, none⟩ = some (.string (l ++ mks)[j])
theorem TT.keep (l : Wd) (g : Nat) (q : Nat → Prop) (w w' : World) (h : TT l g q w) (hw : ∀ b, q b → w'.heap[b]? = w.heap[b]?) : TT l g q w' := ⟨h.1, fun j hj => (World.cell?_of_block (a := ⟨g, j, none⟩) (hw g h.1)).trans (h.2 j hj)⟩
theorem TT.mono (l : Wd) (g : Nat) (q q' : Nat → Prop) (w : World) (h : TT l g q w) (hq : ∀ b, q b → q' b) : TT l g q' w := ⟨hq g h.1, h.2⟩
theorem TT.of_own {w : World} {base g c : Nat} {l : Wd} (h : w.ownsRow base 9 1 (.slice (some ⟨g, 0, none⟩) (l.length + 12) c) (l.length + 12) ((l ++ mks).map Value.string)) : TT l g (fun b => base ≤ b ∧ b < w.heap.size) w ∧ l.length + 12 ≤ c := by
  have h1 := h.lt g rfl
  refine ⟨⟨h1, fun j hj => ?_⟩, ?_⟩
  · have := h.cells (g := g) rfl j (.string (l ++ mks)[j]) (by rw [List.getElem?_map, List.getElem?_eq_getElem hj]; rfl)
    rwa [at_zero] at this
  · obtain ⟨g', c', e, h2, _⟩ := own_succ (k := l.length + 11) h
    injection e with _ _ e
    omega
/-- expressions that are lent, as a thing -/
def TX (xs : List X) (kv : Value) : Th := fun q w => LR q w kv xs
theorem TX.keep (xs : List X) (kv : Value) (q : Nat → Prop) (w w' : World) (h : TX xs kv q w) (hw : ∀ b, q b → w'.heap[b]? = w.heap[b]?) : TX xs kv q w' := LR.keep h hw (fun _ h => h)
theorem TX.mono (xs : List X) (kv : Value) (q q' : Nat → Prop) (w : World) (h : TX xs kv q w) (hq : ∀ b, q b → q' b) : TX xs kv q' w := LR.keep h (fun _ _ => rfl) hq
end Go.Proofs.Ytnohnkhhkeikoaa
