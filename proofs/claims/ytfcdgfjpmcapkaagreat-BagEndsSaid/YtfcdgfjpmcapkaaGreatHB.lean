/- Words for memory: blocks that are kept, rows of items, heaps. -/
import Derived.Test.YtfcdgfjpmcapkaaGreatHA
import Derived.WalkKit
import Derived.ProofKit
import Derived.OpenShut
import Derived.Handy
import Derived.Outline
import Derived.Lib.Hide
import Derived.Below
import Derived.Maps.OwnSet
import Derived.Maps.AppendAt
import Derived.BigQuiet
import Derived.Deep.QuietTactic
import Derived.IntWalk
namespace Go.Proofs.YtfcdgfjpmcapkaaGreat
open Go.ChangeShapes Go.WideShapes Go.ChangeAt Go.RowKit
set_option linter.unusedVariables false

theorem ret_bool {a b : Bool} (h : a = b) : Ending.returned (.bool a) = .returned (.bool b) := by rw [h]
theorem ret_int {a b : Int} (h : a = b) : Ending.returned (.int .i64 a) = .returned (.int .i64 b) := by rw [h]

/-- the blocks that p tells lie as they lay -/
structure Keep (p : Nat → Prop) (w w' : World) : Prop where
  os : w'.os = w.os
  tape : w'.tape = w.tape
  output : w'.output = w.output
  size : w.heap.size ≤ w'.heap.size
  block : ∀ k, k < w.heap.size → p k → w'.heap[k]? = w.heap[k]?

theorem Keep.refl (p : Nat → Prop) (w : World) : Keep p w w := ⟨rfl, rfl, rfl, Nat.le_refl _, fun _ _ _ => rfl⟩
theorem Keep.mono {p q : Nat → Prop} {w w' : World} (h : Keep p w w') (hq : ∀ k, k < w.heap.size → q k → p k) : Keep q w w' := ⟨h.os, h.tape, h.output, h.size, fun k hk hp => h.block k hk (hq k hk hp)⟩
theorem Keep.trans {p q : Nat → Prop} {a b c : World} (h : Keep p a b) (k : Keep q b c) (hq : ∀ i, i < a.heap.size → p i → q i) : Keep p a c :=
  ⟨k.os.trans h.os, k.tape.trans h.tape, k.output.trans h.output, Nat.le_trans h.size k.size, fun i hi hp => (k.block i (Nat.lt_of_lt_of_le hi h.size) (hq i hi hp)).trans (h.block i hi hp)⟩
theorem Keep.of_below {p : Nat → Prop} {w w' : World} (h : Below w.heap.size w w') : Keep p w w' := ⟨h.os, h.tape, h.output, h.size, fun k hk _ => h.block k hk⟩
theorem Keep.of_belowN {N : Nat} {w w' : World} (h : Below N w w') : Keep (fun k => k < N) w w' := ⟨h.os, h.tape, h.output, h.size, fun k _ hk => h.block k hk⟩
theorem Keep.of_grown {p : Nat → Prop} {w w' : World} {row : Option Nat} (h : w.grownBy w' row) (hr : ∀ k, k < w.heap.size → p k → some k ≠ row) : Keep p w w' := ⟨h.os, h.tape, h.output, h.size, fun k hk hp => h.block k hk (hr k hk hp)⟩
theorem Keep.below {p : Nat → Prop} {w w' : World} (h : Keep p w w') {B : Nat} (hB : B ≤ w.heap.size) (hp : ∀ k, k < B → p k) : Below B w w' := ⟨h.os, h.tape, h.output, h.size, fun k hk => h.block k (by omega) (hp k hk)⟩
theorem Keep.drew {p : Nat → Prop} {a w : World} (h : Keep p a w) : Keep p a w.drew := ⟨h.os, h.tape, h.output, h.size, h.block⟩
theorem Keep.alloc {p : Nat → Prop} {a w : World} (h : Keep p a w) (o : Obj) : Keep p a (w.alloc o) :=
  h.trans (q := fun _ => True) (Keep.of_below ((Below.refl _ _).alloc (Nat.le_refl _) o)) (fun _ _ _ => trivial)
theorem Keep.setCell {p : Nat → Prop} {a w : World} (h : Keep p a w) (x : Addr) (u : Value) (hx : ∀ k, k < a.heap.size → p k → k ≠ x.block) : Keep p a (w.setCell x u) :=
  ⟨h.os, h.tape, h.output, by simpa using h.size, fun k hk hp => (Below.heap_setCell _ _ _ _ (hx k hk hp)).trans (h.block k hk hp)⟩

theorem block_add (a : Addr) (n : Nat) : (a.add n).block = a.block := by unfold Addr.add; split <;> rfl

/-- an item's two cells -/
def enc (x : It) : List Value := [.int .i64 x.1, .int .i64 x.2]
def flat (l : List It) : List Value := l.flatMap enc
theorem flat_len (l : List It) : (flat l).length = l.length * 2 := by simp [flat, enc, List.length_flatMap, Function.comp_def, List.map_const']
theorem flat_app (l m : List It) : flat (l ++ m) = flat l ++ flat m := by simp [flat]
theorem flat_at : ∀ (l : List It) (k : Nat) (h : k < l.length), (flat l)[k * 2]? = some (.int .i64 l[k].1) ∧ (flat l)[k * 2 + 1]? = some (.int .i64 l[k].2)
  | x :: l, 0, h => by simp [flat, enc]
  | x :: l, k + 1, h => by
    have := flat_at l k (by simp at h; omega)
    simp only [List.getElem_cons_succ]
    rw [show (k + 1) * 2 = k * 2 + 1 + 1 by omega, show flat (x :: l) = .int .i64 x.1 :: .int .i64 x.2 :: flat l by simp [flat, enc]]
    rw [show k * 2 + 1 + 1 + 1 = (k * 2 + 1) + 1 + 1 by omega]
    simpa only [List.getElem?_cons_succ] using this

/-- the slice v holds just the items of l -/
def PR (w : World) (v : Value) (l : List It) : Prop :=
  ∃ A c, v = .slice A l.length c ∧ (0 < l.length → ∃ ad, A = some ad ∧ ad.block < w.heap.size ∧ ∀ k (h : k < l.length), w.cell? (ad.add (k * 2)) = some (.int .i64 l[k].1) ∧ w.cell? (ad.add (k * 2 + 1)) = some (.int .i64 l[k].2))

theorem PR.keep {w w' : World} {v : Value} {l : List It} (h : PR w v l) {p : Nat → Prop} (hk : Keep p w w') (hp : 0 < l.length → ∀ g, v.ownBlock = some g → g < w.heap.size → p g) : PR w' v l := by
  obtain ⟨A, c, rfl, h⟩ := h
  refine ⟨A, c, rfl, fun hn => ?_⟩
  obtain ⟨ad, rfl, hg, hc⟩ := h hn
  have hb := hk.block _ hg (hp hn _ rfl hg)
  refine ⟨ad, rfl, Nat.lt_of_lt_of_le hg hk.size, fun k hlt => ⟨(World.cell?_of_block (a := ad.add (k * 2)) ?_).trans (hc k hlt).1, (World.cell?_of_block (a := ad.add (k * 2 + 1)) ?_).trans (hc k hlt).2⟩⟩
  · rw [block_add]; exact hb
  · rw [block_add]; exact hb
theorem PR.below {w w' : World} {v : Value} {l : List It} (h : PR w v l) (hb : Below w.heap.size w w') : PR w' v l := h.keep (p := fun _ => True) (Keep.of_below hb) fun _ _ _ _ => trivial
theorem PR.of_own {w : World} {base n : Nat} {t : TypeId} {v : Value} {l : List It} (h : w.ownsRow base t 2 v n (flat l)) : PR w v l := by
  have hn : n = l.length := by have := h.1; rw [flat_len] at this; omega
  subst hn
  rcases h.2 with ⟨rfl, hx⟩ | ⟨g, cap, cur, rfl, _, hh, _⟩
  · have : l = [] := List.eq_nil_of_length_eq_zero hx
    subst this
    exact ⟨none, 0, rfl, fun h => absurd h (by simp)⟩
  · refine ⟨_, cap, rfl, fun _ => ⟨_, rfl, (Array.getElem?_eq_some_iff.1 hh).1, fun k hk => ?_⟩⟩
    exact ⟨h.cells (g := g) rfl _ _ (flat_at l k hk).1, h.cells (g := g) rfl _ _ (flat_at l k hk).2⟩

/-- a heap: its own block, its row of items -/
structure Hb (w : World) (b : Nat) (sv : Value) (L : List It) : Prop where
  blk : w.heap[b]? = some (.cells #[.pointer (some ⟨b, 0, none⟩), sv] 102 (0, 0))
  row : w.ownsRow 0 74 2 sv L.length (flat L)

/-- what is no heap's -/
def Off (b : Nat) (sv : Value) (k : Nat) : Prop := k ≠ b ∧ sv.ownBlock ≠ some k

theorem Hb.ltb {w : World} {b : Nat} {sv : Value} {L : List It} (h : Hb w b sv L) : b < w.heap.size := (Array.getElem?_eq_some_iff.1 h.blk).1
theorem Hb.ltr {w : World} {b : Nat} {sv : Value} {L : List It} (h : Hb w b sv L) (g : Nat) (hg : sv.ownBlock = some g) : g < w.heap.size := (h.row.lt g hg).2
theorem Hb.off {w : World} {b : Nat} {sv : Value} {L : List It} (h : Hb w b sv L) {k : Nat} (hk : w.heap.size ≤ k) : Off b sv k :=
  ⟨by have := h.ltb; omega, fun e => by have := h.ltr k e; omega⟩
theorem Hb.br {w : World} {b : Nat} {sv : Value} {L : List It} (h : Hb w b sv L) : sv.ownBlock ≠ some b := by
  intro e
  have hb := h.blk
  rcases h.row.2 with ⟨rfl, _⟩ | ⟨g, cap, cur, rfl, _, hh, _⟩
  · simp [Value.ownBlock] at e
  · obtain rfl : g = b := by simpa [Value.ownBlock] using e
    rw [hh] at hb
    simp at hb
theorem own_keep {w w' : World} {base e sz n : Nat} {v : Value} {xs : List Value} (h : w.ownsRow base e sz v n xs) {p : Nat → Prop} (hk : Keep p w w') (hp : ∀ g, v.ownBlock = some g → p g) : w'.ownsRow base e sz v n xs := by
  refine ⟨h.1, ?_⟩
  rcases h.2 with hn | ⟨g, cap, cur, e, hbg, hg, rest⟩
  · exact .inl hn
  · have hlt := (Array.getElem?_eq_some_iff.1 hg).1
    exact .inr ⟨g, cap, cur, e, hbg, (hk.block g hlt (hp g (by rw [e]; rfl))).trans hg, rest⟩
theorem Hb.keep {w w' : World} {b : Nat} {sv : Value} {L : List It} (h : Hb w b sv L) {p : Nat → Prop} (hk : Keep p w w') (hp : ∀ k, k < w.heap.size → (k = b ∨ sv.ownBlock = some k) → p k) : Hb w' b sv L :=
  ⟨(hk.block b h.ltb (hp b h.ltb (.inl rfl))).trans h.blk, own_keep h.row hk fun g hg => hp g (h.ltr g hg) (.inr hg)⟩
theorem Hb.below {w w' : World} {b : Nat} {sv : Value} {L : List It} (h : Hb w b sv L) (hb : Below w.heap.size w w') : Hb w' b sv L := h.keep (p := fun _ => True) (Keep.of_below hb) fun _ _ _ => trivial
theorem Hb.cells {w : World} {b : Nat} {sv : Value} {L : List It} (h : Hb w b sv L) : w.cell? ⟨b, 0, none⟩ = some (.pointer (some ⟨b, 0, none⟩)) ∧ w.cell? ⟨b, 1, none⟩ = some sv ∧ w.frozen? ⟨b, 1, none⟩ = false := by
  refine ⟨?_, ?_, ?_⟩
  · simp [World.cell?, h.blk]
  · simp [World.cell?, h.blk]
  · simp [World.frozen?, h.blk]
theorem row_form {w : World} {base e size n : Nat} {v : Value} {xs : List Value} (h : w.ownsRow base e size v n xs) : ∃ A c, v = .slice A n c ∧ (0 < n → ∃ g, A = some ⟨g, 0, none⟩ ∧ base ≤ g ∧ g < w.heap.size) ∧ n ≤ c ∧ c ≤ maxLen := by
  rcases h.2 with ⟨rfl, rfl⟩ | ⟨g, cap, cur, rfl, hb, hg, h1, h2, _⟩
  · exact ⟨_, _, rfl, fun h => absurd h (by omega), Nat.le_refl _, by unfold maxLen; omega⟩
  · exact ⟨_, _, rfl, fun _ => ⟨g, rfl, hb, (Array.getElem?_eq_some_iff.1 hg).1⟩, h1, h2⟩
end Go.Proofs.YtfcdgfjpmcapkaaGreat
