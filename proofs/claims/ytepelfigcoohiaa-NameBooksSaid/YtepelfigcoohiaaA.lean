/- Words for memory: blocks that are kept, rows of texts, books; lists of texts and their numbers. -/
import Derived.Test.YtepelfigcoohiaaRows
import Derived.WalkKit
import Derived.ProofKit
import Derived.OpenShut
import Derived.Handy
import Derived.Outline
import Derived.Lib.Hide
import Derived.Below
import Derived.Maps.OwnSet
import Derived.Maps.AppendAt
namespace Go.Proofs.Ytepelfigcoohiaa
open Go.ChangeShapes Go.WideShapes Go.ChangeAt Go.RowKit Go.Maps
set_option linter.unusedVariables false

theorem ret_bool {a b : Bool} (h : a = b) : Ending.returned (.bool a) = .returned (.bool b) := by rw [h]
theorem ret_int {a b : Int} (h : a = b) : Ending.returned (.int .i64 a) = .returned (.int .i64 b) := by rw [h]

/-- the blocks that p tells lie as they lay -/
structure Keep (p : Nat → Prop) (w w' : World) : Prop where
  os : w'.os = w.os
  tape : w'.tape = w.tape
  output : w'.output = w.output
  size : w.heap.size ≤ w'.heap.size
  block : ∀ k, k < w.heap.size → p k → w'.heap[k]? = w.heap[k]?

theorem Keep.refl (p : Nat → Prop) (w : World) : Keep p w w := ⟨rfl, rfl, rfl, Nat.le_refl _, fun _ _ _ => rfl⟩
theorem Keep.mono {p q : Nat → Prop} {w w' : World} (h : Keep p w w') (hq : ∀ k, k < w.heap.size → q k → p k) : Keep q w w' := ⟨h.os, h.tape, h.output, h.size, fun k hk hp => h.block k hk (hq k hk hp)⟩
theorem Keep.trans {p q : Nat → Prop} {a b c : World} (h : Keep p a b) (k : Keep q b c) (hq : ∀ i, i < a.heap.size → p i → q i) : Keep p a c :=
  ⟨k.os.trans h.os, k.tape.trans h.tape, k.output.trans h.output, Nat.le_trans h.size k.size, fun i hi hp => (k.block i (Nat.lt_of_lt_of_le hi h.size) (hq i hi hp)).trans (h.block i hi hp)⟩
theorem Keep.of_below {p : Nat → Prop} {w w' : World} (h : Below w.heap.size w w') : Keep p w w' := ⟨h.os, h.tape, h.output, h.size, fun k hk _ => h.block k hk⟩
theorem Keep.of_grown {p : Nat → Prop} {w w' : World} {row : Option Nat} (h : w.grownBy w' row) (hr : ∀ k, k < w.heap.size → p k → some k ≠ row) : Keep p w w' := ⟨h.os, h.tape, h.output, h.size, fun k hk hp => h.block k hk (hr k hk hp)⟩
theorem Keep.below {p : Nat → Prop} {w w' : World} (h : Keep p w w') {B : Nat} (hB : B ≤ w.heap.size) (hp : ∀ k, k < B → p k) : Below B w w' := ⟨h.os, h.tape, h.output, h.size, fun k hk => h.block k (by omega) (hp k hk)⟩
theorem Keep.drew {p : Nat → Prop} {a w : World} (h : Keep p a w) : Keep p a w.drew := ⟨h.os, h.tape, h.output, h.size, h.block⟩
theorem Keep.alloc {p : Nat → Prop} {a w : World} (h : Keep p a w) (o : Obj) : Keep p a (w.alloc o) :=
  h.trans (q := fun _ => True) (Keep.of_below ((Below.refl _ _).alloc (Nat.le_refl _) o)) (fun _ _ _ => trivial)
theorem Keep.setCell {p : Nat → Prop} {a w : World} (h : Keep p a w) (x : Addr) (u : Value) (hx : ∀ k, k < a.heap.size → p k → k ≠ x.block) : Keep p a (w.setCell x u) :=
  ⟨h.os, h.tape, h.output, by simpa using h.size, fun k hk hp => (Below.heap_setCell _ _ _ _ (hx k hk hp)).trans (h.block k hk hp)⟩

theorem block_add (a : Addr) (n : Nat) : (a.add n).block = a.block := by unfold Addr.add; split <;> rfl

/-- the slice v holds just the texts of l; none of its block is written where the block is kept -/
def SR (w : World) (v : Value) (l : List ByteArray) : Prop :=
  ∃ A c, v = .slice A l.length c ∧ (0 < l.length → ∃ ad, A = some ad ∧ ad.block < w.heap.size ∧ ∀ k (h : k < l.length), w.cell? (ad.add k) = some (.string l[k]))

theorem SR.keep {w w' : World} {v : Value} {l : List ByteArray} (h : SR w v l) {p : Nat → Prop} (hk : Keep p w w') (hp : ∀ g, v.ownBlock = some g → g < w.heap.size → p g) : SR w' v l := by
  obtain ⟨A, c, rfl, h⟩ := h
  refine ⟨A, c, rfl, fun hn => ?_⟩
  obtain ⟨ad, rfl, hg, hc⟩ := h hn
  refine ⟨ad, rfl, Nat.lt_of_lt_of_le hg hk.size, fun k hlt => (World.cell?_of_block (a := ad.add k) ?_).trans (hc k hlt)⟩
  rw [block_add]
  exact hk.block _ hg (hp _ rfl hg)
theorem SR.keep2 {w w' : World} {v : Value} {l : List ByteArray} (h : SR w v l) {p : Nat → Prop} (hk : Keep p w w') (hp : 0 < l.length → ∀ g, v.ownBlock = some g → p g) : SR w' v l := by
  by_cases hn : 0 < l.length
  · exact h.keep hk fun g hg _ => hp hn g hg
  · obtain ⟨A, c, rfl, _⟩ := h
    exact ⟨A, c, rfl, fun h => absurd h hn⟩
theorem SR.below {w w' : World} {v : Value} {l : List ByteArray} (h : SR w v l) (hb : Below w.heap.size w w') : SR w' v l := h.keep (p := fun _ => True) (Keep.of_below hb) fun _ _ _ => trivial
theorem SR.of_own {w : World} {base n : Nat} {v : Value} {l : List ByteArray} (h : w.ownsRow base 9 1 v n (l.map Value.string)) : SR w v l := by
  have hn : n = l.length := by have := h.1; simp at this; omega
  subst hn
  rcases h.2 with ⟨rfl, hx⟩ | ⟨g, cap, cur, rfl, _, hh, _⟩
  · have : l = [] := List.eq_nil_of_length_eq_zero hx
    subst this
    exact ⟨none, 0, rfl, fun h => absurd h (by simp)⟩
  · refine ⟨_, cap, rfl, fun _ => ⟨_, rfl, (Array.getElem?_eq_some_iff.1 hh).1, fun k hk => ?_⟩⟩
    exact h.cells (g := g) rfl k _ (by simp [hk])

instance : DecidableEq ByteArray := fun a b => decidable_of_iff (a.data = b.data) ⟨fun h => ByteArray.ext h, fun h => congrArg _ h⟩

instance decMem (s : ByteArray) : ∀ L : List ByteArray, Decidable (s ∈ L)
  | [] => .isFalse (by simp)
  | x :: l => match decEq x s, decMem s l with
    | .isTrue h, _ => .isTrue (by simp [h])
    | .isFalse _, .isTrue h => .isTrue (by simp [h])
    | .isFalse h1, .isFalse h2 => .isFalse (by simp [h2, Ne.symm h1])

/-- the place of a text in a list -/
def idx (s : ByteArray) : List ByteArray → Nat
  | [] => 0
  | x :: l => if x = s then 0 else idx s l + 1
/-- a text's number -/
def numOf (L : List ByteArray) (s : ByteArray) : Nat := if s ∈ L then idx s L else 0

theorem idx_lt {s : ByteArray} : ∀ {L : List ByteArray}, s ∈ L → idx s L < L.length
  | [], h => by cases h
  | x :: l, h => by
    unfold idx
    split
    · simp
    · rename_i hne
      have : s ∈ l := by rcases List.mem_cons.1 h with h | h; exact absurd h.symm hne; exact h
      have := idx_lt this
      simp; omega
theorem idx_get {s : ByteArray} : ∀ {L : List ByteArray} (h : s ∈ L), L[idx s L]'(idx_lt h) = s
  | [], h => by cases h
  | x :: l, h => by
    by_cases hx : x = s
    · subst hx
      simp [idx]
    · have hm : s ∈ l := by rcases List.mem_cons.1 h with h | h; exact absurd h.symm hx; exact h
      simp [idx, hx, idx_get hm]
theorem idx_app {s : ByteArray} (M : List ByteArray) : ∀ {L : List ByteArray}, s ∈ L → idx s (L ++ M) = idx s L
  | [], h => by cases h
  | x :: l, h => by
    by_cases hx : x = s
    · subst hx
      simp [idx]
    · have hm : s ∈ l := by rcases List.mem_cons.1 h with h | h; exact absurd h.symm hx; exact h
      simp [idx, hx, idx_app M hm]
theorem idx_new {s : ByteArray} : ∀ {L : List ByteArray}, ¬ s ∈ L → idx s (L ++ [s]) = L.length
  | [], h => by simp [idx]
  | x :: l, h => by
    simp only [List.mem_cons, not_or] at h
    simp [idx, Ne.symm h.1, idx_new h.2]
theorem numOf_app {L : List ByteArray} {s : ByteArray} (h : s ∈ L) (M : List ByteArray) : numOf (L ++ M) s = numOf L s := by
  simp [numOf, h, idx_app M h]
theorem numOf_new {L : List ByteArray} {s : ByteArray} (h : ¬ s ∈ L) : numOf (L ++ [s]) s = L.length := by
  simp [numOf, idx_new h]
theorem numOf_lt {L : List ByteArray} {s : ByteArray} (h : s ∈ L) : numOf L s < L.length := by simp [numOf, h, idx_lt h]
theorem numOf_le (L : List ByteArray) (s : ByteArray) : numOf L s ≤ L.length := by
  by_cases h : s ∈ L
  · exact Nat.le_of_lt (numOf_lt h)
  · simp [numOf, h]
theorem numOf_get {L : List ByteArray} {s : ByteArray} (h : s ∈ L) : L[numOf L s]'(numOf_lt h) = s := by
  have : numOf L s = idx s L := by simp [numOf, h]
  simp only [this]
  exact idx_get h

/-- one text more among those that are new -/
def frS (L F : List ByteArray) (s : ByteArray) : List ByteArray := if s ∈ L ∨ s ∈ F then F else F ++ [s]
/-- the texts that are not in L, each once, in order -/
def fr (L l : List ByteArray) : List ByteArray := l.foldl (frS L) []

theorem fr_succ (L l : List ByteArray) (k : Nat) (h : k < l.length) : fr L (l.take (k + 1)) = frS L (fr L (l.take k)) l[k] := by
  unfold fr
  rw [List.take_succ_eq_append_getElem h, List.foldl_append]
  rfl
theorem frS_len (L F : List ByteArray) (s : ByteArray) : F.length ≤ (frS L F s).length := by unfold frS; split <;> simp
theorem foldl_len (L : List ByteArray) : ∀ (l F : List ByteArray), F.length ≤ (l.foldl (frS L) F).length
  | [], F => Nat.le_refl _
  | s :: l, F => Nat.le_trans (frS_len L F s) (foldl_len L l _)
theorem fr_mono (L l : List ByteArray) (k : Nat) : (fr L (l.take k)).length ≤ (fr L l).length := by
  conv => rhs; rw [← List.take_append_drop k l]
  unfold fr
  rw [List.foldl_append]
  exact foldl_len L _ _
theorem frS_old {L F : List ByteArray} {s : ByteArray} (h : s ∈ L ∨ s ∈ F) : frS L F s = F := if_pos h
theorem frS_new {L F : List ByteArray} {s : ByteArray} (h1 : ¬ s ∈ L) (h2 : ¬ s ∈ F) : frS L F s = F ++ [s] := if_neg (by rintro (h | h); exact h1 h; exact h2 h)

/-- all of l are there at the end; what is new is not in L, and stands once -/
theorem mem_foldl (L : List ByteArray) : ∀ (l F : List ByteArray) (s : ByteArray), s ∈ l.foldl (frS L) F ↔ s ∈ F ∨ (s ∈ l ∧ ¬ s ∈ L)
  | [], F, s => by simp
  | x :: l, F, s => by
    rw [List.foldl_cons, mem_foldl L l, frS]
    split
    · rename_i h
      constructor
      · rintro (h1 | ⟨h1, h2⟩)
        · exact .inl h1
        · exact .inr ⟨List.mem_cons_of_mem _ h1, h2⟩
      · rintro (h1 | ⟨h1, h2⟩)
        · exact .inl h1
        · rcases List.mem_cons.1 h1 with rfl | h1
          · rcases h with h | h
            · exact absurd h h2
            · exact .inl h
          · exact .inr ⟨h1, h2⟩
    · rename_i h
      simp only [not_or] at h
      rw [List.mem_append, List.mem_singleton, List.mem_cons]
      constructor
      · rintro ((h1 | rfl) | ⟨h1, h2⟩)
        · exact .inl h1
        · exact .inr ⟨.inl rfl, h.1⟩
        · exact .inr ⟨.inr h1, h2⟩
      · rintro (h1 | ⟨rfl | h1, h2⟩)
        · exact .inl (.inl h1)
        · exact .inl (.inr rfl)
        · exact .inr ⟨h1, h2⟩
theorem mem_fr {L l : List ByteArray} {s : ByteArray} : s ∈ fr L l ↔ s ∈ l ∧ ¬ s ∈ L := by
  unfold fr; rw [mem_foldl]; simp
theorem nodup_foldl (L : List ByteArray) : ∀ (l F : List ByteArray), F.Nodup → (l.foldl (frS L) F).Nodup
  | [], F, h => h
  | x :: l, F, h => by
    rw [List.foldl_cons]
    refine nodup_foldl L l _ ?_
    unfold frS
    split
    · exact h
    · rename_i hx
      simp only [not_or] at hx
      rw [List.nodup_append]
      exact ⟨h, by simp, fun a ha b hb e => by simp at hb; subst hb; subst e; exact hx.2 ha⟩
theorem nodup_fr (L l : List ByteArray) : (fr L l).Nodup := nodup_foldl L l [] List.nodup_nil
theorem fr_le (L : List ByteArray) : ∀ (l F : List ByteArray), (l.foldl (frS L) F).length ≤ F.length + l.length
  | [], F => by simp
  | s :: l, F => by
    have h1 := fr_le L l (frS L F s)
    have h2 : (frS L F s).length ≤ F.length + 1 := by unfold frS; split <;> simp
    simp only [List.foldl_cons, List.length_cons]
    omega
theorem fr_length (L l : List ByteArray) : (fr L l).length ≤ l.length := by have := fr_le L l []; simpa [fr] using this

abbrev Dt := DataW Unit
def key (s : ByteArray) : Lit := .string s.data.toList
theorem key_inj {s t : ByteArray} (h : key s = key t) : s = t := by
  unfold key at h
  injection h with h
  exact ByteArray.ext (Array.ext' h)
theorem isKey (s : ByteArray) : WideAt.IsKeyLit (key s) := by
  first | exact .string _ | exact trivial | (unfold key WideAt.IsKeyLit; simp) 

/-- the map has just the numbers of the texts of L -/
def Num (D : Dt) (L : List ByteArray) : Prop := IsMap D ∧ ∀ s : ByteArray, Maps.has D (key s) = decide (s ∈ L) ∧ D.atKey (key s) (.lit (.int .i64 0)) = .lit (.int .i64 (numOf L s))

theorem num_nil : Num (.map []) [] := ⟨isMap_empty, fun s => ⟨by simp [Maps.has], by simp [DataW.atKey, numOf]⟩⟩
theorem num_snoc {D : Dt} {L : List ByteArray} (h : Num D L) {s : ByteArray} (hs : ¬ s ∈ L) : Num (D.put (key s) (.lit (.int .i64 (L.length : Int)))) (L ++ [s]) := by
  refine ⟨h.1.put _ _, fun t => ?_⟩
  by_cases hts : t = s
  · subst hts
    refine ⟨?_, ?_⟩
    · rw [has_put_same h.1 (isKey t)]; simp
    · rw [atKey_put_same h.1 (isKey t), numOf_new hs]
  · have hk : key t ≠ key s := fun e => hts (key_inj e)
    refine ⟨?_, ?_⟩
    · rw [has_put_other hk, (h.2 t).1]; simp [hts]
    · rw [atKey_put_other hk, (h.2 t).2]
      have : numOf (L ++ [s]) t = numOf L t := by
        by_cases hm : t ∈ L
        · exact numOf_app hm _
        · simp [numOf, hm, hts]
      rw [this]

/-- a book: its own block, its map, its row of texts -/
structure Bk (w : World) (b m : Nat) (sv : Value) (L : List ByteArray) : Prop where
  blk : w.heap[b]? = some (.cells #[.pointer (some ⟨b, 0, none⟩), .map (some m), sv] 55 (0, 0))
  map : ∃ D : Dt, w.ownsMap Try.prog 9 (plainElem Try.prog 3) m L.length D ∧ Num D L
  row : w.ownsRow 0 9 1 sv L.length (L.map Value.string)
  nodup : L.Nodup

/-- what is no book's -/
def Off (b m : Nat) (sv : Value) (k : Nat) : Prop := k ≠ b ∧ k ≠ m ∧ sv.ownBlock ≠ some k

theorem Bk.ltb {w : World} {b m : Nat} {sv : Value} {L : List ByteArray} (h : Bk w b m sv L) : b < w.heap.size := (Array.getElem?_eq_some_iff.1 h.blk).1
theorem Bk.ltm {w : World} {b m : Nat} {sv : Value} {L : List ByteArray} (h : Bk w b m sv L) : m < w.heap.size := by obtain ⟨D, h, _⟩ := h.map; exact h.lt
theorem Bk.ltr {w : World} {b m : Nat} {sv : Value} {L : List ByteArray} (h : Bk w b m sv L) (g : Nat) (hg : sv.ownBlock = some g) : g < w.heap.size := (h.row.lt g hg).2
theorem Bk.off {w : World} {b m : Nat} {sv : Value} {L : List ByteArray} (h : Bk w b m sv L) {k : Nat} (hk : w.heap.size ≤ k) : Off b m sv k :=
  ⟨by have := h.ltb; omega, by have := h.ltm; omega, fun e => by have := h.ltr k e; omega⟩
theorem Bk.bm {w : World} {b m : Nat} {sv : Value} {L : List ByteArray} (h : Bk w b m sv L) : b ≠ m := by
  rintro rfl
  obtain ⟨D, ⟨es, cl, hm, _⟩, _⟩ := h.map
  have := h.blk
  rw [hm] at this
  cases this
theorem Bk.mr {w : World} {b m : Nat} {sv : Value} {L : List ByteArray} (h : Bk w b m sv L) : sv.ownBlock ≠ some m := by
  intro e
  obtain ⟨D, ⟨es, cl, hm, _⟩, _⟩ := h.map
  rcases h.row.2 with ⟨rfl, _⟩ | ⟨g, cap, cur, rfl, _, hh, _⟩
  · simp [Value.ownBlock] at e
  · obtain rfl : g = m := by simpa [Value.ownBlock] using e
    rw [hm] at hh
    cases hh
theorem Bk.br {w : World} {b m : Nat} {sv : Value} {L : List ByteArray} (h : Bk w b m sv L) : sv.ownBlock ≠ some b := by
  intro e
  have hb := h.blk
  rcases h.row.2 with ⟨rfl, _⟩ | ⟨g, cap, cur, rfl, _, hh, _⟩
  · simp [Value.ownBlock] at e
  · obtain rfl : g = b := by simpa [Value.ownBlock] using e
    rw [hh] at hb
    simp at hb
theorem Bk.keep {w w' : World} {b m : Nat} {sv : Value} {L : List ByteArray} (h : Bk w b m sv L) {p : Nat → Prop} (hk : Keep p w w') (hp : ∀ k, k < w.heap.size → (k = b ∨ k = m ∨ sv.ownBlock = some k) → p k) : Bk w' b m sv L := by
  refine ⟨(hk.block b h.ltb (hp b h.ltb (.inl rfl))).trans h.blk, ?_, ?_, h.nodup⟩
  · obtain ⟨D, h1, h2⟩ := h.map
    refine ⟨D, ?_, h2⟩
    have hlt := h1.lt
    obtain ⟨es, clock, hb, r⟩ := h1
    exact ⟨es, clock, (hk.block m hlt (hp m hlt (.inr (.inl rfl)))).trans hb, r⟩
  · refine ⟨h.row.1, ?_⟩
    rcases h.row.2 with hn | ⟨g, cap, cur, e, hbg, hg, rest⟩
    · exact .inl hn
    · have hlt := (Array.getElem?_eq_some_iff.1 hg).1
      exact .inr ⟨g, cap, cur, e, hbg, (hk.block g hlt (hp g hlt (.inr (.inr (by rw [e]; rfl))))).trans hg, rest⟩
theorem Bk.below {w w' : World} {b m : Nat} {sv : Value} {L : List ByteArray} (h : Bk w b m sv L) (hb : Below w.heap.size w w') : Bk w' b m sv L := h.keep (p := fun _ => True) (Keep.of_below hb) fun _ _ _ => trivial
theorem Bk.sr {w : World} {b m : Nat} {sv : Value} {L : List ByteArray} (h : Bk w b m sv L) : SR w sv L := SR.of_own h.row
theorem Bk.cells {w : World} {b m : Nat} {sv : Value} {L : List ByteArray} (h : Bk w b m sv L) : w.cell? ⟨b, 0, none⟩ = some (.pointer (some ⟨b, 0, none⟩)) ∧ w.cell? ⟨b, 1, none⟩ = some (.map (some m)) ∧ w.cell? ⟨b, 2, none⟩ = some sv ∧ w.frozen? ⟨b, 2, none⟩ = false := by
  refine ⟨?_, ?_, ?_, ?_⟩
  · rw [cell_of_row w b 0 _ 55 (0, 0) h.blk]; rfl
  · rw [cell_of_row w b 1 _ 55 (0, 0) h.blk]; rfl
  · rw [cell_of_row w b 2 _ 55 (0, 0) h.blk]; rfl
  · have := h.blk; simp [World.frozen?, this]

theorem law9 : Keyed Try.prog 9 := string_keyed Try.underlying9
theorem zero3 (w : World) : (zeroValue 3).run Try.prog w = .ok (.int .i64 0) w := by kernel_rfl
theorem hkey (s : ByteArray) (h : s.size ≤ maxLen) : keyOf Try.prog 9 (.string s) = some (key s) := WideMaps.keyOf_string_mk Try.underlying9 h
end Go.Proofs.Ytepelfigcoohiaa
