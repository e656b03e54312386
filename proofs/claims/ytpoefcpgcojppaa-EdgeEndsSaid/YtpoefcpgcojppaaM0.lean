/- Texts SA, A, C, Shelf, D, E, NG, NH, VE, one behind the other. -/
import Derived.Sort.Lot0
import Derived.Lib.Bytealg
import Derived.Lib.Small
import Derived.Test.YtpoefcpgcojppaaRows
import Derived.Lib.Hide
import Derived.ProofKit
import Derived.RegionTactic
import Derived.LoopTactic
import Derived.StillTailTactics
import Derived.Deep.RegionHeld3
import Derived.Deep.RegionWith
import Derived.Sort.Grow
import Derived.Deep.Draws
import Derived.Handy
import Derived.Shelf.Small.Strs
import Derived.Shelf.Small.Wraps
import Derived.Shelf.LaysM
import Derived.Shelf.Strconv.Clone
import Derived.Shelf.Bytes.SlSearch0
import Derived.Shelf.Bytes.SlEqualAll
import Derived.Shelf.Bytes.Small
import Derived.Test.YtpoefcpgcojppaaProg
import Derived.LaidEql
import Derived.Laws.RangeString
import Derived.Laws.RangeAny
set_option linter.unusedSimpArgs false
namespace Go.Proofs.Ytpoefcpgcojppaa
set_option linter.unusedVariables false

/-- a way of comparing, as a sort wants it -/
structure Cm {α : Type} (c : α → α → Int) : Prop where
  neg : ∀ a b, c a b = - c b a
  trans : ∀ a b d, c a b ≤ 0 → c b d ≤ 0 → c a d ≤ 0

/-- n cells from s on -/
def seg {α : Type} (f : Nat → α) (s n : Nat) : List α := (List.range n).map fun t => f (s + t)
theorem seg_len {α : Type} (f : Nat → α) (s n : Nat) : (seg f s n).length = n := by simp [seg]
theorem seg_zero {α : Type} (f : Nat → α) (s : Nat) : seg f s 0 = [] := by simp [seg]
theorem seg_add {α : Type} (f : Nat → α) (s n m : Nat) : seg f s (n + m) = seg f s n ++ seg f (s + n) m := by
  unfold seg
  rw [List.range_add, List.map_append, List.map_map]
  congr 1
  apply List.map_congr_left
  intro t _
  simp [Nat.add_assoc]
theorem seg_congr {α : Type} {f g : Nat → α} {s s' n : Nat} (h : ∀ t, t < n → f (s + t) = g (s' + t)) : seg f s n = seg g s' n := by
  unfold seg
  apply List.map_congr_left
  intro t ht
  exact h t (List.mem_range.1 ht)
theorem mem_seg {α : Type} {f : Nat → α} {s n : Nat} {x : α} : x ∈ seg f s n ↔ ∃ i, s ≤ i ∧ i < s + n ∧ f i = x := by
  unfold seg
  rw [List.mem_map]
  constructor
  · rintro ⟨t, ht, rfl⟩
    exact ⟨s + t, by omega, by have := List.mem_range.1 ht; omega, rfl⟩
  · rintro ⟨i, h1, h2, rfl⟩
    exact ⟨i - s, List.mem_range.2 (by omega), by rw [show s + (i - s) = i by omega]⟩

variable {α : Type} {c : α → α → Int}

/-- those that are like e -/
def lk (c : α → α → Int) (e : α) (l : List α) : List α := l.filter fun x => decide (c e x = 0)
theorem lk_app (e : α) (l m : List α) : lk c e (l ++ m) = lk c e l ++ lk c e m := by simp [lk]
theorem lk_nil (e : α) (l : List α) (h : ∀ x ∈ l, c e x ≠ 0) : lk c e l = [] := by
  unfold lk
  rw [List.filter_eq_nil_iff]
  intro x hx
  simpa using h x hx

theorem Cm.self (h : Cm c) (a : α) : c a a = 0 := by have := h.neg a a; omega
theorem Cm.like_trans (h : Cm c) {a b d : α} (h1 : c a b = 0) (h2 : c b d = 0) : c a d = 0 := by
  have n1 := h.neg a b
  have n2 := h.neg b d
  have n3 := h.neg a d
  have a1 := h.trans a b d (by omega) (by omega)
  have a2 := h.trans d b a (by omega) (by omega)
  omega
theorem Cm.lt_le (h : Cm c) {a b d : α} (h1 : c a b < 0) (h2 : c b d ≤ 0) : c a d < 0 := by
  have n1 := h.neg a b
  have n3 := h.neg a d
  have n2 := h.neg b d
  have a1 := h.trans a b d (by omega) (by omega)
  by_cases e : c a d = 0
  · have a2 := h.trans b d a (by omega) (by omega)
    omega
  · omega
theorem Cm.le_lt (h : Cm c) {a b d : α} (h1 : c a b ≤ 0) (h2 : c b d < 0) : c a d < 0 := by
  have n1 := h.neg a b
  have n3 := h.neg a d
  have n2 := h.neg b d
  have a1 := h.trans a b d (by omega) (by omega)
  by_cases e : c a d = 0
  · have a2 := h.trans d a b (by omega) (by omega)
    omega
  · omega

/-- two blocks that change their places, none of one like one of the other -/
theorem lk_turn (h : Cm c) (e : α) (x y : List α) (hne : ∀ a ∈ x, ∀ b ∈ y, c a b ≠ 0) : lk c e (x ++ y) = lk c e (y ++ x) := by
  rw [lk_app, lk_app]
  by_cases hx : ∃ a ∈ x, c e a = 0
  · obtain ⟨a, ha, hea⟩ := hx
    have : lk c e y = [] := lk_nil e y fun b hb hb0 => hne a ha b hb (h.like_trans (by have := h.neg e a; omega) hb0)
    rw [this, List.append_nil, List.nil_append]
  · have : lk c e x = [] := lk_nil e x fun a ha h0 => hx ⟨a, ha, h0⟩
    rw [this, List.append_nil, List.nil_append]

/-- from f to g cells of [a, b) have moved, such as are like stand as they did -/
structure Mv (c : α → α → Int) (a b : Nat) (f g : Nat → α) : Prop where
  out : ∀ i, i < a ∨ b ≤ i → g i = f i
  mem : ∀ i, a ≤ i → i < b → ∃ j, a ≤ j ∧ j < b ∧ g i = f j
  eqv : ∀ e, lk c e (seg g a (b - a)) = lk c e (seg f a (b - a))
theorem Mv.refl (a b : Nat) (f : Nat → α) : Mv c a b f f := ⟨fun _ _ => rfl, fun i h1 h2 => ⟨i, h1, h2, rfl⟩, fun _ => rfl⟩
theorem Mv.trans {a b : Nat} {f g k : Nat → α} (h1 : Mv c a b f g) (h2 : Mv c a b g k) : Mv c a b f k :=
  ⟨fun i hi => (h2.out i hi).trans (h1.out i hi), fun i a1 a2 => by
    obtain ⟨j, b1, b2, b3⟩ := h2.mem i a1 a2
    obtain ⟨l, c1, c2, c3⟩ := h1.mem j b1 b2
    exact ⟨l, c1, c2, b3.trans c3⟩, fun e => (h2.eqv e).trans (h1.eqv e)⟩
theorem Mv.wide {a b a' b' : Nat} {f g : Nat → α} (h : Mv c a b f g) (h1 : a' ≤ a) (hab : a ≤ b) (h2 : b ≤ b') : Mv c a' b' f g := by
  refine ⟨fun i hi => h.out i (by omega), fun i i1 i2 => ?_, fun e => ?_⟩
  · by_cases hi : a ≤ i ∧ i < b
    · obtain ⟨j, b1, b2, b3⟩ := h.mem i hi.1 hi.2
      exact ⟨j, by omega, by omega, b3⟩
    · exact ⟨i, i1, i2, h.out i (by omega)⟩
  · have e1 : b' - a' = (a - a') + ((b - a) + (b' - b)) := by omega
    have e2 : a' + (a - a') = a := by omega
    have e3 : a + (b - a) = b := by omega
    rw [e1, seg_add, seg_add, seg_add, seg_add, e2, e3, lk_app, lk_app, lk_app, lk_app, h.eqv e]
    rw [seg_congr (f := g) (g := f) (s := a') (s' := a') (fun t ht => h.out _ (by omega)), seg_congr (f := g) (g := f) (s := b) (s' := b) (fun t ht => h.out _ (by omega))]

/-- [a, b) is in order -/
def Srt (c : α → α → Int) (a b : Nat) (f : Nat → α) : Prop := ∀ i j, a ≤ i → i < j → j < b → c (f i) (f j) ≤ 0
theorem Srt.le (h : Cm c) {a b : Nat} {f : Nat → α} (hs : Srt c a b f) {i j : Nat} (h1 : a ≤ i) (h2 : i ≤ j) (h3 : j < b) : c (f i) (f j) ≤ 0 := by
  by_cases e : i = j
  · subst e
    rw [h.self]
    omega
  · exact hs i j h1 (by omega) h3
theorem Srt.sub {a b a' b' : Nat} {f g : Nat → α} (hs : Srt c a b f) (h1 : a ≤ a') (h2 : b' ≤ b) (he : ∀ i, a' ≤ i → i < b' → g i = f i) : Srt c a' b' g := fun i j i1 i2 i3 => by
  rw [he i i1 (by omega), he j (by omega) i3]
  exact hs i j (by omega) i2 (by omega)
theorem Srt.one (a : Nat) (f : Nat → α) : Srt c a (a + 1) f := fun i j _ _ _ => by omega

/-- two cells side by side change their places -/
def swF (f : Nat → α) (i j : Nat) : Nat → α := fun t => if t = i then f j else if t = j then f i else f t
theorem swF_get [Inhabited α] (d : Array α) {i j : Nat} (hi : i < d.size) (hj : j < d.size) : (fun t => (Sort.swp d i j)[t]!) = swF (fun t => d[t]!) i j := by
  funext t
  unfold swF
  by_cases h1 : t = i
  · subst h1
    rw [if_pos rfl]
    by_cases h2 : t = j
    · subst h2
      exact Sort.swp_right d t t hj
    · exact Sort.swp_left d t j hi h2
  · rw [if_neg h1]
    by_cases h2 : t = j
    · subst h2
      rw [if_pos rfl]
      exact Sort.swp_right d i t hj
    · rw [if_neg h2]
      exact Sort.swp_other d i j t h1 h2
theorem Mv.swap (h : Cm c) {f : Nat → α} {a b j : Nat} (h1 : a ≤ j) (h2 : j + 1 < b) (hne : c (f j) (f (j + 1)) ≠ 0) {g : Nat → α} (hg : ∀ t, g t = if t = j then f (j + 1) else if t = j + 1 then f j else f t) : Mv c a b f g := by
  have H : Mv c j (j + 2) f g := by
    refine ⟨fun i hi => by rw [hg, if_neg (by omega), if_neg (by omega)], fun i i1 i2 => ?_, fun e => ?_⟩
    · by_cases e : i = j
      · exact ⟨j + 1, by omega, by omega, by rw [hg, if_pos e]⟩
      · exact ⟨j, by omega, by omega, by rw [hg, if_neg e, if_pos (by omega)]⟩
    · have e1 : j + 2 - j = 1 + 1 := by omega
      rw [e1, seg_add, seg_add]
      have s1 : ∀ (k : Nat → α) (s : Nat), seg k s 1 = [k s] := fun k s => by simp [seg]
      rw [s1, s1, s1, s1]
      have g1 : g j = f (j + 1) := by rw [hg, if_pos rfl]
      have g2 : g (j + 1) = f j := by rw [hg, if_neg (by omega), if_pos rfl]
      rw [g1, g2]
      exact (lk_turn h e [f j] [f (j + 1)] (by simpa using hne)).symm
  exact H.wide h1 (by omega) (by omega)

/-- two blocks side by side change their places -/
def rotF (f : Nat → α) (s m e : Nat) : Nat → α := fun t => if t < s ∨ e ≤ t then f t else if t < s + (e - m) then f (t + (m - s)) else f (t - (e - m))
theorem Mv.rot (h : Cm c) {f : Nat → α} {a b s m e : Nat} (h1 : a ≤ s) (h2 : s ≤ m) (h3 : m ≤ e) (h4 : e ≤ b) (hne : ∀ i j, s ≤ i → i < m → m ≤ j → j < e → c (f i) (f j) ≠ 0) : Mv c a b f (rotF f s m e) := by
  have H : Mv c s e f (rotF f s m e) := by
    refine ⟨fun i hi => by unfold rotF; rw [if_pos hi], fun i i1 i2 => ?_, fun x => ?_⟩
    · unfold rotF
      rw [if_neg (by omega)]
      split
      · exact ⟨i + (m - s), by omega, by omega, rfl⟩
      · exact ⟨i - (e - m), by omega, by omega, rfl⟩
    · have g1 : seg (rotF f s m e) s (e - s) = seg f m (e - m) ++ seg f s (m - s) := by
        rw [show e - s = (e - m) + (m - s) by omega, seg_add]
        congr 1
        · refine seg_congr fun t ht => ?_
          unfold rotF
          rw [if_neg (by omega), if_pos (by omega)]
          congr 1
          omega
        · refine seg_congr fun t ht => ?_
          unfold rotF
          rw [if_neg (by omega), if_neg (by omega)]
          congr 1
          omega
      have g2 : seg f s (e - s) = seg f s (m - s) ++ seg f m (e - m) := by
        rw [show e - s = (m - s) + (e - m) by omega, seg_add, show s + (m - s) = m by omega]
      rw [g1, g2]
      refine (lk_turn h x _ _ fun y hy z hz => ?_).symm
      obtain ⟨i, i1, i2, rfl⟩ := mem_seg.1 hy
      obtain ⟨j, j1, j2, rfl⟩ := mem_seg.1 hz
      exact hne i j i1 (by omega) j1 (by omega)
  exact H.wide h1 (by omega) h4

/-- blocks that are exchanged, cell by cell -/
def xchF (f : Nat → α) (a b n : Nat) : Nat → α := fun t => if a ≤ t ∧ t < a + n then f (t + (b - a)) else if b ≤ t ∧ t < b + n then f (t - (b - a)) else f t
theorem xchF_zero (f : Nat → α) (a b : Nat) : xchF f a b 0 = f := by
  funext t
  unfold xchF
  rw [if_neg (by omega), if_neg (by omega)]
theorem xchF_succ (f : Nat → α) {a b n : Nat} (h : a + n < b) : swF (xchF f a b n) (a + n) (b + n) = xchF f a b (n + 1) := by
  funext t
  unfold swF xchF
  by_cases h1 : t = a + n
  · subst h1
    rw [if_pos rfl, if_neg (by omega), if_neg (by omega), if_pos (by omega)]
    all_goals exact congrArg f (by omega)
  · rw [if_neg h1]
    by_cases h2 : t = b + n
    · subst h2
      rw [if_pos rfl, if_neg (by omega), if_neg (by omega), if_neg (by omega), if_pos (by omega)]
      all_goals exact congrArg f (by omega)
    · rw [if_neg h2]
      by_cases h3 : a ≤ t ∧ t < a + n
      · rw [if_pos h3, if_pos (by omega)]
      · rw [if_neg h3]
        by_cases h4 : b ≤ t ∧ t < b + n
        · rw [if_pos h4, if_neg (by omega), if_pos (by omega)]
        · rw [if_neg h4, if_neg (by omega), if_neg (by omega)]
/-- a round of the turning -/
theorem rot_more (f : Nat → α) {m i j : Nat} (hi : i ≤ m) (hij : j < i) : rotF (xchF f (m - i) m j) (m - (i - j)) m (m + j) = rotF f (m - i) m (m + j) := by
  funext t
  unfold rotF xchF
  by_cases h1 : t < m - i ∨ m + j ≤ t
  · rw [if_pos (by omega), if_pos h1, if_neg (by omega), if_neg (by omega)]
  · rw [if_neg h1]
    by_cases h2 : t < m - i + j
    · rw [if_pos (by omega), if_pos (by omega), if_pos (by omega)]
      all_goals exact congrArg f (by omega)
    · rw [if_neg (show ¬ (t < m - (i - j) ∨ m + j ≤ t) by omega), if_neg (show ¬ t < m - i + (m + j - m) by omega)]
      by_cases h3 : t < m - i + j + j
      · rw [if_pos (by omega), if_neg (by omega), if_pos (by omega)]
        all_goals exact congrArg f (by omega)
      · rw [if_neg (by omega), if_neg (by omega), if_neg (by omega)]
theorem rot_less (f : Nat → α) {m i j : Nat} (hi : i ≤ m) (hij : i < j) : rotF (xchF f (m - i) (m + j - i) i) (m - i) m (m + (j - i)) = rotF f (m - i) m (m + j) := by
  funext t
  unfold rotF xchF
  by_cases h1 : t < m - i ∨ m + j ≤ t
  · rw [if_pos (by omega), if_pos h1, if_neg (by omega), if_neg (by omega)]
  · rw [if_neg h1]
    by_cases h2 : m + (j - i) ≤ t
    · rw [if_pos (by omega), if_neg (by omega), if_pos (by omega), if_neg (by omega)]
      all_goals exact congrArg f (by omega)
    · rw [if_neg (show ¬ (t < m - i ∨ m + (j - i) ≤ t) by omega), if_pos (show t < m - i + (m + j - m) by omega)]
      by_cases h3 : t < m - i + (j - i)
      · rw [if_pos (by omega), if_neg (by omega), if_neg (by omega)]
      · rw [if_neg (by omega), if_pos (by omega)]
        all_goals exact congrArg f (by omega)
theorem rot_same (f : Nat → α) {m i : Nat} (hi : i ≤ m) : xchF f (m - i) m i = rotF f (m - i) m (m + i) := by
  funext t
  unfold rotF xchF
  by_cases h1 : t < m - i ∨ m + i ≤ t
  · rw [if_pos h1, if_neg (by omega), if_neg (by omega)]
  · rw [if_neg h1]
    by_cases h2 : t < m - i + i
    · rw [if_pos (by omega), if_pos (by omega)]
      all_goals exact congrArg f (by omega)
    · rw [if_neg (by omega), if_pos (by omega), if_neg (by omega)]
      all_goals exact congrArg f (by omega)

/-- rows in order of which each has those like one as the other has: they are the same -/
theorem one_order (h : Cm c) : ∀ {l m : List α}, l.Pairwise (fun x y => c x y ≤ 0) → m.Pairwise (fun x y => c x y ≤ 0) → (∀ e, lk c e l = lk c e m) → l = m
  | [], [], _, _, _ => rfl
  | [], y :: m, _, _, he => by
    have := he y
    simp [lk, h.self] at this
  | x :: l, [], _, _, he => by
    have := he x
    simp [lk, h.self] at this
  | x :: l, y :: m, h1, h2, he => by
    obtain ⟨a1, a2⟩ := List.pairwise_cons.1 h1
    obtain ⟨b1, b2⟩ := List.pairwise_cons.1 h2
    have hx : x ∈ y :: m := by
      have : x ∈ lk c x (y :: m) := by rw [← he x]; simp [lk, h.self]
      exact (List.mem_filter.1 this).1
    have hy : y ∈ x :: l := by
      have : y ∈ lk c y (x :: l) := by rw [he y]; simp [lk, h.self]
      exact (List.mem_filter.1 this).1
    have hxy : c x y = 0 := by
      have n := h.neg x y
      rcases List.mem_cons.1 hx with e | hx
      · subst e; exact h.self _
      · rcases List.mem_cons.1 hy with e | hy
        · subst e; exact h.self _
        · have := b1 x hx
          have := a1 y hy
          omega
    have hd := he x
    have hl : lk c x (x :: l) = x :: lk c x l := by simp [lk, h.self]
    have hm : lk c x (y :: m) = y :: lk c x m := by simp [lk, hxy]
    rw [hl, hm] at hd
    injection hd with hd1 hd2
    subst hd1
    rw [one_order h a2 b2 fun e => ?_]
    have := he e
    by_cases h0 : c e x = 0
    · simpa [lk, h0] using this
    · simpa [lk, h0] using this
end Go.Proofs.Ytpoefcpgcojppaa

namespace Go.Proofs.Ytpoefcpgcojppaa
set_option linter.unusedVariables false

instance : DecidableEq ByteArray := fun a b => decidable_of_iff (a.data = b.data) ⟨fun h => ByteArray.ext h, fun h => congrArg _ h⟩

theorem data_inj {a b : ByteArray} (h : a.data.toList = b.data.toList) : a = b := ByteArray.ext (Array.ext' h)

/-- what a way of comparing must be -/
structure Three {α : Type} (c : α → α → Int) : Prop where
  rng : ∀ a b, c a b = -1 ∨ c a b = 0 ∨ c a b = 1
  neg : ∀ a b, c a b = - c b a
  zero : ∀ a b, c a b = 0 ↔ a = b
  trans : ∀ a b d, c a b ≤ 0 → c b d ≤ 0 → c a d ≤ 0

namespace Three
variable {α : Type} {c : α → α → Int} (h : Three c)
include h
theorem rfl' (a : α) : c a a = 0 := (h.zero a a).2 rfl
theorem lt_trans {a b d : α} (h1 : c a b = -1) (h2 : c b d = -1) : c a d = -1 := by
  have h3 := h.trans a b d (by omega) (by omega)
  rcases h.rng a d with e | e | e
  · exact e
  · rw [h.zero] at e
    subst e
    have := h.neg a b
    omega
  · omega
theorem le_lt {a b d : α} (h1 : c a b ≤ 0) (h2 : c b d = -1) : c a d = -1 := by
  rcases h.rng a b with e | e | e
  · exact h.lt_trans e h2
  · rw [h.zero] at e; subst e; exact h2
  · omega
theorem lt_ne {a b : α} (h1 : c a b = -1) : a ≠ b := fun e => by subst e; rw [h.rfl'] at h1; omega
end Three

theorem three_int : Three Lib.compareInt where
  rng a b := by unfold Lib.compareInt; split <;> (try split) <;> simp
  neg a b := by unfold Lib.compareInt; split <;> split <;> (try split) <;> (try split) <;> omega
  zero a b := by unfold Lib.compareInt; split <;> (try split) <;> omega
  trans a b d := by unfold Lib.compareInt; split <;> split <;> (try split) <;> (try split) <;> (try split) <;> (try split) <;> omega

theorem cb_rng : ∀ a b, Lib.compareBytes a b = -1 ∨ Lib.compareBytes a b = 0 ∨ Lib.compareBytes a b = 1
  | [], [] => by simp [Lib.compareBytes]
  | [], _ :: _ => by simp [Lib.compareBytes]
  | _ :: _, [] => by simp [Lib.compareBytes]
  | a :: aa, b :: bb => by
    simp only [Lib.compareBytes]
    split
    · simp
    · split
      · simp
      · exact cb_rng aa bb
theorem u8_tri (a b : UInt8) (h1 : ¬ a < b) (h2 : ¬ b < a) : a = b := by
  rw [UInt8.lt_iff_toNat_lt] at h1 h2
  exact UInt8.toNat_inj.1 (by omega)
theorem cb_neg : ∀ a b, Lib.compareBytes a b = - Lib.compareBytes b a
  | [], [] => by simp [Lib.compareBytes]
  | [], _ :: _ => by simp [Lib.compareBytes]
  | _ :: _, [] => by simp [Lib.compareBytes]
  | a :: aa, b :: bb => by
    simp only [Lib.compareBytes]
    by_cases h1 : a < b
    · have h2 : ¬ b < a := fun h => by rw [UInt8.lt_iff_toNat_lt] at *; omega
      rw [if_pos h1, if_neg h2, if_pos h1]
    · rw [if_neg h1]
      by_cases h2 : b < a
      · rw [if_pos h2, if_pos h2]; simp
      · rw [if_neg h2, if_neg h2, if_neg h1]
        exact cb_neg aa bb
theorem cb_zero : ∀ a b, Lib.compareBytes a b = 0 ↔ a = b
  | [], [] => by simp [Lib.compareBytes]
  | [], _ :: _ => by simp [Lib.compareBytes]
  | _ :: _, [] => by simp [Lib.compareBytes]
  | a :: aa, b :: bb => by
    simp only [Lib.compareBytes]
    by_cases h1 : a < b
    · have h2 : a ≠ b := fun h => by rw [UInt8.lt_iff_toNat_lt, h] at h1; omega
      rw [if_pos h1]
      simp [h2]
    · rw [if_neg h1]
      by_cases h2 : b < a
      · have h3 : a ≠ b := fun h => by rw [UInt8.lt_iff_toNat_lt, h] at h2; omega
        rw [if_pos h2]
        simp [h3]
      · rw [if_neg h2, cb_zero aa bb]
        have := u8_tri a b h1 h2
        simp [this]
theorem cb_trans : ∀ a b d, Lib.compareBytes a b ≤ 0 → Lib.compareBytes b d ≤ 0 → Lib.compareBytes a d ≤ 0
  | [], b, [] => by simp [Lib.compareBytes]
  | [], b, _ :: _ => by simp [Lib.compareBytes]
  | _ :: _, [], d => fun h => by simp [Lib.compareBytes] at h
  | _ :: _, _ :: _, [] => fun _ h => by simp [Lib.compareBytes] at h
  | a :: aa, b :: bb, d :: dd => by
    simp only [Lib.compareBytes]
    intro h1 h2
    by_cases a1 : a < b
    · by_cases b1 : b < d
      · have : a < d := by rw [UInt8.lt_iff_toNat_lt] at *; omega
        rw [if_pos this]; omega
      · rw [if_neg b1] at h2
        by_cases b2 : d < b
        · rw [if_pos b2] at h2; omega
        · have := u8_tri b d b1 b2
          subst this
          rw [if_pos a1]; omega
    · rw [if_neg a1] at h1
      by_cases a2 : b < a
      · rw [if_pos a2] at h1; omega
      · rw [if_neg a2] at h1
        have := u8_tri a b a1 a2
        subst this
        by_cases b1 : a < d
        · rw [if_pos b1]; omega
        · rw [if_neg b1] at h2 ⊢
          by_cases b2 : d < a
          · rw [if_pos b2] at h2; omega
          · rw [if_neg b2] at h2 ⊢
            exact cb_trans aa bb dd h1 h2

def cmpB (a b : ByteArray) : Int := Lib.compareBytes a.data.toList b.data.toList
theorem three_bytes : Three cmpB where
  rng a b := cb_rng _ _
  neg a b := cb_neg _ _
  zero a b := by unfold cmpB; rw [cb_zero]; exact ⟨data_inj, fun h => by rw [h]⟩
  trans a b d := cb_trans _ _ _

/-- one way, then another one -/
def lexC {α β : Type} (c : α → α → Int) (d : β → β → Int) (x y : α × β) : Int := if c x.1 y.1 = 0 then d x.2 y.2 else c x.1 y.1
theorem three_lex {α β : Type} {c : α → α → Int} {d : β → β → Int} (hc : Three c) (hd : Three d) : Three (lexC c d) where
  rng a b := by unfold lexC; split; exact hd.rng _ _; exact hc.rng _ _
  neg a b := by
    unfold lexC
    have h := hc.neg a.1 b.1
    by_cases e : c a.1 b.1 = 0
    · rw [if_pos e, if_pos (by omega)]; exact hd.neg _ _
    · rw [if_neg e, if_neg (by omega)]; exact h
  zero a b := by
    unfold lexC
    by_cases e : c a.1 b.1 = 0
    · rw [if_pos e, hd.zero, Prod.ext_iff]
      exact ⟨fun h => ⟨(hc.zero _ _).1 e, h⟩, fun h => h.2⟩
    · rw [if_neg e]
      refine ⟨fun h => absurd h e, fun h => ?_⟩
      rw [h, hc.rfl']
  trans a b e := by
    unfold lexC
    intro h1 h2
    by_cases e1 : c a.1 b.1 = 0
    · rw [if_pos e1] at h1
      have q1 := (hc.zero _ _).1 e1
      rw [q1]
      by_cases e2 : c b.1 e.1 = 0
      · rw [if_pos e2] at h2 ⊢
        exact hd.trans _ _ _ h1 h2
      · rw [if_neg e2] at h2 ⊢
        exact h2
    · rw [if_neg e1] at h1
      have l1 : c a.1 b.1 = -1 := by rcases hc.rng a.1 b.1 with h | h | h <;> omega
      by_cases e2 : c b.1 e.1 = 0
      · have q2 := (hc.zero _ _).1 e2
        rw [← q2, if_neg e1]
        exact h1
      · rw [if_neg e2] at h2
        have l2 : c b.1 e.1 = -1 := by rcases hc.rng b.1 e.1 with h | h | h <;> omega
        have := hc.lt_trans l1 l2
        rw [if_neg (by omega)]
        omega

/-- a Kind, a Num, a Text -/
abbrev Vt := Int × Int × ByteArray
/-- a Key, a value -/
abbrev Pt := ByteArray × Vt
/-- Time, From, To, Label: how an edge stands -/
abbrev Kt := Int × ByteArray × ByteArray × ByteArray
def cmpK : Kt → Kt → Int := lexC Lib.compareInt (lexC cmpB (lexC cmpB cmpB))
theorem three_key : Three cmpK := three_lex three_int (three_lex three_bytes (three_lex three_bytes three_bytes))
theorem Three.cm {α : Type} {c : α → α → Int} (h : Three c) : Cm c := ⟨h.neg, h.trans⟩

/-- an edge -/
structure Ed where
  src : ByteArray
  dst : ByteArray
  lab : ByteArray
  time : Int
  props : List Pt
deriving DecidableEq
def Ed.key (e : Ed) : Kt := (e.time, e.src, e.dst, e.lab)
def cmpE (a b : Ed) : Int := cmpK a.key b.key
theorem cm_edge : Cm cmpE := ⟨fun a b => three_key.neg _ _, fun a b d => three_key.trans _ _ _⟩
def or4 (a b c d : Int) : Int := if a = 0 then (if b = 0 then (if c = 0 then d else c) else b) else a
theorem cmpK_or (x y : Kt) : cmpK x y = or4 (Lib.compareInt x.1 y.1) (cmpB x.2.1 y.2.1) (cmpB x.2.2.1 y.2.2.1) (cmpB x.2.2.2 y.2.2.2) := rfl
end Go.Proofs.Ytpoefcpgcojppaa

namespace Go.Proofs.Ytpoefcpgcojppaa
open Go.ChangeShapes Go.WideShapes Go.ChangeAt Go.RowKit
set_option linter.unusedVariables false

/-- blocks more, answers drawn -/
def Gr (w w' : World) : Prop := ∃ q os, w' = Sort.grow (w.drewN q) os
theorem Gr.refl (w : World) : Gr w w := ⟨0, #[], by rw [Sort.grow_empty]; rfl⟩
theorem Gr.trans {a b c : World} (h : Gr a b) (k : Gr b c) : Gr a c := by
  obtain ⟨q, os, rfl⟩ := h
  obtain ⟨q', os', rfl⟩ := k
  exact ⟨q + q', os ++ os', by simp [Sort.grow, World.drewN, Nat.add_assoc]⟩
theorem Gr.below {w w' : World} (h : Gr w w') : Below w.heap.size w w' := by
  obtain ⟨q, os, rfl⟩ := h
  exact ⟨rfl, rfl, rfl, by simp [Sort.grow, World.drewN], fun k hk => by simp only [Sort.grow, World.drewN]; exact Array.getElem?_append_left hk⟩
theorem Gr.alloc {a b : World} (h : Gr a b) (o : Obj) : Gr a (b.alloc o) := h.trans ⟨0, #[o], by rw [Sort.alloc_eq_grow]; rfl⟩
theorem Gr.drew {a b : World} (h : Gr a b) : Gr a b.drew := h.trans ⟨1, #[], by rw [Sort.grow_empty]; rfl⟩
theorem Gr.drewN {a b : World} (h : Gr a b) (n : Nat) : Gr a (b.drewN n) := h.trans ⟨n, #[], by rw [Sort.grow_empty]⟩

theorem isNaN_i (a : Int) (w : World) : Calls Try.prog 77 #[.int .i64 a] w fun e w' => e = .returned (.bool false) ∧ w = w' := by
  go_enter Try.func77, Try.ntmps77
  go_wp2
  go_ret
  exact ⟨rfl, rfl⟩

theorem cmpI_any (a b : Int) (w : World) : Calls Try.prog 52 #[.int .i64 a, .int .i64 b] w fun e w' => e = .returned (.int .i64 (Lib.compareInt a b)) ∧ w = w' := by
  by_cases h1 : a < b
  · have e : Lib.compareInt a b = -1 := by simp [Lib.compareInt, h1]
    rw [e]
    go_enter Try.func52, Try.ntmps52
    go_wp2_with (go_at_call 77; refine (isNaN_i _ _).mono ?_; rintro e w' ⟨rfl, rfl⟩)
    go_ret
    exact ⟨rfl, rfl⟩
  · by_cases h2 : b < a
    · have e : Lib.compareInt a b = 1 := by simp [Lib.compareInt, h1, h2]
      rw [e]
      go_enter Try.func52, Try.ntmps52
      go_wp2_with (go_at_call 77; refine (isNaN_i _ _).mono ?_; rintro e w' ⟨rfl, rfl⟩)
      go_ret
      exact ⟨rfl, rfl⟩
    · have e : Lib.compareInt a b = 0 := by simp [Lib.compareInt, h1, h2]
      rw [e]
      go_enter Try.func52, Try.ntmps52
      go_wp2_with (go_at_call 77; refine (isNaN_i _ _).mono ?_; rintro e w' ⟨rfl, rfl⟩)
      go_ret
      exact ⟨rfl, rfl⟩


theorem or_any (a b c d : Int) (gg : Nat) (w : World) (c0 : w.cell? ⟨gg, 0, none⟩ = some (.int .i64 a)) (c1 : w.cell? ⟨gg, 1, none⟩ = some (.int .i64 b)) (c2 : w.cell? ⟨gg, 2, none⟩ = some (.int .i64 c)) (c3 : w.cell? ⟨gg, 3, none⟩ = some (.int .i64 d)) :
    Calls Try.prog 51 #[.slice (some ⟨gg, 0, none⟩) 4 4] w fun e w' => e = .returned (.int .i64 (or4 a b c d)) ∧ w = w' := by
  unfold or4
  by_cases h0 : a = 0
  · subst h0
    rw [if_pos rfl]
    by_cases h1 : b = 0
    · subst h1
      rw [if_pos rfl]
      by_cases h2 : c = 0
      · subst h2
        rw [if_pos rfl]
        by_cases h3 : d = 0
        · subst h3
          go_enter Try.func51, Try.ntmps51
          go_wp2_with fail
          go_rounds 5
          go_ret
          exact ⟨rfl, rfl⟩
        · have hb : (d != 0) = true := by simpa using h3
          clear h3
          go_enter Try.func51, Try.ntmps51
          go_wp2_with fail
          go_rounds 5
          go_ret
          exact ⟨rfl, rfl⟩
      · rw [if_neg h2]
        have hb : (c != 0) = true := by simpa using h2
        clear h2
        go_enter Try.func51, Try.ntmps51
        go_wp2_with fail
        go_rounds 5
        go_ret
        exact ⟨rfl, rfl⟩
    · rw [if_neg h1]
      have hb : (b != 0) = true := by simpa using h1
      clear h1
      go_enter Try.func51, Try.ntmps51
      go_wp2_with fail
      go_rounds 5
      go_ret
      exact ⟨rfl, rfl⟩
  · rw [if_neg h0]
    have hb : (a != 0) = true := by simpa using h0
    clear h0
    go_enter Try.func51, Try.ntmps51
    go_wp2_with fail
    go_rounds 5
    go_ret
    exact ⟨rfl, rfl⟩
theorem or_new (a b c d : Int) (W : World) (k : Nat) (hk : k = W.heap.size) :
    Calls Try.prog 51 #[.slice (some ⟨k, 0, none⟩) 4 4] (W.alloc (.cells #[.int .i64 a, .int .i64 b, .int .i64 c, .int .i64 d] 3)).drew fun e w' => e = .returned (.int .i64 (or4 a b c d)) ∧ (W.alloc (.cells #[.int .i64 a, .int .i64 b, .int .i64 c, .int .i64 d] 3)).drew = w' := by
  subst hk
  have hg := heap_alloc_new W (.cells #[.int .i64 a, .int .i64 b, .int .i64 c, .int .i64 d] 3)
  refine or_any a b c d _ _ ?_ ?_ ?_ ?_
  · rw [World.cell?_drew, cell_of_row _ _ 0 _ 3 (0, 0) hg]; rfl
  · rw [World.cell?_drew, cell_of_row _ _ 1 _ 3 (0, 0) hg]; rfl
  · rw [World.cell?_drew, cell_of_row _ _ 2 _ 3 (0, 0) hg]; rfl
  · rw [World.cell?_drew, cell_of_row _ _ 3 _ 3 (0, 0) hg]; rfl
end Go.Proofs.Ytpoefcpgcojppaa

namespace Go.Proofs
open Go.Shelf
def Try.lays106_ren : Go.Shelf.Ren := ⟨fun | 106 => 53 | 213 => 78 | 265 => 89 | n => n, fun | 9 => 9 | 3 => 3 | n => n, fun | n => n⟩
theorem Try.lays106 : Go.Proofs.Lays.n106 Try.prog Try.lays106_ren := {
  mixed := by kernel_rfl
  f106 := Try.func53.trans (congrArg some (by kernel_rfl))
  f213 := Try.func78.trans (congrArg some (by kernel_rfl))
  f265 := Try.func89.trans (congrArg some (by kernel_rfl))
  t3 := Try.underlying3
  a3 := Try.isAgg3
  z3 := Try.sizeOf3
  v3 := Try.zeroValue3
  t9 := Try.underlying9
  a9 := Try.isAgg9
  z9 := Try.sizeOf9
  v9 := Try.zeroValue9 }
open Go.RowKit in
/-- strings.Compare: "Compare returns an integer comparing two strings lexicographically. The result will be 0 if a == b, -1 if a < b, and +1 if a > b.": IT RETURNS 'Lib.compareBytes a b'; the world is as it was. (LAID: no walk: one application.) -/
theorem Try.strings_Compare (a b : ByteArray) (w : World) :
    Calls Try.prog 53 #[.string a, .string b] w fun e w' => e = .returned (.int .i64 (Lib.compareBytes a.data.toList b.data.toList)) ∧ w' = w := Any.strings_Compare Try.lays106 a b w
def Try.lays122_ren : Go.Shelf.Ren := ⟨fun | 122 => 52 | 215 => 77 | n => n, fun | 3 => 3 | 4 => 4 | n => n, fun | n => n⟩
theorem Try.lays122 : Go.Proofs.Lays.n122 Try.prog Try.lays122_ren := {
  mixed := by kernel_rfl
  f122 := Try.func52.trans (congrArg some (by kernel_rfl))
  f215 := Try.func77.trans (congrArg some (by kernel_rfl))
  t3 := Try.underlying3
  a3 := Try.isAgg3
  z3 := Try.sizeOf3
  v3 := Try.zeroValue3
  t4 := Try.underlying4
  a4 := Try.isAgg4
  z4 := Try.sizeOf4
  v4 := Try.zeroValue4 }
open Go.RowKit in
/-- cmp.Compare at int: "Compare returns -1 if x is less than y, 0 if x equals y, +1 if x is greater than y.": IT RETURNS 'Lib.compareInt x y'; the world is as it was. (LAID: no walk: one application.) -/
theorem Try.cmp_Compare_int (x y : Int) (w : World) :
    Calls Try.prog 52 #[.int .i64 x, .int .i64 y] w fun e w' => e = .returned (.int .i64 (Lib.compareInt x y)) ∧ w' = w := Any.cmp_Compare_int Try.lays122 x y w
def Try.laysM316_ren : Go.Shelf.Ren := ⟨fun | 316 => 94 | n => n, fun | 9 => 9 | 3 => 3 | 4 => 4 | 37 => 34 | 0 => 0 | 127 => 97 | 5 => 5 | n => n, fun | n => n⟩
theorem Try.laysM316 : Go.Proofs.LaysM.n316 Try.prog Try.laysM316_ren := {
  mixed := by kernel_rfl
  f316 := Try.func94.trans (congrArg some (by kernel_rfl))
  t0 := Try.underlying0
  a0 := Try.isAgg0
  z0 := Try.sizeOf0
  v0 := Try.zeroValue0
  t3 := Try.underlying3
  a3 := Try.isAgg3
  z3 := Try.sizeOf3
  v3 := Try.zeroValue3
  t4 := Try.underlying4
  a4 := Try.isAgg4
  z4 := Try.sizeOf4
  v4 := Try.zeroValue4
  t9 := Try.underlying9
  a9 := Try.isAgg9
  z9 := Try.sizeOf9
  v9 := Try.zeroValue9
  t37 := Try.underlying34
  a37 := Try.isAgg34
  z37 := Try.sizeOf34
  v37 := Try.zeroValue34
  t127 := Try.underlying97
  a127 := Try.isAgg97
  z127 := Try.sizeOf97
  v127 := Try.zeroValue97
  t5 := Try.underlying5
  a5 := Try.isAgg5
  z5 := Try.sizeOf5
  v5 := Try.zeroValue5
  i0 := by kernel_rfl
  i3 := by kernel_rfl
  i4 := by kernel_rfl
  i5 := by kernel_rfl
  i9 := by kernel_rfl
  i37 := by kernel_rfl
  i127 := by kernel_rfl }
open Go.RowKit in
/-- internal/stringslite.Clone (what strings.Clone calls): "Clone returns a fresh copy of s.": THE SAME BYTES. Of what was there nothing has turned (a new row is laid, and frozen, where s is not empty). (LAID: no walk: one application.) -/
theorem Try.stringslite_Clone (s : ByteArray) (w : World) (hlim : s.size ≤ 281474976710656) :
    Calls Try.prog 94 #[.string s] w fun e w' => e = .returned (.string s) ∧ Below w.heap.size w w' := Any.stringslite_Clone Try.laysM316 s w hlim
def Try.lays115_ren : Go.Shelf.Ren := ⟨fun | 115 => 58 | n => n, fun | 37 => 34 | 4 => 4 | 9 => 9 | 5 => 5 | n => n, fun | n => n⟩
theorem Try.lays115 : Go.Proofs.Lays.n115 Try.prog Try.lays115_ren := {
  mixed := by kernel_rfl
  f115 := Try.func58.trans (congrArg some (by kernel_rfl))
  t4 := Try.underlying4
  a4 := Try.isAgg4
  z4 := Try.sizeOf4
  v4 := Try.zeroValue4
  t9 := Try.underlying9
  a9 := Try.isAgg9
  z9 := Try.sizeOf9
  v9 := Try.zeroValue9
  t37 := Try.underlying34
  a37 := Try.isAgg34
  z37 := Try.sizeOf34
  v37 := Try.zeroValue34 }
open Go.Proofs Go.RowKit Go.Lib in
/-- bytes.Equal, each argument with what 'string(..)' of it gives. (LAID: no walk: one application.) -/
theorem Try.bytes_Equal_strs (v1 v2 : Value) (t1 t2 : ByteArray) (w : World) (h1 : (convert 34 9 v1).run Try.prog w = .ok (.string t1) w) (h2 : (convert 34 9 v2).run Try.prog w = .ok (.string t2) w) :
    Calls Try.prog 58 #[v1, v2] w fun e w' => e = .returned (.bool (t1.toList == t2.toList)) ∧ w' = w := Any.bytes_Equal_strs Try.lays115 v1 v2 t1 t2 w h1 h2
end Go.Proofs

namespace Go.Proofs.Ytpoefcpgcojppaa
open Go.ChangeShapes Go.WideShapes Go.ChangeAt Go.RowKit
set_option linter.unusedVariables false

theorem cmpT_any (a b : ByteArray) (w : World) : Calls Try.prog 53 #[.string a, .string b] w fun e w' => e = .returned (.int .i64 (cmpB a b)) ∧ w = w' :=
  (Try.strings_Compare a b w).mono fun e w' ⟨he, hw⟩ => ⟨he, hw.symm⟩

/-- an edge's five cells -/
def eV (k : Kt) (v : Value) : Value := .agg #[.string k.2.1, .string k.2.2.1, .string k.2.2.2, .int .i64 k.1, v]

set_option maxHeartbeats 4000000 in
theorem compare_gr (x y : Kt) (xv yv : Value) (w : World) : Calls Try.prog 18 #[eV x xv, eV y yv] w fun e w' => e = .returned (.int .i64 (cmpK x y)) ∧ Gr w w' := by
  rw [cmpK_or]
  obtain ⟨xt, xf, xo, xl⟩ := x
  obtain ⟨yt, yf, yo, yl⟩ := y
  unfold eV
  go_enter Try.func18, Try.ntmps18
  go_wp2_with fail
  have a1 : ((w.alloc (.cells #[.string xf, .string xo, .string xl, .int .i64 xt, xv] 24)).alloc (.cells #[.string yf, .string yo, .string yl, .int .i64 yt, yv] 24)).heap[w.heap.size]? = some (.cells #[.string xf, .string xo, .string xl, .int .i64 xt, xv] 24 (0, 0)) := (Below.heap_alloc _ _ _ (by simp)).trans (heap_alloc_new w _)
  have a2 : ((w.alloc (.cells #[.string xf, .string xo, .string xl, .int .i64 xt, xv] 24)).alloc (.cells #[.string yf, .string yo, .string yl, .int .i64 yt, yv] 24)).heap[w.heap.size + 1]? = some (.cells #[.string yf, .string yo, .string yl, .int .i64 yt, yv] 24 (0, 0)) := by have h := heap_alloc_new (w.alloc (.cells #[.string xf, .string xo, .string xl, .int .i64 xt, xv] 24)) (.cells #[.string yf, .string yo, .string yl, .int .i64 yt, yv] 24); rw [World.size_alloc] at h; exact h
  have q0 := cell_of_row _ _ 0 _ 24 (0, 0) a1
  have q1 := cell_of_row _ _ 1 _ 24 (0, 0) a1
  have q2 := cell_of_row _ _ 2 _ 24 (0, 0) a1
  have q3 := cell_of_row _ _ 3 _ 24 (0, 0) a1
  have r0 := cell_of_row _ _ 0 _ 24 (0, 0) a2
  have r1 := cell_of_row _ _ 1 _ 24 (0, 0) a2
  have r2 := cell_of_row _ _ 2 _ 24 (0, 0) a2
  have r3 := cell_of_row _ _ 3 _ 24 (0, 0) a2
  have hgw : Gr w ((w.alloc (.cells #[.string xf, .string xo, .string xl, .int .i64 xt, xv] 24)).alloc (.cells #[.string yf, .string yo, .string yl, .int .i64 yt, yv] 24)) := ((Gr.refl w).alloc _).alloc _
  clear a1 a2
  have HGW := Lib.hid hgw
  clear hgw
  generalize (w.alloc (.cells #[.string xf, .string xo, .string xl, .int .i64 xt, xv] 24)).alloc (.cells #[.string yf, .string yo, .string yl, .int .i64 yt, yv] 24) = w0 at *
  generalize w.heap.size + 1 = B at *
  generalize hA : w.heap.size = A at q0 q1 q2 q3 ⊢
  clear hA
  go_region_held3 (fun w' => w'.cell? ⟨A, 0, none⟩ = some (.string xf) ∧ w'.cell? ⟨A, 1, none⟩ = some (.string xo) ∧ w'.cell? ⟨A, 2, none⟩ = some (.string xl) ∧ w'.cell? ⟨A, 3, none⟩ = some (.int .i64 xt) ∧ w'.cell? ⟨B, 0, none⟩ = some (.string yf) ∧ w'.cell? ⟨B, 1, none⟩ = some (.string yo) ∧ w'.cell? ⟨B, 2, none⟩ = some (.string yl) ∧ w'.cell? ⟨B, 3, none⟩ = some (.int .i64 yt)) (first | exact ⟨q0, q1, q2, q3, r0, r1, r2, r3⟩ | (go_keep; done)) (first | (go_at_call 52; refine (cmpI_any _ _ _).mono ?_; rintro e w' ⟨rfl, rfl⟩) | (go_at_call 53; refine (cmpT_any _ _ _).mono ?_; rintro e w' ⟨rfl, rfl⟩) | (go_at_call 51; refine (or_new _ _ _ _ _ _ rfl).mono ?_; rintro e w' ⟨rfl, rfl⟩))
  go_wp2_with fail
  go_ret
  exact ⟨rfl, (HGW.out.alloc _).drew⟩
end Go.Proofs.Ytpoefcpgcojppaa

namespace Go.Proofs.Ytpoefcpgcojppaa
open Go.ChangeShapes Go.WideShapes Go.ChangeAt Go.RowKit
set_option linter.unusedVariables false

theorem ret_bool {b c : Bool} (h : b = c) : Ending.returned (.bool b) = .returned (.bool c) := by rw [h]
theorem ret_int {b c : Int} (h : b = c) : Ending.returned (.int .i64 b) = .returned (.int .i64 c) := by rw [h]
theorem beq_bool (a b : Int) : (a == b) = decide (a = b) := rfl

theorem bless : ∀ a b : List UInt8, Op.bytesLess a b = decide (Lib.compareBytes a b = -1)
  | [], [] => by simp [Op.bytesLess, Lib.compareBytes]
  | [], _ :: _ => by simp [Op.bytesLess, Lib.compareBytes]
  | _ :: _, [] => by simp [Op.bytesLess, Lib.compareBytes]
  | a :: x, b :: y => by
    simp only [Op.bytesLess, Lib.compareBytes]
    by_cases h1 : a < b
    · simp [h1]
    · by_cases h2 : b < a
      · have h3 : (a == b) = false := by rw [beq_eq_false_iff_ne]; rintro rfl; exact h1 h2
        simp [h1, h2, h3]
      · have := u8_tri a b h1 h2
        subst this
        simp [bless x y]
theorem blessB (a b : ByteArray) : Op.bytesLess a.toList b.toList = decide (cmpB a b = -1) := by
  rw [bless, ByteArray.toList_eq, ByteArray.toList_eq]
  rfl
theorem tl_ne {a b : ByteArray} (h : a ≠ b) : ¬ a.toList = b.toList := fun e => h (data_inj (by rwa [ByteArray.toList_eq, ByteArray.toList_eq] at e))
theorem beqS (a b : ByteArray) : (a.toList == b.toList) = decide (a = b) := by
  by_cases h : a = b
  · subst h; simp
  · rw [decide_eq_false h, beq_eq_false_iff_ne]
    exact tl_ne h
theorem neS (W : World) (a b : ByteArray) : (binOp .neq 9 (.string a) (.string b)).run Try.prog W = .ok (.bool (!decide (a = b))) W := by
  simp [binOp, go_sem, Op.stringOp, beqS, bne]
theorem eqS (W : World) (a b : ByteArray) : (binOp .eql 9 (.string a) (.string b)).run Try.prog W = .ok (.bool (decide (a = b))) W := by
  simp [binOp, go_sem, Op.stringOp, beqS]
theorem ltS (W : World) (a b : ByteArray) : (binOp .lss 9 (.string a) (.string b)).run Try.prog W = .ok (.bool (decide (cmpB a b = -1))) W := by
  simp [binOp, go_sem, Op.stringOp, blessB]

theorem like_gr (x y : Kt) (xv yv : Value) (w : World) : Calls Try.prog 20 #[eV x xv, eV y yv] w fun e w' => e = .returned (.bool (decide (cmpK x y = 0))) ∧ Gr w w' := by
  have hc := fun W => compare_gr x y xv yv W
  unfold eV at hc ⊢
  generalize cmpK x y = c at hc ⊢
  have HC := Lib.hid hc
  clear hc
  go_enter Try.func20, Try.ntmps20
  go_wp2_with (go_at_call 18; refine (HC.out _).mono ?_; rintro e w1 ⟨rfl, hg⟩)
  go_ret
  exact ⟨rfl, (((Gr.refl w).alloc _).alloc _).trans hg⟩

theorem ahead_gr (x y : Kt) (xv yv : Value) (w : World) : Calls Try.prog 54 #[eV x xv, eV y yv] w fun e w' => e = .returned (.bool (decide (cmpK x y = -1))) ∧ Gr w w' := by
  rw [cmpK_or]
  obtain ⟨xt, xf, xo, xl⟩ := x
  obtain ⟨yt, yf, yo, yl⟩ := y
  unfold eV
  simp only
  have hlb := three_bytes
  by_cases h1 : xt = yt
  · subst h1
    by_cases h2 : xf = yf
    · subst h2
      by_cases h3 : xo = yo
      · subst h3
        have HE := Lib.hid (show or4 (Lib.compareInt xt xt) (cmpB xf xf) (cmpB xo xo) (cmpB xl yl) = cmpB xl yl by rw [three_int.rfl', hlb.rfl', hlb.rfl']; rfl)
        clear hlb
        go_enter Try.func54, Try.ntmps54
        go_wp2_with fail
        go_ret
        exact ⟨ret_bool (by rw [HE.out]; first | rfl | exact blessB _ _), ((Gr.refl w).alloc _).alloc _⟩
      · have HE := Lib.hid (show or4 (Lib.compareInt xt xt) (cmpB xf xf) (cmpB xo yo) (cmpB xl yl) = cmpB xo yo by rw [three_int.rfl', hlb.rfl']; simp only [or4, if_pos]; rw [if_neg (fun e => h3 ((hlb.zero _ _).1 e))])
        have h3' : (xo.toList == yo.toList) = false := by rw [beqS, decide_eq_false h3]
        clear hlb
        go_enter Try.func54, Try.ntmps54
        go_wp2_with fail
        go_ret
        exact ⟨ret_bool (by rw [HE.out]; first | rfl | exact blessB _ _), ((Gr.refl w).alloc _).alloc _⟩
    · have HE := Lib.hid (show or4 (Lib.compareInt xt xt) (cmpB xf yf) (cmpB xo yo) (cmpB xl yl) = cmpB xf yf by rw [three_int.rfl']; simp only [or4, if_pos]; rw [if_neg (fun e => h2 ((hlb.zero _ _).1 e))])
      have h2' : (xf.toList == yf.toList) = false := by rw [beqS, decide_eq_false h2]
      clear hlb
      go_enter Try.func54, Try.ntmps54
      go_wp2_with fail
      go_ret
      exact ⟨ret_bool (by rw [HE.out]; first | rfl | exact blessB _ _), ((Gr.refl w).alloc _).alloc _⟩
  · have HE := Lib.hid (show or4 (Lib.compareInt xt yt) (cmpB xf yf) (cmpB xo yo) (cmpB xl yl) = Lib.compareInt xt yt by simp only [or4]; rw [if_neg (fun e => h1 ((three_int.zero _ _).1 e))])
    have h1' : (xt != yt) = true := by simpa using h1
    have HC := Lib.hid (show decide (xt < yt) = decide (Lib.compareInt xt yt = -1) by
      rw [decide_eq_decide]; unfold Lib.compareInt; split <;> (try split) <;> omega)
    clear hlb h1
    go_enter Try.func54, Try.ntmps54
    go_wp2_with fail
    go_ret
    exact ⟨ret_bool (by rw [HE.out]; exact HC.out), ((Gr.refl w).alloc _).alloc _⟩

theorem box_a {w w1 : World} {xs ys : Array Value} {T U : TypeId} (h : Gr ((w.alloc (.cells xs T)).alloc (.cells ys U)) w1) (i : Nat) (v : Value) (hv : xs[i]? = some v) : w1.cell? ⟨w.heap.size, i, none⟩ = some v := by
  rw [h.below.cell (p := ⟨w.heap.size, i, none⟩) (by simp; omega)]
  have a1 : ((w.alloc (.cells xs T)).alloc (.cells ys U)).heap[w.heap.size]? = some (.cells xs T (0, 0)) := (Below.heap_alloc _ _ _ (by simp)).trans (heap_alloc_new w _)
  rw [cell_of_row _ _ i _ T (0, 0) a1, hv]
theorem box_b {w w1 : World} {xs ys : Array Value} {T U : TypeId} (h : Gr ((w.alloc (.cells xs T)).alloc (.cells ys U)) w1) (i : Nat) (v : Value) (hv : ys[i]? = some v) : w1.cell? ⟨w.heap.size + 1, i, none⟩ = some v := by
  rw [h.below.cell (p := ⟨w.heap.size + 1, i, none⟩) (by simp)]
  have a2 := heap_alloc_new (w.alloc (.cells xs T)) (.cells ys U)
  rw [World.size_alloc] at a2
  rw [cell_of_row _ _ i _ U (0, 0) a2, hv]

set_option maxRecDepth 100000 in
theorem rCompare_gr (x y : Kt) (xv yv : Value) (w : World) : Calls Try.prog 19 #[eV x xv, eV y yv] w fun e w' => e = .returned (.int .i64 (cmpK x y)) ∧ Gr w w' := by
  have h1 := fun W => ahead_gr x y xv yv W
  have h2 := fun W => ahead_gr y x yv xv W
  have hr := three_key.rng x y
  have hn := three_key.neg x y
  unfold eV at h1 h2 ⊢
  generalize cmpK x y = c at h1 hr hn ⊢
  generalize cmpK y x = d at h2 hn
  obtain rfl : d = -c := by omega
  obtain ⟨p, hp⟩ : ∃ p, decide (c = -1) = p := ⟨_, rfl⟩
  obtain ⟨q, hq⟩ : ∃ q, decide (-c = -1) = q := ⟨_, rfl⟩
  rw [hp] at h1
  rw [hq] at h2
  have H1 := Lib.hid h1
  have H2 := Lib.hid h2
  have HP := Lib.hid (And.intro hp (And.intro hq hr))
  clear h1 h2 hn hp hq hr
  cases p with
  | true =>
    have HE := Lib.hid (show c = -1 from of_decide_eq_true HP.out.1)
    clear HP
    go_enter Try.func19, Try.ntmps19
    go_wp2_with (go_at_call 54; (refine (H1.out _).mono ?_; rintro e w1 ⟨rfl, hg⟩))
    go_ret
    exact ⟨ret_int HE.out.symm, (((Gr.refl w).alloc _).alloc _).trans hg⟩
  | false =>
    cases q with
    | true =>
      have HE := Lib.hid (show c = 1 by have := of_decide_eq_true HP.out.2.1; omega)
      clear HP
      go_enter Try.func19, Try.ntmps19
      go_wp2_with (go_at_call 54; first | (refine (H1.out _).mono ?_; clear H1; rintro e w1 ⟨rfl, hg⟩; have c0 := box_a hg 0 _ rfl; have c1 := box_a hg 1 _ rfl; have c2 := box_a hg 2 _ rfl; have c3 := box_a hg 3 _ rfl; have c4 := box_a hg 4 _ rfl; have d0 := box_b hg 0 _ rfl; have d1 := box_b hg 1 _ rfl; have d2 := box_b hg 2 _ rfl; have d3 := box_b hg 3 _ rfl; have d4 := box_b hg 4 _ rfl; have HG := Lib.hid hg; clear hg) | (refine (H2.out _).mono ?_; rintro e w2 ⟨rfl, hg2⟩))
      go_ret
      exact ⟨ret_int HE.out.symm, ((((Gr.refl w).alloc _).alloc _).trans HG.out).trans hg2⟩
    | false =>
      have HE := Lib.hid (show c = 0 by have h1 := of_decide_eq_false HP.out.2.1; have h2 := of_decide_eq_false HP.out.1; have := HP.out.2.2; omega)
      clear HP
      go_enter Try.func19, Try.ntmps19
      go_wp2_with (go_at_call 54; first | (refine (H1.out _).mono ?_; clear H1; rintro e w1 ⟨rfl, hg⟩; have c0 := box_a hg 0 _ rfl; have c1 := box_a hg 1 _ rfl; have c2 := box_a hg 2 _ rfl; have c3 := box_a hg 3 _ rfl; have c4 := box_a hg 4 _ rfl; have d0 := box_b hg 0 _ rfl; have d1 := box_b hg 1 _ rfl; have d2 := box_b hg 2 _ rfl; have d3 := box_b hg 3 _ rfl; have d4 := box_b hg 4 _ rfl; have HG := Lib.hid hg; clear hg) | (refine (H2.out _).mono ?_; rintro e w2 ⟨rfl, hg2⟩))
      go_ret
      exact ⟨ret_int HE.out.symm, ((((Gr.refl w).alloc _).alloc _).trans HG.out).trans hg2⟩

theorem rLike_gr (x y : Kt) (xv yv : Value) (w : World) : Calls Try.prog 21 #[eV x xv, eV y yv] w fun e w' => e = .returned (.bool (decide (cmpK x y = 0))) ∧ Gr w w' := by
  have hc := fun W => rCompare_gr x y xv yv W
  unfold eV at hc ⊢
  generalize cmpK x y = c at hc ⊢
  have HC := Lib.hid hc
  clear hc
  go_enter Try.func21, Try.ntmps21
  go_wp2_with (go_at_call 19; refine (HC.out _).mono ?_; rintro e w1 ⟨rfl, hg⟩)
  go_ret
  exact ⟨rfl, (((Gr.refl w).alloc _).alloc _).trans hg⟩
end Go.Proofs.Ytpoefcpgcojppaa

namespace Go.Proofs.Ytpoefcpgcojppaa
open Go.ChangeShapes Go.WideShapes Go.ChangeAt Go.RowKit
set_option linter.unusedVariables false

def letB (r : Int) : Bool := decide (97 ≤ r ∧ r ≤ 122)
def sgnB (r : Int) : Bool := decide ((97 ≤ r ∧ r ≤ 122) ∨ (48 ≤ r ∧ r ≤ 57) ∨ r = 95)
def allSg (l : List UInt8) : Bool := l.all fun c => sgnB c.toNat
def verB (s : ByteArray) : Bool := decide (1 ≤ s.size ∧ s.size ≤ 20) && allSg s.data.toList
def wordB (s : ByteArray) : Bool := s.toList == [97, 115] || s.toList == [109, 97, 116, 99, 104] || s.toList == [119, 104, 101, 114, 101] || s.toList == [97, 110, 100] || s.toList == [114, 101, 116, 117, 114, 110] || s.toList == [114, 97, 110, 103, 101] || s.toList == [115, 108, 105, 100, 101]

theorem isLetter_any (r : Int) (w : World) : Calls Try.prog 71 #[.int .i32 r] w fun e w' => e = .returned (.bool (letB r)) ∧ w = w' := by
  have h : r < 97 ∨ (97 ≤ r ∧ 122 < r) ∨ (97 ≤ r ∧ r ≤ 122) := by omega
  rcases h with h | ⟨h1, h2⟩ | ⟨h1, h2⟩
  all_goals
    go_enter Try.func71, Try.ntmps71
    go_wp2
    go_ret
    exact ⟨ret_bool (by simp [letB]; try omega), rfl⟩

theorem letter_any (r : Int) (w : World) : Calls Try.prog 76 #[.int .u8 r] w fun e w' => e = .returned (.bool (letB r)) ∧ w = w' := by
  have h : r < 97 ∨ (97 ≤ r ∧ 122 < r) ∨ (97 ≤ r ∧ r ≤ 122) := by omega
  rcases h with h | ⟨h1, h2⟩ | ⟨h1, h2⟩
  all_goals
    go_enter Try.func76, Try.ntmps76
    go_wp2
    go_ret
    exact ⟨ret_bool (by simp [letB]; try omega), rfl⟩

theorem isSign_any (r : Int) (w : World) : Calls Try.prog 70 #[.int .i32 r] w fun e w' => e = .returned (.bool (sgnB r)) ∧ w = w' := by
  cases hl : letB r with
  | true =>
    have HL := Lib.hid hl
    go_enter Try.func70, Try.ntmps70
    go_wp2_with (go_at_call 71; refine (isLetter_any _ _).mono ?_; rintro e w' ⟨rfl, rfl⟩)
    go_ret
    exact ⟨ret_bool (by have := HL.out; simp [letB] at this; simp [sgnB]; omega), rfl⟩
  | false =>
    have HL := Lib.hid hl
    have h : r < 48 ∨ (48 ≤ r ∧ r ≤ 57) ∨ (48 ≤ r ∧ 57 < r) := by omega
    rcases h with h | ⟨h1, h2⟩ | ⟨h1, h2⟩
    · have hb : (r == 95) = false := by rw [beq_eq_false_iff_ne]; omega
      go_enter Try.func70, Try.ntmps70
      go_wp2_with (go_at_call 71; refine (isLetter_any _ _).mono ?_; rintro e w' ⟨rfl, rfl⟩)
      go_ret
      exact ⟨ret_bool (by simp [sgnB]; omega), rfl⟩
    · go_enter Try.func70, Try.ntmps70
      go_wp2_with (go_at_call 71; refine (isLetter_any _ _).mono ?_; rintro e w' ⟨rfl, rfl⟩)
      go_ret
      exact ⟨ret_bool (by simp [sgnB]; omega), rfl⟩
    · by_cases h3 : r = 95
      · subst h3
        go_enter Try.func70, Try.ntmps70
        go_wp2_with (go_at_call 71; refine (isLetter_any _ _).mono ?_; rintro e w' ⟨rfl, rfl⟩)
        go_ret
        exact ⟨ret_bool (by simp [sgnB]), rfl⟩
      · have hb : (r == 95) = false := by rw [beq_eq_false_iff_ne]; omega
        go_enter Try.func70, Try.ntmps70
        go_wp2_with (go_at_call 71; refine (isLetter_any _ _).mono ?_; rintro e w' ⟨rfl, rfl⟩)
        go_ret
        exact ⟨ret_bool (by rw [decide_eq_false (show ¬ r ≤ 57 by omega)]; symm; unfold sgnB; rw [decide_eq_false_iff_not]; have := HL.out; unfold letB at this; rw [decide_eq_false_iff_not] at this; omega), rfl⟩

theorem sign_any (r : Int) (w : World) : Calls Try.prog 75 #[.int .u8 r] w fun e w' => e = .returned (.bool (sgnB r)) ∧ w = w' := by
  cases hl : letB r with
  | true =>
    have HL := Lib.hid hl
    go_enter Try.func75, Try.ntmps75
    go_wp2_with (go_at_call 76; refine (letter_any _ _).mono ?_; rintro e w' ⟨rfl, rfl⟩)
    go_ret
    exact ⟨ret_bool (by have := HL.out; simp [letB] at this; simp [sgnB]; omega), rfl⟩
  | false =>
    have HL := Lib.hid hl
    have h : r < 48 ∨ (48 ≤ r ∧ r ≤ 57) ∨ (48 ≤ r ∧ 57 < r) := by omega
    rcases h with h | ⟨h1, h2⟩ | ⟨h1, h2⟩
    · have hb : (r == 95) = false := by rw [beq_eq_false_iff_ne]; omega
      go_enter Try.func75, Try.ntmps75
      go_wp2_with (go_at_call 76; refine (letter_any _ _).mono ?_; rintro e w' ⟨rfl, rfl⟩)
      go_ret
      exact ⟨ret_bool (by simp [sgnB]; omega), rfl⟩
    · go_enter Try.func75, Try.ntmps75
      go_wp2_with (go_at_call 76; refine (letter_any _ _).mono ?_; rintro e w' ⟨rfl, rfl⟩)
      go_ret
      exact ⟨ret_bool (by simp [sgnB]; omega), rfl⟩
    · by_cases h3 : r = 95
      · subst h3
        go_enter Try.func75, Try.ntmps75
        go_wp2_with (go_at_call 76; refine (letter_any _ _).mono ?_; rintro e w' ⟨rfl, rfl⟩)
        go_ret
        exact ⟨ret_bool (by simp [sgnB]), rfl⟩
      · have hb : (r == 95) = false := by rw [beq_eq_false_iff_ne]; omega
        go_enter Try.func75, Try.ntmps75
        go_wp2_with (go_at_call 76; refine (letter_any _ _).mono ?_; rintro e w' ⟨rfl, rfl⟩)
        go_ret
        exact ⟨ret_bool (by rw [decide_eq_false (show ¬ r ≤ 57 by omega)]; symm; unfold sgnB; rw [decide_eq_false_iff_not]; have := HL.out; unfold letB at this; rw [decide_eq_false_iff_not] at this; omega), rfl⟩

theorem isWord_any (s : ByteArray) (w : World) : Calls Try.prog 72 #[.string s] w fun e w' => e = .returned (.bool (wordB s)) ∧ w = w' := by
  cases w1 : (s.toList == [97, 115]) with
  | true =>
    go_enter Try.func72, Try.ntmps72
    go_wp2
    go_ret
    exact ⟨ret_bool (by simp [wordB, w1]), rfl⟩
  | false =>
    cases w2 : (s.toList == [109, 97, 116, 99, 104]) with
    | true =>
      go_enter Try.func72, Try.ntmps72
      go_wp2
      go_ret
      exact ⟨ret_bool (by simp [wordB, w1, w2]), rfl⟩
    | false =>
      cases w3 : (s.toList == [119, 104, 101, 114, 101]) with
      | true =>
        go_enter Try.func72, Try.ntmps72
        go_wp2
        go_ret
        exact ⟨ret_bool (by simp [wordB, w1, w2, w3]), rfl⟩
      | false =>
        cases w4 : (s.toList == [97, 110, 100]) with
        | true =>
          go_enter Try.func72, Try.ntmps72
          go_wp2
          go_ret
          exact ⟨ret_bool (by simp [wordB, w1, w2, w3, w4]), rfl⟩
        | false =>
          cases w5 : (s.toList == [114, 101, 116, 117, 114, 110]) with
          | true =>
            go_enter Try.func72, Try.ntmps72
            go_wp2
            go_ret
            exact ⟨ret_bool (by simp [wordB, w1, w2, w3, w4, w5]), rfl⟩
          | false =>
            cases w6 : (s.toList == [114, 97, 110, 103, 101]) with
            | true =>
              go_enter Try.func72, Try.ntmps72
              go_wp2
              go_ret
              exact ⟨ret_bool (by simp [wordB, w1, w2, w3, w4, w5, w6]), rfl⟩
            | false =>
              cases w7 : (s.toList == [115, 108, 105, 100, 101]) with
              | true =>
                go_enter Try.func72, Try.ntmps72
                go_wp2
                go_ret
                exact ⟨ret_bool (by simp [wordB, w1, w2, w3, w4, w5, w6, w7]), rfl⟩
              | false =>
                go_enter Try.func72, Try.ntmps72
                go_wp2
                go_ret
                exact ⟨ret_bool (by simp [wordB, w1, w2, w3, w4, w5, w6, w7]), rfl⟩

theorem allSg_get {l : List UInt8} (h : allSg l = true) (k : Nat) (hk : k < l.length) : sgnB (l[k]).toNat = true := by
  unfold allSg at h
  rw [List.all_eq_true] at h
  exact h _ (List.getElem_mem hk)
theorem allSg_succ {l : List UInt8} {k : Nat} (h : allSg (l.take k) = true) (hk : k < l.length) (hs : sgnB (l[k]).toNat = true) : allSg (l.take (k + 1)) = true := by
  rw [List.take_succ_eq_append_getElem hk]
  unfold allSg at h ⊢
  rw [List.all_append, h]
  simpa using hs
theorem allSg_not {l : List UInt8} {k : Nat} (hk : k < l.length) (hs : sgnB (l[k]).toNat = false) : allSg l = false := by
  cases h : allSg l with
  | false => rfl
  | true => rw [allSg_get h k hk] at hs; cases hs

theorem rVertex_any (s : ByteArray) (w : World) (hm : s.size ≤ maxLen) : Calls Try.prog 47 #[.string s] w fun e w' => e = .returned (.bool (verB s)) ∧ w = w' := by
  unfold maxLen at hm
  have hsz : s.data.toList.length = s.size := by rw [Array.length_toList]; rfl
  have HSZ := Lib.hid hsz
  clear hsz
  go_enter Try.func47, Try.ntmps47
  go_wp2
  go_loop [3] (fun i => ∃ k : Nat, k ≤ s.size ∧ i = .int .i64 k ∧ allSg (s.data.toList.take k) = true) (fun i => s.size - (intOf i).toNat)
  case atStart => exact ⟨0, Nat.zero_le _, rfl, rfl⟩
  case round =>
    obtain ⟨k, hk, rfl, hall⟩ := hrel
    have HALL := Lib.hid hall
    clear hall
    by_cases hlt : k < s.size
    · have hkl : k < s.data.toList.length := by rw [HSZ.out]; exact hlt
      have hb : s.data.toList[k] = s[k] := rfl
      have HB := Lib.hid hb
      clear hb
      cases hsg : sgnB (s[k].toNat : Int) with
      | true =>
        have HS := Lib.hid hsg
        go_wp2_with (go_at_call 75; refine (sign_any _ _).mono ?_; rintro e w' ⟨rfl, rfl⟩)
        go_round
        case rel => exact ⟨k + 1, by omega, by go_num, allSg_succ HALL.out hkl (by rw [HB.out]; exact HS.out)⟩
        case measure => simp [intOf]; omega
      | false =>
        have HS := Lib.hid hsg
        go_wp2_with (go_at_call 75; refine (sign_any _ _).mono ?_; rintro e w' ⟨rfl, rfl⟩)
        go_ret
        exact ⟨ret_bool (by unfold verB; rw [allSg_not hkl (by rw [HB.out]; exact HS.out), Bool.and_false]), rfl⟩
    · obtain rfl : k = s.size := by omega
      have h2 : s.size < 1 ∨ (1 ≤ s.size ∧ 20 < s.size) ∨ (1 ≤ s.size ∧ s.size ≤ 20) := by omega
      have hv : verB s = decide (1 ≤ s.size ∧ s.size ≤ 20) := by
        have := HALL.out
        rw [List.take_of_length_le (by rw [HSZ.out]; exact Nat.le_refl _)] at this
        unfold verB
        rw [this, Bool.and_true]
      have HV := Lib.hid hv
      clear hv
      rcases h2 with h2 | ⟨h2, h3⟩ | ⟨h2, h3⟩
      all_goals
        go_wp2
        go_ret
        exact ⟨ret_bool (by rw [HV.out, Bool.eq_iff_iff]; simp; try omega), rfl⟩

theorem vertex_any (s : ByteArray) (w : World) (hm : s.size ≤ maxLen) : Calls Try.prog 43 #[.string s] w fun e w' => e = .returned (.bool (verB s)) ∧ Below w.heap.size w w' := by
  unfold maxLen at hm
  have h2 : s.size < 1 ∨ (1 ≤ s.size ∧ 20 < s.size) ∨ (1 ≤ s.size ∧ s.size ≤ 20) := by omega
  rcases h2 with h2 | ⟨h2, h3⟩ | ⟨h2, h3⟩
  · go_enter Try.func43, Try.ntmps43
    go_wp2
    go_ret
    exact ⟨ret_bool (by unfold verB; simp; omega), Below.refl _ _⟩
  · go_enter Try.func43, Try.ntmps43
    go_wp2
    go_ret
    exact ⟨ret_bool (by unfold verB; simp; omega), Below.refl _ _⟩
  · have hsz : s.data.toList.length = s.size := by rw [Array.length_toList]; rfl
    have HSZ := Lib.hid hsz
    clear hsz
    go_enter Try.func43, Try.ntmps43
    go_wp2
    go_loopw [4] (fun _ wr => ∃ k : Nat, k ≤ s.size ∧ wr = w.iter s k ∧ allSg (s.data.toList.take k) = true) (fun _ wr => s.size - wr.iterPos w.heap.size)
    case atStart => exact ⟨0, Nat.zero_le _, rfl, rfl⟩
    case round =>
      obtain ⟨k, hk, rfl, hall⟩ := hrel
      have HALL := Lib.hid hall
      clear hall
      by_cases hlt : k < s.size
      · have hkl : k < s.data.toList.length := by rw [HSZ.out]; exact hlt
        have hb : s.data.toList[k] = s[k] := rfl
        have HB := Lib.hid hb
        clear hb
        by_cases hasc : (s[k].toNat) < 128
        · have hnx := fun ty => run_next_ascii (P := Try.prog) w s k ty hlt hasc
          cases hsg : sgnB (s[k].toNat : Int) with
          | true =>
            have HS := Lib.hid hsg
            go_wp2_with (go_at_call 70; refine (isSign_any _ _).mono ?_; rintro e w' ⟨rfl, rfl⟩)
            go_roundw
            case rel => exact ⟨k + 1, by omega, rfl, allSg_succ HALL.out hkl (by rw [HB.out]; exact HS.out)⟩
            case measure => simp; omega
          | false =>
            have HS := Lib.hid hsg
            go_wp2_with (go_at_call 70; refine (isSign_any _ _).mono ?_; rintro e w' ⟨rfl, rfl⟩)
            go_ret
            exact ⟨ret_bool (by unfold verB; rw [allSg_not hkl (by rw [HB.out]; exact HS.out), Bool.and_false]), (Below.refl _ _).alloc (Nat.le_refl _) _⟩
        · have hhi := (decode_high s k hlt (by omega)).1
          have hnx := fun ty => run_next_any (P := Try.prog) w s k ty hlt
          obtain ⟨rn, hrn⟩ : ∃ rn, Utf8.decode s k = rn := ⟨_, rfl⟩
          obtain ⟨r, n⟩ := rn
          rw [hrn] at hhi
          simp only [hrn] at hnx
          have hsg : sgnB (r : Int) = false := by unfold sgnB; rw [decide_eq_false_iff_not]; simp at hhi; omega
          have hsg2 : sgnB (s[k].toNat : Int) = false := by unfold sgnB; rw [decide_eq_false_iff_not]; omega
          have HS := Lib.hid hsg2
          clear hsg2 hrn
          go_wp2_with (go_at_call 70; refine (isSign_any _ _).mono ?_; rintro e w' ⟨rfl, rfl⟩)
          go_ret
          exact ⟨ret_bool (by unfold verB; rw [allSg_not hkl (by rw [HB.out]; exact HS.out), Bool.and_false]), (Below.refl _ _).alloc (Nat.le_refl _) _⟩
      · obtain rfl : k = s.size := by omega
        have hnx := fun ty => run_next_end (P := Try.prog) w s s.size ty hlt
        have hv : verB s = true := by
          have := HALL.out
          rw [List.take_of_length_le (by rw [HSZ.out]; exact Nat.le_refl _)] at this
          unfold verB
          rw [this, decide_eq_true ⟨h2, h3⟩]; rfl
        have HV := Lib.hid hv
        clear hv
        go_wp2
        go_ret
        exact ⟨ret_bool HV.out.symm, (Below.refl _ _).alloc (Nat.le_refl _) _⟩
end Go.Proofs.Ytpoefcpgcojppaa

namespace Go.Proofs.Ytpoefcpgcojppaa
open Go.ChangeShapes Go.WideShapes Go.ChangeAt Go.RowKit
set_option linter.unusedVariables false

def firstB (s : ByteArray) : Int := if h : 0 < s.size then (s[0]'h).toNat else 0
def freB (s : ByteArray) : Bool := verB s && (letB (firstB s) && !wordB s)

theorem verB_pos {s : ByteArray} (h : verB s = true) : 1 ≤ s.size := by
  unfold verB at h
  rw [Bool.and_eq_true, decide_eq_true_eq] at h
  exact h.1.1

theorem free_any (s : ByteArray) (w : World) (hm : s.size ≤ maxLen) : Calls Try.prog 44 #[.string s] w fun e w' => e = .returned (.bool (freB s)) ∧ Below w.heap.size w w' := by
  cases hv : verB s with
  | false =>
    have HE := Lib.hid (show freB s = false by unfold freB; rw [hv]; rfl)
    go_enter Try.func44, Try.ntmps44
    go_wp2_with (go_at_call 43; refine (vertex_any s _ hm).mono ?_; rintro e w' ⟨rfl, hb⟩)
    go_ret
    exact ⟨ret_bool HE.out.symm, hb⟩
  | true =>
    have hp := verB_pos hv
    have hf : firstB s = (s[0]'hp).toNat := dif_pos hp
    have hu1 : ((s[0]'hp).toNat : Int) ≤ 255 := by have := (s[0]'hp).toNat_lt; omega
    have hw32 : wrap32 ((s[0]'hp).toNat : Int) = ((s[0]'hp).toNat : Int) := by unfold wrap32; omega
    cases hl : letB ((s[0]'hp).toNat : Int) with
    | false =>
      have HE := Lib.hid (show freB s = false by unfold freB; rw [hf, hl]; simp)
      clear hf
      go_enter Try.func44, Try.ntmps44
      go_wp2_with (first | (go_at_call 43; refine (vertex_any s _ hm).mono ?_; rintro e w' ⟨rfl, hb⟩) | (go_at_call 71; refine (isLetter_any _ _).mono ?_; rintro e w' ⟨rfl, rfl⟩))
      go_ret
      exact ⟨ret_bool HE.out.symm, hb⟩
    | true =>
      have HE := Lib.hid (show freB s = !wordB s by unfold freB; rw [hv, hf, hl]; simp)
      clear hf
      go_enter Try.func44, Try.ntmps44
      go_wp2_with (first | (go_at_call 43; refine (vertex_any s _ hm).mono ?_; rintro e w' ⟨rfl, hb⟩) | (go_at_call 71; refine (isLetter_any _ _).mono ?_; rintro e w' ⟨rfl, rfl⟩) | (go_at_call 72; refine (isWord_any _ _).mono ?_; rintro e w' ⟨rfl, rfl⟩))
      go_ret
      exact ⟨ret_bool HE.out.symm, hb⟩

theorem rFree_any (s : ByteArray) (w : World) (hm : s.size ≤ maxLen) : Calls Try.prog 48 #[.string s] w fun e w' => e = .returned (.bool (freB s)) ∧ w = w' := by
  cases hv : verB s with
  | false =>
    have HE := Lib.hid (show freB s = false by unfold freB; rw [hv]; rfl)
    go_enter Try.func48, Try.ntmps48
    go_wp2_with (go_at_call 47; refine (rVertex_any s _ hm).mono ?_; rintro e w' ⟨rfl, rfl⟩)
    go_ret
    exact ⟨ret_bool HE.out.symm, rfl⟩
  | true =>
    have hp := verB_pos hv
    have hf : firstB s = (s[0]'hp).toNat := dif_pos hp
    cases hl : letB ((s[0]'hp).toNat : Int) with
    | false =>
      have HE := Lib.hid (show freB s = false by unfold freB; rw [hf, hl]; simp)
      clear hf
      go_enter Try.func48, Try.ntmps48
      go_wp2_with (first | (go_at_call 47; refine (rVertex_any s _ hm).mono ?_; rintro e w' ⟨rfl, rfl⟩) | (go_at_call 76; refine (letter_any _ _).mono ?_; rintro e w' ⟨rfl, rfl⟩))
      go_ret
      exact ⟨ret_bool HE.out.symm, rfl⟩
    | true =>
      have HE := Lib.hid (show freB s = !wordB s by unfold freB; rw [hv, hf, hl]; simp)
      clear hf
      cases w1 : (s.toList == [97, 115]) with
      | true =>
        go_enter Try.func48, Try.ntmps48
        go_wp2_with (first | (go_at_call 47; refine (rVertex_any s _ hm).mono ?_; rintro e w' ⟨rfl, rfl⟩) | (go_at_call 76; refine (letter_any _ _).mono ?_; rintro e w' ⟨rfl, rfl⟩))
        go_ret
        exact ⟨ret_bool (by rw [HE.out]; simp [wordB, w1]), rfl⟩
      | false =>
        cases w2 : (s.toList == [109, 97, 116, 99, 104]) with
        | true =>
          go_enter Try.func48, Try.ntmps48
          go_wp2_with (first | (go_at_call 47; refine (rVertex_any s _ hm).mono ?_; rintro e w' ⟨rfl, rfl⟩) | (go_at_call 76; refine (letter_any _ _).mono ?_; rintro e w' ⟨rfl, rfl⟩))
          go_ret
          exact ⟨ret_bool (by rw [HE.out]; simp [wordB, w1, w2]), rfl⟩
        | false =>
          cases w3 : (s.toList == [119, 104, 101, 114, 101]) with
          | true =>
            go_enter Try.func48, Try.ntmps48
            go_wp2_with (first | (go_at_call 47; refine (rVertex_any s _ hm).mono ?_; rintro e w' ⟨rfl, rfl⟩) | (go_at_call 76; refine (letter_any _ _).mono ?_; rintro e w' ⟨rfl, rfl⟩))
            go_ret
            exact ⟨ret_bool (by rw [HE.out]; simp [wordB, w1, w2, w3]), rfl⟩
          | false =>
            cases w4 : (s.toList == [97, 110, 100]) with
            | true =>
              go_enter Try.func48, Try.ntmps48
              go_wp2_with (first | (go_at_call 47; refine (rVertex_any s _ hm).mono ?_; rintro e w' ⟨rfl, rfl⟩) | (go_at_call 76; refine (letter_any _ _).mono ?_; rintro e w' ⟨rfl, rfl⟩))
              go_ret
              exact ⟨ret_bool (by rw [HE.out]; simp [wordB, w1, w2, w3, w4]), rfl⟩
            | false =>
              cases w5 : (s.toList == [114, 101, 116, 117, 114, 110]) with
              | true =>
                go_enter Try.func48, Try.ntmps48
                go_wp2_with (first | (go_at_call 47; refine (rVertex_any s _ hm).mono ?_; rintro e w' ⟨rfl, rfl⟩) | (go_at_call 76; refine (letter_any _ _).mono ?_; rintro e w' ⟨rfl, rfl⟩))
                go_ret
                exact ⟨ret_bool (by rw [HE.out]; simp [wordB, w1, w2, w3, w4, w5]), rfl⟩
              | false =>
                cases w6 : (s.toList == [114, 97, 110, 103, 101]) with
                | true =>
                  go_enter Try.func48, Try.ntmps48
                  go_wp2_with (first | (go_at_call 47; refine (rVertex_any s _ hm).mono ?_; rintro e w' ⟨rfl, rfl⟩) | (go_at_call 76; refine (letter_any _ _).mono ?_; rintro e w' ⟨rfl, rfl⟩))
                  go_ret
                  exact ⟨ret_bool (by rw [HE.out]; simp [wordB, w1, w2, w3, w4, w5, w6]), rfl⟩
                | false =>
                  cases w7 : (s.toList == [115, 108, 105, 100, 101]) with
                  | true =>
                    go_enter Try.func48, Try.ntmps48
                    go_wp2_with (first | (go_at_call 47; refine (rVertex_any s _ hm).mono ?_; rintro e w' ⟨rfl, rfl⟩) | (go_at_call 76; refine (letter_any _ _).mono ?_; rintro e w' ⟨rfl, rfl⟩))
                    go_ret
                    exact ⟨ret_bool (by rw [HE.out]; simp [wordB, w1, w2, w3, w4, w5, w6, w7]), rfl⟩
                  | false =>
                    go_enter Try.func48, Try.ntmps48
                    go_wp2_with (first | (go_at_call 47; refine (rVertex_any s _ hm).mono ?_; rintro e w' ⟨rfl, rfl⟩) | (go_at_call 76; refine (letter_any _ _).mono ?_; rintro e w' ⟨rfl, rfl⟩))
                    go_ret
                    exact ⟨ret_bool (by rw [HE.out]; simp [wordB, w1, w2, w3, w4, w5, w6, w7]), rfl⟩
end Go.Proofs.Ytpoefcpgcojppaa

namespace Go.Proofs.Ytpoefcpgcojppaa
open Go.ChangeShapes Go.WideShapes Go.ChangeAt Go.RowKit
set_option linter.unusedVariables false

def plainC (c : UInt8) : Bool := decide (32 ≤ c.toNat) && decide (c.toNat ≤ 126) && decide (c.toNat ≠ 34) && decide (c.toNat ≠ 92)
def isT (s : ByteArray) : Bool := decide (s.size ≤ 40) && s.data.toList.all plainC
def rightV (v : Vt) : Bool := (decide (v.1 = 1) && (decide (-1099511627776 ≤ v.2.1) && decide (v.2.1 ≤ 1099511627776) && decide (v.2.2 = ⟨#[]⟩))) || (decide (v.1 = 2) && (decide (v.2.1 = 0) && isT v.2.2))

def plI (r : Int) : Bool := decide (32 ≤ r ∧ r ≤ 126 ∧ r ≠ 34 ∧ r ≠ 92)
theorem plI_eq (c : UInt8) : plainC c = plI (c.toNat : Int) := by
  unfold plainC plI
  rw [Bool.eq_iff_iff]
  simp
  omega

theorem isPlain_any (r : Int) (w : World) : Calls Try.prog 93 #[.int .u8 r] w fun e w' => e = .returned (.bool (plI r)) ∧ w = w' := by
  have h : r < 32 ∨ (32 ≤ r ∧ 126 < r) ∨ (32 ≤ r ∧ r ≤ 126) := by omega
  rcases h with h | ⟨h1, h2⟩ | ⟨h1, h2⟩
  · have h3 : r ≠ 34 := by omega
    have h4 : r ≠ 92 := by omega
    go_enter Try.func93, Try.ntmps93
    go_wp2
    go_ret
    exact ⟨ret_bool (by simp [plI]; try omega), rfl⟩
  · go_enter Try.func93, Try.ntmps93
    go_wp2
    go_ret
    exact ⟨ret_bool (by simp [plI]; try omega), rfl⟩
  · by_cases h3 : r = 34
    · subst h3
      go_enter Try.func93, Try.ntmps93
      go_wp2
      go_ret
      exact ⟨ret_bool (by simp [plI]), rfl⟩
    · have h3' : (r != 34) = true := by simpa using h3
      by_cases h4 : r = 92
      · subst h4
        go_enter Try.func93, Try.ntmps93
        go_wp2
        go_ret
        exact ⟨ret_bool (by simp [plI]), rfl⟩
      · have h4' : (r != 92) = true := by simpa using h4
        have HE := Lib.hid (show plI r = true by unfold plI; rw [decide_eq_true_iff]; omega)
        clear h3 h4
        go_enter Try.func93, Try.ntmps93
        go_wp2
        go_ret
        exact ⟨ret_bool HE.out.symm, rfl⟩

theorem all_succ {l : List UInt8} {k : Nat} (h : (l.take k).all plainC = true) (hk : k < l.length) (hs : plainC l[k] = true) : (l.take (k + 1)).all plainC = true := by
  rw [List.take_succ_eq_append_getElem hk, List.all_append, h]
  simpa using hs
theorem all_not {l : List UInt8} {k : Nat} (hk : k < l.length) (hs : plainC l[k] = false) : l.all plainC = false := by
  rw [List.all_eq_false]
  exact ⟨l[k], List.getElem_mem hk, by rw [hs]; decide⟩

theorem isText_any (s : ByteArray) (w : World) (hm : s.size ≤ 281474976710656) : Calls Try.prog 88 #[.string s] w fun e w' => e = .returned (.bool (isT s)) ∧ w = w' := by
  have hsz : s.data.toList.length = s.size := Array.length_toList
  have HSZ := Lib.hid hsz
  clear hsz
  by_cases h40 : s.size ≤ 40
  · have h40' : decide ((40 : Int) < (s.size : Int)) = false := by rw [decide_eq_false_iff_not]; omega
    go_enter Try.func88, Try.ntmps88
    go_wp2
    go_loop [9] (fun i => ∃ k : Nat, k ≤ s.size ∧ i = .int .i64 k ∧ (s.data.toList.take k).all plainC = true) (fun i => s.size - (Lib.intOf i).toNat)
    case atStart => exact ⟨0, Nat.zero_le _, rfl, rfl⟩
    case round =>
      obtain ⟨k, hk, rfl, hall⟩ := hrel
      have HALL := Lib.hid hall
      clear hall
      by_cases hlt : k < s.size
      · have hkl : k < s.data.toList.length := by rw [HSZ.out]; exact hlt
        have hb : s.data.toList[k] = s[k] := rfl
        have HB := Lib.hid hb
        clear hb
        cases hsg : plI (s[k].toNat : Int) with
        | true =>
          have HS := Lib.hid hsg
          go_wp2_with (go_at_call 93; refine (isPlain_any _ _).mono ?_; rintro e w' ⟨rfl, rfl⟩)
          go_round
          case rel => exact ⟨k + 1, by omega, by go_num, all_succ HALL.out hkl (by rw [HB.out, plI_eq]; exact HS.out)⟩
          case measure => simp [Lib.intOf]; omega
        | false =>
          have HS := Lib.hid hsg
          go_wp2_with (go_at_call 93; refine (isPlain_any _ _).mono ?_; rintro e w' ⟨rfl, rfl⟩)
          go_ret
          exact ⟨ret_bool (by unfold isT; rw [all_not hkl (by rw [HB.out, plI_eq]; exact HS.out), Bool.and_false]), rfl⟩
      · obtain rfl : k = s.size := by omega
        have hv : isT s = true := by
          have := HALL.out
          rw [List.take_of_length_le (by rw [HSZ.out]; exact Nat.le_refl _)] at this
          unfold isT
          rw [this, decide_eq_true h40]; rfl
        have HV := Lib.hid hv
        clear hv
        go_wp2
        go_ret
        exact ⟨ret_bool HV.out.symm, rfl⟩
  · have h40' : decide ((40 : Int) < (s.size : Int)) = true := by rw [decide_eq_true_iff]; omega
    have HV := Lib.hid (show isT s = false by unfold isT; rw [decide_eq_false h40]; rfl)
    go_enter Try.func88, Try.ntmps88
    go_wp2
    go_ret
    exact ⟨ret_bool HV.out.symm, rfl⟩
end Go.Proofs.Ytpoefcpgcojppaa
