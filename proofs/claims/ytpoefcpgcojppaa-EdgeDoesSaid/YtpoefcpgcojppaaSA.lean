/- Plain words on stable sorting: rows as functions of a place; moves that keep what is like in its order. -/
import Derived.Sort.Lot0
namespace Go.Proofs.Ytpoefcpgcojppaa
set_option linter.unusedVariables false

/-- a way of comparing, as a sort wants it -/
structure Cm {α : Type} (c : α → α → Int) : Prop where
  neg : ∀ a b, c a b = - c b a
  trans : ∀ a b d, c a b ≤ 0 → c b d ≤ 0 → c a d ≤ 0

/-- n cells from s on -/
def seg {α : Type} (f : Nat → α) (s n : Nat) : List α := (List.range n).map fun t => f (s + t)
theorem seg_len {α : Type} (f : Nat → α) (s n : Nat) : (seg f s n).length = n := by simp [seg]
theorem seg_zero {α : Type} (f : Nat → α) (s : Nat) : seg f s 0 = [] := by simp [seg]
theorem seg_add {α : Type} (f : Nat → α) (s n m : Nat) : seg f s (n + m) = seg f s n ++ seg f (s + n) m := by
  unfold seg
  rw [List.range_add, List.map_append, List.map_map]
  congr 1
  apply List.map_congr_left
  intro t _
  simp [Nat.add_assoc]
theorem seg_congr {α : Type} {f g : Nat → α} {s s' n : Nat} (h : ∀ t, t < n → f (s + t) = g (s' + t)) : seg f s n = seg g s' n := by
  unfold seg
  apply List.map_congr_left
  intro t ht
  exact h t (List.mem_range.1 ht)
theorem mem_seg {α : Type} {f : Nat → α} {s n : Nat} {x : α} : x ∈ seg f s n ↔ ∃ i, s ≤ i ∧ i < s + n ∧ f i = x := by
  unfold seg
  rw [List.mem_map]
  constructor
  · rintro ⟨t, ht, rfl⟩
    exact ⟨s + t, by omega, by have := List.mem_range.1 ht; omega, rfl⟩
  · rintro ⟨i, h1, h2, rfl⟩
    exact ⟨i - s, List.mem_range.2 (by omega), by rw [show s + (i - s) = i by omega]⟩

variable {α : Type} {c : α → α → Int}

/-- those that are like e -/
def lk (c : α → α → Int) (e : α) (l : List α) : List α := l.filter fun x => decide (c e x = 0)
theorem lk_app (e : α) (l m : List α) : lk c e (l ++ m) = lk c e l ++ lk c e m := by simp [lk]
theorem lk_nil (e : α) (l : List α) (h : ∀ x ∈ l, c e x ≠ 0) : lk c e l = [] := by
  unfold lk
  rw [List.filter_eq_nil_iff]
  intro x hx
  simpa using h x hx

theorem Cm.self (h : Cm c) (a : α) : c a a = 0 := by have := h.neg a a; omega
theorem Cm.like_trans (h : Cm c) {a b d : α} (h1 : c a b = 0) (h2 : c b d = 0) : c a d = 0 := by
  have n1 := h.neg a b
  have n2 := h.neg b d
  have n3 := h.neg a d
  have a1 := h.trans a b d (by omega) (by omega)
  have a2 := h.trans d b a (by omega) (by omega)
  omega
theorem Cm.lt_le (h : Cm c) {a b d : α} (h1 : c a b < 0) (h2 : c b d ≤ 0) : c a d < 0 := by
  have n1 := h.neg a b
  have n3 := h.neg a d
  have n2 := h.neg b d
  have a1 := h.trans a b d (by omega) (by omega)
  by_cases e : c a d = 0
  · have a2 := h.trans b d a (by omega) (by omega)
    omega
  · omega
theorem Cm.le_lt (h : Cm c) {a b d : α} (h1 : c a b ≤ 0) (h2 : c b d < 0) : c a d < 0 := by
  have n1 := h.neg a b
  have n3 := h.neg a d
  have n2 := h.neg b d
  have a1 := h.trans a b d (by omega) (by omega)
  by_cases e : c a d = 0
  · have a2 := h.trans d a b (by omega) (by omega)
    omega
  · omega

/-- two blocks that change their places, none of one like one of the other -/
theorem lk_turn (h : Cm c) (e : α) (x y : List α) (hne : ∀ a ∈ x, ∀ b ∈ y, c a b ≠ 0) : lk c e (x ++ y) = lk c e (y ++ x) := by
  rw [lk_app, lk_app]
  by_cases hx : ∃ a ∈ x, c e a = 0
  · obtain ⟨a, ha, hea⟩ := hx
    have : lk c e y = [] := lk_nil e y fun b hb hb0 => hne a ha b hb (h.like_trans (by have := h.neg e a; omega) hb0)
    rw [this, List.append_nil, List.nil_append]
  · have : lk c e x = [] := lk_nil e x fun a ha h0 => hx ⟨a, ha, h0⟩
    rw [this, List.append_nil, List.nil_append]

/-- from f to g cells of [a, b) have moved, such as are like stand as they did -/
structure Mv (c : α → α → Int) (a b : Nat) (f g : Nat → α) : Prop where
  out : ∀ i, i < a ∨ b ≤ i → g i = f i
  mem : ∀ i, a ≤ i → i < b → ∃ j, a ≤ j ∧ j < b ∧ g i = f j
  eqv : ∀ e, lk c e (seg g a (b - a)) = lk c e (seg f a (b - a))
theorem Mv.refl (a b : Nat) (f : Nat → α) : Mv c a b f f := ⟨fun _ _ => rfl, fun i h1 h2 => ⟨i, h1, h2, rfl⟩, fun _ => rfl⟩
theorem Mv.trans {a b : Nat} {f g k : Nat → α} (h1 : Mv c a b f g) (h2 : Mv c a b g k) : Mv c a b f k :=
  ⟨fun i hi => (h2.out i hi).trans (h1.out i hi), fun i a1 a2 => by
    obtain ⟨j, b1, b2, b3⟩ := h2.mem i a1 a2
    obtain ⟨l, c1, c2, c3⟩ := h1.mem j b1 b2
    exact ⟨l, c1, c2, b3.trans c3⟩, fun e => (h2.eqv e).trans (h1.eqv e)⟩
theorem Mv.wide {a b a' b' : Nat} {f g : Nat → α} (h : Mv c a b f g) (h1 : a' ≤ a) (hab : a ≤ b) (h2 : b ≤ b') : Mv c a' b' f g := by
  refine ⟨fun i hi => h.out i (by omega), fun i i1 i2 => ?_, fun e => ?_⟩
  · by_cases hi : a ≤ i ∧ i < b
    · obtain ⟨j, b1, b2, b3⟩ := h.mem i hi.1 hi.2
      exact ⟨j, by omega, by omega, b3⟩
    · exact ⟨i, i1, i2, h.out i (by omega)⟩
  · have e1 : b' - a' = (a - a') + ((b - a) + (b' - b)) := by omega
    have e2 : a' + (a - a') = a := by omega
    have e3 : a + (b - a) = b := by omega
    rw [e1, seg_add, seg_add, seg_add, seg_add, e2, e3, lk_app, lk_app, lk_app, lk_app, h.eqv e]
    rw [seg_congr (f := g) (g := f) (s := a') (s' := a') (fun t ht => h.out _ (by omega)), seg_congr (f := g) (g := f) (s := b) (s' := b) (fun t ht => h.out _ (by omega))]

/-- [a, b) is in order -/
def Srt (c : α → α → Int) (a b : Nat) (f : Nat → α) : Prop := ∀ i j, a ≤ i → i < j → j < b → c (f i) (f j) ≤ 0
theorem Srt.le (h : Cm c) {a b : Nat} {f : Nat → α} (hs : Srt c a b f) {i j : Nat} (h1 : a ≤ i) (h2 : i ≤ j) (h3 : j < b) : c (f i) (f j) ≤ 0 := by
  by_cases e : i = j
  · subst e
    rw [h.self]
    omega
  · exact hs i j h1 (by omega) h3
theorem Srt.sub {a b a' b' : Nat} {f g : Nat → α} (hs : Srt c a b f) (h1 : a ≤ a') (h2 : b' ≤ b) (he : ∀ i, a' ≤ i → i < b' → g i = f i) : Srt c a' b' g := fun i j i1 i2 i3 => by
  rw [he i i1 (by omega), he j (by omega) i3]
  exact hs i j (by omega) i2 (by omega)
theorem Srt.one (a : Nat) (f : Nat → α) : Srt c a (a + 1) f := fun i j _ _ _ => by omega

/-- two cells side by side change their places -/
def swF (f : Nat → α) (i j : Nat) : Nat → α := fun t => if t = i then f j else if t = j then f i else f t
theorem swF_get [Inhabited α] (d : Array α) {i j : Nat} (hi : i < d.size) (hj : j < d.size) : (fun t => (Sort.swp d i j)[t]!) = swF (fun t => d[t]!) i j := by
  funext t
  unfold swF
  by_cases h1 : t = i
  · subst h1
    rw [if_pos rfl]
    by_cases h2 : t = j
    · subst h2
      exact Sort.swp_right d t t hj
    · exact Sort.swp_left d t j hi h2
  · rw [if_neg h1]
    by_cases h2 : t = j
    · subst h2
      rw [if_pos rfl]
      exact Sort.swp_right d i t hj
    · rw [if_neg h2]
      exact Sort.swp_other d i j t h1 h2
theorem Mv.swap (h : Cm c) {f : Nat → α} {a b j : Nat} (h1 : a ≤ j) (h2 : j + 1 < b) (hne : c (f j) (f (j + 1)) ≠ 0) {g : Nat → α} (hg : ∀ t, g t = if t = j then f (j + 1) else if t = j + 1 then f j else f t) : Mv c a b f g := by
  have H : Mv c j (j + 2) f g := by
    refine ⟨fun i hi => by rw [hg, if_neg (by omega), if_neg (by omega)], fun i i1 i2 => ?_, fun e => ?_⟩
    · by_cases e : i = j
      · exact ⟨j + 1, by omega, by omega, by rw [hg, if_pos e]⟩
      · exact ⟨j, by omega, by omega, by rw [hg, if_neg e, if_pos (by omega)]⟩
    · have e1 : j + 2 - j = 1 + 1 := by omega
      rw [e1, seg_add, seg_add]
      have s1 : ∀ (k : Nat → α) (s : Nat), seg k s 1 = [k s] := fun k s => by simp [seg]
      rw [s1, s1, s1, s1]
      have g1 : g j = f (j + 1) := by rw [hg, if_pos rfl]
      have g2 : g (j + 1) = f j := by rw [hg, if_neg (by omega), if_pos rfl]
      rw [g1, g2]
      exact (lk_turn h e [f j] [f (j + 1)] (by simpa using hne)).symm
  exact H.wide h1 (by omega) (by omega)

/-- two blocks side by side change their places -/
def rotF (f : Nat → α) (s m e : Nat) : Nat → α := fun t => if t < s ∨ e ≤ t then f t else if t < s + (e - m) then f (t + (m - s)) else f (t - (e - m))
theorem Mv.rot (h : Cm c) {f : Nat → α} {a b s m e : Nat} (h1 : a ≤ s) (h2 : s ≤ m) (h3 : m ≤ e) (h4 : e ≤ b) (hne : ∀ i j, s ≤ i → i < m → m ≤ j → j < e → c (f i) (f j) ≠ 0) : Mv c a b f (rotF f s m e) := by
  have H : Mv c s e f (rotF f s m e) := by
    refine ⟨fun i hi => by unfold rotF; rw [if_pos hi], fun i i1 i2 => ?_, fun x => ?_⟩
    · unfold rotF
      rw [if_neg (by omega)]
      split
      · exact ⟨i + (m - s), by omega, by omega, rfl⟩
      · exact ⟨i - (e - m), by omega, by omega, rfl⟩
    · have g1 : seg (rotF f s m e) s (e - s) = seg f m (e - m) ++ seg f s (m - s) := by
        rw [show e - s = (e - m) + (m - s) by omega, seg_add]
        congr 1
        · refine seg_congr fun t ht => ?_
          unfold rotF
          rw [if_neg (by omega), if_pos (by omega)]
          congr 1
          omega
        · refine seg_congr fun t ht => ?_
          unfold rotF
          rw [if_neg (by omega), if_neg (by omega)]
          congr 1
          omega
      have g2 : seg f s (e - s) = seg f s (m - s) ++ seg f m (e - m) := by
        rw [show e - s = (m - s) + (e - m) by omega, seg_add, show s + (m - s) = m by omega]
      rw [g1, g2]
      refine (lk_turn h x _ _ fun y hy z hz => ?_).symm
      obtain ⟨i, i1, i2, rfl⟩ := mem_seg.1 hy
      obtain ⟨j, j1, j2, rfl⟩ := mem_seg.1 hz
      exact hne i j i1 (by omega) j1 (by omega)
  exact H.wide h1 (by omega) h4

/-- blocks that are exchanged, cell by cell -/
def xchF (f : Nat → α) (a b n : Nat) : Nat → α := fun t => if a ≤ t ∧ t < a + n then f (t + (b - a)) else if b ≤ t ∧ t < b + n then f (t - (b - a)) else f t
theorem xchF_zero (f : Nat → α) (a b : Nat) : xchF f a b 0 = f := by
  funext t
  unfold xchF
  rw [if_neg (by omega), if_neg (by omega)]
theorem xchF_succ (f : Nat → α) {a b n : Nat} (h : a + n < b) : swF (xchF f a b n) (a + n) (b + n) = xchF f a b (n + 1) := by
  funext t
  unfold swF xchF
  by_cases h1 : t = a + n
  · subst h1
    rw [if_pos rfl, if_neg (by omega), if_neg (by omega), if_pos (by omega)]
    all_goals exact congrArg f (by omega)
  · rw [if_neg h1]
    by_cases h2 : t = b + n
    · subst h2
      rw [if_pos rfl, if_neg (by omega), if_neg (by omega), if_neg (by omega), if_pos (by omega)]
      all_goals exact congrArg f (by omega)
    · rw [if_neg h2]
      by_cases h3 : a ≤ t ∧ t < a + n
      · rw [if_pos h3, if_pos (by omega)]
      · rw [if_neg h3]
        by_cases h4 : b ≤ t ∧ t < b + n
        · rw [if_pos h4, if_neg (by omega), if_pos (by omega)]
        · rw [if_neg h4, if_neg (by omega), if_neg (by omega)]
/-- a round of the turning -/
theorem rot_more (f : Nat → α) {m i j : Nat} (hi : i ≤ m) (hij : j < i) : rotF (xchF f (m - i) m j) (m - (i - j)) m (m + j) = rotF f (m - i) m (m + j) := by
  funext t
  unfold rotF xchF
  by_cases h1 : t < m - i ∨ m + j ≤ t
  · rw [if_pos (by omega), if_pos h1, if_neg (by omega), if_neg (by omega)]
  · rw [if_neg h1]
    by_cases h2 : t < m - i + j
    · rw [if_pos (by omega), if_pos (by omega), if_pos (by omega)]
      all_goals exact congrArg f (by omega)
    · rw [if_neg (show ¬ (t < m - (i - j) ∨ m + j ≤ t) by omega), if_neg (show ¬ t < m - i + (m + j - m) by omega)]
      by_cases h3 : t < m - i + j + j
      · rw [if_pos (by omega), if_neg (by omega), if_pos (by omega)]
        all_goals exact congrArg f (by omega)
      · rw [if_neg (by omega), if_neg (by omega), if_neg (by omega)]
theorem rot_less (f : Nat → α) {m i j : Nat} (hi : i ≤ m) (hij : i < j) : rotF (xchF f (m - i) (m + j - i) i) (m - i) m (m + (j - i)) = rotF f (m - i) m (m + j) := by
  funext t
  unfold rotF xchF
  by_cases h1 : t < m - i ∨ m + j ≤ t
  · rw [if_pos (by omega), if_pos h1, if_neg (by omega), if_neg (by omega)]
  · rw [if_neg h1]
    by_cases h2 : m + (j - i) ≤ t
    · rw [if_pos (by omega), if_neg (by omega), if_pos (by omega), if_neg (by omega)]
      all_goals exact congrArg f (by omega)
    · rw [if_neg (show ¬ (t < m - i ∨ m + (j - i) ≤ t) by omega), if_pos (show t < m - i + (m + j - m) by omega)]
      by_cases h3 : t < m - i + (j - i)
      · rw [if_pos (by omega), if_neg (by omega), if_neg (by omega)]
      · rw [if_neg (by omega), if_pos (by omega)]
        all_goals exact congrArg f (by omega)
theorem rot_same (f : Nat → α) {m i : Nat} (hi : i ≤ m) : xchF f (m - i) m i = rotF f (m - i) m (m + i) := by
  funext t
  unfold rotF xchF
  by_cases h1 : t < m - i ∨ m + i ≤ t
  · rw [if_pos h1, if_neg (by omega), if_neg (by omega)]
  · rw [if_neg h1]
    by_cases h2 : t < m - i + i
    · rw [if_pos (by omega), if_pos (by omega)]
      all_goals exact congrArg f (by omega)
    · rw [if_neg (by omega), if_pos (by omega), if_neg (by omega)]
      all_goals exact congrArg f (by omega)

/-- rows in order of which each has those like one as the other has: they are the same -/
theorem one_order (h : Cm c) : ∀ {l m : List α}, l.Pairwise (fun x y => c x y ≤ 0) → m.Pairwise (fun x y => c x y ≤ 0) → (∀ e, lk c e l = lk c e m) → l = m
  | [], [], _, _, _ => rfl
  | [], y :: m, _, _, he => by
    have := he y
    simp [lk, h.self] at this
  | x :: l, [], _, _, he => by
    have := he x
    simp [lk, h.self] at this
  | x :: l, y :: m, h1, h2, he => by
    obtain ⟨a1, a2⟩ := List.pairwise_cons.1 h1
    obtain ⟨b1, b2⟩ := List.pairwise_cons.1 h2
    have hx : x ∈ y :: m := by
      have : x ∈ lk c x (y :: m) := by rw [← he x]; simp [lk, h.self]
      exact (List.mem_filter.1 this).1
    have hy : y ∈ x :: l := by
      have : y ∈ lk c y (x :: l) := by rw [he y]; simp [lk, h.self]
      exact (List.mem_filter.1 this).1
    have hxy : c x y = 0 := by
      have n := h.neg x y
      rcases List.mem_cons.1 hx with e | hx
      · subst e; exact h.self _
      · rcases List.mem_cons.1 hy with e | hy
        · subst e; exact h.self _
        · have := b1 x hx
          have := a1 y hy
          omega
    have hd := he x
    have hl : lk c x (x :: l) = x :: lk c x l := by simp [lk, h.self]
    have hm : lk c x (y :: m) = y :: lk c x m := by simp [lk, hxy]
    rw [hl, hm] at hd
    injection hd with hd1 hd2
    subst hd1
    rw [one_order h a2 b2 fun e => ?_]
    have := he e
    by_cases h0 : c e x = 0
    · simpa [lk, h0] using this
    · simpa [lk, h0] using this
end Go.Proofs.Ytpoefcpgcojppaa
