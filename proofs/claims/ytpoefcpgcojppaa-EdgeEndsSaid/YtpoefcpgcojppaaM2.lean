/- Texts SB, UA, UB, UC, UD, UE, UF, one behind the other. -/
import Derived.Test.YtpoefcpgcojppaaM0
import Derived.Test.YtpoefcpgcojppaaM1
import Derived.Shelf.SlSortCmp.KitK
import Derived.BigRegion
import Derived.BigQuiet
import Derived.Deep.CutRange
set_option linter.unusedSimpArgs false
namespace Go.Proofs.Ytpoefcpgcojppaa
set_option linter.unusedVariables false
variable {α : Type} {c : α → α → Int}

/-- all pairs of [a, i] are in order, but those whose later one is at j -/
def Ins (c : α → α → Int) (a j i : Nat) (f : Nat → α) : Prop := ∀ p q, a ≤ p → p < q → q ≤ i → q ≠ j → c (f p) (f q) ≤ 0
theorem Ins.start {a i : Nat} {f : Nat → α} (h : Srt c a i f) : Ins c a i i f := fun p q h1 h2 h3 h4 => h p q h1 h2 (by omega)
theorem Ins.stop (hc : Cm c) {a j i : Nat} {f : Nat → α} (h : Ins c a j i f) (hj : j ≤ a ∨ 0 ≤ c (f j) (f (j - 1))) (hji : j ≤ i) : Srt c a (i + 1) f := by
  intro p q h1 h2 h3
  by_cases e : q = j
  · subst e
    rcases hj with hj | hj
    · omega
    · have n1 := hc.neg (f q) (f (q - 1))
      by_cases e2 : p = q - 1
      · rw [e2]; omega
      · exact hc.trans _ _ _ (h p (q - 1) h1 (by omega) (by omega) (by omega)) (by omega)
  · exact h p q h1 h2 (by omega) e
theorem Ins.step {a j i : Nat} {f g : Nat → α} (h : Ins c a (j + 1) i f) (hj : a ≤ j) (hji : j + 1 ≤ i) (hlt : c (f (j + 1)) (f j) < 0) (hg : ∀ t, g t = if t = j then f (j + 1) else if t = j + 1 then f j else f t) : Ins c a j i g := by
  intro p q h1 h2 h3 h4
  by_cases e : q = j + 1
  · subst e
    have e1 : g (j + 1) = f j := by rw [hg, if_neg (by omega), if_pos rfl]
    by_cases e2 : p = j
    · subst e2
      rw [e1, hg, if_pos rfl]; omega
    · have e3 : g p = f p := by rw [hg, if_neg e2, if_neg (by omega)]
      rw [e1, e3]
      exact h p j h1 (by omega) (by omega) (by omega)
  · have e1 : g q = f q := by rw [hg, if_neg h4, if_neg e]
    rw [e1]
    by_cases e2 : p = j
    · rw [e2, hg, if_pos rfl]
      exact h (j + 1) q (by omega) (by omega) h3 e
    · by_cases e3 : p = j + 1
      · rw [e3, hg, if_neg (by omega), if_pos rfl]
        exact h j q (by omega) (by omega) h3 e
      · rw [hg, if_neg e2, if_neg e3]
        exact h p q h1 h2 h3 e

/-- what the search by halves asks for -/
structure Cut (c : α → α → Int) (f : Nat → α) (a st m en b : Nat) : Prop where
  h1 : a ≤ st
  h2 : st ≤ m
  h3 : m ≤ en
  h4 : en ≤ b
  lt : ∀ i j, st ≤ i → i < m → m ≤ j → j < en → c (f j) (f i) < 0
  le : ∀ i j, a ≤ i → i < st → en ≤ j → j < b → c (f i) (f j) ≤ 0
theorem rot_a {f : Nat → α} {st m en i : Nat} (h : i < st ∨ en ≤ i) : rotF f st m en i = f i := by unfold rotF; rw [if_pos h]
theorem rot_b {f : Nat → α} {st m en i : Nat} (h1 : st ≤ i) (h2 : i < st + (en - m)) (h3 : m ≤ en) (h4 : st ≤ m) : rotF f st m en i = f (i + (m - st)) := by unfold rotF; rw [if_neg (by omega), if_pos h2]
theorem rot_c {f : Nat → α} {st m en i : Nat} (h1 : st + (en - m) ≤ i) (h2 : i < en) (h3 : m ≤ en) (h4 : st ≤ m) : rotF f st m en i = f (i - (en - m)) := by unfold rotF; rw [if_neg (by omega), if_neg (by omega)]
theorem rot_id {f : Nat → α} {st m en : Nat} (h : st = m ∨ m = en) (h3 : m ≤ en) (h4 : st ≤ m) : rotF f st m en = f := by
  funext t
  by_cases h1 : t < st ∨ en ≤ t
  · exact rot_a h1
  · by_cases h2 : t < st + (en - m)
    · rw [rot_b (by omega) h2 h3 h4]
      congr 1; omega
    · rw [rot_c (by omega) (by omega) h3 h4]
      congr 1; omega
/-- two rows in order, cut and turned -/
structure Half (c : α → α → Int) (g : Nat → α) (a st mid en b : Nat) : Prop where
  s1 : Srt c a st g
  s2 : Srt c st mid g
  s3 : Srt c mid en g
  s4 : Srt c en b g
  cr : ∀ i j, a ≤ i → i < mid → mid ≤ j → j < b → c (g i) (g j) ≤ 0
theorem Cut.mv (hc : Cm c) {f : Nat → α} {a st m en b : Nat} (h : Cut c f a st m en b) : Mv c a b f (rotF f st m en) :=
  Mv.rot hc h.h1 h.h2 h.h3 h.h4 fun i j i1 i2 i3 i4 => by
    have := h.lt i j i1 i2 i3 i4
    have := hc.neg (f i) (f j)
    omega
theorem Cut.half (hc : Cm c) {f : Nat → α} {a st m en b mid : Nat} (h : Cut c f a st m en b) (s1 : Srt c a m f) (s2 : Srt c m b f) (hm : mid = st + (en - m)) : Half c (rotF f st m en) a st mid en b := by
  obtain ⟨h1, h2, h3, h4, hlt, hle⟩ := h
  subst hm
  refine ⟨?_, ?_, ?_, ?_, ?_⟩
  · intro i j i1 i2 i3
    rw [rot_a (by omega), rot_a (by omega)]
    exact s1 i j i1 i2 (by omega)
  · intro i j i1 i2 i3
    rw [rot_b i1 (by omega) h3 h2, rot_b (by omega) i3 h3 h2]
    exact s2 _ _ (by omega) (by omega) (by omega)
  · intro i j i1 i2 i3
    rw [rot_c i1 (by omega) h3 h2, rot_c (by omega) i3 h3 h2]
    exact s1 _ _ (by omega) (by omega) (by omega)
  · intro i j i1 i2 i3
    rw [rot_a (by omega), rot_a (by omega)]
    exact s2 i j (by omega) i2 i3
  · intro i j i1 i2 i3 i4
    by_cases e1 : i < st
    · rw [rot_a (.inl e1)]
      by_cases e2 : j < en
      · rw [rot_c i3 e2 h3 h2]
        exact s1 _ _ i1 (by omega) (by omega)
      · rw [rot_a (.inr (by omega))]
        exact hle i j i1 e1 (by omega) i4
    · rw [rot_b (by omega) i2 h3 h2]
      by_cases e2 : j < en
      · rw [rot_c i3 e2 h3 h2]
        have := hlt (j - (en - m)) (i + (m - st)) (by omega) (by omega) (by omega) (by omega)
        omega
      · rw [rot_a (.inr (by omega))]
        exact s2 _ _ (by omega) (by omega) i4
theorem Half.done {g g1 g2 : Nat → α} {a st mid en b : Nat} (h : Half c g a st mid en b) (k1 : Mv c a mid g g1) (t1 : Srt c a mid g1) (k2 : Mv c mid b g1 g2) (t2 : Srt c mid b g2) : Srt c a b g2 := by
  intro i j i1 i2 i3
  by_cases e1 : mid ≤ i
  · exact t2 i j e1 i2 i3
  · by_cases e2 : j < mid
    · rw [k2.out i (.inl (by omega)), k2.out j (.inl e2)]
      exact t1 i j i1 i2 e2
    · obtain ⟨i', p1, p2, p3⟩ := k1.mem i i1 (by omega)
      obtain ⟨j', q1, q2, q3⟩ := k2.mem j (by omega) i3
      rw [k2.out i (.inl (by omega)), p3, q3, k1.out j' (.inr q1)]
      exact h.cr i' j' p1 p2 q1 q2
/-- the search by halves -/
structure Sym (c : α → α → Int) (f : Nat → α) (s0 r0 p st r : Nat) : Prop where
  h1 : s0 ≤ st
  h2 : st ≤ r
  h3 : r ≤ r0
  ge : ∀ x, s0 ≤ x → x < st → 0 ≤ c (f (p - x)) (f x)
  lt : ∀ x, r ≤ x → x < r0 → c (f (p - x)) (f x) < 0
theorem Sym.start {f : Nat → α} {s0 r0 p : Nat} (h : s0 ≤ r0) : Sym c f s0 r0 p s0 r0 := ⟨Nat.le_refl _, h, Nat.le_refl _, fun x _ _ => by omega, fun x _ _ => by omega⟩
theorem Sym.right (hc : Cm c) {f : Nat → α} {a m b s0 r0 p st r k : Nat} (h : Sym c f s0 r0 p st r) (s1 : Srt c a m f) (s2 : Srt c m b f) (ha : a ≤ s0) (hr : r0 ≤ m) (hp1 : p + 1 ≥ m + r0) (hp2 : p < b + s0) (k1 : st ≤ k) (k2 : k < r) (hk : ¬ c (f (p - k)) (f k) < 0) : Sym c f s0 r0 p (k + 1) r := by
  obtain ⟨h1, h2, h3, hge, hlt⟩ := h
  refine ⟨by omega, by omega, h3, fun x x1 x2 => ?_, hlt⟩
  have a1 := s1.le hc (show a ≤ x by omega) (show x ≤ k by omega) (by omega)
  have a2 := s2.le hc (show m ≤ p - k by omega) (show p - k ≤ p - x by omega) (by omega)
  have n1 := hc.neg (f (p - k)) (f k)
  have n2 := hc.neg (f (p - x)) (f x)
  have := hc.trans _ _ _ (hc.trans _ _ _ a1 (show c (f k) (f (p - k)) ≤ 0 by omega)) a2
  omega
theorem Sym.left (hc : Cm c) {f : Nat → α} {a m b s0 r0 p st r k : Nat} (h : Sym c f s0 r0 p st r) (s1 : Srt c a m f) (s2 : Srt c m b f) (ha : a ≤ s0) (hr : r0 ≤ m) (hp1 : p + 1 ≥ m + r0) (hp2 : p < b + s0) (k1 : st ≤ k) (k2 : k < r) (hk : c (f (p - k)) (f k) < 0) : Sym c f s0 r0 p st k := by
  obtain ⟨h1, h2, h3, hge, hlt⟩ := h
  refine ⟨h1, k1, by omega, hge, fun x x1 x2 => ?_⟩
  have a1 := s1.le hc (show a ≤ k by omega) x1 (by omega)
  have a2 := s2.le hc (show m ≤ p - x by omega) (show p - x ≤ p - k by omega) (by omega)
  exact hc.lt_le (hc.le_lt a2 hk) a1
/-- the row's middle, as the merge takes it -/
theorem Sym.cut (hc : Cm c) {f : Nat → α} {a m b s0 r0 mid st : Nat} (s1 : Srt c a m f) (s2 : Srt c m b f) (ham : a < m) (hmb : m < b) (hmid : mid = (a + b) / 2) (hs0 : s0 = if m > mid then mid + m - b else a) (hr0 : r0 = if m > mid then mid else m) (h : Sym c f s0 r0 (mid + m - 1) st st) : Cut c f a st m (mid + m - st) b ∧ mid = st + ((mid + m - st) - m) := by
  obtain ⟨h1, h2, h3, hge, hlt⟩ := h
  have hst : a ≤ st ∧ st ≤ m ∧ st ≤ mid ∧ mid + m - st ≤ b := by
    by_cases e : m > mid
    · rw [if_pos e] at hs0 hr0; omega
    · rw [if_neg e] at hs0 hr0; omega
  refine ⟨⟨hst.1, hst.2.1, by omega, hst.2.2.2, fun i j i1 i2 i3 i4 => ?_, fun i j i1 i2 i3 i4 => ?_⟩, by omega⟩
  · have hlt2 : st < r0 := by
      by_cases e : m > mid
      · rw [if_pos e] at hs0 hr0; omega
      · rw [if_neg e] at hs0 hr0; omega
    have a0 := hlt st (Nat.le_refl _) hlt2
    have a1 := s1.le hc hst.1 i1 i2
    have a2 := s2.le hc i3 (show j ≤ mid + m - 1 - st by omega) (by omega)
    exact hc.lt_le (hc.le_lt a2 a0) a1
  · have hlt2 : s0 < st := by
      by_cases e : m > mid
      · rw [if_pos e] at hs0 hr0; omega
      · rw [if_neg e] at hs0 hr0; omega
    have a0 := hge (st - 1) (by omega) (by omega)
    rw [show mid + m - 1 - (st - 1) = mid + m - st by omega] at a0
    have n0 := hc.neg (f (mid + m - st)) (f (st - 1))
    have a1 := s1.le hc i1 (show i ≤ st - 1 by omega) (by omega)
    have a2 := s2.le hc (show m ≤ mid + m - st by omega) i3 i4
    exact hc.trans _ _ _ (hc.trans _ _ _ a1 (by omega)) a2

/-- one cell ahead of a row in order: the search -/
structure SeA (c : α → α → Int) (f : Nat → α) (a m b i j : Nat) : Prop where
  h1 : m ≤ i
  h2 : i ≤ j
  h3 : j ≤ b
  lt : ∀ x, m ≤ x → x < i → c (f x) (f a) < 0
  ge : ∀ x, j ≤ x → x < b → 0 ≤ c (f x) (f a)
theorem SeA.start {f : Nat → α} {a m b : Nat} (h : m ≤ b) : SeA c f a m b m b := ⟨Nat.le_refl _, h, Nat.le_refl _, fun x _ _ => by omega, fun x _ _ => by omega⟩
theorem SeA.right (hc : Cm c) {f : Nat → α} {a m b i j k : Nat} (h : SeA c f a m b i j) (s2 : Srt c m b f) (k1 : i ≤ k) (k2 : k < j) (hk : c (f k) (f a) < 0) : SeA c f a m b (k + 1) j := by
  obtain ⟨h1, h2, h3, hlt, hge⟩ := h
  exact ⟨by omega, by omega, h3, fun x x1 x2 => hc.le_lt (s2.le hc x1 (show x ≤ k by omega) (by omega)) hk, hge⟩
theorem SeA.left (hc : Cm c) {f : Nat → α} {a m b i j k : Nat} (h : SeA c f a m b i j) (s2 : Srt c m b f) (k1 : i ≤ k) (k2 : k < j) (hk : ¬ c (f k) (f a) < 0) : SeA c f a m b i k := by
  obtain ⟨h1, h2, h3, hlt, hge⟩ := h
  refine ⟨h1, k1, by omega, hlt, fun x x1 x2 => ?_⟩
  have a1 := s2.le hc (show m ≤ k by omega) x1 x2
  have n1 := hc.neg (f k) (f a)
  have n2 := hc.neg (f x) (f a)
  have := hc.trans _ _ _ (show c (f a) (f k) ≤ 0 by omega) a1
  omega
theorem SeA.cut (hc : Cm c) {f : Nat → α} {a b i : Nat} (h : SeA c f a (a + 1) b i i) (s2 : Srt c (a + 1) b f) : Mv c a b f (rotF f a (a + 1) i) ∧ Srt c a b (rotF f a (a + 1) i) := by
  obtain ⟨h1, h2, h3, hlt, hge⟩ := h
  have hC : Cut c f a a (a + 1) i b := ⟨Nat.le_refl _, by omega, h1, h3, fun p q p1 p2 p3 p4 => by rw [show p = a by omega]; exact hlt q p3 p4, fun p q p1 p2 => by omega⟩
  refine ⟨hC.mv hc, ?_⟩
  have hH := hC.half hc (Srt.one a f) s2 rfl
  refine hH.done (Mv.refl _ _ _) hH.s2 (Mv.refl _ _ _) ?_
  intro p q p1 p2 p3
  by_cases e : i ≤ p
  · exact hH.s4 p q e p2 p3
  · have e1 : p = a + (i - (a + 1)) := by omega
    rw [rot_c (by omega) (by omega) h1 (by omega), rot_a (.inr (by omega)), show p - (i - (a + 1)) = a by omega]
    have := hge q (by omega) p3
    have := hc.neg (f q) (f a)
    omega
theorem rotA_step (f : Nat → α) {a k : Nat} (h : a ≤ k) : swF (rotF f a (a + 1) (k + 1)) k (k + 1) = rotF f a (a + 1) (k + 1 + 1) := by
  funext t
  unfold swF
  by_cases e1 : t = k
  · subst e1
    rw [if_pos rfl, rot_a (.inr (Nat.le_refl _)), rot_b h (by omega) (by omega) (by omega)]
    congr 1; omega
  · rw [if_neg e1]
    by_cases e2 : t = k + 1
    · subst e2
      rw [if_pos rfl, rot_c (by omega) (by omega) (by omega) (by omega), rot_c (by omega) (by omega) (by omega) (by omega)]
      congr 1; omega
    · rw [if_neg e2]
      by_cases e3 : t < a ∨ k + 1 + 1 ≤ t
      · rw [rot_a (by omega), rot_a e3]
      · rw [rot_b (by omega) (by omega) (by omega) (by omega), rot_b (by omega) (by omega) (by omega) (by omega)]

/-- one cell behind a row in order: the search -/
structure SeB (c : α → α → Int) (f : Nat → α) (a m i j : Nat) : Prop where
  h1 : a ≤ i
  h2 : i ≤ j
  h3 : j ≤ m
  ge : ∀ x, a ≤ x → x < i → 0 ≤ c (f m) (f x)
  lt : ∀ x, j ≤ x → x < m → c (f m) (f x) < 0
theorem SeB.start {f : Nat → α} {a m : Nat} (h : a ≤ m) : SeB c f a m a m := ⟨Nat.le_refl _, h, Nat.le_refl _, fun x _ _ => by omega, fun x _ _ => by omega⟩
theorem SeB.right (hc : Cm c) {f : Nat → α} {a m i j k : Nat} (h : SeB c f a m i j) (s1 : Srt c a m f) (k1 : i ≤ k) (k2 : k < j) (hk : ¬ c (f m) (f k) < 0) : SeB c f a m (k + 1) j := by
  obtain ⟨h1, h2, h3, hge, hlt⟩ := h
  refine ⟨by omega, by omega, h3, fun x x1 x2 => ?_, hlt⟩
  have a1 := s1.le hc x1 (show x ≤ k by omega) (by omega)
  have n1 := hc.neg (f m) (f k)
  have n2 := hc.neg (f m) (f x)
  have := hc.trans _ _ _ a1 (show c (f k) (f m) ≤ 0 by omega)
  omega
theorem SeB.left (hc : Cm c) {f : Nat → α} {a m i j k : Nat} (h : SeB c f a m i j) (s1 : Srt c a m f) (k1 : i ≤ k) (k2 : k < j) (hk : c (f m) (f k) < 0) : SeB c f a m i k := by
  obtain ⟨h1, h2, h3, hge, hlt⟩ := h
  exact ⟨h1, k1, by omega, hge, fun x x1 x2 => hc.lt_le hk (s1.le hc (show a ≤ k by omega) x1 x2)⟩
theorem SeB.cut (hc : Cm c) {f : Nat → α} {a m i : Nat} (h : SeB c f a m i i) (s1 : Srt c a m f) : Mv c a (m + 1) f (rotF f i m (m + 1)) ∧ Srt c a (m + 1) (rotF f i m (m + 1)) := by
  obtain ⟨h1, h2, h3, hge, hlt⟩ := h
  have hC : Cut c f a i m (m + 1) (m + 1) := ⟨h1, h3, by omega, Nat.le_refl _, fun p q p1 p2 p3 p4 => by rw [show q = m by omega]; exact hlt p p1 p2, fun p q p1 p2 p3 p4 => by omega⟩
  refine ⟨hC.mv hc, ?_⟩
  have hH := hC.half hc s1 (Srt.one m f) rfl
  refine hH.done (Mv.refl _ _ _) ?_ (Mv.refl _ _ _) hH.s3
  intro p q p1 p2 p3
  by_cases e : q < i
  · exact hH.s1 p q p1 p2 e
  · have e1 : q = i := by omega
    subst e1
    rw [rot_a (.inl p2), rot_b (Nat.le_refl _) (by omega) (by omega) h3, show q + (m - q) = m by omega]
    have := hge p p1 p2
    have := hc.neg (f m) (f p)
    omega
theorem rotB_step (f : Nat → α) {k m : Nat} (h : k + 1 ≤ m) : swF (rotF f (k + 1) m (m + 1)) (k + 1) k = rotF f k m (m + 1) := by
  funext t
  unfold swF
  by_cases e1 : t = k + 1
  · subst e1
    rw [if_pos rfl, rot_a (.inl (by omega)), rot_c (by omega) (by omega) (by omega) (by omega)]
    congr 1; omega
  · rw [if_neg e1]
    by_cases e2 : t = k
    · subst e2
      rw [if_pos rfl, rot_b (by omega) (by omega) (by omega) (by omega), rot_b (by omega) (by omega) (by omega) (by omega)]
      congr 1; omega
    · rw [if_neg e2]
      by_cases e3 : t < k ∨ m + 1 ≤ t
      · rw [rot_a (by omega), rot_a e3]
      · rw [rot_c (by omega) (by omega) (by omega) (by omega), rot_c (by omega) (by omega) (by omega) (by omega)]

/-- blocks of s places in order -/
def Blk (c : α → α → Int) (n s : Nat) (f : Nat → α) : Prop := ∀ q, Srt c (q * s) (min ((q + 1) * s) n) f
theorem Blk.all {n s : Nat} {f : Nat → α} (h : Blk c n s f) (hs : n ≤ s) : Srt c 0 n f := by
  have := h 0
  simpa [Nat.min_eq_right hs] using this
end Go.Proofs.Ytpoefcpgcojppaa

namespace Go.Proofs.Ytpoefcpgcojppaa
open Go.Shelf Go.RowKit Go.Lib Go.Sort
set_option linter.unusedVariables false

/-- the texts of the sort, and what they ask of types -/
structure Ly (P : Program) (k : Nat) : Prop where
  mixed : P.follows .mixedOrders = true
  f91 : P.funcs[91]? = some Try.f91
  f92 : P.funcs[92]? = some Try.f92
  f95 : P.funcs[95]? = some Try.f95
  f96 : P.funcs[96]? = some Try.f96
  f86 : P.funcs[86]? = some Try.f86
  t0 : P.underlying 0 = some (.tuple #[])
  a0 : ∀ w, (isAgg 0).run P w = .ok false w
  z0 : ∀ w, (Go.sizeOf 0).run P w = .ok 1 w
  v0 : ∀ w, (zeroValue 0).run P w = .ok (.tuple #[]) w
  t3 : P.underlying 3 = some (.int .i64)
  a3 : ∀ w, (isAgg 3).run P w = .ok false w
  z3 : ∀ w, (Go.sizeOf 3).run P w = .ok 1 w
  v3 : ∀ w, (zeroValue 3).run P w = .ok (.int .i64 0) w
  t4 : P.underlying 4 = some .bool
  a4 : ∀ w, (isAgg 4).run P w = .ok false w
  z4 : ∀ w, (Go.sizeOf 4).run P w = .ok 1 w
  v4 : ∀ w, (zeroValue 4).run P w = .ok (.bool false) w
  t26 : P.underlying 26 = some (.slice 24)
  a26 : ∀ w, (isAgg 26).run P w = .ok false w
  z26 : ∀ w, (Go.sizeOf 26).run P w = .ok 1 w
  v26 : ∀ w, (zeroValue 26).run P w = .ok (.slice none 0 0) w
  t39 : P.underlying 39 = some (.func #[24, 24] #[3] false)
  a39 : ∀ w, (isAgg 39).run P w = .ok false w
  z39 : ∀ w, (Go.sizeOf 39).run P w = .ok 1 w
  v39 : ∀ w, (zeroValue 39).run P w = .ok .nilFunc w
  t87 : P.underlying 87 = some (.int .u64)
  a87 : ∀ w, (isAgg 87).run P w = .ok false w
  z87 : ∀ w, (Go.sizeOf 87).run P w = .ok 1 w
  v87 : ∀ w, (zeroValue 87).run P w = .ok (.int .u64 0) w
  aE : ∀ w, (isAgg 24).run P w = .ok true w
  zE : ∀ w, (Go.sizeOf 24).run P w = .ok k w
theorem ly_try : Ly Try.prog 5 where
  mixed := mixed
  f91 := Try.func91
  f92 := Try.func92
  f95 := Try.func95
  f96 := Try.func96
  f86 := Try.func86
  t0 := Try.underlying0
  a0 := fun w => by kernel_rfl
  z0 := fun w => by kernel_rfl
  v0 := fun w => by kernel_rfl
  t3 := Try.underlying3
  a3 := fun w => by kernel_rfl
  z3 := fun w => by kernel_rfl
  v3 := fun w => by kernel_rfl
  t4 := Try.underlying4
  a4 := fun w => by kernel_rfl
  z4 := fun w => by kernel_rfl
  v4 := fun w => by kernel_rfl
  t26 := Try.underlying26
  a26 := fun w => by kernel_rfl
  z26 := fun w => by kernel_rfl
  v26 := fun w => by kernel_rfl
  t39 := Try.underlying39
  a39 := fun w => by kernel_rfl
  z39 := fun w => by kernel_rfl
  v39 := fun w => by kernel_rfl
  t87 := Try.underlying87
  a87 := fun w => by kernel_rfl
  z87 := fun w => by kernel_rfl
  v87 := fun w => by kernel_rfl
  aE := fun w => by kernel_rfl
  zE := fun w => by kernel_rfl

variable {P : Program} {α : Type} [Inhabited α] {enc : α → List Value} {k : Nat} {w0 : World} {blk off : Nat} {d0 : Array α}
/-- the row as a function of a place -/
abbrev fn (d : Array α) : Nat → α := fun t => d[t]!

set_option maxHeartbeats 2000000 in
set_option maxRecDepth 100000 in
theorem swapRange_any (L : Ly P k) (R : RowK enc k w0 blk off d0) (cap a b n : Nat) (dk : Array α) (hs : dk.size = d0.size) {W : World} (h : SWK enc k w0 blk off dk W) (hab : a + n ≤ b) (hb : b + n ≤ d0.size) (hsz : d0.size ≤ 1099511627776) (cv : Value) :
    Calls P 96 #[.slice (some ⟨blk, off, none⟩) d0.size cap, .int .i64 a, .int .i64 b, .int .i64 n, cv] W fun e w' => e = .returned (.tuple #[]) ∧ ∃ dj : Array α, dj.size = d0.size ∧ SWK enc k w0 blk off dj w' ∧ fn dj = xchF (fn dk) a b n := by
  have mixed := L.mixed; have t0 := L.t0; have a0 := L.a0; have z0 := L.z0; have v0 := L.v0; have t3 := L.t3; have a3 := L.a3; have z3 := L.z3; have v3 := L.v3; have t4 := L.t4; have a4 := L.a4; have z4 := L.z4; have v4 := L.v4; have t26 := L.t26; have a26 := L.a26; have z26 := L.z26; have v26 := L.v26; have t39 := L.t39; have a39 := L.a39; have z39 := L.z39; have v39 := L.v39; have aE := L.aE; have zE := L.zE
  have u26 := run_underlying L.t26
  have FF := L.f96
  have HR := Lib.hid R
  have H := Lib.hid h
  obtain ⟨N, hN⟩ : ∃ N, d0.size = N := ⟨_, rfl⟩
  have HN := Lib.hid hN
  rw [hN] at hs hb hsz ⊢
  clear R h hN L
  go_enter FF, Try.ntmps96
  go_wp2_with fail
  go_loopw [10] (fun vi wr => ∃ (i : Nat) (dj : Array α), i ≤ n ∧ vi = .int .i64 i ∧ dj.size = N ∧ SWK enc k w0 blk off dj wr ∧ fn dj = xchF (fn dk) a b i) (fun i _ => n - (Lib.intOf i).toNat)
  case atStart => exact ⟨0, dk, Nat.zero_le _, rfl, hs, H.out, (xchF_zero _ _ _).symm⟩
  case round =>
    obtain ⟨i, dj, hi, rfl, hsj, hk, hf⟩ := hrel
    have HK := Lib.hid hk
    have HF := Lib.hid hf
    clear hk hf
    by_cases hlt : i < n
    · go_upto_region 3 with (fail)
      obtain ⟨p, hp⟩ : ∃ p, a + i = p := ⟨_, rfl⟩
      obtain ⟨q, hq⟩ : ∃ q, b + i = q := ⟨_, rfl⟩
      have HPQ := Lib.hid (And.intro hp hq)
      have e1 : (a : Int) + (i : Int) = (p : Int) := by omega
      have e2 : (b : Int) + (i : Int) = (q : Int) := by omega
      have hai : p < dj.size := by omega
      have hbi : q < dj.size := by omega
      have wp1 : IntKind.i64.wrap (p : Int) = (p : Int) := by rw [IntKind.wrap_i64]; omega
      have wp2 : IntKind.i64.wrap (q : Int) = (q : Int) := by rw [IntKind.wrap_i64]; omega
      have b1 : (p : Int) < (N : Int) := by omega
      have b2 : (q : Int) < (N : Int) := by omega
      have hsd : dj.size = d0.size := hsj.trans HN.out.symm
      have l1 := HK.out.ld1 HR.out hsd P q hbi
      have l2 := HK.out.ld1 HR.out hsd P p hai
      have s1 := HK.out.st1 HR.out hsd P p hai dj[q]!
      have s2 := HK.out.st2 HR.out hsd P p q hai hbi dj[q]! dj[p]!
      have HSW := Lib.hid (HK.out.swapped HR.out p q hai hbi)
      have HSF := Lib.hid (swF_get dj hai hbi)
      have hsP : (enc dj[q]!).length = k := HR.out.hk _
      have hsQ : (enc dj[p]!).length = k := HR.out.hk _
      have HAB := Lib.hid (show a + i < b by omega)
      clear hp hq hsd hab hb hai hbi
      obtain ⟨X, hX⟩ : ∃ X, X = enc dj[q]! := ⟨_, rfl⟩
      obtain ⟨Y, hY⟩ : ∃ Y, Y = enc dj[p]! := ⟨_, rfl⟩
      rw [← hX] at l1 s1 HSW hsP
      rw [← hY] at l2 HSW hsQ
      rw [← hX, ← hY] at s2
      clear hX hY
      go_big_region_o
      all_goals go_wp2_with fail
      all_goals go_roundw
      case measure => simp [Lib.intOf]; omega
      case rel => exact ⟨i + 1, swp dj p q, by omega, by go_num, by rw [size_swp]; exact hsj, HSW.out, by
        show (fun t => (swp dj p q)[t]!) = _
        rw [HSF.out, show (fun t => dj[t]!) = fn dj from rfl, HF.out, ← HPQ.out.1, ← HPQ.out.2]; exact xchF_succ _ HAB.out⟩
    · obtain rfl : i = n := by omega
      go_wp2_with fail
      go_end0
      exact ⟨rfl, dj, hsj, HK.out, HF.out⟩

set_option maxHeartbeats 2000000 in
set_option maxRecDepth 100000 in
theorem rotate_any (L : Ly P k) (R : RowK enc k w0 blk off d0) (cap a m b : Nat) (dk : Array α) (hs : dk.size = d0.size) {W : World} (h : SWK enc k w0 blk off dk W) (ham : a < m) (hmb : m < b) (hb : b ≤ d0.size) (hsz : d0.size ≤ 1099511627776) (cv : Value) :
    Calls P 95 #[.slice (some ⟨blk, off, none⟩) d0.size cap, .int .i64 a, .int .i64 m, .int .i64 b, cv] W fun e w' => e = .returned (.tuple #[]) ∧ ∃ dj : Array α, dj.size = d0.size ∧ SWK enc k w0 blk off dj w' ∧ fn dj = rotF (fn dk) a m b := by
  have mixed := L.mixed; have t0 := L.t0; have a0 := L.a0; have z0 := L.z0; have v0 := L.v0; have t3 := L.t3; have a3 := L.a3; have z3 := L.z3; have v3 := L.v3; have t4 := L.t4; have a4 := L.a4; have z4 := L.z4; have v4 := L.v4; have t26 := L.t26; have a26 := L.a26; have z26 := L.z26; have v26 := L.v26; have t39 := L.t39; have a39 := L.a39; have z39 := L.z39; have v39 := L.v39; have aE := L.aE; have zE := L.zE
  have u26 := run_underlying L.t26
  have FF := L.f95
  have e96 : ∀ args w, (callFunc 96 args).run P w = .ok (.enter 96 args) w := enters_of L.f96 (by kernel_rfl) rfl
  have hsr := fun (a b n : Nat) (dk : Array α) (hs : dk.size = d0.size) (W : World) (h : SWK enc k w0 blk off dk W) (hab : a + n ≤ b) (hb : b + n ≤ d0.size) => swapRange_any L R cap a b n dk hs h hab hb hsz cv
  have HSR := Lib.hid hsr
  have H := Lib.hid h
  obtain ⟨N, hN⟩ : ∃ N, d0.size = N := ⟨_, rfl⟩
  rw [hN] at hs hb hsz HSR ⊢
  clear R h hN L hsr
  obtain ⟨i0, hi0⟩ : ∃ i, m - a = i := ⟨_, rfl⟩
  obtain ⟨j0, hj0⟩ : ∃ i, b - m = i := ⟨_, rfl⟩
  have ea : (m : Int) - (a : Int) = (i0 : Int) := by omega
  have eb : (b : Int) - (m : Int) = (j0 : Int) := by omega
  have wa : IntKind.i64.wrap (i0 : Int) = (i0 : Int) := by rw [IntKind.wrap_i64]; omega
  have wb : IntKind.i64.wrap (j0 : Int) = (j0 : Int) := by rw [IntKind.wrap_i64]; omega
  have HIJ := Lib.hid (And.intro hi0 (And.intro hj0 (And.intro ham (And.intro hmb hb))))
  clear hi0 hj0
  go_enter FF, Try.ntmps95
  go_wp2_with fail
  clear ea eb wa wb
  go_loopw [10, 11] (fun vi vj wr => ∃ (i j : Nat) (dj : Array α), 0 < i ∧ 0 < j ∧ i ≤ m ∧ m + j ≤ N ∧ vi = .int .i64 i ∧ vj = .int .i64 j ∧ dj.size = N ∧ SWK enc k w0 blk off dj wr ∧ rotF (fn dj) (m - i) m (m + j) = rotF (fn dk) a m b) (fun i j _ => (Lib.intOf i).toNat + (Lib.intOf j).toNat)
  case atStart =>
    obtain ⟨h1, h2, h3, h4, h5⟩ := HIJ.out
    exact ⟨i0, j0, dk, by omega, by omega, by omega, by omega, rfl, rfl, hs, H.out, by rw [show m - i0 = a by omega, show m + j0 = b by omega]⟩
  case round =>
    obtain ⟨i, j, dj, hi0, hj0, him, hjN, rfl, rfl, hsj, hk, hf⟩ := hrel
    have HK := Lib.hid hk
    have HF := Lib.hid hf
    clear hk hf
    obtain ⟨p, hp⟩ : ∃ p, m - i = p := ⟨_, rfl⟩
    have e1 : (m : Int) - (i : Int) = (p : Int) := by omega
    have w1 : IntKind.i64.wrap (p : Int) = (p : Int) := by rw [IntKind.wrap_i64]; omega
    have HP := Lib.hid hp
    have hpi : p + i = m := by omega
    clear hp
    by_cases hij : i = j
    · subst hij
      go_wp2_with (go_at_fn 96; refine (HSR.out p m i dj hsj _ HK.out (by omega) (by omega)).mono ?_; rintro e w' ⟨rfl, dn, hsn, hkn, hfn⟩)
      go_end0
      exact ⟨rfl, dn, hsn, hkn, by rw [hfn, ← HF.out, ← HP.out]; exact rot_same _ him⟩
    · have hne : ((i : Int) != (j : Int)) = true := by rw [bne_iff_ne]; omega
      by_cases hgt : j < i
      · have hgt' : (j : Int) < (i : Int) := by omega
        go_wp2_with (go_at_fn 96; refine (HSR.out p m j dj hsj _ HK.out (by omega) (by omega)).mono ?_; rintro e w' ⟨rfl, dn, hsn, hkn, hfn⟩; have HKN := Lib.hid hkn; have HFN := Lib.hid hfn; clear hkn hfn)
        go_roundw
        case measure => simp [Lib.intOf]; omega
        case rel => exact ⟨i - j, j, dn, by omega, hj0, by omega, hjN, by go_num, rfl, hsn, HKN.out, by rw [HFN.out, ← HF.out, ← HP.out]; exact rot_more _ him hgt⟩
      · have hgt' : ¬ (j : Int) < (i : Int) := by omega
        obtain ⟨q, hq⟩ : ∃ q, m + j - i = q := ⟨_, rfl⟩
        have e2 : (m : Int) + (j : Int) - (i : Int) = (q : Int) := by omega
        have w2 : IntKind.i64.wrap (q : Int) = (q : Int) := by rw [IntKind.wrap_i64]; omega
        have HQ := Lib.hid hq
        have hqi : q + i = m + j := by omega
        clear hq
        go_wp2_with (go_at_fn 96; refine (HSR.out p q i dj hsj _ HK.out (by omega) (by omega)).mono ?_; rintro e w' ⟨rfl, dn, hsn, hkn, hfn⟩; have HKN := Lib.hid hkn; have HFN := Lib.hid hfn; clear hkn hfn)
        go_roundw
        case measure => simp [Lib.intOf]; omega
        case rel => exact ⟨i, j - i, dn, hi0, by omega, him, by omega, rfl, by go_num, hsn, HKN.out, by rw [HFN.out, ← HF.out, ← HP.out, ← HQ.out]; exact rot_less _ him (by omega)⟩
end Go.Proofs.Ytpoefcpgcojppaa

namespace Go.Proofs.Ytpoefcpgcojppaa
open Go.Shelf Go.RowKit Go.Lib Go.Sort
set_option linter.unusedVariables false
variable {P : Program} {α : Type} [Inhabited α] {enc : α → List Value} {k : Nat} {w0 : World} {blk off : Nat} {d0 : Array α} {cf : α → α → Int}

theorem fn_swp (dj : Array α) {p q : Nat} (hp : p < dj.size) (hq : q < dj.size) (t : Nat) : fn (swp dj p q) t = if t = p then fn dj q else if t = q then fn dj p else fn dj t := by
  have := congrFun (swF_get dj hp hq) t
  exact this

set_option maxHeartbeats 4000000 in
set_option maxRecDepth 1000000 in
theorem insertion_any (L : Ly P k) (R : RowK enc k w0 blk off d0) (hC : Cm cf) (g : Nat) (cb : Array Value) (hcmp : CmpLays P g cb enc k cf blk off d0.size w0) (eg : ∀ args w, (callFunc g args).run P w = .ok (.enter g args) w) (cap a b : Nat) (dk : Array α) (hs : dk.size = d0.size) {W : World} (h : SWK enc k w0 blk off dk W) (hab : a ≤ b) (hb : b ≤ d0.size) (hsz : d0.size ≤ 1099511627776) :
    Calls P 91 #[.slice (some ⟨blk, off, none⟩) d0.size cap, .int .i64 a, .int .i64 b, .func (.func g) #[] cb] W fun e w' => e = .returned (.tuple #[]) ∧ ∃ dj : Array α, dj.size = d0.size ∧ SWK enc k w0 blk off dj w' ∧ Srt cf a b (fn dj) ∧ Mv cf a b (fn dk) (fn dj) := by
  have mixed := L.mixed; have t0 := L.t0; have a0 := L.a0; have z0 := L.z0; have v0 := L.v0; have t3 := L.t3; have a3 := L.a3; have z3 := L.z3; have v3 := L.v3; have t4 := L.t4; have a4 := L.a4; have z4 := L.z4; have v4 := L.v4; have t26 := L.t26; have a26 := L.a26; have z26 := L.z26; have v26 := L.v26; have t39 := L.t39; have a39 := L.a39; have z39 := L.z39; have v39 := L.v39; have aE := L.aE; have zE := L.zE
  have u26 := run_underlying L.t26
  have FF := L.f91
  have HR := Lib.hid R
  have H := Lib.hid h
  have HC := Lib.hid hcmp
  have CM := Lib.hid hC
  obtain ⟨N, hN⟩ : ∃ N, d0.size = N := ⟨_, rfl⟩
  have HN := Lib.hid hN
  rw [hN] at hs hb hsz HC ⊢
  clear R h hN L hcmp hC
  go_enter FF, Try.ntmps91
  go_wp2
  go_loopg [8] (b - a) (fun g1 vi wr => ∃ (i : Nat) (dj : Array α), vi = .int .i64 i ∧ a < i ∧ i ≤ b + 1 ∧ b + 1 - i ≤ g1 + 1 ∧ dj.size = N ∧ Hid (SWK enc k w0 blk off dj wr) ∧ Hid (Srt cf a (min i b) (fn dj) ∧ Mv cf a b (fn dk) (fn dj)))
  case atStart => exact ⟨a + 1, dk, by go_num, by omega, by omega, by omega, hs, H.out, fun i j h1 h2 h3 => by omega, Mv.refl _ _ _⟩
  case round =>
    obtain ⟨i, di, rfl, hai, hib, hg1, hsk, hki, HO⟩ := hrel
    by_cases hlt : i < b
    · have hltz : (i : Int) < (b : Int) := by omega
      go_wp2
      go_loopg [9] i (fun g2 vj wr2 => ∃ (j : Nat) (dj : Array α), vj = .int .i64 j ∧ a ≤ j ∧ j ≤ i ∧ j ≤ g2 ∧ dj.size = N ∧ Hid (SWK enc k w0 blk off dj wr2) ∧ Hid (Ins cf a j i (fn dj) ∧ Mv cf a b (fn dk) (fn dj)))
      case atStart => exact ⟨i, di, rfl, by omega, Nat.le_refl _, Nat.le_refl _, hsk, hki, ⟨Ins.start (by have := HO.out.1; rwa [Nat.min_eq_left (by omega)] at this), HO.out.2⟩⟩
      case round =>
        obtain ⟨j, dj, rfl, haj, hji, hg2, hsj, HK, HI⟩ := hrel
        have out : (j ≤ a ∨ 0 ≤ cf dj[j]! dj[j - 1]!) → Hid (Srt cf a (min (i + 1) b) (fn dj) ∧ Mv cf a b (fn dk) (fn dj)) := fun hs => by
          refine ⟨?_, HI.out.2⟩
          rw [Nat.min_eq_left (by omega)]
          exact Ins.stop CM.out HI.out.1 hs hji
        have OUT : Aside _ := out
        clear out
        by_cases hja : a < j
        · have hjaz : (a : Int) < (j : Int) := by omega
          obtain ⟨jp, rfl⟩ : ∃ jp, j = jp + 1 := ⟨j - 1, by omega⟩
          obtain ⟨xj, hxj⟩ : ∃ x, dj[jp + 1]! = x := ⟨_, rfl⟩
          obtain ⟨xp, hxp⟩ : ∃ x, dj[jp]! = x := ⟨_, rfl⟩
          have hwp : IntKind.i64.wrap (jp : Int) = (jp : Int) := by rw [IntKind.wrap_i64]; omega
          have jz : (jp : Int) + 1 < (N : Int) := by omega
          have jz1 : (jp : Int) < (N : Int) := by omega
          have hjaz' : (a : Int) < (jp : Int) + 1 := by omega
          have p0 : (0 : Int) ≤ (jp : Int) + 1 := by omega
          have e0 : ((jp : Int) + 1).toNat = jp + 1 := by omega
          have lj := fun n os => HK.out.ld HR.out (hsj.trans HN.out.symm) P (jp + 1) (by omega) n os
          have lp := fun n os => HK.out.ld HR.out (hsj.trans HN.out.symm) P jp (by omega) n os
          have hcg := fun n os => HK.out.cmp HC.out hsj xj xp n os
          rw [hxj] at lj
          rw [hxp] at lp
          have hj1 : jp + 1 < dj.size := by omega
          have hj2 : jp < dj.size := by omega
          have HJJ := Lib.hid (And.intro hj1 hj2)
          by_cases hlv : cf xj xp < 0
          · go_wp2_with fail
            go_quiet_grown (first | (go_at_fn g; refine Calls.grown_of (hcg _ _)))
            go_wp2_with fail
            have HK2 := Lib.hid (HK.out.grown nq osq)
            clear lj lp hcg
            generalize grow (wr.drewN nq) osq = wq2 at HK2 ⊢
            have lj2 := HK2.out.ld1 HR.out (hsj.trans HN.out.symm) P (jp + 1) hj1
            have lp2 := HK2.out.ld1 HR.out (hsj.trans HN.out.symm) P jp hj2
            have s1 := HK2.out.st1 HR.out (hsj.trans HN.out.symm) P (jp + 1) hj1 xp
            have s2 := HK2.out.st2 HR.out (hsj.trans HN.out.symm) P (jp + 1) jp hj1 hj2 xp xj
            have HSW := Lib.hid (HK2.out.swapped HR.out (jp + 1) jp hj1 hj2)
            rw [hxj] at lj2
            rw [hxp] at lp2
            rw [hxj, hxp] at HSW
            have hsJ : (enc xj).length = k := HR.out.hk _
            have hsP : (enc xp).length = k := HR.out.hk _
            have HX := Lib.hid (And.intro hxj hxp)
            clear hxj hxp hj1 hj2
            obtain ⟨cJ, hcJ⟩ : ∃ c, c = enc xj := ⟨_, rfl⟩
            obtain ⟨cP, hcP⟩ : ∃ c, c = enc xp := ⟨_, rfl⟩
            rw [← hcP] at s1 lp2 hsP HSW
            rw [← hcJ] at lj2 hsJ HSW
            rw [← hcJ, ← hcP] at s2
            clear hcJ hcP
            go_big_region_o
            all_goals go_wp2
            go_roundg jp
            case measure => omega
            case rel =>
              refine ⟨jp, swp dj (jp + 1) jp, by first | rfl | go_num | (congr 1; omega), by omega, by omega, Nat.le_refl _, by rw [size_swp]; exact hsj, HSW.out, ?_, ?_⟩
              · refine Ins.step HI.out.1 (by omega) (by omega) (by show cf dj[jp + 1]! dj[jp]! < 0; rw [HX.out.1, HX.out.2]; exact hlv) (fun t => ?_)
                rw [fn_swp dj HJJ.out.1 HJJ.out.2]
                by_cases e : t = jp
                · have e2 : ¬ t = jp + 1 := by omega
                  simp only [if_neg e2, if_pos e]
                · by_cases e2 : t = jp + 1
                  · simp only [if_pos e2, if_neg e]
                  · simp only [if_neg e2, if_neg e]
              · refine HI.out.2.trans (Mv.swap CM.out (j := jp) (by omega) (by omega) ?_ (fun t => ?_))
                · have n1 := CM.out.neg (fn dj jp) (fn dj (jp + 1))
                  have : cf (fn dj (jp + 1)) (fn dj jp) < 0 := by show cf dj[jp + 1]! dj[jp]! < 0; rw [HX.out.1, HX.out.2]; exact hlv
                  omega
                · rw [fn_swp dj HJJ.out.1 HJJ.out.2]
                  by_cases e : t = jp
                  · have e2 : ¬ t = jp + 1 := by omega
                    simp only [if_neg e2, if_pos e]
                  · by_cases e2 : t = jp + 1
                    · simp only [if_pos e2, if_neg e]
                    · simp only [if_neg e2, if_neg e]
          · go_wp2_with fail
            go_quiet_grown (first | (go_at_fn g; refine Calls.grown_of (hcg _ _)))
            have HK2 := Lib.hid (HK.out.grown nq osq)
            go_wp2
            go_roundg (b - (i + 1))
            case measure => omega
            case rel => exact ⟨i + 1, dj, by go_num, by omega, by omega, by omega, hsj, HK2.out, OUT.out (Or.inr (by simp only [Nat.add_sub_cancel]; rw [hxj, hxp]; omega))⟩
        · have hjaz : decide ((j : Int) > (a : Int)) = false := decide_eq_false (by omega)
          have hjaz' : ¬ (a : Int) < (j : Int) := by omega
          have HKD := Lib.hid HK.out.drew
          go_wp2_with fail
          go_big_region_o
          all_goals go_wp2
          go_roundg (b - (i + 1))
          case measure => omega
          case rel => exact ⟨i + 1, dj, by go_num, by omega, by omega, by omega, hsj, HKD.out, OUT.out (Or.inl (by omega))⟩
    · have hltz : ¬ (i : Int) < (b : Int) := by omega
      go_wp2
      go_end0
      exact ⟨rfl, di, hsk, hki.out, by have := HO.out.1; rwa [Nat.min_eq_right (by omega)] at this, HO.out.2⟩
end Go.Proofs.Ytpoefcpgcojppaa

namespace Go.Proofs.Ytpoefcpgcojppaa
open Go.Shelf Go.RowKit Go.Lib Go.Sort
set_option linter.unusedVariables false
variable {P : Program} {α : Type} [Inhabited α] {enc : α → List Value} {k : Nat} {w0 : World} {blk off : Nat} {d0 : Array α} {cf : α → α → Int}

set_option maxHeartbeats 4000000 in
set_option maxRecDepth 1000000 in
theorem symA_any (L : Ly P k) (R : RowK enc k w0 blk off d0) (hC : Cm cf) (g : Nat) (cb : Array Value) (hcmp : CmpLays P g cb enc k cf blk off d0.size w0) (eg : ∀ args w, (callFunc g args).run P w = .ok (.enter g args) w) (cap a b : Nat) (dk : Array α) (hs : dk.size = d0.size) {W : World} (h : SWK enc k w0 blk off dk W) (hab : a + 1 < b) (hb : b ≤ d0.size) (hsz : d0.size ≤ 1099511627776) (s2 : Srt cf (a + 1) b (fn dk)) :
    Calls P 92 #[.slice (some ⟨blk, off, none⟩) d0.size cap, .int .i64 a, .int .i64 (a + 1 : Nat), .int .i64 b, .func (.func g) #[] cb] W fun e w' => e = .returned (.tuple #[]) ∧ ∃ dj : Array α, dj.size = d0.size ∧ SWK enc k w0 blk off dj w' ∧ Srt cf a b (fn dj) ∧ Mv cf a b (fn dk) (fn dj) := by
  have mixed := L.mixed; have t0 := L.t0; have a0 := L.a0; have z0 := L.z0; have v0 := L.v0; have t3 := L.t3; have a3 := L.a3; have z3 := L.z3; have v3 := L.v3; have t4 := L.t4; have a4 := L.a4; have z4 := L.z4; have v4 := L.v4; have t26 := L.t26; have a26 := L.a26; have z26 := L.z26; have v26 := L.v26; have t39 := L.t39; have a39 := L.a39; have z39 := L.z39; have v39 := L.v39; have t87 := L.t87; have a87 := L.a87; have z87 := L.z87; have v87 := L.v87; have aE := L.aE; have zE := L.zE
  have u26 := run_underlying L.t26
  have FF := L.f92
  have HR := Lib.hid R
  have H := Lib.hid h
  have HC := Lib.hid hcmp
  have CM := Lib.hid hC
  have HS2 := Lib.hid s2
  obtain ⟨N, hN⟩ : ∃ N, d0.size = N := ⟨_, rfl⟩
  have HN := Lib.hid hN
  rw [hN] at hs hb hsz HC ⊢
  obtain ⟨m, hm⟩ : ∃ m, a + 1 = m := ⟨_, rfl⟩
  have HM := Lib.hid hm
  rw [hm] at HS2 hab ⊢
  have hm1 : (m : Int) - (a : Int) = 1 := by omega
  have hm2 : a < m := by omega
  have hm3 : ∀ x : Nat, a < x → m ≤ x := by intro x hx; omega
  clear R h hN L hcmp hC s2 hm
  go_enter FF, Try.ntmps92
  go_wp2_with fail
  clear hm1
  go_loopw [10, 11] (fun vi vj wr => ∃ (i j : Nat), i ≤ j ∧ m ≤ i ∧ j ≤ b ∧ vi = .int .i64 i ∧ vj = .int .i64 j ∧ Hid (SWK enc k w0 blk off dk wr) ∧ Hid (SeA cf (fn dk) a m b i j)) (fun i j _ => (Lib.intOf j).toNat - (Lib.intOf i).toNat)
  case atStart => exact ⟨m, b, by omega, Nat.le_refl _, Nat.le_refl _, rfl, rfl, H.out, SeA.start (by omega)⟩
  case round =>
    obtain ⟨i, j, hij, hmi, hjb, rfl, rfl, HK, HS⟩ := hrel
    by_cases hlt : i < j
    · obtain ⟨s, hs'⟩ : ∃ s, i + j = s := ⟨_, rfl⟩
      obtain ⟨q, hq⟩ : ∃ q, s / 2 = q := ⟨_, rfl⟩
      have e1 : (i : Int) + (j : Int) = (s : Int) := by omega
      have e2 : (s : Int) / 2 = (q : Int) := by omega
      have wp1 : IntKind.i64.wrap (s : Int) = (s : Int) := by rw [IntKind.wrap_i64]; omega
      have wp2 : IntKind.u64.wrap (s : Int) = (s : Int) := by rw [IntKind.wrap_u64]; omega
      have wp3 : IntKind.i64.wrap (q : Int) = (q : Int) := by rw [IntKind.wrap_i64]; omega
      have wp4 : IntKind.u64.wrap (q : Int) = (q : Int) := by rw [IntKind.wrap_u64]; omega
      have hq1 : i ≤ q := by omega
      have hq2 : q < j := by omega
      clear hs' hq
      go_upto_region 5 with (fail)
      clear e1 e2 wp1 wp2 wp3 wp4
      have lx := fun n os => HK.out.ld HR.out (hs.trans HN.out.symm) P q (by omega) n os
      have la := fun n os => HK.out.ld HR.out (hs.trans HN.out.symm) P a (by omega) n os
      have hcg := fun n os => HK.out.cmp HC.out hs dk[q]! dk[a]! n os
      have qb : (q : Int) < (N : Int) := by omega
      have ab : (a : Int) < (N : Int) := by omega
      by_cases hlv : cf dk[q]! dk[a]! < 0
      · have HS3 := Lib.hid (HS.out.right CM.out HS2.out hq1 hq2 hlv)
        obtain ⟨xq, hxq⟩ : ∃ x, dk[q]! = x := ⟨_, rfl⟩
        obtain ⟨xa, hxa⟩ : ∃ x, dk[a]! = x := ⟨_, rfl⟩
        rw [hxq] at lx
        rw [hxa] at la
        rw [hxq, hxa] at hcg hlv
        clear hxq hxa
        go_quiet_grown (first | (go_at_fn g; refine Calls.grown_of (hcg _ _)))
        have HK2 := Lib.hid (HK.out.grown nq osq)
        clear lx la hcg
        generalize grow (wr.drewN nq) osq = wq2 at HK2 ⊢
        go_wp2_with fail
        go_roundw
        case measure => simp [Lib.intOf]; omega
        case rel => exact ⟨q + 1, j, by omega, by omega, hjb, by go_num, rfl, HK2.out, HS3.out⟩
      · have HS3 := Lib.hid (HS.out.left CM.out HS2.out hq1 hq2 hlv)
        obtain ⟨xq, hxq⟩ : ∃ x, dk[q]! = x := ⟨_, rfl⟩
        obtain ⟨xa, hxa⟩ : ∃ x, dk[a]! = x := ⟨_, rfl⟩
        rw [hxq] at lx
        rw [hxa] at la
        rw [hxq, hxa] at hcg hlv
        clear hxq hxa
        go_quiet_grown (first | (go_at_fn g; refine Calls.grown_of (hcg _ _)))
        have HK2 := Lib.hid (HK.out.grown nq osq)
        clear lx la hcg
        generalize grow (wr.drewN nq) osq = wq2 at HK2 ⊢
        go_wp2_with fail
        go_roundw
        case measure => simp [Lib.intOf]; omega
        case rel => exact ⟨i, q, by omega, hmi, by omega, rfl, rfl, HK2.out, HS3.out⟩
    · obtain rfl : i = j := by omega
      obtain ⟨i1, hi1⟩ : ∃ i1, i = i1 + 1 := ⟨i - 1, by omega⟩
      subst hi1
      have hai : a ≤ i1 := by have := HM.out; omega
      have HSI := Lib.hid HS.out
      rw [← HM.out] at HSI
      have HS22 := Lib.hid HS2.out
      rw [← HM.out] at HS22
      have HCUT := Lib.hid (SeA.cut CM.out HSI.out HS22.out)
      clear HSI HS22 HS
      go_wp2_with fail
      go_loopw [13] (fun vx wr => ∃ (x : Nat) (dj : Array α), a ≤ x ∧ x ≤ i1 ∧ vx = .int .i64 x ∧ dj.size = N ∧ Hid (SWK enc k w0 blk off dj wr) ∧ Hid (fn dj = rotF (fn dk) a (a + 1) (x + 1))) (fun x _ => i1 - (Lib.intOf x).toNat)
      case atStart => exact ⟨a, dk, Nat.le_refl _, hai, rfl, hs, HK.out, (rot_id (.inr rfl) (Nat.le_refl _) (Nat.le_succ _)).symm⟩
      case round =>
        obtain ⟨x, dj, hax, hxi, rfl, hsj, HKJ, HF⟩ := hrel
        have hw1 : IntKind.i64.wrap (i1 : Int) = (i1 : Int) := by rw [IntKind.wrap_i64]; omega
        by_cases hlx : x < i1
        · go_upto_region 11 with (fail)
          clear hw1
          obtain ⟨y, hy⟩ : ∃ y, x + 1 = y := ⟨_, rfl⟩
          have e1 : (x : Int) + 1 = (y : Int) := by omega
          have wp1 : IntKind.i64.wrap (y : Int) = (y : Int) := by rw [IntKind.wrap_i64]; omega
          have HY := Lib.hid hy
          have hx1 : x < dj.size := by omega
          have hy1 : y < dj.size := by omega
          have b1 : (x : Int) < (N : Int) := by omega
          have b2 : (y : Int) < (N : Int) := by omega
          have hsd : dj.size = d0.size := hsj.trans HN.out.symm
          have l1 := HKJ.out.ld1 HR.out hsd P y hy1
          have l2 := HKJ.out.ld1 HR.out hsd P x hx1
          have s1 := HKJ.out.st1 HR.out hsd P x hx1 dj[y]!
          have s2 := HKJ.out.st2 HR.out hsd P x y hx1 hy1 dj[y]! dj[x]!
          have HSW := Lib.hid (HKJ.out.swapped HR.out x y hx1 hy1)
          have HSF := Lib.hid (swF_get dj hx1 hy1)
          have hsP : (enc dj[y]!).length = k := HR.out.hk _
          have hsQ : (enc dj[x]!).length = k := HR.out.hk _
          clear hy hsd hx1 hy1
          obtain ⟨X, hX⟩ : ∃ X, X = enc dj[y]! := ⟨_, rfl⟩
          obtain ⟨Y, hY⟩ : ∃ Y, Y = enc dj[x]! := ⟨_, rfl⟩
          rw [← hX] at l1 s1 HSW hsP
          rw [← hY] at l2 HSW hsQ
          rw [← hX, ← hY] at s2
          clear hX hY
          go_big_region_o
          all_goals go_wp2_with fail
          all_goals go_roundw
          case measure => simp [Lib.intOf]; omega
          case rel => exact ⟨y, swp dj x y, by have := HY.out; omega, by have := HY.out; omega, by go_num, by rw [size_swp]; exact hsj, HSW.out, by
            show (fun t => (swp dj x y)[t]!) = _
            rw [HSF.out, show (fun t => dj[t]!) = fn dj from rfl, HF.out, ← HY.out]; exact rotA_step _ hax⟩
        · obtain rfl : x = i1 := by omega
          go_wp2_with fail
          (try simp only [Exit.inBlock, Exit.then])
          refine bodyPost_ret (results_none rfl _ _ _) rfl ?_
          exact ⟨rfl, dj, hsj, HKJ.out, by rw [HF.out]; exact HCUT.out.2, by rw [HF.out]; exact HCUT.out.1⟩
end Go.Proofs.Ytpoefcpgcojppaa

namespace Go.Proofs.Ytpoefcpgcojppaa
open Go.Shelf Go.RowKit Go.Lib Go.Sort
set_option linter.unusedVariables false
variable {P : Program} {α : Type} [Inhabited α] {enc : α → List Value} {k : Nat} {w0 : World} {blk off : Nat} {d0 : Array α} {cf : α → α → Int}

set_option maxHeartbeats 4000000 in
set_option maxRecDepth 1000000 in
theorem symB_any (L : Ly P k) (R : RowK enc k w0 blk off d0) (hC : Cm cf) (g : Nat) (cb : Array Value) (hcmp : CmpLays P g cb enc k cf blk off d0.size w0) (eg : ∀ args w, (callFunc g args).run P w = .ok (.enter g args) w) (cap a m : Nat) (dk : Array α) (hs : dk.size = d0.size) {W : World} (h : SWK enc k w0 blk off dk W) (hab : a + 1 < m) (hb : m + 1 ≤ d0.size) (hsz : d0.size ≤ 1099511627776) (s1 : Srt cf a m (fn dk)) :
    Calls P 92 #[.slice (some ⟨blk, off, none⟩) d0.size cap, .int .i64 a, .int .i64 m, .int .i64 (m + 1 : Nat), .func (.func g) #[] cb] W fun e w' => e = .returned (.tuple #[]) ∧ ∃ dj : Array α, dj.size = d0.size ∧ SWK enc k w0 blk off dj w' ∧ Srt cf a (m + 1) (fn dj) ∧ Mv cf a (m + 1) (fn dk) (fn dj) := by
  have mixed := L.mixed; have t0 := L.t0; have a0 := L.a0; have z0 := L.z0; have v0 := L.v0; have t3 := L.t3; have a3 := L.a3; have z3 := L.z3; have v3 := L.v3; have t4 := L.t4; have a4 := L.a4; have z4 := L.z4; have v4 := L.v4; have t26 := L.t26; have a26 := L.a26; have z26 := L.z26; have v26 := L.v26; have t39 := L.t39; have a39 := L.a39; have z39 := L.z39; have v39 := L.v39; have t87 := L.t87; have a87 := L.a87; have z87 := L.z87; have v87 := L.v87; have aE := L.aE; have zE := L.zE
  have u26 := run_underlying L.t26
  have FF := L.f92
  have HR := Lib.hid R
  have H := Lib.hid h
  have HC := Lib.hid hcmp
  have CM := Lib.hid hC
  have HS1 := Lib.hid s1
  obtain ⟨N, hN⟩ : ∃ N, d0.size = N := ⟨_, rfl⟩
  have HN := Lib.hid hN
  rw [hN] at hs hb hsz HC ⊢
  obtain ⟨b, hbm⟩ : ∃ b, m + 1 = b := ⟨_, rfl⟩
  have HM := Lib.hid hbm
  have hmb : m < b := by omega
  rw [hbm] at hb ⊢
  obtain ⟨z, hz⟩ : ∃ z, m - a = z := ⟨_, rfl⟩
  have hm1 : (m : Int) - (a : Int) = (z : Int) := by omega
  have hm2 : ((z : Int) == 1) = false := by rw [beq_eq_false_iff_ne]; omega
  have hm3 : (b : Int) - (m : Int) = 1 := by omega
  have hm4 : IntKind.i64.wrap (z : Int) = (z : Int) := by rw [IntKind.wrap_i64]; omega
  clear R h hN L hcmp hC s1 hbm hz
  go_enter FF, Try.ntmps92
  go_wp2_with fail
  clear hm1 hm2 hm3 hm4
  go_loopw [14, 15] (fun vi vj wr => ∃ (i j : Nat), i ≤ j ∧ a ≤ i ∧ j ≤ m ∧ vi = .int .i64 i ∧ vj = .int .i64 j ∧ Hid (SWK enc k w0 blk off dk wr) ∧ Hid (SeB cf (fn dk) a m i j)) (fun i j _ => (Lib.intOf j).toNat - (Lib.intOf i).toNat)
  case atStart => exact ⟨a, m, by omega, Nat.le_refl _, Nat.le_refl _, rfl, rfl, H.out, SeB.start (by omega)⟩
  case round =>
    obtain ⟨i, j, hij, hmi, hjb, rfl, rfl, HK, HS⟩ := hrel
    by_cases hlt : i < j
    · obtain ⟨s, hs'⟩ : ∃ s, i + j = s := ⟨_, rfl⟩
      obtain ⟨q, hq⟩ : ∃ q, s / 2 = q := ⟨_, rfl⟩
      have e1 : (i : Int) + (j : Int) = (s : Int) := by omega
      have e2 : (s : Int) / 2 = (q : Int) := by omega
      have wp1 : IntKind.i64.wrap (s : Int) = (s : Int) := by rw [IntKind.wrap_i64]; omega
      have wp2 : IntKind.u64.wrap (s : Int) = (s : Int) := by rw [IntKind.wrap_u64]; omega
      have wp3 : IntKind.i64.wrap (q : Int) = (q : Int) := by rw [IntKind.wrap_i64]; omega
      have wp4 : IntKind.u64.wrap (q : Int) = (q : Int) := by rw [IntKind.wrap_u64]; omega
      have hq1 : i ≤ q := by omega
      have hq2 : q < j := by omega
      clear hs' hq
      go_upto_region 17 with (fail)
      clear e1 e2 wp1 wp2 wp3 wp4
      have lx := fun n os => HK.out.ld HR.out (hs.trans HN.out.symm) P q (by omega) n os
      have la := fun n os => HK.out.ld HR.out (hs.trans HN.out.symm) P m (by omega) n os
      have hcg := fun n os => HK.out.cmp HC.out hs dk[m]! dk[q]! n os
      have qb : (q : Int) < (N : Int) := by omega
      have ab : (m : Int) < (N : Int) := by omega
      by_cases hlv : cf dk[m]! dk[q]! < 0
      · have HS3 := Lib.hid (HS.out.left CM.out HS1.out hq1 hq2 hlv)
        obtain ⟨xq, hxq⟩ : ∃ x, dk[q]! = x := ⟨_, rfl⟩
        obtain ⟨xa, hxa⟩ : ∃ x, dk[m]! = x := ⟨_, rfl⟩
        rw [hxq] at lx
        rw [hxa] at la
        rw [hxq, hxa] at hcg hlv
        clear hxq hxa
        go_quiet_grown (first | (go_at_fn g; refine Calls.grown_of (hcg _ _)))
        have HK2 := Lib.hid (HK.out.grown nq osq)
        clear lx la hcg
        generalize grow (wr.drewN nq) osq = wq2 at HK2 ⊢
        go_wp2_with fail
        go_roundw
        case measure => simp [Lib.intOf]; omega
        case rel => exact ⟨i, q, by omega, hmi, by omega, rfl, rfl, HK2.out, HS3.out⟩
      · have HS3 := Lib.hid (HS.out.right CM.out HS1.out hq1 hq2 hlv)
        obtain ⟨xq, hxq⟩ : ∃ x, dk[q]! = x := ⟨_, rfl⟩
        obtain ⟨xa, hxa⟩ : ∃ x, dk[m]! = x := ⟨_, rfl⟩
        rw [hxq] at lx
        rw [hxa] at la
        rw [hxq, hxa] at hcg hlv
        clear hxq hxa
        go_quiet_grown (first | (go_at_fn g; refine Calls.grown_of (hcg _ _)))
        have HK2 := Lib.hid (HK.out.grown nq osq)
        clear lx la hcg
        generalize grow (wr.drewN nq) osq = wq2 at HK2 ⊢
        go_wp2_with fail
        go_roundw
        case measure => simp [Lib.intOf]; omega
        case rel => exact ⟨q + 1, j, by omega, by omega, hjb, by go_num, rfl, HK2.out, HS3.out⟩
    · obtain rfl : i = j := by omega
      have HCUT := Lib.hid (SeB.cut CM.out HS.out HS1.out)
      rw [HM.out] at HCUT
      clear HS
      go_wp2_with fail
      go_loopw [17] (fun vx wr => ∃ (x : Nat) (dj : Array α), i ≤ x ∧ x ≤ m ∧ vx = .int .i64 x ∧ dj.size = N ∧ Hid (SWK enc k w0 blk off dj wr) ∧ Hid (fn dj = rotF (fn dk) x m (m + 1))) (fun x _ => (Lib.intOf x).toNat)
      case atStart => exact ⟨m, dk, hjb, Nat.le_refl _, rfl, hs, HK.out, (rot_id (.inl rfl) (Nat.le_succ _) (Nat.le_refl _)).symm⟩
      case round =>
        obtain ⟨x, dj, hix, hxm, rfl, hsj, HKJ, HF⟩ := hrel
        by_cases hlx : i < x
        · obtain ⟨y, rfl⟩ : ∃ y, x = y + 1 := ⟨x - 1, by omega⟩
          obtain ⟨x, hx⟩ : ∃ x, y + 1 = x := ⟨_, rfl⟩
          have HY := Lib.hid hx
          rw [hx] at hix hxm hlx HF ⊢
          have e1 : (x : Int) - 1 = (y : Int) := by omega
          have wp1 : IntKind.i64.wrap (y : Int) = (y : Int) := by rw [IntKind.wrap_i64]; omega
          have hx1 : x < dj.size := by omega
          have hy1 : y < dj.size := by omega
          have b1 : (x : Int) < (N : Int) := by omega
          have b2 : (y : Int) < (N : Int) := by omega
          have hsd : dj.size = d0.size := hsj.trans HN.out.symm
          have l1 := HKJ.out.ld1 HR.out hsd P y hy1
          have l2 := HKJ.out.ld1 HR.out hsd P x hx1
          have s1 := HKJ.out.st1 HR.out hsd P x hx1 dj[y]!
          have s2 := HKJ.out.st2 HR.out hsd P x y hx1 hy1 dj[y]! dj[x]!
          have HSW := Lib.hid (HKJ.out.swapped HR.out x y hx1 hy1)
          have HSF := Lib.hid (swF_get dj hx1 hy1)
          have hsP : (enc dj[y]!).length = k := HR.out.hk _
          have hsQ : (enc dj[x]!).length = k := HR.out.hk _
          clear hx hsd hx1 hy1
          obtain ⟨X, hX⟩ : ∃ X, X = enc dj[y]! := ⟨_, rfl⟩
          obtain ⟨Y, hY⟩ : ∃ Y, Y = enc dj[x]! := ⟨_, rfl⟩
          rw [← hX] at l1 s1 HSW hsP
          rw [← hY] at l2 HSW hsQ
          rw [← hX, ← hY] at s2
          clear hX hY
          go_upto_region 23 with (fail)
          go_big_region_o
          all_goals go_wp2_with fail
          all_goals go_roundw
          case measure => have := HY.out; simp [Lib.intOf]; omega
          case rel => exact ⟨y, swp dj x y, by have := HY.out; omega, by have := HY.out; omega, by go_num, by rw [size_swp]; exact hsj, HSW.out, by
            show (fun t => (swp dj x y)[t]!) = _
            rw [HSF.out, show (fun t => dj[t]!) = fn dj from rfl, HF.out, ← HY.out]; exact rotB_step _ (by have := HY.out; omega)⟩
        · obtain rfl : x = i := by omega
          go_wp2_with fail
          (try simp only [Exit.inBlock, Exit.then])
          refine bodyPost_ret (results_none rfl _ _ _) rfl ?_
          exact ⟨rfl, dj, hsj, HKJ.out, by rw [HF.out, HM.out]; exact HCUT.out.2, by rw [HF.out, HM.out]; exact HCUT.out.1⟩
end Go.Proofs.Ytpoefcpgcojppaa

namespace Go.Proofs.Ytpoefcpgcojppaa
open Go.Shelf Go.RowKit Go.Lib Go.Sort
set_option linter.unusedVariables false
variable {P : Program} {α : Type} [Inhabited α] {enc : α → List Value} {k : Nat} {w0 : World} {blk off : Nat} {d0 : Array α} {cf : α → α → Int}

/-- what the merge leaves -/
def SymR (enc : α → List Value) (k : Nat) (w0 : World) (blk off : Nat) (cf : α → α → Int) (N a b : Nat) (dk : Array α) (e : Ending) (w' : World) : Prop :=
  e = .returned (.tuple #[]) ∧ ∃ dj : Array α, dj.size = N ∧ SWK enc k w0 blk off dj w' ∧ Srt cf a b (fn dj) ∧ Mv cf a b (fn dk) (fn dj)

set_option maxHeartbeats 8000000 in
set_option maxRecDepth 1000000 in
theorem symMerge_any (L : Ly P k) (R : RowK enc k w0 blk off d0) (hC : Cm cf) (g : Nat) (cb : Array Value) (hcmp : CmpLays P g cb enc k cf blk off d0.size w0) (eg : ∀ args w, (callFunc g args).run P w = .ok (.enter g args) w) (cap : Nat) (hsz : d0.size ≤ 1099511627776) : ∀ (D a m b : Nat) (dk : Array α) (W : World), b - a ≤ D → dk.size = d0.size → SWK enc k w0 blk off dk W → a < m → m < b → b ≤ d0.size → Srt cf a m (fn dk) → Srt cf m b (fn dk) →
    Calls P 92 #[.slice (some ⟨blk, off, none⟩) d0.size cap, .int .i64 a, .int .i64 m, .int .i64 b, .func (.func g) #[] cb] W (SymR enc k w0 blk off cf d0.size a b dk) := by
  intro D
  induction D with
  | zero => intro a m b dk W h1 h2 h3 h4 h5; omega
  | succ D ih =>
    intro a m b dk W hD hs h ham hmb hb s1 s2
    by_cases hA : m = a + 1
    · subst hA
      exact symA_any L R hC g cb hcmp eg cap a b dk hs h hmb hb hsz s2
    by_cases hB : b = m + 1
    · subst hB
      exact symB_any L R hC g cb hcmp eg cap a m dk hs h (by omega) hb hsz s1
    unfold SymR at ih ⊢
    have mixed := L.mixed; have t0 := L.t0; have a0 := L.a0; have z0 := L.z0; have v0 := L.v0; have t3 := L.t3; have a3 := L.a3; have z3 := L.z3; have v3 := L.v3; have t4 := L.t4; have a4 := L.a4; have z4 := L.z4; have v4 := L.v4; have t26 := L.t26; have a26 := L.a26; have z26 := L.z26; have v26 := L.v26; have t39 := L.t39; have a39 := L.a39; have z39 := L.z39; have v39 := L.v39; have t87 := L.t87; have a87 := L.a87; have z87 := L.z87; have v87 := L.v87; have aE := L.aE; have zE := L.zE
    have u26 := run_underlying L.t26
    have e95 : ∀ args w, (callFunc 95 args).run P w = .ok (.enter 95 args) w := enters_of L.f95 (by kernel_rfl) rfl
    have e92 : ∀ args w, (callFunc 92 args).run P w = .ok (.enter 92 args) w := enters_of L.f92 (by kernel_rfl) rfl
    have FF := L.f92
    have hrot := fun (a m b : Nat) (dk : Array α) (hs : dk.size = d0.size) (W : World) (h : SWK enc k w0 blk off dk W) (ham : a < m) (hmb : m < b) (hb : b ≤ d0.size) => rotate_any L R cap a m b dk hs h ham hmb hb hsz (.func (.func g) #[] cb)
    have HROT := Lib.hid hrot
    have HIH := Lib.hid ih
    have HR := Lib.hid R
    have H := Lib.hid h
    have HC := Lib.hid hcmp
    have CM := Lib.hid hC
    have HS1 := Lib.hid s1
    have HS2 := Lib.hid s2
    obtain ⟨N, hN⟩ : ∃ N, d0.size = N := ⟨_, rfl⟩
    have HN := Lib.hid hN
    rw [hN] at hs hb hsz HC HROT HIH ⊢
    obtain ⟨z1, hz1⟩ : ∃ z, m - a = z := ⟨_, rfl⟩
    obtain ⟨z2, hz2⟩ : ∃ z, b - m = z := ⟨_, rfl⟩
    obtain ⟨s, hs0⟩ : ∃ s, a + b = s := ⟨_, rfl⟩
    obtain ⟨mid, hmid⟩ : ∃ x, s / 2 = x := ⟨_, rfl⟩
    obtain ⟨n, hn⟩ : ∃ x, mid + m = x := ⟨_, rfl⟩
    obtain ⟨p, hp⟩ : ∃ x, n - 1 = x := ⟨_, rfl⟩
    have x1 : (m : Int) - (a : Int) = (z1 : Int) := by omega
    have x2 : ((z1 : Int) == 1) = false := by rw [beq_eq_false_iff_ne]; omega
    have x3 : (b : Int) - (m : Int) = (z2 : Int) := by omega
    have x4 : ((z2 : Int) == 1) = false := by rw [beq_eq_false_iff_ne]; omega
    have x5 : (a : Int) + (b : Int) = (s : Int) := by omega
    have x6 : (s : Int) / 2 = (mid : Int) := by omega
    have x7 : (mid : Int) + (m : Int) = (n : Int) := by omega
    have x8 : (n : Int) - 1 = (p : Int) := by omega
    have y1 : IntKind.i64.wrap (z1 : Int) = (z1 : Int) := by rw [IntKind.wrap_i64]; omega
    have y2 : IntKind.i64.wrap (z2 : Int) = (z2 : Int) := by rw [IntKind.wrap_i64]; omega
    have y3 : IntKind.i64.wrap (s : Int) = (s : Int) := by rw [IntKind.wrap_i64]; omega
    have y4 : IntKind.u64.wrap (s : Int) = (s : Int) := by rw [IntKind.wrap_u64]; omega
    have y5 : IntKind.i64.wrap (mid : Int) = (mid : Int) := by rw [IntKind.wrap_i64]; omega
    have y6 : IntKind.u64.wrap (mid : Int) = (mid : Int) := by rw [IntKind.wrap_u64]; omega
    have y7 : IntKind.i64.wrap (n : Int) = (n : Int) := by rw [IntKind.wrap_i64]; omega
    have y8 : IntKind.i64.wrap (p : Int) = (p : Int) := by rw [IntKind.wrap_i64]; omega
    have HE := Lib.hid (show mid = (a + b) / 2 ∧ n = mid + m ∧ p + 1 = mid + m ∧ p = mid + m - 1 by omega)
    have hnB : n ≤ 3298534883328 := by omega
    clear R h hN L hcmp hC s1 s2 hz1 hz2 hs0 hmid hn hp ih hrot hA hB
    go_enter FF, Try.ntmps92
    go_upto_if 140 with (fail)
    clear x1 x2 x3 x4 x5 x6 x7 y1 y2 y3 y4 y5 y6 y7
    go_cut [20, 21] from 138 to 146 (fun vs vr wc => ∃ (s0 r0 : Nat), vs = .int .i64 s0 ∧ vr = .int .i64 r0 ∧ wc = W ∧ Hid (s0 = (if m > mid then mid + m - b else a) ∧ r0 = (if m > mid then mid else m)))
    case first =>
      by_cases hgt : mid < m
      · have hgt' : (mid : Int) < (m : Int) := by omega
        obtain ⟨s0, hs0⟩ : ∃ x, n - b = x := ⟨_, rfl⟩
        obtain ⟨h1, h2, h3, h4⟩ := HE.out
        have x1 : (n : Int) - (b : Int) = (s0 : Int) := by omega
        have y1 : IntKind.i64.wrap (s0 : Int) = (s0 : Int) := by rw [IntKind.wrap_i64]; omega
        have HS0 := Lib.hid (show s0 = (if m > mid then mid + m - b else a) by rw [if_pos hgt]; omega)
        clear hs0 h1 h2 h3 h4
        go_wp2_with fail
        go_meet
        case rel => exact ⟨s0, mid, rfl, rfl, rfl, HS0.out, by rw [if_pos hgt]⟩
      · have hgt' : ¬ (mid : Int) < (m : Int) := by omega
        go_wp2_with fail
        go_meet
        case rel => exact ⟨a, m, rfl, rfl, rfl, by rw [if_neg hgt], by rw [if_neg hgt]⟩
    case rest =>
      obtain ⟨s0, r0, rfl, rfl, rfl, HSR⟩ := hcut
      have hsr : a ≤ s0 ∧ s0 ≤ r0 ∧ r0 ≤ m ∧ p + 1 ≥ m + r0 ∧ p < b + s0 := by
        obtain ⟨h1, h2, h3, h4⟩ := HE.out
        obtain ⟨h5, h6⟩ := HSR.out
        by_cases hgt : m > mid
        · rw [if_pos hgt] at h5 h6; omega
        · rw [if_neg hgt] at h5 h6; omega
      obtain ⟨g1, g2, g3, g4, g5⟩ := hsr
      have HG := Lib.hid (And.intro g1 (And.intro g3 (And.intro g4 g5)))
      go_wp2_with fail
      clear x8 y8
      go_loopw [20, 21] (fun vi vj wr => ∃ (i j : Nat), i ≤ j ∧ s0 ≤ i ∧ j ≤ r0 ∧ vi = .int .i64 i ∧ vj = .int .i64 j ∧ Hid (SWK enc k w0 blk off dk wr) ∧ Hid (Sym cf (fn dk) s0 r0 p i j)) (fun i j _ => (Lib.intOf j).toNat - (Lib.intOf i).toNat)
      case atStart => exact ⟨s0, r0, g2, Nat.le_refl _, Nat.le_refl _, rfl, rfl, H.out, Sym.start g2⟩
      case round =>
        obtain ⟨i, j, hij, hmi, hjb, rfl, rfl, HK, HS⟩ := hrel
        by_cases hlt : i < j
        · obtain ⟨t, ht⟩ : ∃ t, i + j = t := ⟨_, rfl⟩
          obtain ⟨q, hq⟩ : ∃ q, t / 2 = q := ⟨_, rfl⟩
          obtain ⟨v, hv⟩ : ∃ v, p - q = v := ⟨_, rfl⟩
          have e1 : (i : Int) + (j : Int) = (t : Int) := by omega
          have e2 : (t : Int) / 2 = (q : Int) := by omega
          have e3 : (p : Int) - (q : Int) = (v : Int) := by omega
          have wp1 : IntKind.i64.wrap (t : Int) = (t : Int) := by rw [IntKind.wrap_i64]; omega
          have wp2 : IntKind.u64.wrap (t : Int) = (t : Int) := by rw [IntKind.wrap_u64]; omega
          have wp3 : IntKind.i64.wrap (q : Int) = (q : Int) := by rw [IntKind.wrap_i64]; omega
          have wp4 : IntKind.u64.wrap (q : Int) = (q : Int) := by rw [IntKind.wrap_u64]; omega
          have wp5 : IntKind.i64.wrap (v : Int) = (v : Int) := by rw [IntKind.wrap_i64]; omega
          have hq1 : i ≤ q := by omega
          have hq2 : q < j := by omega
          have hvN : v < dk.size := by omega
          have hqN : q < dk.size := by omega
          have HV := Lib.hid hv
          clear ht hq hv
          go_upto_region 35 with (fail)
          clear e1 e2 wp1 wp2 wp3 wp4
          have lx := fun n os => HK.out.ld HR.out (hs.trans HN.out.symm) P q hqN n os
          have la := fun n os => HK.out.ld HR.out (hs.trans HN.out.symm) P v hvN n os
          have hcg := fun n os => HK.out.cmp HC.out hs dk[v]! dk[q]! n os
          have qb : (q : Int) < (N : Int) := by omega
          have ab : (v : Int) < (N : Int) := by omega
          by_cases hlv : cf dk[v]! dk[q]! < 0
          · have HS3 := Lib.hid (HS.out.left CM.out HS1.out HS2.out HG.out.1 HG.out.2.1 HG.out.2.2.1 HG.out.2.2.2 hq1 hq2 (by rw [HV.out]; exact hlv))
            obtain ⟨xq, hxq⟩ : ∃ x, dk[q]! = x := ⟨_, rfl⟩
            obtain ⟨xa, hxa⟩ : ∃ x, dk[v]! = x := ⟨_, rfl⟩
            rw [hxq] at lx
            rw [hxa] at la
            rw [hxq, hxa] at hcg hlv
            clear hxq hxa hvN hqN
            go_quiet_grown (first | (go_at_fn g; refine Calls.grown_of (hcg _ _)))
            have HK2 := Lib.hid (HK.out.grown nq osq)
            clear lx la hcg e3 wp5
            generalize grow (wr.drewN nq) osq = wq2 at HK2 ⊢
            go_wp2_with fail
            go_roundw
            case measure => simp [Lib.intOf]; omega
            case rel => exact ⟨i, q, by omega, hmi, by omega, rfl, rfl, HK2.out, HS3.out⟩
          · have HS3 := Lib.hid (HS.out.right CM.out HS1.out HS2.out HG.out.1 HG.out.2.1 HG.out.2.2.1 HG.out.2.2.2 hq1 hq2 (by rw [HV.out]; exact hlv))
            obtain ⟨xq, hxq⟩ : ∃ x, dk[q]! = x := ⟨_, rfl⟩
            obtain ⟨xa, hxa⟩ : ∃ x, dk[v]! = x := ⟨_, rfl⟩
            rw [hxq] at lx
            rw [hxa] at la
            rw [hxq, hxa] at hcg hlv
            clear hxq hxa hvN hqN
            go_quiet_grown (first | (go_at_fn g; refine Calls.grown_of (hcg _ _)))
            have HK2 := Lib.hid (HK.out.grown nq osq)
            clear lx la hcg e3 wp5
            generalize grow (wr.drewN nq) osq = wq2 at HK2 ⊢
            go_wp2_with fail
            go_roundw
            case measure => simp [Lib.intOf]; omega
            case rel => exact ⟨q + 1, j, by omega, by omega, hjb, by go_num, rfl, HK2.out, HS3.out⟩
        · obtain rfl : i = j := by omega
          obtain ⟨en, hen⟩ : ∃ x, n - i = x := ⟨_, rfl⟩
          have hcut2 : Cut cf (fn dk) a i m en b ∧ mid = i + (en - m) := by
            have h := Sym.cut CM.out HS1.out HS2.out ham hmb HE.out.1 HSR.out.1 HSR.out.2 (by rw [← HE.out.2.2.2]; exact HS.out)
            rw [← HE.out.2.1, hen] at h
            exact h
          have HCUT := Lib.hid hcut2
          have HMV := Lib.hid (hcut2.1.mv CM.out)
          have HHF := Lib.hid (hcut2.1.half CM.out HS1.out HS2.out hcut2.2)
          obtain ⟨⟨c1, c2, c3, c4, -, -⟩, c5⟩ := hcut2
          have hmi0 : i ≤ mid := by omega
          have hmi1 : mid ≤ en := by omega
          have hmi2 : mid + m = i + en := by omega
          clear c5
          have x1 : (n : Int) - (i : Int) = (en : Int) := by have := HE.out; omega
          have y1 : IntKind.i64.wrap (en : Int) = (en : Int) := by rw [IntKind.wrap_i64]; omega
          clear HS HG hen g1 g2 g3 g4 g5
          go_upto_region 39 with (fail)
          clear x1 y1
          obtain ⟨b1, hb1⟩ : ∃ rr, decide (i < m ∧ m < en) = rr := ⟨_, rfl⟩
          have Hb1 := Lib.hid hb1
          clear hb1
          go_cut [185] from 178 to 184 (fun t wd => t = .bool b1 ∧ wd = wr)
          case first =>
            by_cases p1 : i < m
            · have p1' : (i : Int) < (m : Int) := by omega
              by_cases p2 : m < en
              · have p2' : (m : Int) < (en : Int) := by omega
                go_wp2_with fail
                go_meet
                case rel => exact ⟨by rw [← Hb1.out, decide_eq_true (And.intro p1 p2)], rfl⟩
              · have p2' : ¬ (m : Int) < (en : Int) := by omega
                go_wp2_with fail
                go_meet
                case rel => exact ⟨by rw [← Hb1.out, decide_eq_false (fun h => p2 h.2)], rfl⟩
            · have p1' : ¬ (i : Int) < (m : Int) := by omega
              go_wp2_with fail
              go_meet
              case rel => exact ⟨by rw [← Hb1.out, decide_eq_false (fun h => p1 h.1)], rfl⟩
          case rest =>
            obtain ⟨rfl, rfl⟩ := hcut
            go_upto_if 185 with (fail)
            go_cut [] from 186 to 191 (fun wd => ∃ dr : Array α, dr.size = N ∧ Hid (SWK enc k w0 blk off dr wd) ∧ Hid (fn dr = rotF (fn dk) i m en))
            case first =>
              cases b1 with
              | true =>
                have hx := of_decide_eq_true Hb1.out
                go_wp2_with (go_at_fn 95; refine (HROT.out i m en dk hs _ HK.out hx.1 hx.2 (by omega)).mono ?_; rintro e w' ⟨rfl, dn, hsn, hkn, hfn⟩; have HKN := Lib.hid hkn; have HFN := Lib.hid hfn; clear hkn hfn)
                go_meet
                case rel => exact ⟨dn, hsn, HKN.out, HFN.out⟩
              | false =>
                have hx := of_decide_eq_false Hb1.out
                go_wp2_with fail
                go_meet
                case rel => exact ⟨dk, hs, HK.out, (rot_id (by omega) c3 c2).symm⟩
            case rest =>
              obtain ⟨dr, hsr, HKR, HFR⟩ := hcut
              rw [← HFR.out] at HMV HHF
              clear HK HFR Hb1
              go_upto_region 41 with (fail)
              obtain ⟨b2, hb2⟩ : ∃ rr, decide (a < i ∧ i < mid) = rr := ⟨_, rfl⟩
              have Hb2 := Lib.hid hb2
              clear hb2
              go_cut [199] from 192 to 198 (fun t wd => t = .bool b2 ∧ wd = wc)
              case first =>
                by_cases p1 : a < i
                · have p1' : (a : Int) < (i : Int) := by omega
                  by_cases p2 : i < mid
                  · have p2' : (i : Int) < (mid : Int) := by omega
                    go_wp2_with fail
                    go_meet
                    case rel => exact ⟨by rw [← Hb2.out, decide_eq_true (And.intro p1 p2)], rfl⟩
                  · have p2' : ¬ (i : Int) < (mid : Int) := by omega
                    go_wp2_with fail
                    go_meet
                    case rel => exact ⟨by rw [← Hb2.out, decide_eq_false (fun h => p2 h.2)], rfl⟩
                · have p1' : ¬ (a : Int) < (i : Int) := by omega
                  go_wp2_with fail
                  go_meet
                  case rel => exact ⟨by rw [← Hb2.out, decide_eq_false (fun h => p1 h.1)], rfl⟩
              case rest =>
                obtain ⟨rfl, rfl⟩ := hcut
                go_upto_if 199 with (fail)
                go_cut [] from 200 to 205 (fun wd => ∃ d1 : Array α, d1.size = N ∧ Hid (SWK enc k w0 blk off d1 wd) ∧ Hid (Mv cf a mid (fn dr) (fn d1) ∧ Srt cf a mid (fn d1)))
                case first =>
                  cases b2 with
                  | true =>
                    have hx := of_decide_eq_true Hb2.out
                    go_wp2_with (go_at_fn 92; refine (HIH.out a i mid dr _ (by have := HE.out.1; omega) hsr HKR.out hx.1 hx.2 (by omega) HHF.out.s1 HHF.out.s2).mono ?_; rintro e w' ⟨rfl, dn, hsn, hkn, hfn, hmn⟩; have HKN := Lib.hid hkn; have HFN := Lib.hid hfn; have HMN := Lib.hid hmn; clear hkn hfn hmn)
                    go_meet
                    case rel => exact ⟨dn, hsn, HKN.out, HMN.out, HFN.out⟩
                  | false =>
                    have hx := of_decide_eq_false Hb2.out
                    go_wp2_with fail
                    go_meet
                    case rel =>
                      refine ⟨dr, hsr, HKR.out, Mv.refl _ _ _, ?_⟩
                      by_cases e : i = a
                      · have := HHF.out.s2
                        rwa [e] at this
                      · have e2 : i = mid := by omega
                        have := HHF.out.s1
                        rwa [e2] at this
                case rest =>
                  obtain ⟨d1, hs1, HK1, HM1⟩ := hcut
                  clear HKR Hb2
                  go_upto_region 43 with (fail)
                  obtain ⟨b3, hb3⟩ : ∃ rr, decide (mid < en ∧ en < b) = rr := ⟨_, rfl⟩
                  have Hb3 := Lib.hid hb3
                  clear hb3
                  go_cut [213] from 206 to 212 (fun t wd => t = .bool b3 ∧ wd = wc)
                  case first =>
                    by_cases p1 : mid < en
                    · have p1' : (mid : Int) < (en : Int) := by omega
                      by_cases p2 : en < b
                      · have p2' : (en : Int) < (b : Int) := by omega
                        go_wp2_with fail
                        go_meet
                        case rel => exact ⟨by rw [← Hb3.out, decide_eq_true (And.intro p1 p2)], rfl⟩
                      · have p2' : ¬ (en : Int) < (b : Int) := by omega
                        go_wp2_with fail
                        go_meet
                        case rel => exact ⟨by rw [← Hb3.out, decide_eq_false (fun h => p2 h.2)], rfl⟩
                    · have p1' : ¬ (mid : Int) < (en : Int) := by omega
                      go_wp2_with fail
                      go_meet
                      case rel => exact ⟨by rw [← Hb3.out, decide_eq_false (fun h => p1 h.1)], rfl⟩
                  case rest =>
                    obtain ⟨rfl, rfl⟩ := hcut
                    cases b3 with
                    | true =>
                      have hx := of_decide_eq_true Hb3.out
                      have HS3 := Lib.hid (show Srt cf mid en (fn d1) from HHF.out.s3.sub (Nat.le_refl _) (Nat.le_refl _) (fun x h1 h2 => HM1.out.1.out x (.inr h1)))
                      have HS4 := Lib.hid (show Srt cf en b (fn d1) from HHF.out.s4.sub (Nat.le_refl _) (Nat.le_refl _) (fun x h1 h2 => HM1.out.1.out x (.inr (by omega))))
                      go_wp2_with (go_at_fn 92; refine (HIH.out mid en b d1 _ (by have := HE.out.1; omega) hs1 HK1.out hx.1 hx.2 (by omega) HS3.out HS4.out).mono ?_; rintro e w' ⟨rfl, dn, hsn, hkn, hfn, hmn⟩; have HKN := Lib.hid hkn; have HFN := Lib.hid hfn; have HMN := Lib.hid hmn; clear hkn hfn hmn)
                      go_end0
                      exact ⟨rfl, dn, hsn, HKN.out, HHF.out.done HM1.out.1 HM1.out.2 HMN.out HFN.out, (HMV.out.trans (HM1.out.1.wide (Nat.le_refl _) (by omega) (by omega))).trans (HMN.out.wide (by omega) (by omega) (Nat.le_refl _))⟩
                    | false =>
                      have hx := of_decide_eq_false Hb3.out
                      go_wp2_with fail
                      go_end0
                      have hS : Srt cf mid b (fn d1) := by
                        by_cases e : en = mid
                        · have := HHF.out.s4
                          rw [e] at this
                          exact this.sub (Nat.le_refl _) (Nat.le_refl _) (fun x h1 h2 => HM1.out.1.out x (.inr h1))
                        · have e2 : en = b := by omega
                          have := HHF.out.s3
                          rw [e2] at this
                          exact this.sub (Nat.le_refl _) (Nat.le_refl _) (fun x h1 h2 => HM1.out.1.out x (.inr h1))
                      exact ⟨rfl, d1, hs1, HK1.out, HHF.out.done HM1.out.1 HM1.out.2 (Mv.refl _ _ _) hS, HMV.out.trans (HM1.out.1.wide (Nat.le_refl _) (by omega) (by omega))⟩
end Go.Proofs.Ytpoefcpgcojppaa

namespace Go.Proofs.Ytpoefcpgcojppaa
set_option linter.unusedVariables false
variable {α : Type} {c : α → α → Int}

theorem Srt.none {a b : Nat} (h : b ≤ a) (f : Nat → α) : Srt c a b f := fun i j h1 h2 h3 => by omega
theorem Srt.mv {a b s e : Nat} {f g : Nat → α} (h : Srt c s e f) (k : Mv c a b f g) (hd : e ≤ a ∨ b ≤ s) : Srt c s e g :=
  h.sub (Nat.le_refl _) (Nat.le_refl _) fun i h1 h2 => k.out i (by omega)
theorem blk_first {n s q : Nat} {f g : Nat → α} (h : ∀ x, x < q → Srt c (x * s) ((x + 1) * s) f) (k : Mv c (q * s) n f g) (t : Srt c (q * s) n g) (hq : q * s ≤ n) (hn : n < q * s + s) : Blk c n s g := by
  intro x
  by_cases h1 : x < q
  · have e : (x + 1) * s ≤ q * s := Nat.mul_le_mul_right s h1
    rw [Nat.min_eq_left (by omega)]
    exact (h x h1).mv k (.inl e)
  · by_cases h2 : x = q
    · subst h2
      exact t.sub (Nat.le_refl _) (Nat.min_le_right _ _) fun _ _ _ => rfl
    · have e : (q + 1) * s ≤ x * s := Nat.mul_le_mul_right s (by omega)
      have e2 : (q + 1) * s = q * s + s := by rw [Nat.add_mul, Nat.one_mul]
      exact Srt.none (by omega) _
/-- a pass: blocks of twice s up to q, blocks of s from there on -/
structure Pas (c : α → α → Int) (n s q : Nat) (f : Nat → α) : Prop where
  lo : ∀ x, x < q → Srt c (x * (2 * s)) (x * (2 * s) + 2 * s) f
  hi : ∀ x, 2 * q ≤ x → Srt c (x * s) (min (x * s + s) n) f
theorem Pas.start {n s : Nat} {f : Nat → α} (h : Blk c n s f) : Pas c n s 0 f :=
  ⟨fun x hx => by omega, fun x _ => by have := h x; rwa [Nat.add_mul, Nat.one_mul] at this⟩
theorem dbl (q s : Nat) : 2 * q * s = q * (2 * s) := by rw [Nat.mul_comm 2 q, Nat.mul_assoc]
theorem dbl1 (q s : Nat) : (2 * q + 1) * s = q * (2 * s) + s := by rw [Nat.add_mul, dbl, Nat.one_mul]
theorem Pas.s1 {n s q : Nat} {f : Nat → α} (h : Pas c n s q f) : Srt c (q * (2 * s)) (min (q * (2 * s) + s) n) f := by
  have := h.hi (2 * q) (Nat.le_refl _)
  rwa [dbl] at this
theorem Pas.s2 {n s q : Nat} {f : Nat → α} (h : Pas c n s q f) : Srt c (q * (2 * s) + s) (min (q * (2 * s) + 2 * s) n) f := by
  have := h.hi (2 * q + 1) (Nat.le_succ _)
  rwa [dbl1, show q * (2 * s) + s + s = q * (2 * s) + 2 * s by omega] at this
theorem succ_dbl (q s : Nat) : (q + 1) * (2 * s) = q * (2 * s) + 2 * s := by rw [Nat.add_mul, Nat.one_mul]
theorem Pas.next {n s q : Nat} {f g : Nat → α} (h : Pas c n s q f) (k : Mv c (q * (2 * s)) (q * (2 * s) + 2 * s) f g) (t : Srt c (q * (2 * s)) (q * (2 * s) + 2 * s) g) : Pas c n s (q + 1) g := by
  refine ⟨fun x hx => ?_, fun x hx => ?_⟩
  · by_cases e : x = q
    · subst e; exact t
    · have h1 : (x + 1) * (2 * s) ≤ q * (2 * s) := Nat.mul_le_mul_right _ (by omega)
      rw [succ_dbl] at h1
      exact (h.lo x (by omega)).mv k (.inl h1)
  · have h1 : (2 * (q + 1)) * s ≤ x * s := Nat.mul_le_mul_right _ hx
    rw [dbl, succ_dbl] at h1
    exact (h.hi x (by omega)).mv k (.inr h1)
theorem Pas.last {n s q : Nat} {f g : Nat → α} (h : Pas c n s q f) (k : Mv c (q * (2 * s)) n f g) (t : Srt c (q * (2 * s)) n g) (hq : q * (2 * s) ≤ n) (hn : n < q * (2 * s) + 2 * s) : Blk c n (2 * s) g := by
  refine blk_first (f := f) (fun x hx => ?_) k t hq hn
  rw [succ_dbl]
  exact h.lo x hx
end Go.Proofs.Ytpoefcpgcojppaa
