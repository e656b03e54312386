/- Texts ZA, ZB, ZD, ZQ, one behind the other. -/
import Derived.Test.YtnccgaanfjaimaaDoorJ0
import Derived.Test.YtnccgaanfjaimaaDoorJ2
import Derived.Test.YtnccgaanfjaimaaDoorJ3
import Derived.Test.YtnccgaanfjaimaaDoorJ4
import Derived.Lib.Strings
import Derived.Lib.Walk
import Derived.Lib.BufferWrite
import Derived.Lib.UnsafeStr
import Derived.Laws.MakeOwn
set_option linter.unusedSimpArgs false
set_option linter.unusedVariables false
namespace Go.Proofs.YtnccgaanfjaimaaDoor
open Go.ChangeShapes Go.WideShapes Go.ChangeAt Go.RowKit
set_option linter.unusedVariables false
set_option linter.unusedSimpArgs false

mutual
/-- the labels of an expression, from the left -/
def X.ps : X → List ByteArray
 | .mk k l ks => if k = 1 then [l] else psL ks
def psL : List X → List ByteArray
 | [] => []
 | x :: xs => x.ps ++ psL xs
end
theorem X.ps_eq (x : X) : x.ps = if x.kind = 1 then [x.lab] else psL x.kids := by cases x; rw [X.ps]; rfl
theorem psL_nil : psL [] = [] := by rw [psL]
theorem psL_cons (x : X) (xs : List X) : psL (x :: xs) = x.ps ++ psL xs := by rw [psL]
/-- how many -/
def X.pn (x : X) : Nat := x.ps.length
def pnL (xs : List X) : Nat := (psL xs).length
theorem X.pn_eq (x : X) : x.pn = if x.kind = 1 then 1 else pnL x.kids := by unfold X.pn pnL; rw [X.ps_eq]; split <;> rfl
theorem pnL_nil : pnL [] = 0 := by simp [pnL, psL]
theorem pnL_cons (x : X) (xs : List X) : pnL (x :: xs) = x.pn + pnL xs := by simp [pnL, psL, X.pn]

mutual
/-- first ones, of an expression whose positions begin at a; of a row; of alternatives -/
def X.fst : X → Nat → Nat → Bool
 | .mk k _ ks, a, p => if k = 1 then decide (p = a) else if k = 2 then fstS ks a p else fstA ks a p
def fstS : List X → Nat → Nat → Bool
 | [], _, _ => false
 | x :: xs, a, p => X.fst x a p || (x.emp && fstS xs (a + x.pn) p)
def fstA : List X → Nat → Nat → Bool
 | [], _, _ => false
 | x :: xs, a, p => X.fst x a p || fstA xs (a + x.pn) p
end
mutual
/-- last ones -/
def X.lst : X → Nat → Nat → Bool
 | .mk k _ ks, a, p => if k = 1 then decide (p = a) else if k = 2 then lstS ks a p else lstA ks a p
def lstS : List X → Nat → Nat → Bool
 | [], _, _ => false
 | x :: xs, a, p => (allE xs && X.lst x a p) || lstS xs (a + x.pn) p
def lstA : List X → Nat → Nat → Bool
 | [], _, _ => false
 | x :: xs, a, p => X.lst x a p || lstA xs (a + x.pn) p
end
mutual
/-- q follows p -/
def X.fol : X → Nat → Nat → Nat → Bool
 | .mk k _ ks, a, p, q => if k = 1 then false else if k = 2 then folS ks a p q else folA ks a p q || (decide (k = 4 ∨ k = 5) && (lstA ks a p && fstA ks a q))
def folS : List X → Nat → Nat → Nat → Bool
 | [], _, _, _ => false
 | x :: xs, a, p, q => X.fol x a p q || folS xs (a + x.pn) p q || (x.lst a p && fstS xs (a + x.pn) q)
def folA : List X → Nat → Nat → Nat → Bool
 | [], _, _, _ => false
 | x :: xs, a, p, q => X.fol x a p q || folA xs (a + x.pn) p q
end
theorem X.fst_eq (x : X) (a p : Nat) : x.fst a p = if x.kind = 1 then decide (p = a) else if x.kind = 2 then fstS x.kids a p else fstA x.kids a p := by cases x; rw [X.fst]; rfl
theorem X.lst_eq (x : X) (a p : Nat) : x.lst a p = if x.kind = 1 then decide (p = a) else if x.kind = 2 then lstS x.kids a p else lstA x.kids a p := by cases x; rw [X.lst]; rfl
theorem X.fol_eq (x : X) (a p q : Nat) : x.fol a p q = if x.kind = 1 then false else if x.kind = 2 then folS x.kids a p q else folA x.kids a p q || (decide (x.kind = 4 ∨ x.kind = 5) && (lstA x.kids a p && fstA x.kids a q)) := by cases x; rw [X.fol]; rfl

/-- one lies in a part's range -/
def Inr (f : Nat → Bool) (a b : Nat) : Prop := ∀ p, f p = true → a ≤ p ∧ p < b
theorem fst_in : ∀ (x : X) (a : Nat), Inr (x.fst a) a (a + x.pn) := by
 intro x
 induction x using X.ind' with
 | h x ih =>
  have hS : ∀ ks : List X, (∀ y ∈ ks, ∀ a, Inr (y.fst a) a (a + y.pn)) → ∀ a, Inr (fstS ks a) a (a + pnL ks) := by
   intro ks
   induction ks with
   | nil => intro _ a p h; rw [fstS] at h; cases h
   | cons y ys ihy =>
    intro hy a p h
    rw [fstS, Bool.or_eq_true, Bool.and_eq_true] at h
    rw [pnL_cons]
    rcases h with h | ⟨_, h⟩
    ·have := hy y (by simp) a p h; omega
    ·have := ihy (fun z hz => hy z (by simp [hz])) _ p h; omega
  have hA : ∀ ks : List X, (∀ y ∈ ks, ∀ a, Inr (y.fst a) a (a + y.pn)) → ∀ a, Inr (fstA ks a) a (a + pnL ks) := by
   intro ks
   induction ks with
   | nil => intro _ a p h; rw [fstA] at h; cases h
   | cons y ys ihy =>
    intro hy a p h
    rw [fstA, Bool.or_eq_true] at h
    rw [pnL_cons]
    rcases h with h | h
    ·have := hy y (by simp) a p h; omega
    ·have := ihy (fun z hz => hy z (by simp [hz])) _ p h; omega
  intro a p h
  rw [X.fst_eq] at h
  rw [X.pn_eq]
  split at h
  ·rename_i h1
   rw [if_pos h1]; simp at h; omega
  ·rename_i h1
   rw [if_neg h1]
   split at h
   ·exact hS _ ih a p h
   ·exact hA _ ih a p h
theorem fstS_in (ks : List X) (a : Nat) : Inr (fstS ks a) a (a + pnL ks) := by
 have h := fst_in (.mk 2 ⟨#[]⟩ ks) a
 intro p hp
 have := h p (by rw [X.fst_eq]; exact hp)
 rw [X.pn_eq] at this
 exact this
theorem fstA_in (ks : List X) (a : Nat) : Inr (fstA ks a) a (a + pnL ks) := by
 have h := fst_in (.mk 3 ⟨#[]⟩ ks) a
 intro p hp
 have := h p (by rw [X.fst_eq]; exact hp)
 rw [X.pn_eq] at this
 exact this
theorem lst_in : ∀ (x : X) (a : Nat), Inr (x.lst a) a (a + x.pn) := by
 intro x
 induction x using X.ind' with
 | h x ih =>
  have hS : ∀ ks : List X, (∀ y ∈ ks, ∀ a, Inr (y.lst a) a (a + y.pn)) → ∀ a, Inr (lstS ks a) a (a + pnL ks) := by
   intro ks
   induction ks with
   | nil => intro _ a p h; rw [lstS] at h; cases h
   | cons y ys ihy =>
    intro hy a p h
    rw [lstS, Bool.or_eq_true, Bool.and_eq_true] at h
    rw [pnL_cons]
    rcases h with ⟨_, h⟩ | h
    ·have := hy y (by simp) a p h; omega
    ·have := ihy (fun z hz => hy z (by simp [hz])) _ p h; omega
  have hA : ∀ ks : List X, (∀ y ∈ ks, ∀ a, Inr (y.lst a) a (a + y.pn)) → ∀ a, Inr (lstA ks a) a (a + pnL ks) := by
   intro ks
   induction ks with
   | nil => intro _ a p h; rw [lstA] at h; cases h
   | cons y ys ihy =>
    intro hy a p h
    rw [lstA, Bool.or_eq_true] at h
    rw [pnL_cons]
    rcases h with h | h
    ·have := hy y (by simp) a p h; omega
    ·have := ihy (fun z hz => hy z (by simp [hz])) _ p h; omega
  intro a p h
  rw [X.lst_eq] at h
  rw [X.pn_eq]
  split at h
  ·rename_i h1
   rw [if_pos h1]; simp at h; omega
  ·rename_i h1
   rw [if_neg h1]
   split at h
   ·exact hS _ ih a p h
   ·exact hA _ ih a p h
theorem lstS_in (ks : List X) (a : Nat) : Inr (lstS ks a) a (a + pnL ks) := by
 have h := lst_in (.mk 2 ⟨#[]⟩ ks) a
 intro p hp
 have := h p (by rw [X.lst_eq]; exact hp)
 rw [X.pn_eq] at this
 exact this
theorem lstA_in (ks : List X) (a : Nat) : Inr (lstA ks a) a (a + pnL ks) := by
 have h := lst_in (.mk 3 ⟨#[]⟩ ks) a
 intro p hp
 have := h p (by rw [X.lst_eq]; exact hp)
 rw [X.pn_eq] at this
 exact this
/-- both ends lie in a part's range -/
def In2 (f : Nat → Nat → Bool) (a b : Nat) : Prop := ∀ p q, f p q = true → a ≤ p ∧ p < b ∧ a ≤ q ∧ q < b
theorem fol_in : ∀ (x : X) (a : Nat), In2 (x.fol a) a (a + x.pn) := by
 intro x
 induction x using X.ind' with
 | h x ih =>
  have hS : ∀ ks : List X, (∀ y ∈ ks, ∀ a, In2 (y.fol a) a (a + y.pn)) → ∀ a, In2 (folS ks a) a (a + pnL ks) := by
   intro ks
   induction ks with
   | nil => intro _ a p q h; rw [folS] at h; cases h
   | cons y ys ihy =>
    intro hy a p q h
    rw [folS, Bool.or_eq_true, Bool.or_eq_true, Bool.and_eq_true] at h
    rw [pnL_cons]
    rcases h with (h | h) | ⟨h, h'⟩
    ·have := hy y (by simp) a p q h; omega
    ·have := ihy (fun z hz => hy z (by simp [hz])) _ p q h; omega
    ·have := lst_in y a p h; have := fstS_in ys _ q h'; omega
  have hA : ∀ ks : List X, (∀ y ∈ ks, ∀ a, In2 (y.fol a) a (a + y.pn)) → ∀ a, In2 (folA ks a) a (a + pnL ks) := by
   intro ks
   induction ks with
   | nil => intro _ a p q h; rw [folA] at h; cases h
   | cons y ys ihy =>
    intro hy a p q h
    rw [folA, Bool.or_eq_true] at h
    rw [pnL_cons]
    rcases h with h | h
    ·have := hy y (by simp) a p q h; omega
    ·have := ihy (fun z hz => hy z (by simp [hz])) _ p q h; omega
  intro a p q h
  rw [X.fol_eq] at h
  rw [X.pn_eq]
  split at h
  ·cases h
  ·rename_i h1
   rw [if_neg h1]
   split at h
   ·exact hS _ ih a p q h
   ·rw [Bool.or_eq_true, Bool.and_eq_true, Bool.and_eq_true] at h
    rcases h with h | ⟨_, h, h'⟩
    ·exact hA _ ih a p q h
    ·have := lstA_in _ _ p h; have := fstA_in _ _ q h'; omega
theorem folS_in (ks : List X) (a : Nat) : In2 (folS ks a) a (a + pnL ks) := by
 have h := fol_in (.mk 2 ⟨#[]⟩ ks) a
 intro p q hp
 have := h p q (by rw [X.fol_eq]; exact hp)
 rw [X.pn_eq] at this
 exact this
theorem folA_in (ks : List X) (a : Nat) : In2 (folA ks a) a (a + pnL ks) := by
 have h := fol_in (.mk 3 ⟨#[]⟩ ks) a
 intro p q hp
 have := h p q (by rw [X.fol_eq]; simp [X.kind, X.kids, hp])
 rw [X.pn_eq] at this
 exact this

/-- a walk from p to q over what follows; its word -/
inductive Rn (lb : Nat → ByteArray) (fo : Nat → Nat → Bool) : Nat → Wd → Nat → Prop where
 | one (p : Nat) : Rn lb fo p [lb p] p
 | cons (p q : Nat) (u : Wd) (r : Nat) (h : fo p q = true) (h1 : Rn lb fo q u r) : Rn lb fo p (lb p :: u) r
theorem Rn.ne {lb : Nat → ByteArray} {fo : Nat → Nat → Bool} {p q : Nat} {u : Wd} (h : Rn lb fo p u q) : u ≠ [] := by cases h <;> simp
theorem Rn.mono {lb : Nat → ByteArray} {f g : Nat → Nat → Bool} {p q : Nat} {u : Wd} (h : Rn lb f p u q) (hfg : ∀ a b, f a b = true → g a b = true) : Rn lb g p u q := by
 induction h with
 | one p => exact .one p
 | cons p q u r h h1 ih => exact .cons p q u r (hfg _ _ h) ih
theorem Rn.app {lb : Nat → ByteArray} {fo : Nat → Nat → Bool} {p q r s : Nat} {u v : Wd} (h : Rn lb fo p u q) (hq : fo q r = true) (hr : Rn lb fo r v s) : Rn lb fo p (u ++ v) s := by
 induction h with
 | one p => exact .cons p r v s hq hr
 | cons p q' u q h h1 ih => exact .cons p q' _ s h (ih hq)
/-- the words of walks from a first one to a last one -/
def Acc (lb : Nat → ByteArray) (f l : Nat → Bool) (fo : Nat → Nat → Bool) (u : Wd) : Prop := ∃ p q, f p = true ∧ l q = true ∧ Rn lb fo p u q
theorem Acc.ne {lb : Nat → ByteArray} {f l : Nat → Bool} {fo : Nat → Nat → Bool} {u : Wd} (h : Acc lb f l fo u) : u ≠ [] := by obtain ⟨p, q, _, _, h⟩ := h; exact h.ne

/-- two ranges, side by side: a walk of both -/
theorem Rn.two {lb : Nat → ByteArray} {l1 f2 : Nat → Bool} {fo g1 g2 : Nat → Nat → Bool} {a b c : Nat} (h1 : In2 g1 a b) (h2 : In2 g2 b c) (hl : Inr l1 a b) (hf : Inr f2 b c)
  (hfo : ∀ p q, fo p q = true ↔ g1 p q = true ∨ g2 p q = true ∨ (l1 p = true ∧ f2 q = true)) {p q : Nat} {u : Wd} (h : Rn lb fo p u q) :
  (a ≤ p → p < b → (q < b ∧ a ≤ q ∧ Rn lb g1 p u q) ∨ ∃ u1 u2 m m', u = u1 ++ u2 ∧ Rn lb g1 p u1 m ∧ l1 m = true ∧ f2 m' = true ∧ b ≤ q ∧ q < c ∧ Rn lb g2 m' u2 q) ∧ (b ≤ p → p < c → b ≤ q ∧ q < c ∧ Rn lb g2 p u q) := by
 induction h with
 | one p => exact ⟨fun h h' => .inl ⟨h', h, .one p⟩, fun h h' => ⟨h, h', .one p⟩⟩
 | cons p m u q h0 h3 ih =>
  rcases (hfo p m).1 h0 with h | h | ⟨h, h'⟩
  ·have hx := h1 p m h
   refine ⟨fun _ _ => ?_, fun _ _ => by omega⟩
   rcases ih.1 (by omega) (by omega) with ⟨k1, k2, k3⟩ | ⟨u1, u2, m1, m2, rfl, k1, k2, k3, k4, k5, k6⟩
   ·exact .inl ⟨k1, k2, .cons p m u q h k3⟩
   ·exact .inr ⟨lb p :: u1, u2, m1, m2, rfl, .cons p m u1 m1 h k1, k2, k3, k4, k5, k6⟩
  ·have hx := h2 p m h
   refine ⟨fun _ _ => by omega, fun _ _ => ?_⟩
   obtain ⟨k1, k2, k3⟩ := ih.2 (by omega) (by omega)
   exact ⟨k1, k2, .cons p m u q h k3⟩
  ·have hx := hl p h
   have hy := hf m h'
   refine ⟨fun _ _ => ?_, fun _ _ => by omega⟩
   obtain ⟨k1, k2, k3⟩ := ih.2 (by omega) (by omega)
   exact .inr ⟨[lb p], u, p, m, rfl, .one p, h, h', k1, k2, k3⟩

/-- one behind the other -/
theorem acc_seq {lb : Nat → ByteArray} {f1 l1 f2 l2 f l : Nat → Bool} {g1 g2 fo : Nat → Nat → Bool} {e1 e2 : Bool} {a b c : Nat} (hf1 : Inr f1 a b) (hl1 : Inr l1 a b) (h1 : In2 g1 a b) (hf2 : Inr f2 b c) (hl2 : Inr l2 b c) (h2 : In2 g2 b c)
  (hf : ∀ p, f p = true ↔ f1 p = true ∨ (e1 = true ∧ f2 p = true)) (hl : ∀ p, l p = true ↔ (e2 = true ∧ l1 p = true) ∨ l2 p = true)
  (hfo : ∀ p q, fo p q = true ↔ g1 p q = true ∨ g2 p q = true ∨ (l1 p = true ∧ f2 q = true)) (u : Wd) :
  Acc lb f l fo u ↔ (e2 = true ∧ Acc lb f1 l1 g1 u) ∨ (e1 = true ∧ Acc lb f2 l2 g2 u) ∨ ∃ v w, u = v ++ w ∧ Acc lb f1 l1 g1 v ∧ Acc lb f2 l2 g2 w := by
 constructor
 ·rintro ⟨p, q, hp, hq, h⟩
  have ht := h.two h1 h2 hl1 hf2 hfo
  rcases (hf p).1 hp with hp | ⟨he, hp⟩
  ·have hx := hf1 p hp
   rcases ht.1 hx.1 hx.2 with ⟨k1, k2, k3⟩ | ⟨u1, u2, m, m', rfl, k1, k2, k3, k4, k5, k6⟩
   ·rcases (hl q).1 hq with ⟨he, hq⟩ | hq
    ·exact .inl ⟨he, p, q, hp, hq, k3⟩
    ·have := hl2 q hq; omega
   ·rcases (hl q).1 hq with ⟨he, hq⟩ | hq
    ·have := hl1 q hq; omega
    ·exact .inr (.inr ⟨u1, u2, rfl, ⟨p, m, hp, k2, k1⟩, m', q, k3, hq, k6⟩)
  ·have hx := hf2 p hp
   obtain ⟨k1, k2, k3⟩ := ht.2 hx.1 hx.2
   rcases (hl q).1 hq with ⟨_, hq⟩ | hq
   ·have := hl1 q hq; omega
   ·exact .inr (.inl ⟨he, p, q, hp, hq, k3⟩)
 ·rintro (⟨he, p, q, hp, hq, h⟩ | ⟨he, p, q, hp, hq, h⟩ | ⟨v, w, rfl, ⟨p, m, hp, hm, h⟩, m', q, hm', hq, h'⟩)
  ·exact ⟨p, q, (hf p).2 (.inl hp), (hl q).2 (.inl ⟨he, hq⟩), h.mono fun a b hab => (hfo a b).2 (.inl hab)⟩
  ·exact ⟨p, q, (hf p).2 (.inr ⟨he, hp⟩), (hl q).2 (.inr hq), h.mono fun a b hab => (hfo a b).2 (.inr (.inl hab))⟩
  ·exact ⟨p, q, (hf p).2 (.inl hp), (hl q).2 (.inr hq), (h.mono fun a b hab => (hfo a b).2 (.inl hab)).app ((hfo _ _).2 (.inr (.inr ⟨hm, hm'⟩))) (h'.mono fun a b hab => (hfo a b).2 (.inr (.inl hab)))⟩

/-- one or the other -/
theorem acc_alt {lb : Nat → ByteArray} {f1 l1 f2 l2 f l : Nat → Bool} {g1 g2 fo : Nat → Nat → Bool} {a b c : Nat} (hf1 : Inr f1 a b) (hl1 : Inr l1 a b) (h1 : In2 g1 a b) (hf2 : Inr f2 b c) (hl2 : Inr l2 b c) (h2 : In2 g2 b c)
  (hf : ∀ p, f p = true ↔ f1 p = true ∨ f2 p = true) (hl : ∀ p, l p = true ↔ l1 p = true ∨ l2 p = true)
  (hfo : ∀ p q, fo p q = true ↔ g1 p q = true ∨ g2 p q = true) (u : Wd) :
  Acc lb f l fo u ↔ Acc lb f1 l1 g1 u ∨ Acc lb f2 l2 g2 u := by
 constructor
 ·rintro ⟨p, q, hp, hq, h⟩
  have ht := h.two (l1 := fun _ => false) (f2 := fun _ => false) h1 h2 (fun _ h => by cases h) (fun _ h => by cases h) (fun p q => by rw [hfo]; simp)
  rcases (hf p).1 hp with hp | hp
  ·have hx := hf1 p hp
   rcases ht.1 hx.1 hx.2 with ⟨k1, k2, k3⟩ | ⟨u1, u2, m, m', rfl, k1, k2, k3, k4, k5, k6⟩
   ·rcases (hl q).1 hq with hq | hq
    ·exact .inl ⟨p, q, hp, hq, k3⟩
    ·have := hl2 q hq; omega
   ·cases k2
  ·have hx := hf2 p hp
   obtain ⟨k1, k2, k3⟩ := ht.2 hx.1 hx.2
   rcases (hl q).1 hq with hq | hq
   ·have := hl1 q hq; omega
   ·exact .inr ⟨p, q, hp, hq, k3⟩
 ·rintro (⟨p, q, hp, hq, h⟩ | ⟨p, q, hp, hq, h⟩)
  ·exact ⟨p, q, (hf p).2 (.inl hp), (hl q).2 (.inl hq), h.mono fun a b hab => (hfo a b).2 (.inl hab)⟩
  ·exact ⟨p, q, (hf p).2 (.inr hp), (hl q).2 (.inr hq), h.mono fun a b hab => (hfo a b).2 (.inr hab)⟩

/-- more and more of one -/
theorem acc_plus {lb : Nat → ByteArray} {f l : Nat → Bool} {g fo : Nat → Nat → Bool} (hfo : ∀ p q, fo p q = true ↔ g p q = true ∨ (l p = true ∧ f q = true)) (u : Wd) :
  Acc lb f l fo u ↔ Pl (Acc lb f l g) u := by
 constructor
 ·rintro ⟨p, q, hp, hq, h⟩
  have key : ∃ v m, Rn lb g p v m ∧ l m = true ∧ (u = v ∨ ∃ w, u = v ++ w ∧ Pl (Acc lb f l g) w) := by
   clear hp
   induction h with
   | one p => exact ⟨_, p, .one p, hq, .inl rfl⟩
   | cons p m u q h0 h3 ih =>
    obtain ⟨v, k, h1, h2, h4⟩ := ih hq
    rcases (hfo p m).1 h0 with h | ⟨h, h'⟩
    ·refine ⟨lb p :: v, k, .cons p m v k h h1, h2, ?_⟩
     rcases h4 with rfl | ⟨w, rfl, h4⟩
     ·exact .inl rfl
     ·exact .inr ⟨w, rfl, h4⟩
    ·refine ⟨[lb p], p, .one p, h, .inr ⟨u, rfl, ?_⟩⟩
     rcases h4 with rfl | ⟨w, rfl, h4⟩
     ·exact .one _ ⟨m, k, h', h2, h1⟩
     ·exact .cons ⟨m, k, h', h2, h1⟩ h4
  obtain ⟨v, m, h1, h2, h3⟩ := key
  rcases h3 with rfl | ⟨w, rfl, h3⟩
  ·exact .one _ ⟨p, m, hp, h2, h1⟩
  ·exact .cons ⟨p, m, hp, h2, h1⟩ h3
 ·intro h
  induction h with
  | one p h =>
   obtain ⟨a, b, h1, h2, h3⟩ := h
   exact ⟨a, b, h1, h2, h3.mono fun x y hxy => (hfo x y).2 (.inl hxy)⟩
  | snoc p q h h1 ih =>
   obtain ⟨a, b, k1, k2, k3⟩ := h1
   obtain ⟨c, d, j1, j2, j3⟩ := ih
   exact ⟨c, b, j1, k2, j3.app ((hfo _ _).2 (.inr ⟨j2, k1⟩)) (k3.mono fun x y hxy => (hfo x y).2 (.inl hxy))⟩
/-- what the empty word adds, repeated -/
theorem pl_or {P Q : Wd → Prop} {e : Prop} (hPQ : ∀ u, P u ↔ (u = [] ∧ e) ∨ Q u) (hQ : ∀ u, Q u → u ≠ []) (u : Wd) : Pl P u ↔ (u = [] ∧ e) ∨ Pl Q u := by
 constructor
 ·intro h
  induction h with
  | one p h =>
   rcases (hPQ p).1 h with h | h
   ·exact .inl h
   ·exact .inr (.one _ h)
  | snoc p q h h1 ih =>
   rcases (hPQ q).1 h1 with ⟨rfl, he⟩ | h1
   ·rw [List.append_nil]; exact ih
   ·rcases ih with ⟨rfl, he⟩ | ih
    ·exact .inr (.one _ h1)
    ·exact .inr (.snoc _ _ ih h1)
 ·rintro (⟨rfl, he⟩ | h)
  ·exact .one _ ((hPQ []).2 (.inl ⟨rfl, he⟩))
  ·induction h with
   | one p h => exact .one _ ((hPQ p).2 (.inr h))
   | snoc p q h h1 ih => exact .snoc _ _ ih ((hPQ q).2 (.inr h1))

/-- the labels of positions from a on -/
def LbAt (lb : Nat → ByteArray) (a : Nat) (l : List ByteArray) : Prop := ∀ i (h : i < l.length), lb (a + i) = l[i]
theorem LbAt.left {lb : Nat → ByteArray} {a : Nat} {l l' : List ByteArray} (h : LbAt lb a (l ++ l')) : LbAt lb a l := fun i hi => by rw [h i (by simp; omega), List.getElem_append_left hi]
theorem LbAt.right {lb : Nat → ByteArray} {a : Nat} {l l' : List ByteArray} (h : LbAt lb a (l ++ l')) : LbAt lb (a + l.length) l' := fun i hi => by
 have := h (l.length + i) (by simp; omega)
 rw [← Nat.add_assoc] at this
 rw [this, List.getElem_append_right (by omega)]
 congr 1
 omega

/-- walks tell the words -/
def Walks (x : X) : Prop := ∀ (a : Nat) (lb : Nat → ByteArray), LbAt lb a x.ps → ∀ u, x.L u ↔ (u = [] ∧ x.emp = true) ∨ Acc lb (x.fst a) (x.lst a) (x.fol a) u
theorem walksS : ∀ (ks : List X), (∀ y ∈ ks, Walks y) → ∀ (a : Nat) (lb : Nat → ByteArray), LbAt lb a (psL ks) → ∀ u, LS ks u ↔ (u = [] ∧ allE ks = true) ∨ Acc lb (fstS ks a) (lstS ks a) (folS ks a) u
 | [], h, a, lb, hlb, u => by
  rw [LS_nil, allE]
  constructor
  ·intro h; exact .inl ⟨h, rfl⟩
  ·rintro (h | ⟨p, q, h, _⟩)
   ·exact h.1
   ·rw [fstS] at h; cases h
 | x :: xs, h, a, lb, hlb, u => by
  rw [psL_cons] at hlb
  have h1 := h x (by simp) a lb hlb.left
  have h2 := walksS xs (fun y hy => h y (by simp [hy])) (a + x.pn) lb hlb.right
  rw [LS_cons, acc_seq (fst_in x a) (lst_in x a) (fol_in x a) (fstS_in xs _) (lstS_in xs _) (folS_in xs _) (e1 := x.emp) (e2 := allE xs) (fun p => by rw [fstS, Bool.or_eq_true, Bool.and_eq_true]) (fun p => by rw [lstS, Bool.or_eq_true, Bool.and_eq_true])
   (fun p q => by rw [folS, Bool.or_eq_true, Bool.or_eq_true, Bool.and_eq_true, or_assoc])]
  rw [show allE (x :: xs) = (x.emp && allE xs) by rw [allE], Bool.and_eq_true]
  constructor
  ·rintro ⟨p, q, rfl, hp, hq⟩
   rcases (h1 p).1 hp with ⟨rfl, he⟩ | hp
   ·rcases (h2 q).1 hq with ⟨rfl, he'⟩ | hq
    ·exact .inl ⟨rfl, he, he'⟩
    ·exact .inr (.inr (.inl ⟨he, by simpa using hq⟩))
   ·rcases (h2 q).1 hq with ⟨rfl, he'⟩ | hq
    ·exact .inr (.inl ⟨he', by simpa using hp⟩)
    ·exact .inr (.inr (.inr ⟨p, q, rfl, hp, hq⟩))
  ·rintro (⟨rfl, he, he'⟩ | ⟨he, hu⟩ | ⟨he, hu⟩ | ⟨p, q, rfl, hp, hq⟩)
   ·exact ⟨[], [], rfl, (h1 []).2 (.inl ⟨rfl, he⟩), (h2 []).2 (.inl ⟨rfl, he'⟩)⟩
   ·exact ⟨u, [], by simp, (h1 u).2 (.inr hu), (h2 []).2 (.inl ⟨rfl, he⟩)⟩
   ·exact ⟨[], u, by simp, (h1 []).2 (.inl ⟨rfl, he⟩), (h2 u).2 (.inr hu)⟩
   ·exact ⟨p, q, rfl, (h1 p).2 (.inr hp), (h2 q).2 (.inr hq)⟩
theorem walksA : ∀ (ks : List X), (∀ y ∈ ks, Walks y) → ∀ (a : Nat) (lb : Nat → ByteArray), LbAt lb a (psL ks) → ∀ u, LA ks u ↔ (u = [] ∧ anyE ks = true) ∨ Acc lb (fstA ks a) (lstA ks a) (folA ks a) u
 | [], h, a, lb, hlb, u => by
  rw [LA_nil, anyE]
  constructor
  ·intro h; exact h.elim
  ·rintro (h | ⟨p, q, h, _⟩)
   ·cases h.2
   ·rw [fstA] at h; cases h
 | x :: xs, h, a, lb, hlb, u => by
  rw [psL_cons] at hlb
  have h1 := h x (by simp) a lb hlb.left
  have h2 := walksA xs (fun y hy => h y (by simp [hy])) (a + x.pn) lb hlb.right
  rw [LA_cons, acc_alt (fst_in x a) (lst_in x a) (fol_in x a) (fstA_in xs _) (lstA_in xs _) (folA_in xs _) (fun p => by rw [fstA, Bool.or_eq_true]) (fun p => by rw [lstA, Bool.or_eq_true])
   (fun p q => by rw [folA, Bool.or_eq_true])]
  rw [show anyE (x :: xs) = (x.emp || anyE xs) by rw [anyE], Bool.or_eq_true, h1 u, h2 u]
  constructor
  ·rintro ((⟨h, h'⟩ | h) | (⟨h, h'⟩ | h))
   ·exact .inl ⟨h, .inl h'⟩
   ·exact .inr (.inl h)
   ·exact .inl ⟨h, .inr h'⟩
   ·exact .inr (.inr h)
  ·rintro (⟨h, h' | h'⟩ | h | h)
   ·exact .inl (.inl ⟨h, h'⟩)
   ·exact .inr (.inl ⟨h, h'⟩)
   ·exact .inl (.inr h)
   ·exact .inr (.inr h)
theorem X.emp_eq (x : X) : x.emp = if x.kind = 4 ∨ x.kind = 6 then true else if x.kind = 3 then anyE x.kids else if x.kind = 2 ∨ x.kind = 5 then allE x.kids else false := by cases x; rw [X.emp]; rfl

/-- of what is good -/
theorem walks_any : ∀ x : X, x.good → Walks x := by
 intro x
 induction x using X.ind' with
 | h x ih =>
  intro hg
  have ih' : ∀ y ∈ x.kids, Walks y := fun y hy => ih y hy (hg.kids y hy)
  have hf := hg.fit
  intro a lb hlb u
  rw [X.ps_eq] at hlb
  have e1 : x.fst a = fun p => if x.kind = 1 then decide (p = a) else if x.kind = 2 then fstS x.kids a p else fstA x.kids a p := funext fun p => X.fst_eq x a p
  have e2 : x.lst a = fun p => if x.kind = 1 then decide (p = a) else if x.kind = 2 then lstS x.kids a p else lstA x.kids a p := funext fun p => X.lst_eq x a p
  have e3 : x.fol a = fun p q => if x.kind = 1 then false else if x.kind = 2 then folS x.kids a p q else folA x.kids a p q || (decide (x.kind = 4 ∨ x.kind = 5) && (lstA x.kids a p && fstA x.kids a q)) := funext fun p => funext fun q => X.fol_eq x a p q
  rw [X.L_eq, X.emp_eq, e1, e2, e3]
  have hone : x.kind = 4 ∨ x.kind = 5 ∨ x.kind = 6 → ∃ y, x.kids = [y] := by
   intro h
   unfold X.fits fitB at hf
   rcases h with h | h | h <;> simp [h] at hf <;> exact List.length_eq_one_iff.1 hf.2
  have hpl := fun (hk : LbAt lb a (psL x.kids)) => walksA x.kids ih' a lb hk
  rcases good_kind hg with h | h | h | h
  ·simp only [h, if_true] at hlb ⊢
   simp only [show ¬((1 : Int) = 4 ∨ (1 : Int) = 6) by decide, show ¬((1 : Int) = 3) by decide, show ¬((1 : Int) = 2 ∨ (1 : Int) = 5) by decide, if_false]
   have hl0 : lb a = x.lab := by simpa using hlb 0 (by simp)
   constructor
   ·rintro rfl
    exact .inr ⟨a, a, by simp, by simp, by rw [← hl0]; exact .one a⟩
   ·rintro (⟨_, h⟩ | ⟨p, q, hp, hq, hr⟩)
    ·cases h
    ·simp at hp hq
     subst hp
     cases hr with
     | one => rw [hl0]
     | cons p m u q h0 h1 => cases h0
  ·simp only [h] at hlb ⊢
   simp only [show ¬((2 : Int) = 1) by decide, show ¬((2 : Int) = 4 ∨ (2 : Int) = 6) by decide, show ¬((2 : Int) = 3) by decide, show ((2 : Int) = 2 ∨ (2 : Int) = 5) by decide, if_false, if_true] at hlb ⊢
   exact walksS x.kids ih' a lb hlb u
  ·rcases h with h | h
   ·simp only [h] at hlb ⊢
    simp only [show ¬((3 : Int) = 1) by decide, show ¬((3 : Int) = 2) by decide, show ¬((3 : Int) = 4 ∨ (3 : Int) = 6) by decide, show ¬((3 : Int) = 4 ∨ (3 : Int) = 5) by decide, if_false, if_true, decide_false, Bool.false_and, Bool.or_false] at hlb ⊢
    exact walksA x.kids ih' a lb hlb u
   ·obtain ⟨y, hy⟩ := hone (by omega)
    simp only [h] at hlb ⊢
    simp only [show ¬((6 : Int) = 1) by decide, show ¬((6 : Int) = 2) by decide, show ¬((6 : Int) = 3) by decide, show ((6 : Int) = 4 ∨ (6 : Int) = 6) by decide, show ¬((6 : Int) = 4 ∨ (6 : Int) = 5) by decide, if_false, if_true, decide_false, Bool.false_and, Bool.or_false] at hlb ⊢
    rw [hpl hlb u]
    constructor
    ·rintro (h | ⟨h, _⟩ | h)
     ·exact .inl ⟨h, rfl⟩
     ·exact .inl ⟨h, rfl⟩
     ·exact .inr h
    ·rintro (⟨h, _⟩ | h)
     ·exact .inl h
     ·exact .inr (.inr h)
  ·rcases h with h | h
   ·simp only [h] at hlb ⊢
    simp only [show ¬((4 : Int) = 1) by decide, show ¬((4 : Int) = 2) by decide, show ¬((4 : Int) = 3) by decide, show ¬((4 : Int) = 6) by decide, show ((4 : Int) = 4 ∨ (4 : Int) = 6) by decide, show ((4 : Int) = 4 ∨ (4 : Int) = 5) by decide, if_false, if_true, decide_true, Bool.true_and] at hlb ⊢
    rw [acc_plus (g := folA x.kids a) (fun p q => by simp [Bool.or_eq_true, Bool.and_eq_true]), pl_or (hpl hlb) (fun u h => h.ne)]
    constructor
    ·rintro (h | ⟨h, _⟩ | h)
     ·exact .inl ⟨h, rfl⟩
     ·exact .inl ⟨h, rfl⟩
     ·exact .inr h
    ·rintro (⟨h, _⟩ | h)
     ·exact .inl h
     ·exact .inr (.inr h)
   ·obtain ⟨y, hy⟩ := hone (by omega)
    simp only [h] at hlb ⊢
    simp only [show ¬((5 : Int) = 1) by decide, show ¬((5 : Int) = 2) by decide, show ¬((5 : Int) = 3) by decide, show ¬((5 : Int) = 6) by decide, show ¬((5 : Int) = 4) by decide, show ¬((5 : Int) = 4 ∨ (5 : Int) = 6) by decide, show ((5 : Int) = 2 ∨ (5 : Int) = 5) by decide, show ((5 : Int) = 4 ∨ (5 : Int) = 5) by decide, if_false, if_true, decide_true, Bool.true_and] at hlb ⊢
    rw [acc_plus (g := folA x.kids a) (fun p q => by simp [Bool.or_eq_true, Bool.and_eq_true]), pl_or (hpl hlb) (fun u h => h.ne)]
    rw [show anyE x.kids = allE x.kids by rw [hy, anyE, anyE, allE, allE]; simp]
    simp only [false_or, or_true, if_true, if_false, or_self]
end Go.Proofs.YtnccgaanfjaimaaDoor

namespace Go.Proofs.YtnccgaanfjaimaaDoor
open Go.ChangeShapes Go.WideShapes Go.ChangeAt Go.RowKit
set_option linter.unusedVariables false
set_option linter.unusedSimpArgs false
/-- labels, the begin's ahead; what follows; first ones and last ones -/
structure NS where
 labs : List ByteArray
 fol : Nat → Nat
mutual
def addX : X → NS → NS × Nat × Nat
 | .mk k l ks, s => if k = 1 then (⟨s.labs ++ [l], s.fol⟩, 2 ^ s.labs.length, 2 ^ s.labs.length) else if k = 2 then addR ks s 0 0 true else
  if k = 4 ∨ k = 5 then (⟨(addA ks s 0 0).1.labs, lnk (addA ks s 0 0).1.fol (addA ks s 0 0).2.2 (addA ks s 0 0).2.1⟩, (addA ks s 0 0).2) else addA ks s 0 0
def addR : List X → NS → Nat → Nat → Bool → NS × Nat × Nat
 | [], s, F, L, _ => (s, F, L)
 | x :: xs, s, F, L, a => addR xs ⟨(addX x s).1.labs, lnk (addX x s).1.fol L (addX x s).2.1⟩ (if a then F ||| (addX x s).2.1 else F) ((if x.emp then L else 0) ||| (addX x s).2.2) (a && x.emp)
def addA : List X → NS → Nat → Nat → NS × Nat × Nat
 | [], s, F, L => (s, F, L)
 | x :: xs, s, F, L => addA xs (addX x s).1 (F ||| (addX x s).2.1) (L ||| (addX x s).2.2)
end
theorem addX_eq (x : X) (s : NS) : addX x s = if x.kind = 1 then (⟨s.labs ++ [x.lab], s.fol⟩, 2 ^ s.labs.length, 2 ^ s.labs.length) else if x.kind = 2 then addR x.kids s 0 0 true else
  if x.kind = 4 ∨ x.kind = 5 then (⟨(addA x.kids s 0 0).1.labs, lnk (addA x.kids s 0 0).1.fol (addA x.kids s 0 0).2.2 (addA x.kids s 0 0).2.1⟩, (addA x.kids s 0 0).2) else addA x.kids s 0 0 := by cases x; rw [addX]; rfl
theorem addR_nil (s : NS) (F L : Nat) (a : Bool) : addR [] s F L a = (s, F, L) := by rw [addR]
theorem addR_cons (x : X) (xs : List X) (s : NS) (F L : Nat) (a : Bool) : addR (x :: xs) s F L a = addR xs ⟨(addX x s).1.labs, lnk (addX x s).1.fol L (addX x s).2.1⟩ (if a then F ||| (addX x s).2.1 else F) ((if x.emp then L else 0) ||| (addX x s).2.2) (a && x.emp) := by rw [addR]
theorem addA_nil (s : NS) (F L : Nat) : addA [] s F L = (s, F, L) := by rw [addA]
theorem addA_cons (x : X) (xs : List X) (s : NS) (F L : Nat) : addA (x :: xs) s F L = addA xs (addX x s).1 (F ||| (addX x s).2.1) (L ||| (addX x s).2.2) := by rw [addA]

/-- what is added is what the table tells -/
def AddsX (x : X) : Prop := ∀ s : NS, (addX x s).1.labs = s.labs ++ x.ps ∧ (∀ p, (addX x s).2.1.testBit p = x.fst s.labs.length p) ∧ (∀ p, (addX x s).2.2.testBit p = x.lst s.labs.length p) ∧
 (∀ p q, ((addX x s).1.fol p).testBit q = ((s.fol p).testBit q || x.fol s.labs.length p q))
theorem addsR : ∀ (ks : List X), (∀ y ∈ ks, AddsX y) → ∀ (s : NS) (F L : Nat) (a : Bool), (addR ks s F L a).1.labs = s.labs ++ psL ks ∧ (∀ p, (addR ks s F L a).2.1.testBit p = (F.testBit p || (a && fstS ks s.labs.length p))) ∧
  (∀ p, (addR ks s F L a).2.2.testBit p = ((allE ks && L.testBit p) || lstS ks s.labs.length p)) ∧
  (∀ p q, ((addR ks s F L a).1.fol p).testBit q = ((s.fol p).testBit q || folS ks s.labs.length p q || (L.testBit p && fstS ks s.labs.length q)))
 | [], h, s, F, L, a => by
  rw [addR_nil]
  refine ⟨by rw [psL_nil, List.append_nil], fun p => by rw [fstS]; simp, fun p => by rw [lstS, allE]; simp, fun p q => by rw [folS, fstS]; simp⟩
 | x :: xs, h, s, F, L, a => by
  obtain ⟨h1, h2, h3, h4⟩ := h x (by simp) s
  obtain ⟨k1, k2, k3, k4⟩ := addsR xs (fun y hy => h y (by simp [hy])) ⟨(addX x s).1.labs, lnk (addX x s).1.fol L (addX x s).2.1⟩ (if a then F ||| (addX x s).2.1 else F) ((if x.emp then L else 0) ||| (addX x s).2.2) (a && x.emp)
  have hl : (addX x s).1.labs.length = s.labs.length + x.pn := by rw [h1, List.length_append]; rfl
  simp only [hl] at k1 k2 k3 k4
  rw [addR_cons]
  refine ⟨by rw [k1, h1, psL_cons, List.append_assoc], fun p => ?_, fun p => ?_, fun p q => ?_⟩
  ·rw [k2, fstS]
   cases a <;> simp [Nat.testBit_or, h2, Bool.or_assoc]
  ·rw [k3, lstS, Nat.testBit_or, h3, show allE (x :: xs) = (x.emp && allE xs) by rw [allE]]
   cases x.emp <;> cases allE xs <;> simp [Bool.or_assoc]
  ·have hL : (if x.emp = true then L else 0).testBit p = (x.emp && L.testBit p) := by cases x.emp <;> simp
   rw [k4, lnk_bit, h4, h2, Nat.testBit_or, h3, folS, fstS, hL]
   cases x.emp <;> cases (s.fol p).testBit q <;> cases x.fol s.labs.length p q <;> cases L.testBit p <;> cases folS xs (s.labs.length + x.pn) p q <;> cases x.lst s.labs.length p <;> cases fstS xs (s.labs.length + x.pn) q <;> cases x.fst s.labs.length q <;> rfl
theorem addsA : ∀ (ks : List X), (∀ y ∈ ks, AddsX y) → ∀ (s : NS) (F L : Nat), (addA ks s F L).1.labs = s.labs ++ psL ks ∧ (∀ p, (addA ks s F L).2.1.testBit p = (F.testBit p || fstA ks s.labs.length p)) ∧
  (∀ p, (addA ks s F L).2.2.testBit p = (L.testBit p || lstA ks s.labs.length p)) ∧
  (∀ p q, ((addA ks s F L).1.fol p).testBit q = ((s.fol p).testBit q || folA ks s.labs.length p q))
 | [], h, s, F, L => by
  rw [addA_nil]
  refine ⟨by rw [psL_nil, List.append_nil], fun p => by rw [fstA]; simp, fun p => by rw [lstA]; simp, fun p q => by rw [folA]; simp⟩
 | x :: xs, h, s, F, L => by
  obtain ⟨h1, h2, h3, h4⟩ := h x (by simp) s
  obtain ⟨k1, k2, k3, k4⟩ := addsA xs (fun y hy => h y (by simp [hy])) (addX x s).1 (F ||| (addX x s).2.1) (L ||| (addX x s).2.2)
  have hl : (addX x s).1.labs.length = s.labs.length + x.pn := by rw [h1, List.length_append]; rfl
  simp only [hl] at k1 k2 k3 k4
  rw [addA_cons]
  refine ⟨by rw [k1, h1, psL_cons, List.append_assoc], fun p => by rw [k2, fstA, Nat.testBit_or, h2, Bool.or_assoc], fun p => by rw [k3, lstA, Nat.testBit_or, h3, Bool.or_assoc], fun p q => by rw [k4, folA, h4, Bool.or_assoc]⟩
theorem adds_any : ∀ x : X, AddsX x := by
 intro x
 induction x using X.ind' with
 | h x ih =>
  intro s
  rw [addX_eq, X.ps_eq]
  have e1 : ∀ p, x.fst s.labs.length p = if x.kind = 1 then decide (p = s.labs.length) else if x.kind = 2 then fstS x.kids s.labs.length p else fstA x.kids s.labs.length p := fun p => X.fst_eq x _ p
  have e2 : ∀ p, x.lst s.labs.length p = if x.kind = 1 then decide (p = s.labs.length) else if x.kind = 2 then lstS x.kids s.labs.length p else lstA x.kids s.labs.length p := fun p => X.lst_eq x _ p
  have e3 := fun p q => X.fol_eq x s.labs.length p q
  by_cases k1 : x.kind = 1
  ·simp only [k1, if_true] at e1 e2 e3 ⊢
   refine ⟨trivial, fun p => ?_, fun p => ?_, fun p q => by rw [e3, Bool.or_false]⟩
   ·rw [e1, Nat.testBit_two_pow]; exact decide_eq_decide.2 ⟨Eq.symm, Eq.symm⟩
   ·rw [e2, Nat.testBit_two_pow]; exact decide_eq_decide.2 ⟨Eq.symm, Eq.symm⟩
  ·by_cases k2 : x.kind = 2
   ·obtain ⟨a1, a2, a3, a4⟩ := addsR x.kids ih s 0 0 true
    simp only [k1, k2, if_true, if_false] at e1 e2 e3 ⊢
    simp only [show ¬((2 : Int) = 1) by decide, if_false] at e1 e2 e3 ⊢
    exact ⟨a1, fun p => by rw [a2, e1]; simp, fun p => by rw [a3, e2]; simp, fun p q => by rw [a4, e3]; simp⟩
   ·obtain ⟨a1, a2, a3, a4⟩ := addsA x.kids ih s 0 0
    simp only [k1, k2, if_false] at e1 e2 e3 ⊢
    have a2' : ∀ p, (addA x.kids s 0 0).2.1.testBit p = fstA x.kids s.labs.length p := fun p => by rw [a2]; simp
    have a3' : ∀ p, (addA x.kids s 0 0).2.2.testBit p = lstA x.kids s.labs.length p := fun p => by rw [a3]; simp
    by_cases k4 : x.kind = 4 ∨ x.kind = 5
    ·simp only [k4, if_true, decide_true, Bool.true_and] at e3 ⊢
     exact ⟨a1, fun p => by rw [a2', e1], fun p => by rw [a3', e2], fun p q => by rw [lnk_bit, a4, e3, a2', a3', Bool.or_assoc]⟩
    ·simp only [k4, if_false, decide_false, Bool.false_and, Bool.or_false] at e3 ⊢
     exact ⟨a1, fun p => by rw [a2', e1], fun p => by rw [a3', e2], fun p q => by rw [a4, e3]⟩

/-- the sets stay small -/
def Bd (s : NS) : Prop := ∀ p, s.fol p < 2 ^ s.labs.length
theorem addX_bd (x : X) {s : NS} (h : Bd s) : Bd (addX x s).1 ∧ (addX x s).2.1 < 2 ^ (addX x s).1.labs.length ∧ (addX x s).2.2 < 2 ^ (addX x s).1.labs.length ∧ (addX x s).1.labs.length = s.labs.length + x.pn := by
 obtain ⟨h1, h2, h3, h4⟩ := adds_any x s
 have hl : (addX x s).1.labs.length = s.labs.length + x.pn := by rw [h1, List.length_append]; rfl
 rw [Bd, hl]
 refine ⟨fun p => lt_of_bits fun i hi => ?_, lt_of_bits fun i hi => ?_, lt_of_bits fun i hi => ?_, rfl⟩
 ·rw [h4, bit_false (h p) (by omega), Bool.false_or]
  cases hf : x.fol s.labs.length p i with
  | false => rfl
  | true => have := fol_in x _ p i hf; omega
 ·rw [h2]
  cases hf : x.fst s.labs.length i with
  | false => rfl
  | true => have := fst_in x _ i hf; omega
 ·rw [h3]
  cases hf : x.lst s.labs.length i with
  | false => rfl
  | true => have := lst_in x _ i hf; omega

/-- the whole: what New makes -/
def nf (x : X) : NS × Nat × Nat := addX x ⟨[⟨#[]⟩], fun _ => 0⟩
def nfF (x : X) : Nat → Nat := lnk (nf x).1.fol 1 (nf x).2.1
def nfL (x : X) : Nat := (nf x).2.2
theorem nf_labs (x : X) : (nf x).1.labs = ⟨#[]⟩ :: x.ps := (adds_any x _).1
theorem nfF_zero (x : X) (q : Nat) : (nfF x 0).testBit q = x.fst 1 q := by
 obtain ⟨h1, h2, h3, h4⟩ := adds_any x ⟨[⟨#[]⟩], fun _ => 0⟩
 unfold nfF nf
 rw [lnk_bit, h4, h2]
 simp only [Nat.zero_testBit, Bool.false_or, List.length_singleton]
 cases hf : x.fol 1 0 q with
 | false => simp
 | true => have := fol_in x 1 0 q hf; omega
theorem nfF_pos (x : X) {p : Nat} (hp : 0 < p) (q : Nat) : (nfF x p).testBit q = x.fol 1 p q := by
 obtain ⟨h1, h2, h3, h4⟩ := adds_any x ⟨[⟨#[]⟩], fun _ => 0⟩
 unfold nfF nf
 rw [lnk_bit, h4]
 simp only [Nat.zero_testBit, Bool.false_or, List.length_singleton]
 have : Nat.testBit 1 p = false := by
  rw [show (1 : Nat) = 2 ^ 0 by rfl, Nat.testBit_two_pow]; simp; omega
 rw [this]
 simp
theorem nfL_bit (x : X) (q : Nat) : (nfL x).testBit q = x.lst 1 q := (adds_any x ⟨[⟨#[]⟩], fun _ => 0⟩).2.2.1 q
theorem nf_bd (x : X) : (∀ p, nfF x p < 2 ^ (1 + x.pn)) ∧ nfL x < 2 ^ (1 + x.pn) := by
 obtain ⟨h1, h2, h3, h4⟩ := addX_bd x (s := ⟨[⟨#[]⟩], fun _ => 0⟩) (fun p => by simp)
 rw [Bd] at h1
 rw [h4] at h1 h2 h3
 exact ⟨fun p => lnk_lt h1 h2 p, h3⟩
/-- there are fewer positions than parts -/
theorem pn_sz : ∀ x : X, x.pn ≤ x.sz := by
 intro x
 induction x using X.ind' with
 | h x ih =>
  have hL : ∀ ks : List X, (∀ y ∈ ks, y.pn ≤ y.sz) → pnL ks ≤ szL ks := by
   intro ks
   induction ks with
   | nil => intro _; rw [pnL_nil]; omega
   | cons y ys ihy => intro h; rw [pnL_cons, szL_cons]; have := h y (by simp); have := ihy (fun z hz => h z (by simp [hz])); omega
  rw [X.pn_eq, X.sz_eq]
  have := hL x.kids ih
  split <;> omega
theorem pn_szL (ks : List X) : pnL ks ≤ szL ks := by
 induction ks with
 | nil => rw [pnL_nil]; omega
 | cons y ys ih => rw [pnL_cons, szL_cons]; have := pn_sz y; omega

/-- a step: where a label leads to from some places -/
def behN (fo : Nat → Nat) (fr : Nat) : Nat := orL ((els fr).map fo)
def toN (labs : List ByteArray) (b : Nat) (l : ByteArray) : Nat := orL (((els b).filter fun p => decide (labs[p]?.getD ⟨#[]⟩ = l)).map (2 ^ ·))
def stepN (labs : List ByteArray) (fo : Nat → Nat) (fr : Nat) (l : ByteArray) : Nat := toN labs (behN fo fr) l
theorem behN_bit (fo : Nat → Nat) (fr q : Nat) (h : fr < 2 ^ 32) : (behN fo fr).testBit q = true ↔ ∃ p, fr.testBit p = true ∧ (fo p).testBit q = true := by
 unfold behN
 rw [orL_bit, List.any_map, List.any_eq_true]
 constructor
 ·rintro ⟨p, hp, hq⟩; exact ⟨p, (mem_els.1 hp).2, hq⟩
 ·rintro ⟨p, hp, hq⟩
  refine ⟨p, mem_els.2 ⟨Nat.lt_of_not_le fun hge => ?_, hp⟩, hq⟩
  rw [bit_false h hge] at hp; cases hp
theorem behN_lt {fo : Nat → Nat} {n : Nat} (h : ∀ p, fo p < 2 ^ n) (fr : Nat) : behN fo fr < 2 ^ n := orL_lt fun s hs => by
 obtain ⟨p, _, rfl⟩ := List.mem_map.1 hs
 exact h p
theorem toN_bit (labs : List ByteArray) (b : Nat) (l : ByteArray) (q : Nat) (h : b < 2 ^ 32) : (toN labs b l).testBit q = true ↔ b.testBit q = true ∧ labs[q]?.getD ⟨#[]⟩ = l := by
 unfold toN
 rw [orL_bit, List.any_map, List.any_eq_true]
 simp only [List.mem_filter, decide_eq_true_eq, Function.comp, Nat.testBit_two_pow]
 constructor
 ·rintro ⟨p, ⟨hp, hl⟩, rfl⟩; exact ⟨(mem_els.1 hp).2, hl⟩
 ·rintro ⟨hq, hl⟩
  refine ⟨q, ⟨mem_els.2 ⟨Nat.lt_of_not_le fun hge => ?_, hq⟩, hl⟩, rfl⟩
  rw [bit_false h hge] at hq; cases hq
theorem toN_lt (labs : List ByteArray) {b n : Nat} (h : b < 2 ^ n) (l : ByteArray) : toN labs b l < 2 ^ n := orL_lt fun s hs => by
 obtain ⟨p, hp, rfl⟩ := List.mem_map.1 hs
 have := (mem_els.1 (List.mem_filter.1 hp).1).2
 refine Nat.pow_lt_pow_right (by decide) (Nat.lt_of_not_le fun hge => ?_)
 rw [bit_false h hge] at this; cases this
theorem stepN_bit {labs : List ByteArray} {fo : Nat → Nat} {fr : Nat} {l : ByteArray} {n : Nat} (hn : n ≤ 32) (hf : ∀ p, fo p < 2 ^ n) (hr : fr < 2 ^ 32) (q : Nat) : (stepN labs fo fr l).testBit q = true ↔ (∃ p, fr.testBit p = true ∧ (fo p).testBit q = true) ∧ labs[q]?.getD ⟨#[]⟩ = l := by
 unfold stepN
 rw [toN_bit _ _ _ _ (Nat.lt_of_lt_of_le (behN_lt hf fr) (Nat.pow_le_pow_right (by decide) hn)), behN_bit _ _ _ hr]
theorem stepN_lt (labs : List ByteArray) {fo : Nat → Nat} {n : Nat} (hf : ∀ p, fo p < 2 ^ n) (fr : Nat) (l : ByteArray) : stepN labs fo fr l < 2 ^ n := toN_lt _ (behN_lt hf fr) l
/-- many steps -/
def stepsN (labs : List ByteArray) (fo : Nat → Nat) (fr : Nat) (u : Wd) : Nat := u.foldl (stepN labs fo) fr
theorem stepsN_lt (labs : List ByteArray) {fo : Nat → Nat} {n : Nat} (hf : ∀ p, fo p < 2 ^ n) : ∀ (u : Wd) (fr : Nat), fr < 2 ^ n → stepsN labs fo fr u < 2 ^ n
 | [], fr, h => h
 | l :: u, fr, h => stepsN_lt labs hf u _ (stepN_lt labs hf fr l)
theorem stepsN_snoc (labs : List ByteArray) (fo : Nat → Nat) (fr : Nat) (u : Wd) (l : ByteArray) : stepsN labs fo fr (u ++ [l]) = stepN labs fo (stepsN labs fo fr u) l := by simp [stepsN]
theorem stepsN_bit {labs : List ByteArray} {fo : Nat → Nat} {n : Nat} (hn : n ≤ 32) (hf : ∀ p, fo p < 2 ^ n) : ∀ (u : Wd), u ≠ [] → ∀ (fr : Nat), fr < 2 ^ n → ∀ q, (stepsN labs fo fr u).testBit q = true ↔ ∃ p m, fr.testBit p = true ∧ (fo p).testBit m = true ∧ Rn (fun i => labs[i]?.getD ⟨#[]⟩) (fun a b => (fo a).testBit b) m u q
 | [], h, _, _, _ => absurd rfl h
 | [l], _, fr, hr, q => by
  have hr' : fr < 2 ^ 32 := Nat.lt_of_lt_of_le hr (Nat.pow_le_pow_right (by decide) hn)
  show (stepN labs fo fr l).testBit q = true ↔ _
  rw [stepN_bit hn hf hr']
  constructor
  ·rintro ⟨⟨p, hp, hq⟩, hl⟩
   exact ⟨p, q, hp, hq, by rw [← hl]; exact .one q⟩
  ·rintro ⟨p, m, hp, hm, hr⟩
   generalize hu : [l] = u at hr
   cases hr with
   | one => injection hu with hu _; exact ⟨⟨p, hp, hm⟩, hu.symm⟩
   | cons m m' u' q h h1 => injection hu with _ hu; exact absurd hu.symm h1.ne
 | l :: l' :: u, _, fr, hr, q => by
  have hr' : fr < 2 ^ 32 := Nat.lt_of_lt_of_le hr (Nat.pow_le_pow_right (by decide) hn)
  have ih := stepsN_bit (labs := labs) hn hf (l' :: u) (by simp) (stepN labs fo fr l) (stepN_lt labs hf fr l) q
  show (stepsN labs fo (stepN labs fo fr l) (l' :: u)).testBit q = true ↔ _
  rw [ih]
  constructor
  ·rintro ⟨p, m, hp, hm, hr⟩
   obtain ⟨⟨p0, h0, h1⟩, hl⟩ := (stepN_bit hn hf hr' p).1 hp
   exact ⟨p0, p, h0, h1, by rw [← hl]; exact .cons p m _ q hm hr⟩
  ·rintro ⟨p, m, hp, hm, hr⟩
   generalize hu : l :: l' :: u = w at hr
   cases hr with
   | one => injection hu with _ hu; cases hu
   | cons m m' u' q h h1 =>
    injection hu with hl hu
    subst hu
    exact ⟨m, m', (stepN_bit hn hf hr' m).2 ⟨⟨p, hp, hm⟩, hl.symm⟩, h, h1⟩

/-- is a word taken? -/
def takesN (x : X) (u : Wd) : Bool := if u = [] then x.emp else decide (stepsN (nf x).1.labs (nfF x) 1 u &&& nfL x ≠ 0)
theorem and_ne_zero (a b : Nat) : a &&& b ≠ 0 ↔ ∃ q, a.testBit q = true ∧ b.testBit q = true := by
 constructor
 ·intro h
  refine Classical.byContradiction fun hn => h (Nat.eq_of_testBit_eq fun i => ?_)
  rw [Nat.testBit_and, Nat.zero_testBit]
  cases ha : a.testBit i with
  | false => rfl
  | true =>
   cases hb : b.testBit i with
   | false => rfl
   | true => exact absurd ⟨i, ha, hb⟩ hn
 ·rintro ⟨q, ha, hb⟩ h
  have : (a &&& b).testBit q = true := by rw [Nat.testBit_and, ha, hb]; rfl
  rw [h, Nat.zero_testBit] at this
  cases this
theorem one_bit (p : Nat) : Nat.testBit 1 p = true ↔ p = 0 := by
 rw [show (1 : Nat) = 2 ^ 0 by rfl, Nat.testBit_two_pow]; simp; exact eq_comm
theorem lbAt_nf (x : X) : LbAt (fun i => (nf x).1.labs[i]?.getD ⟨#[]⟩) 1 x.ps := fun i hi => by
 show (nf x).1.labs[1 + i]?.getD ⟨#[]⟩ = _
 rw [nf_labs, Nat.add_comm, List.getElem?_cons_succ, List.getElem?_eq_getElem hi]
 rfl
/-- words that end at a last one -/
theorem ends_iff {x : X} (hg : x.good) (hsz : x.sz ≤ 24) {u : Wd} (hu : u ≠ []) : (∃ q, (stepsN (nf x).1.labs (nfF x) 1 u).testBit q = true ∧ (nfL x).testBit q = true) ↔ x.L u := by
 have hp := pn_sz x
 have hb := nf_bd x
 rw [walks_any x hg 1 _ (lbAt_nf x) u]
 have hs := fun q => stepsN_bit (labs := (nf x).1.labs) (n := 1 + x.pn) (by omega) hb.1 u hu 1 (Nat.one_lt_two_pow (by omega)) q
 have hrn : ∀ {m q : Nat}, 0 < m → (Rn (fun i => (nf x).1.labs[i]?.getD ⟨#[]⟩) (fun a b => (nfF x a).testBit b) m u q ↔ Rn (fun i => (nf x).1.labs[i]?.getD ⟨#[]⟩) (x.fol 1) m u q) := by
  intro m q hm
  constructor
  ·intro h
   induction h with
   | one p => exact .one p
   | cons p m u r h h1 ih =>
    rw [nfF_pos x hm] at h
    have := fol_in x 1 p m h
    by_cases hu' : u = []
    ·subst hu'; exact absurd rfl h1.ne
    ·refine .cons p m u r h (ih hu' ?_ ?_)
     ·exact fun q => stepsN_bit (labs := (nf x).1.labs) (n := 1 + x.pn) (by omega) hb.1 u hu' 1 (Nat.one_lt_two_pow (by omega)) q
     ·omega
  ·intro h
   induction h with
   | one p => exact .one p
   | cons p m u r h h1 ih =>
    have hx := fol_in x 1 p m h
    by_cases hu' : u = []
    ·subst hu'; exact absurd rfl h1.ne
    ·refine .cons p m u r (by rw [nfF_pos x hm]; exact h) (ih hu' ?_ ?_)
     ·exact fun q => stepsN_bit (labs := (nf x).1.labs) (n := 1 + x.pn) (by omega) hb.1 u hu' 1 (Nat.one_lt_two_pow (by omega)) q
     ·omega
 constructor
 ·rintro ⟨q, hq, hl⟩
  obtain ⟨p, m, h1, h2, h3⟩ := (hs q).1 hq
  obtain rfl := (one_bit p).1 h1
  rw [nfF_zero] at h2
  have := fst_in x 1 m h2
  exact .inr ⟨m, q, h2, by rw [← nfL_bit]; exact hl, (hrn (by omega)).1 h3⟩
 ·rintro (⟨h, _⟩ | ⟨m, q, hm, hq, h⟩)
  ·exact absurd h hu
  ·have := fst_in x 1 m hm
   exact ⟨q, (hs q).2 ⟨0, m, (one_bit 0).2 rfl, by rw [nfF_zero]; exact hm, (hrn (by omega)).2 h⟩, by rw [nfL_bit]; exact hq⟩
theorem takesN_iff {x : X} (hg : x.good) (hsz : x.sz ≤ 24) (u : Wd) : takesN x u = true ↔ x.L u := by
 unfold takesN
 by_cases hu : u = []
 ·subst hu
  rw [if_pos rfl]
  exact emp_iff x hg
 ·rw [if_neg hu, decide_eq_true_eq, and_ne_zero]
  exact ends_iff hg hsz hu

/-- some begin, some end -/
theorem fst_some : ∀ x : X, x.good → ∀ a, (∃ p, x.fst a p = true) ∧ ∃ p, x.lst a p = true := by
 intro x
 induction x using X.ind' with
 | h x ih =>
  intro hg a
  have ih' : ∀ y ∈ x.kids, ∀ a, (∃ p, y.fst a p = true) ∧ ∃ p, y.lst a p = true := fun y hy => ih y hy (hg.kids y hy)
  have hne : x.kind ≠ 1 → x.kids ≠ [] := by
   intro h1 hk
   have hf := hg.fit
   unfold X.fits fitB at hf
   rw [if_neg h1] at hf
   split at hf
   ·rw [hk] at hf; simp at hf
   ·split at hf
    ·rw [hk] at hf; simp at hf
    ·cases hf
  by_cases k1 : x.kind = 1
  ·exact ⟨⟨a, by rw [X.fst_eq, if_pos k1]; simp⟩, a, by rw [X.lst_eq, if_pos k1]; simp⟩
  ·have hn := hne k1
   generalize x.kids = ks at hn ih'
   have hS : ∀ ks : List X, ks ≠ [] → (∀ y ∈ ks, ∀ a, (∃ p, y.fst a p = true) ∧ ∃ p, y.lst a p = true) → ∀ a, (∃ p, fstS ks a p = true) ∧ (∃ p, lstS ks a p = true) ∧ (∃ p, fstA ks a p = true) ∧ ∃ p, lstA ks a p = true := by
    intro ks
    induction ks with
    | nil => intro h; exact absurd rfl h
    | cons y ys ihy =>
     intro _ h a
     obtain ⟨⟨p, hp⟩, q, hq⟩ := h y (by simp) a
     refine ⟨⟨p, by rw [fstS, hp]; rfl⟩, ?_, ⟨p, by rw [fstA, hp]; rfl⟩, q, by rw [lstA, hq]; rfl⟩
     by_cases h0 : ys = []
     ·subst h0; exact ⟨q, by rw [lstS, allE, hq]; rfl⟩
     ·obtain ⟨_, ⟨r, hr⟩, _⟩ := ihy h0 (fun z hz => h z (by simp [hz])) (a + y.pn)
      exact ⟨r, by rw [lstS, hr, Bool.or_true]⟩
   obtain ⟨h1, h2, h3, h4⟩ := hS x.kids (hne k1) (fun y hy => ih y hy (hg.kids y hy)) a
   by_cases k2 : x.kind = 2
   ·obtain ⟨p, hp⟩ := h1
    obtain ⟨q, hq⟩ := h2
    exact ⟨⟨p, by rw [X.fst_eq, if_neg k1, if_pos k2]; exact hp⟩, q, by rw [X.lst_eq, if_neg k1, if_pos k2]; exact hq⟩
   ·obtain ⟨p, hp⟩ := h3
    obtain ⟨q, hq⟩ := h4
    exact ⟨⟨p, by rw [X.fst_eq, if_neg k1, if_neg k2]; exact hp⟩, q, by rw [X.lst_eq, if_neg k1, if_neg k2]; exact hq⟩
end Go.Proofs.YtnccgaanfjaimaaDoor

namespace Go.Proofs.YtnccgaanfjaimaaDoor
open Go.ChangeShapes Go.WideShapes Go.ChangeAt Go.RowKit
set_option linter.unusedVariables false
set_option linter.unusedSimpArgs false

attribute [local go_sem] Oper.semAt_some

/-- what lies in an Nfa's block -/
def nfC (sv lv : Value) (fo : Nat → Nat) (la : Nat) (em : Bool) : List Value := sv :: lv :: ((List.range 25).map (fun p => Value.int .u32 (fo p : Int)) ++ [.int .u32 (la : Int), .bool em])
theorem nfC_len (sv lv : Value) (fo : Nat → Nat) (la : Nat) (em : Bool) : (nfC sv lv fo la em).length = 29 := by simp [nfC]
theorem nfC_fol (sv lv : Value) (fo : Nat → Nat) (la : Nat) (em : Bool) {p : Nat} (hp : p < 25) : (nfC sv lv fo la em)[2 + p]? = some (.int .u32 (fo p)) := by
 rw [nfC, Nat.add_comm, List.getElem?_cons_succ, List.getElem?_cons_succ, List.getElem?_append_left (by simpa using hp)]
 simp [hp]
theorem nfC_set (sv lv : Value) (fo fo' : Nat → Nat) (la : Nat) (em : Bool) {p : Nat} (hp : p < 25) (h : ∀ q, q ≠ p → fo' q = fo q) : (nfC sv lv fo la em).set (2 + p) (.int .u32 (fo' p)) = nfC sv lv fo' la em := by
 apply List.ext_getElem?
 intro i
 by_cases hi : i = 2 + p
 ·subst hi
  rw [List.getElem?_set_self (by rw [nfC_len]; omega), nfC_fol _ _ _ _ _ hp]
 ·rw [List.getElem?_set_ne (by omega)]
  unfold nfC
  rcases i with _ | _ | i
  ·rfl
  ·rfl
  ·rw [List.getElem?_cons_succ, List.getElem?_cons_succ, List.getElem?_cons_succ, List.getElem?_cons_succ]
   by_cases h25 : i < 25
   ·rw [List.getElem?_append_left (by simpa using h25), List.getElem?_append_left (by simpa using h25)]
    simp [h25]
    rw [h i (by omega)]
   ·rw [List.getElem?_append_right (by simpa using h25), List.getElem?_append_right (by simpa using h25)]
    simp

structure NfB (w : World) (B N : Nat) (sv lv : Value) (s : NS) (la : Nat) (em : Bool) : Prop where
 blk : w.heap[N]? = some (.cells (nfC sv lv s.fol la em).toArray 72 (0, 0))
 row : w.ownsRow B 9 1 lv s.labs.length (s.labs.map Value.string)
 low : B ≤ N
 pos : 0 < B
/-- what is below B, and what is no Nfa's and no row of texts, lies as it lay -/
structure Kn (B : Nat) (X Y : World) : Prop where
 os : Y.os = X.os
 tape : Y.tape = X.tape
 output : Y.output = X.output
 size : X.heap.size ≤ Y.heap.size
 low : ∀ k, k < B → Y.heap[k]? = X.heap[k]?
 cells : ∀ (k : Nat) (v : Array Value) (t : TypeId) (fr : Nat × Nat), X.heap[k]? = some (.cells v t fr) → t ≠ 72 → t ≠ 9 → t ≠ 122 → Y.heap[k]? = some (.cells v t fr)
theorem Kn.refl (B : Nat) (X : World) : Kn B X X := ⟨rfl, rfl, rfl, Nat.le_refl _, fun _ _ => rfl, fun _ _ _ _ h _ _ _ => h⟩
theorem Kn.trans {B : Nat} {X Y Z : World} (h : Kn B X Y) (k : Kn B Y Z) : Kn B X Z := ⟨k.os.trans h.os, k.tape.trans h.tape, k.output.trans h.output, Nat.le_trans h.size k.size, fun i hi => (k.low i hi).trans (h.low i hi), fun i v t fr hi h1 h2 h3 => k.cells i v t fr (h.cells i v t fr hi h1 h2 h3) h1 h2 h3⟩
theorem Kn.of_below {B : Nat} {X Y : World} (h : Below X.heap.size X Y) (hB : B ≤ X.heap.size) : Kn B X Y := ⟨h.os, h.tape, h.output, h.size, fun k hk => h.block k (by omega), fun k v t fr hk _ _ _ => (h.block k (Array.getElem?_eq_some_iff.1 hk).1).trans hk⟩
theorem Kn.below {B : Nat} {X Y : World} (h : Kn B X Y) : Below B X Y := ⟨h.os, h.tape, h.output, h.size, h.low⟩
theorem Kn.boxed {B A : Nat} {X Y : World} {t : TypeId} {v : Value} (h : Kn B X Y) (hb : Boxed X A t v) (h1 : t ≠ 72) (h2 : t ≠ 9) (h3 : t ≠ 122) : Boxed Y A t v := h.cells _ _ _ _ hb h1 h2 h3
theorem NfB.lt {w : World} {B N : Nat} {sv lv : Value} {s : NS} {la : Nat} {em : Bool} (h : NfB w B N sv lv s la em) : N < w.heap.size := (Array.getElem?_eq_some_iff.1 h.blk).1
theorem NfB.bel {w w' : World} {B N : Nat} {sv lv : Value} {s : NS} {la : Nat} {em : Bool} (h : NfB w B N sv lv s la em) (hb : Below w.heap.size w w') : NfB w' B N sv lv s la em :=
 ⟨(hb.block _ h.lt).trans h.blk, own_bel h.row hb, h.low, h.pos⟩
theorem NfB.rel {w w' : World} {B C N : Nat} {sv lv : Value} {s : NS} {la : Nat} {em : Bool} (h : NfB w B N sv lv s la em) (hr : Rel C w w') : NfB w' B N sv lv s la em :=
 ⟨hr.cells h.blk (by decide), hr.row h.row (by decide), h.low, h.pos⟩
theorem heap_set {W : World} {N k : Nat} {l : List Value} {t : TypeId} {fr : Nat × Nat} (h : W.heap[N]? = some (.cells l.toArray t fr)) (v : Value) : (W.setCell ⟨N, k, none⟩ v).heap[N]? = some (.cells (l.set k v).toArray t fr) := by
 simp [World.setCell, Array.getElem?_modify, h]
theorem NfB.fol {w : World} {B N : Nat} {sv lv : Value} {s : NS} {la : Nat} {em : Bool} (h : NfB w B N sv lv s la em) {p : Nat} (hp : p < 25) : w.cell? ⟨N, 2 + p, none⟩ = some (.int .u32 (s.fol p)) := by
 rw [cell_of_row _ _ _ _ _ _ h.blk, List.getElem?_toArray]
 exact nfC_fol _ _ _ _ _ hp
theorem NfB.frz {w : World} {B N : Nat} {sv lv : Value} {s : NS} {la : Nat} {em : Bool} (h : NfB w B N sv lv s la em) (k : Nat) : w.frozen? ⟨N, k, none⟩ = false := by simp [World.frozen?, h.blk]
theorem NfB.set {w : World} {B N : Nat} {sv lv : Value} {s : NS} {la : Nat} {em : Bool} (h : NfB w B N sv lv s la em) {p : Nat} (hp : p < 25) (fo' : Nat → Nat) (ho : ∀ q, q ≠ p → fo' q = s.fol q) :
  NfB (w.setCell ⟨N, 2 + p, none⟩ (.int .u32 (fo' p))) B N sv lv ⟨s.labs, fo'⟩ la em := by
 refine ⟨?_, ownsRow_setCell_other h.row (a := ⟨N, 2 + p, none⟩) (fun e => ?_) _, h.low, h.pos⟩
 ·rw [heap_set h.blk, nfC_set _ _ _ _ _ _ hp ho]
 ·rcases h.row.2 with ⟨he, _⟩ | ⟨g, cap, cur, he, _, hgg, _⟩
  ·rw [he] at e; cases e
  ·rw [he] at e
   injection e with e
   subst e
   rw [h.blk] at hgg
   injection hgg with hgg
   injection hgg with _ hgg _
   cases hgg
theorem Kn.set {w : World} {B N k : Nat} {a : Array Value} {t : TypeId} {fr : Nat × Nat} (h : w.heap[N]? = some (.cells a t fr)) (ht : t = 72 ∨ t = 9) (hB : B ≤ N) (v : Value) : Kn B w (w.setCell ⟨N, k, none⟩ v) := by
 refine ⟨rfl, rfl, rfl, by simp, fun j hj => Below.heap_setCell _ _ _ _ (by show j ≠ N; omega), fun j v' t' fr' hj h1 h2 _ => (Below.heap_setCell _ _ _ _ (fun e => ?_)).trans hj⟩
 obtain rfl : j = N := e
 rw [h] at hj
 injection hj with hj
 injection hj with _ hj _
 subst hj
 rcases ht with ht | ht
 ·exact h1 ht
 ·exact h2 ht

/-- some of a row are followed by others -/
def lnkL (fo : Nat → Nat) (l : List Nat) (tt : Nat) : Nat → Nat := fun p => if p ∈ l then fo p ||| tt else fo p
theorem lnkL_nil (fo : Nat → Nat) (tt : Nat) : lnkL fo [] tt = fo := by funext p; simp [lnkL]
theorem lnkL_snoc (fo : Nat → Nat) (l : List Nat) (p tt : Nat) : lnkL fo (l ++ [p]) tt p = lnkL fo l tt p ||| tt := by
 unfold lnkL
 rw [if_pos (by simp)]
 split
 ·rw [Nat.or_assoc, Nat.or_self]
 ·rfl
theorem lnkL_other (fo : Nat → Nat) (l : List Nat) (p tt q : Nat) (h : q ≠ p) : lnkL fo (l ++ [p]) tt q = lnkL fo l tt q := by
 unfold lnkL
 simp [h]
theorem lnkL_els (fo : Nat → Nat) {fr : Nat} (h : fr < 2 ^ 32) (tt : Nat) : lnkL fo (els fr) tt = lnk fo fr tt := by
 funext p
 unfold lnkL lnk
 by_cases hp : fr.testBit p = true
 ·rw [if_pos hp, if_pos]
  exact mem_els.2 ⟨Nat.lt_of_not_le fun hge => (by rw [bit_false h hge] at hp; cases hp), hp⟩
 ·rw [if_neg hp, if_neg]
  exact fun hm => hp (mem_els.1 hm).2
theorem lnkL_lt {fo : Nat → Nat} {l : List Nat} {tt : Nat} (h : ∀ p, fo p < 2 ^ 32) (ht : tt < 2 ^ 32) (p : Nat) : lnkL fo l tt p < 2 ^ 32 := by
 unfold lnkL
 split
 ·exact Nat.or_lt_two_pow (h p) ht
 ·exact h p

set_option maxRecDepth 100000 in
set_option maxHeartbeats 4000000 in
theorem link_any {w : World} {B N : Nat} {sv lv : Value} {s : NS} {la : Nat} {em : Bool} (h : NfB w B N sv lv s la em) (hT : Tb w) (hBw : B ≤ w.heap.size) {fr tt : Nat} (hfr : fr < 2 ^ 25) (hto : tt < 2 ^ 32) (hfo : ∀ p, s.fol p < 2 ^ 32) :
  Calls Tryd.prog 44 #[.pointer (some ⟨N, 0, none⟩), .int .u32 fr, .int .u32 tt] w fun e w' => e = .returned (.tuple #[]) ∧ NfB w' B N sv lv ⟨s.labs, lnk s.fol fr tt⟩ la em ∧ Kn B w w' := by
 refine (callsIn_wide (n := 12)).1 ?_
 refine callsIn_of_wp_marks Tryd.func44 rfl trivial ?_ rfl
 simp only [Tryd.ntmps44, List.size_toArray, List.length_cons, List.length_nil, Nat.reduceAdd, Nat.reduceSub, Array.replicate_succ, Array.replicate_zero, List.push_toArray, List.append_toArray, List.nil_append, List.cons_append]
 refine wpIn_wide.2 ?_
 go_wp2_with (go_at_call 68; refine (rising_any fr _).mono ?_; rintro e w1 ⟨rfl, rfl⟩)
 have hb1 : Below w.heap.size w (((w.alloc (.cells #[.pointer (some ⟨N, 0, none⟩)] 29)).alloc (.cells #[.int .u32 tt] 69)).alloc (.cells #[.int .u32 fr] 69)) := (((Below.refl _ w).alloc (Nat.le_refl _) _).alloc (by simp) _).alloc (by simp; omega) _
 have hx0 : Boxed (((w.alloc (.cells #[.pointer (some ⟨N, 0, none⟩)] 29)).alloc (.cells #[.int .u32 tt] 69)).alloc (.cells #[.int .u32 fr] 69)) w.heap.size 29 (.pointer (some ⟨N, 0, none⟩)) := ((Boxed.new w _ _).alloc _).alloc _
 have hx1 : Boxed (((w.alloc (.cells #[.pointer (some ⟨N, 0, none⟩)] 29)).alloc (.cells #[.int .u32 tt] 69)).alloc (.cells #[.int .u32 fr] 69)) (w.heap.size + 1) 69 (.int .u32 tt) := by
  have h := Boxed.new (w.alloc (.cells #[.pointer (some ⟨N, 0, none⟩)] 29)) 69 (.int .u32 tt)
  rw [World.size_alloc] at h
  exact h.alloc _
 have hx2 : Boxed (((w.alloc (.cells #[.pointer (some ⟨N, 0, none⟩)] 29)).alloc (.cells #[.int .u32 tt] 69)).alloc (.cells #[.int .u32 fr] 69)) (w.heap.size + 1 + 1) 69 (.int .u32 fr) := by
  have h := Boxed.new ((w.alloc (.cells #[.pointer (some ⟨N, 0, none⟩)] 29)).alloc (.cells #[.int .u32 tt] 69)) 69 (.int .u32 fr)
  rwa [World.size_alloc, World.size_alloc] at h
 generalize hW1 : ((w.alloc (.cells #[.pointer (some ⟨N, 0, none⟩)] 29)).alloc (.cells #[.int .u32 tt] 69)).alloc (.cells #[.int .u32 fr] 69) = w1 at *
 have hz1 : w1.heap.size = w.heap.size + 3 := by rw [← hW1]; simp
 have hfr32 : fr < 2 ^ 32 := Nat.lt_of_lt_of_le hfr (by decide)
 have hseq := rising_seq 11 (by decide) hx2 (hT.below hb1 hT.pos) hfr32
 have HSEQ := Lib.hid hseq
 have HT1 := Lib.hid (hT.below hb1 hT.pos)
 have HN1 := Lib.hid (h.bel hb1)
 have HK1 := Lib.hid (Kn.of_below hb1 hBw)
 have HFO := Lib.hid hfo
 have HEL := Lib.hid (lnkL_els s.fol hfr32 tt)
 have hpos := h.pos
 have hlow := h.low
 clear hseq hT h hfo hx2 hW1
 refine wpIn_wide.1 (?_ : Code.wpIn Fence.wide 12 Tryd.prog _ _ _ _)
 refine wpIn_rangeFunc_X rfl (by omega) (gf := 84) (lb := #[.pointer (some ⟨w.heap.size + 1 + 1, 0, none⟩)]) rfl trivial (enters_of Tryd.func84 (by kernel_rfl) rfl)
  HSEQ.out KpT.trans (fun W' l' o o' hlw hl' ho _ => KpT.put (by omega)) (Below.refl _ _) (fun _ => rfl)
  (fun pre W' => Boxed W' w.heap.size 29 (.pointer (some ⟨N, 0, none⟩)) ∧ Boxed W' (w.heap.size + 1) 69 (.int .u32 tt) ∧ NfB W' B N sv lv ⟨s.labs, lnkL s.fol pre tt⟩ la em ∧ Kn B w W' ∧ w1.heap.size ≤ W'.heap.size ∧ Tb W')
  (fun _ _ _ => False)
  ?hI (fun c s X Y h => h.elim)
  ⟨hx0, hx1, by rw [lnkL_nil]; exact HN1.out, HK1.out, Nat.le_refl _, HT1.out⟩
  (fun p a' W' => a' = { tmps := #[.pointer (some ⟨N, 0, none⟩), .int .u32 fr, .int .u32 tt, .pointer (some ⟨w.heap.size, 0, none⟩), undef, .pointer (some ⟨w.heap.size + 1, 0, none⟩), .int .i64 p, .int .u32 fr, .func (.func 84) #[] #[.pointer (some ⟨w.heap.size + 1 + 1, 0, none⟩)], .int .i64 p, undef, undef, undef, undef, undef, undef, undef, undef, undef, undef, undef], defers := [] })
  (fun _ _ _ _ _ h _ => h) ?assign ?body ?done (fun _ _ _ _ _ _ h _ => h.elim)
 case hI =>
  rintro pre X Y ⟨h1, h2, h3, h4, h5, h6⟩ hr
  exact ⟨hr.cells h1 (by decide), hr.cells h2 (by decide), h3.rel hr, h4.trans ⟨hr.os, hr.tape, hr.output, hr.size, fun k hk => hr.block k (by have := h4.size; omega) (.inl (by omega)), fun k v t fr hk h1 h2 h3 => hr.cells hk h3⟩, Nat.le_trans h5 hr.size, h6.low (hr.block 0 h6.pos (.inl (by omega)))⟩
 case assign =>
  intro l1 pre p W' K hI hpx hK
  have HK := Lib.hid hK
  have HI' := Lib.hid hI
  unfold encN
  clear hK hI
  gi_wp2
  exact HK.out _ _ (KeepsFrom.refl _ _) (fun h => h) HI'.out rfl
 case body =>
  rintro l1 pre p a' W hwl hloop hpx ⟨h1, h2, h3, h4, h5, h6⟩ rfl
  have hp : p < 25 := by
   have hm : p ∈ els fr := hpx.subset (by simp)
   exact Nat.lt_of_not_le fun hge => by
    have := (mem_els.1 hm).2
    rw [bit_false hfr hge] at this
    cases this
  have hor := u32_or (lnkL s.fol pre tt p) tt (lnkL_lt HFO.out hto p) hto
  rw [← lnkL_snoc] at hor
  have c1 := h1.cell
  have c2 := h2.cell
  have c3 := h3.fol hp
  have f3 := h3.frz (2 + p)
  have R := Lib.hid (And.intro h3 (And.intro h4 (And.intro h5 h6)))
  have HX := Lib.hid (And.intro h1 h2)
  simp only at c3
  generalize lnkL s.fol pre tt p = F at *
  clear h1 h2 h3 h4 h5 h6
  have hcell : W.drew.cell? ⟨N, 2 + p, none⟩ = some (.int .u32 F) := c3
  have S0 := Lib.hid (show W.drew.cell? ⟨w.heap.size, 0, none⟩ = some (.pointer (some ⟨N, 0, none⟩)) ∧ W.drew.cell? ⟨w.heap.size + 1, 0, none⟩ = some (.int .u32 tt) from ⟨c1, c2⟩)
  have C3 := Lib.hid hcell
  have F3 := Lib.hid (show W.drew.frozen? ⟨N, 2 + p, none⟩ = false from f3)
  have HOR := Lib.hid hor
  have HG := Lib.hid (lnkL_other s.fol pre p tt)
  have hnw : N ≠ w.heap.size := by rintro rfl; exact absurd (R.out.1.blk.symm.trans HX.out.1) (by simp)
  have hnw1 : N ≠ w.heap.size + 1 := by rintro rfl; exact absurd (R.out.1.blk.symm.trans HX.out.2) (by simp)
  have hdr : Below W.heap.size W W.drew := (Below.refl _ _).drew
  have hfin : NfB (W.drew.setCell ⟨N, 2 + p, none⟩ (.int .u32 ((lnkL s.fol (pre ++ [p]) tt p : Nat) : Int))) B N sv lv ⟨s.labs, lnkL s.fol (pre ++ [p]) tt⟩ la em := (R.out.1.bel hdr).set hp _ HG.out
  have hk : Kn B W.drew (W.drew.setCell ⟨N, 2 + p, none⟩ (.int .u32 ((lnkL s.fol (pre ++ [p]) tt p : Nat) : Int))) := Kn.set (R.out.1.bel hdr).blk (.inl rfl) hlow _
  have hkk := (Kn.of_below hdr (Nat.le_trans hBw (by have := R.out.2.1.size; exact this))).trans hk
  have b1 := hkk.boxed HX.out.1 (by decide) (by decide) (by decide)
  have b2 := hkk.boxed HX.out.2 (by decide) (by decide) (by decide)
  generalize hG : lnkL s.fol (pre ++ [p]) tt p = G at *
  have S1 := Lib.hid (And.intro b1.cell b2.cell)
  have FIN := Lib.hid (show KeepsFrom w1.heap.size W (W.drew.setCell ⟨N, 2 + p, none⟩ (.int .u32 (G : Int))) ∧ KpT W (W.drew.setCell ⟨N, 2 + p, none⟩ (.int .u32 (G : Int))) ∧ Boxed (W.drew.setCell ⟨N, 2 + p, none⟩ (.int .u32 (G : Int))) w.heap.size 29 (.pointer (some ⟨N, 0, none⟩)) ∧ Boxed (W.drew.setCell ⟨N, 2 + p, none⟩ (.int .u32 (G : Int))) (w.heap.size + 1) 69 (.int .u32 tt) ∧ NfB (W.drew.setCell ⟨N, 2 + p, none⟩ (.int .u32 (G : Int))) B N sv lv ⟨s.labs, lnkL s.fol (pre ++ [p]) tt⟩ la em ∧ Kn B w (W.drew.setCell ⟨N, 2 + p, none⟩ (.int .u32 (G : Int))) ∧ w1.heap.size ≤ (W.drew.setCell ⟨N, 2 + p, none⟩ (.int .u32 (G : Int))).heap.size ∧ Tb (W.drew.setCell ⟨N, 2 + p, none⟩ (.int .u32 (G : Int)))
   from ⟨((below_others hdr).from _).trans ((KeepsOthers.setCell W.drew _ _).from _), fun h => h.low (hkk.low 0 hpos), b1, b2, hfin, R.out.2.1.trans hkk, by simpa using R.out.2.2.1, R.out.2.2.2.low (hkk.low 0 hpos)⟩)
  clear hcell c1 c2 c3 f3 hor hfin hk hkk b1 b2 hnw hnw1 hdr
  gi_wp2
  refine wpIn_round_held (S := fun w' => w'.cell? ⟨w.heap.size, 0, none⟩ = some (.pointer (some ⟨N, 0, none⟩)) ∧ w'.cell? ⟨w.heap.size + 1, 0, none⟩ = some (.int .u32 tt)) (by kernel_rfl) (by kernel_rfl) (fun ⟨_, _, h⟩ => h) S0.out (fun _ => ?_)
  refine wpAnyH_take (i := 0) (v := .pointer (some ⟨N, 0, none⟩)) rfl (by kernel_rfl) (by kernel_rfl) (by kernel_rfl) (fun _ _ _ h => h) (Or.inl ⟨by rfl, ?_⟩) S0.out ?_
  ·intro w hSw
   obtain ⟨hs0, hs1⟩ := hSw
   go_simp
  try simp only [Act.put, z4, z5, z6]
  refine wpAnyH_take (i := 1) (v := .int .i64 p) rfl (by kernel_rfl) (by kernel_rfl) (by kernel_rfl) (fun _ _ _ h => h) (Or.inl ⟨by rfl, ?_⟩) S0.out ?_
  ·intro w hSw
   obtain ⟨hs0, hs1⟩ := hSw
   go_simp
  try simp only [Act.put, z4, z5, z6]
  refine wpAnyH_take (i := 2) (v := .pointer (some ⟨N, 0, none⟩)) rfl (by kernel_rfl) (by kernel_rfl) (by kernel_rfl) (fun _ _ _ h => h) (Or.inl ⟨by rfl, ?_⟩) S0.out ?_
  ·intro w hSw
   obtain ⟨hs0, hs1⟩ := hSw
   go_simp
  try simp only [Act.put, z4, z5, z6]
  refine wpAnyH_take (i := 3) (v := .pointer (some ⟨N, 2, none⟩)) rfl (by kernel_rfl) (by kernel_rfl) (by kernel_rfl) (fun _ _ _ h => h) (Or.inl ⟨by rfl, ?_⟩) S0.out ?_
  ·intro w hSw
   obtain ⟨hs0, hs1⟩ := hSw
   go_simp
  try simp only [Act.put, z4, z5, z6]
  refine wpAnyH_take (i := 4) (v := .pointer (some ⟨N, 2 + p, none⟩)) rfl (by kernel_rfl) (by kernel_rfl) (by kernel_rfl) (fun _ _ _ h => h) (Or.inl ⟨by rfl, ?_⟩) S0.out ?_
  ·intro w hSw
   obtain ⟨hs0, hs1⟩ := hSw
   go_simp
   intro hge
   omega
  try simp only [Act.put, z4, z5, z6]
  refine wpAnyH_take (i := 6) (v := .int .u32 tt) rfl (by kernel_rfl) (by kernel_rfl) (by kernel_rfl) (fun _ _ _ h => h) (Or.inl ⟨by rfl, ?_⟩) S0.out ?_
  ·intro w hSw
   obtain ⟨hs0, hs1⟩ := hSw
   go_simp
  try simp only [Act.put, z4, z5, z6]
  refine wpAnyH_take (i := 8) (v := .pointer (some ⟨N, 0, none⟩)) rfl (by kernel_rfl) (by kernel_rfl) (by kernel_rfl) (fun _ _ _ h => h) (Or.inl ⟨by rfl, ?_⟩) S0.out ?_
  ·intro w hSw
   obtain ⟨hs0, hs1⟩ := hSw
   go_simp
  try simp only [Act.put, z4, z5, z6]
  refine wpAnyH_take (i := 9) (v := .pointer (some ⟨N, 2, none⟩)) rfl (by kernel_rfl) (by kernel_rfl) (by kernel_rfl) (fun _ _ _ h => h) (Or.inl ⟨by rfl, ?_⟩) S0.out ?_
  ·intro w hSw
   obtain ⟨hs0, hs1⟩ := hSw
   go_simp
  try simp only [Act.put, z4, z5, z6]
  refine wpAnyH_ready (rs := [5]) (by kernel_rfl) (by simp) ?_
  refine AllReadyH.cons rfl (fun K hK => ?_) AllReadyH.nil
  have c3 := C3.out
  go_simp
  refine hK.out _ _ S0.out (fun _ => ?_)
  clear hK
  try simp only [Act.put, z4, z5, z6]
  refine wpAnyH_take (i := 7) (v := .int .u32 (G : Nat)) rfl (by kernel_rfl) (by kernel_rfl) (by kernel_rfl) (fun _ _ _ h => h) (Or.inl ⟨by rfl, ?_⟩) S0.out ?_
  ·intro w hSw
   obtain ⟨hs0, hs1⟩ := hSw
   have hor := HOR.out
   go_simp
  try simp only [Act.put, z4, z5, z6]
  refine wpAnyH_take (i := 10) (v := .pointer (some ⟨N, 2 + p, none⟩)) rfl (by kernel_rfl) (by kernel_rfl) (by kernel_rfl) (fun _ _ _ h => h) (Or.inl ⟨by rfl, ?_⟩) S0.out ?_
  ·intro w hSw
   obtain ⟨hs0, hs1⟩ := hSw
   go_simp
   intro hge
   omega
  try simp only [Act.put, z4, z5, z6]
  refine wpAnyH_ready (rs := [11]) (by kernel_rfl) (by simp) ?_
  refine AllReadyH.cons rfl (fun K hK => ?_) AllReadyH.nil
  have f3 := F3.out
  have c3 := C3.out
  go_simp
  refine hK.out _ _ S1.out (fun _ => ?_)
  clear hK
  try simp only [Act.put, z4, z5, z6]
  refine ⟨by kernel_rfl, ?_⟩
  exact FIN.out
 case done =>
  rintro D W hD ⟨h1, h2, h3, h4, h5, h6⟩ hK
  rw [HEL.out] at h3
  have R := Lib.hid (And.intro h3 h4)
  clear h1 h2 h3 h4 h6
  go_wp2_with fail
  refine ⟨by simp, .inl ⟨_, _, rfl, run_takeDeferred hK, ?_⟩⟩
  refine ⟨.tuple #[], results_none rfl _ _ _, rfl, ?_⟩
  have hr : Rel w1.heap.size W (W.putObj D (.deferred none)) := Rel.grown (grownBy_putObj' W D (.deferred none)) fun r e => by cases e; exact ⟨hD, _, hK, .inl rfl⟩
  exact ⟨R.out.1.rel hr, R.out.2.trans ⟨hr.os, hr.tape, hr.output, hr.size, fun k hk => hr.block k (by have := R.out.2.size; omega) (.inl (by omega)), fun k v t fr hk h1 h2 h3 => hr.cells hk h3⟩⟩
end Go.Proofs.YtnccgaanfjaimaaDoor

namespace Go.Proofs.YtnccgaanfjaimaaDoor
open Go.ChangeShapes Go.WideShapes Go.ChangeAt Go.RowKit Go.Maps
set_option linter.unusedVariables false
set_option linter.unusedSimpArgs false

theorem info5 : (Tryd.prog.info? 5).map (fun i => (i.zero, i.size, i.bytes)) = some (some (.int .u8 0), 1, 1) := by kernel_rfl
theorem info9 : (Tryd.prog.info? 9).map (fun i => (i.zero, i.size, i.bytes)) = some (some (.string ⟨#[]⟩), 1, 16) := by kernel_rfl
set_option maxHeartbeats 4000000 in
set_option maxRecDepth 100000 in
theorem clone_in (s : ByteArray) (w : World) (hlim : s.size ≤ 140737488355328) :
  Calls Tryd.prog 100 #[.string s] w fun e w' => e = .returned (.string s) ∧ Below w.heap.size w w' := by
 by_cases h0 : s.size = 0
 ·obtain rfl : s = ⟨#[]⟩ := ByteArray.ext (Array.eq_empty_of_size_eq_zero h0)
  clear h0 hlim
  go_enter Tryd.func100, Tryd.ntmps100
  go_wp2
  go_ret
  exact ⟨rfl, Below.refl _ _⟩
 ·obtain ⟨i0, hi, hz0, hz1, hz2⟩ := info_parts info5
  have hinfo : (Tryd.prog.info? 5).map (·.size) = some 1 := by rw [hi]; simp [hz1]
  have hco : Tryd.prog.cellsOf 5 = 1 := by simp [Program.cellsOf, hi, hz1]
  obtain ⟨M, hM⟩ : ∃ M, M = madeCells (Value.int .u8 0).cells (((s.size : Nat) : Int).toNat * i0.size) := ⟨_, rfl⟩
  have hMs : M.size = s.size := by rw [hM, size_madeCells, hz1]; simp
  have hmk : ∀ W : World, (Instr.makeSlice 104 (.int .i64 (s.size : Int)) (.int .i64 (s.size : Int))).run Tryd.prog W = .ok (.slice (some ⟨W.heap.size, 0, none⟩) s.size s.size) (W.alloc (.cells M 5)) := fun W => by
   have h := run_make (P := Tryd.prog) W 104 5 i0 (.int .u8 0) Tryd.underlying104 hi hz0 .i64 .i64 (s.size : Int) (s.size : Int) (by omega) (by omega) (by rw [hz2]; omega) (by omega)
   rw [← hM] at h
   simpa using h
  clear hM
  have hcp := Lib.run_copy_row_string (P := Tryd.prog) (w.alloc (.cells M 5)) 104 9 3 5 w.heap.size 0 s.size s.size s M 5 Tryd.underlying104 hinfo (heap_alloc_new w _) (Nat.le_refl _) (by omega)
  obtain ⟨Y, hY⟩ : ∃ Y, Y = (M.toList.take 0 ++ Lib.byteCells s.data.toList ++ M.toList.drop (0 + s.size)).toArray := ⟨_, rfl⟩
  rw [← hY] at hcp
  have hYl : Y.toList = Lib.byteCells s.data.toList := by
   rw [hY, List.toList_toArray, List.take_zero, List.nil_append, List.drop_of_length_le (by rw [Array.length_toList]; omega), List.append_nil]
  have hYs : Y.size = s.size := by rw [← Array.length_toList, hYl, Lib.byteCells_length, ← Lib.size_eq]
  have hgY : ((w.alloc (.cells M 5)).setRow w.heap.size Y).heap[w.heap.size]? = some (.cells Y 5 (0, 0)) := setRow_heap _ _ M _ 5 (0, 0) (heap_alloc_new w _)
  have hne : s.data.toList ≠ [] := fun e => h0 (by rw [Lib.size_eq, e]; rfl)
  have hUS := Lib.run_unsafeString_row (P := Tryd.prog) ((w.alloc (.cells M 5)).setRow w.heap.size Y) 132 3 9 5 Tryd.underlying132 hco w.heap.size Y.size (by unfold World.shape?; rw [hgY]) s.data.toList hne (by rw [← Lib.size_eq]; omega) (by rw [← Lib.size_eq]; omega)
   (fun j x hx => Lib.cells_of_row hgY Y.size j _ (by rw [List.take_of_length_le (by rw [Array.length_toList]; exact Nat.le_refl _), hYl]; simp [Lib.byteCells, hx]))
  rw [← Lib.size_eq] at hUS
  clear hY
  go_enter Tryd.func100, Tryd.ntmps100
  go_wp2
  go_ret
  have hb1 : Below w.heap.size w (w.alloc (.cells M 5)) := (Below.refl _ w).alloc (Nat.le_refl _) _
  have hb2 : Below w.heap.size (w.alloc (.cells M 5)) ((w.alloc (.cells M 5)).setRow w.heap.size Y) := ⟨rfl, rfl, rfl, by simp, fun k hk => setRow_other _ _ _ _ (by omega)⟩
  exact ⟨rfl, Lib.below_freeze (hb1.trans hb2) (p := ⟨w.heap.size, 0, none⟩) (Nat.le_refl _) _⟩

theorem clone_any (s : ByteArray) (w : World) (hlim : s.size ≤ 140737488355328) :
  Calls Tryd.prog 83 #[.string s] w fun e w' => e = .returned (.string s) ∧ Below w.heap.size w w' := by
 go_enter Tryd.func83, Tryd.ntmps83
 go_wp2_with (go_at_call 100; refine (clone_in s _ hlim).mono ?_; rintro e w' ⟨rfl, hb⟩)
 go_ret
 exact ⟨rfl, hb⟩
end Go.Proofs.YtnccgaanfjaimaaDoor
