/- Texts W, WA, RC, V, WB, HB, RD, RE, one behind the other. -/
import Derived.Test.YtnccgaanfjaimaaDoorJ2
import Derived.Test.YtnccgaanfjaimaaDoorJ3
import Derived.IntWalk
import Derived.MakeChecks
import Derived.Maps.AppendAt
import Derived.BigRegion
set_option linter.unusedSimpArgs false
set_option linter.unusedVariables false
namespace Go.Proofs.YtnccgaanfjaimaaDoor
open Go.ChangeShapes Go.WideShapes Go.ChangeAt Go.RowKit
set_option linter.unusedVariables false
set_option linter.unusedSimpArgs false

abbrev Wd := List ByteArray

/-- one or more, one behind the other -/
inductive Pl (P : Wd → Prop) : Wd → Prop where
 | one (p : Wd) (h : P p) : Pl P p
 | snoc (p q : Wd) (h : Pl P p) (h1 : P q) : Pl P (p ++ q)

mutual
def X.L : X → Wd → Prop
 | .mk k l ks, u => if k = 1 then u = [l] else if k = 2 then LS ks u else if k = 3 then LA ks u else if k = 6 then u = [] ∨ LA ks u else if k = 4 then u = [] ∨ Pl (fun v => LA ks v) u else Pl (fun v => LA ks v) u
def LS : List X → Wd → Prop
 | [], u => u = []
 | x :: xs, u => ∃ p q, u = p ++ q ∧ X.L x p ∧ LS xs q
def LA : List X → Wd → Prop
 | [], _ => False
 | x :: xs, u => X.L x u ∨ LA xs u
end
theorem X.L_eq (x : X) (u : Wd) : x.L u ↔ if x.kind = 1 then u = [x.lab] else if x.kind = 2 then LS x.kids u else if x.kind = 3 then LA x.kids u else if x.kind = 6 then u = [] ∨ LA x.kids u else if x.kind = 4 then u = [] ∨ Pl (LA x.kids) u else Pl (LA x.kids) u := by
 cases x
 rw [X.L]
 rfl
theorem LS_nil (u : Wd) : LS [] u ↔ u = [] := by rw [LS]
theorem LS_cons (x : X) (xs : List X) (u : Wd) : LS (x :: xs) u ↔ ∃ p q, u = p ++ q ∧ x.L p ∧ LS xs q := by rw [LS]
theorem LA_nil (u : Wd) : LA [] u ↔ False := by rw [LA]
theorem LA_cons (x : X) (xs : List X) (u : Wd) : LA (x :: xs) u ↔ x.L u ∨ LA xs u := by rw [LA]

theorem Pl.cons {P : Wd → Prop} {p q : Wd} (hp : P p) (hq : Pl P q) : Pl P (p ++ q) := by
 induction hq with
 | one q h => exact .snoc p q (.one p hp) h
 | snoc a b h h1 ih =>
  rw [← List.append_assoc]
  exact .snoc _ b ih h1
theorem Pl.split {P : Wd → Prop} {u : Wd} (h : Pl P u) : ∃ p q, u = p ++ q ∧ P p ∧ (q = [] ∨ Pl P q) := by
 induction h with
 | one p h => exact ⟨p, [], by simp, h, .inl rfl⟩
 | snoc a b h h1 ih =>
  obtain ⟨p, q, rfl, hp, hq⟩ := ih
  refine ⟨p, q ++ b, by simp, hp, .inr ?_⟩
  rcases hq with rfl | hq
  ·exact .one _ h1
  ·exact .snoc _ _ hq h1
theorem Pl.split1 {P : Wd → Prop} {u : Wd} (h : Pl P u) (hu : u ≠ []) : ∃ p q, u = p ++ q ∧ p ≠ [] ∧ P p ∧ (q = [] ∨ Pl P q) := by
 induction h with
 | one p h => exact ⟨p, [], by simp, hu, h, .inl rfl⟩
 | snoc a b h h1 ih =>
  by_cases ha : a = []
  ·subst ha
   exact ⟨b, [], by simp, by simpa using hu, h1, .inl rfl⟩
  ·obtain ⟨p, q, rfl, hp0, hp, hq⟩ := ih ha
   refine ⟨p, q ++ b, by simp, hp0, hp, .inr ?_⟩
   rcases hq with rfl | hq
   ·exact .one _ h1
   ·exact .snoc _ _ hq h1
theorem Pl.nil {P : Wd → Prop} : Pl P [] ↔ P [] := by
 refine ⟨fun h => ?_, fun h => .one _ h⟩
 generalize hu : ([] : Wd) = u at h
 induction h with
 | one p h => exact h
 | snoc a b h h1 ih =>
  have := congrArg List.length hu
  simp at this
  obtain rfl : b = [] := List.eq_nil_of_length_eq_zero (by omega)
  obtain rfl : a = [] := List.eq_nil_of_length_eq_zero (by omega)
  exact h1

/-- a piece of the labels that come -/
def seg (w : Nat → ByteArray) (i k : Nat) : Wd := (List.range' i (k - i)).map w
theorem seg_len (w : Nat → ByteArray) (i k : Nat) : (seg w i k).length = k - i := by simp [seg]
theorem seg_self (w : Nat → ByteArray) (i : Nat) : seg w i i = [] := by simp [seg]
theorem seg_app (w : Nat → ByteArray) {i j k : Nat} (h : i ≤ j) (h' : j ≤ k) : seg w i j ++ seg w j k = seg w i k := by
 unfold seg
 rw [← List.map_append]
 congr 1
 have := @List.range'_append_1 i (j - i) (k - j)
 rw [show i + (j - i) = j by omega, show (j - i) + (k - j) = k - i by omega] at this
 exact this
theorem seg_split {w : Nat → ByteArray} {i k : Nat} (h : i ≤ k) {p q : Wd} (e : seg w i k = p ++ q) : ∃ j, i ≤ j ∧ j ≤ k ∧ p = seg w i j ∧ q = seg w j k := by
 have hl := congrArg List.length e
 rw [seg_len, List.length_append] at hl
 refine ⟨i + p.length, by omega, by omega, ?_⟩
 have h1 := seg_app w (i := i) (j := i + p.length) (k := k) (by omega) (by omega)
 rw [e] at h1
 have h2 := List.append_inj h1 (by rw [seg_len]; omega)
 exact ⟨h2.1.symm, h2.2.symm⟩
theorem seg_one (w : Nat → ByteArray) (k : Nat) : seg w k (k + 1) = [w k] := by simp [seg]
theorem seg_ne (w : Nat → ByteArray) {i k : Nat} (h : i < k) : seg w i k ≠ [] := by
 intro e
 have := congrArg List.length e
 rw [seg_len] at this
 simp at this
 omega

/-- an expression's flags while labels come, begun at b -/
def run (x : X) (w : Nat → ByteArray) (b : Nat → Bool) : Nat → List Bool
 | 0 => List.replicate x.sz false
 | k + 1 => stepF (w k) x (run x w b k) (b k)
def runS (ks : List X) (w : Nat → ByteArray) (b : Nat → Bool) : Nat → List Bool
 | 0 => List.replicate (szL ks) false
 | k + 1 => (rowS (w k) ks (runS ks w b k) (b k) false).2.2
def runA (ks : List X) (w : Nat → ByteArray) (b : Nat → Bool) : Nat → List Bool
 | 0 => List.replicate (szL ks) false
 | k + 1 => (altS (w k) ks (runA ks w b k) (b k) false).2
theorem run_len {x : X} (hg : x.good) (w : Nat → ByteArray) (b : Nat → Bool) : ∀ k, (run x w b k).length = x.sz
 | 0 => by simp [run]
 | k + 1 => by rw [run]; exact stepF_len _ x hg _ _ (run_len hg w b k)

theorem rowS_e (s : ByteArray) : ∀ (ks : List X) (kf : List Bool) (b e e' : Bool), (rowS s ks kf b e).2.2 = (rowS s ks kf b e').2.2
 | [], kf, b, e, e' => by rw [rowS_nil, rowS_nil]
 | x :: xs, kf, b, e, e' => by
  rw [rowS_cons, rowS_cons]
  simp only
  rw [rowS_e s xs _ _ (hd (stepF s x (kf.take x.sz) b) || (e && x.emp)) (hd (stepF s x (kf.take x.sz) b) || (e' && x.emp))]
theorem altS_acc (s : ByteArray) : ∀ (ks : List X) (kf : List Bool) (b e e' : Bool), (altS s ks kf b e).2 = (altS s ks kf b e').2
 | [], kf, b, e, e' => by rw [altS_nil, altS_nil]
 | x :: xs, kf, b, e, e' => by
  rw [altS_cons, altS_cons]
  simp only
  rw [altS_acc s xs _ _ (e || hd (stepF s x (kf.take x.sz) b)) (e' || hd (stepF s x (kf.take x.sz) b))]

/-- where the next of a row begins -/
def nextB (x : X) (w : Nat → ByteArray) (b : Nat → Bool) (k : Nat) : Bool := hd (run x w b k) || (b k && x.emp)
theorem runS_cons {x : X} (hg : x.good) (xs : List X) (w : Nat → ByteArray) (b : Nat → Bool) : ∀ k, runS (x :: xs) w b k = run x w b k ++ runS xs w (nextB x w b) k
 | 0 => by rw [runS, run, runS, szL_cons, List.replicate_append_replicate]
 | k + 1 => by
  have hl := run_len hg w b k
  rw [runS, runS_cons hg xs w b k, rowS_cons]
  simp only
  rw [List.take_left' hl, List.drop_left' hl, rowS_e (w k) xs _ _ _ false]
  rfl
theorem runA_cons {x : X} (hg : x.good) (xs : List X) (w : Nat → ByteArray) (b : Nat → Bool) : ∀ k, runA (x :: xs) w b k = run x w b k ++ runA xs w b k
 | 0 => by rw [runA, run, runA, szL_cons, List.replicate_append_replicate]
 | k + 1 => by
  have hl := run_len hg w b k
  rw [runA, runA_cons hg xs w b k, altS_cons]
  simp only
  rw [List.take_left' hl, List.drop_left' hl, altS_acc (w k) xs _ _ _ false]
  rfl

/-- an expression takes the empty word just if it may be empty -/
theorem emp_iff : ∀ (x : X), x.good → (x.emp = true ↔ x.L []) := by
 intro x
 induction x using X.ind' with
 | h x ih =>
  intro hg
  have ih' : ∀ y ∈ x.kids, (y.emp = true ↔ y.L []) := fun y hy => ih y hy (hg.kids y hy)
  have hA : ∀ ks : List X, (∀ y ∈ ks, (y.emp = true ↔ y.L [])) → (anyE ks = true ↔ LA ks []) := by
   intro ks
   induction ks with
   | nil => intro _; rw [anyE, LA_nil]; simp
   | cons y ys ihy => intro h; rw [anyE, LA_cons, Bool.or_eq_true, h y (by simp), ihy (fun z hz => h z (by simp [hz]))]
  have hS : ∀ ks : List X, (∀ y ∈ ks, (y.emp = true ↔ y.L [])) → (allE ks = true ↔ LS ks []) := by
   intro ks
   induction ks with
   | nil => intro _; rw [allE, LS_nil]; simp
   | cons y ys ihy =>
    intro h
    rw [allE, LS_cons, Bool.and_eq_true, h y (by simp), ihy (fun z hz => h z (by simp [hz]))]
    constructor
    ·rintro ⟨h1, h2⟩; exact ⟨[], [], rfl, h1, h2⟩
    ·rintro ⟨p, q, e, h1, h2⟩
     obtain ⟨rfl, rfl⟩ := List.append_eq_nil_iff.1 e.symm
     exact ⟨h1, h2⟩
  have he : x.emp = if x.kind = 4 ∨ x.kind = 6 then true else if x.kind = 3 then anyE x.kids else if x.kind = 2 ∨ x.kind = 5 then allE x.kids else false := by
   cases x; rw [X.emp]; rfl
  rw [he, X.L_eq]
  have hf := hg.fit
  rcases good_kind hg with h | h | h | h
  ·simp [h]
  ·simp [h, hS _ ih']
  ·rcases h with h | h <;> simp [h, hA _ ih']
  ·rcases h with h | h
   ·simp [h]
   ·obtain ⟨y, hy⟩ : ∃ y, x.kids = [y] := by
     unfold X.fits fitB at hf
     simp [h] at hf
     exact List.length_eq_one_iff.1 hf.2
    simp only [h]
    simp only [show ¬((5 : Int) = 4 ∨ (5 : Int) = 6) by decide, show ¬((5 : Int) = 3) by decide, show ((5 : Int) = 2 ∨ (5 : Int) = 5) by decide, show ¬((5 : Int) = 1) by decide, show ¬((5 : Int) = 2) by decide, show ¬((5 : Int) = 6) by decide, show ¬((5 : Int) = 4) by decide, if_true, if_false]
    rw [Pl.nil, hy, allE, allE, LA_cons, LA_nil, ← ih' y (by rw [hy]; simp)]
    simp
end Go.Proofs.YtnccgaanfjaimaaDoor

namespace Go.Proofs.YtnccgaanfjaimaaDoor
open Go.ChangeShapes Go.WideShapes Go.ChangeAt Go.RowKit
set_option linter.unusedVariables false
set_option linter.unusedSimpArgs false

def RunC (x : X) : Prop := ∀ (w : Nat → ByteArray) (b : Nat → Bool) (k : Nat), hd (run x w b k) = true ↔ ∃ i, i < k ∧ b i = true ∧ x.L (seg w i k)

theorem row_runs (w : Nat → ByteArray) : ∀ (ks : List X), goodL ks → (∀ y ∈ ks, RunC y) → ∀ (b : Nat → Bool) (e : Bool) (k : Nat),
  (rowS (w k) ks (runS ks w b k) (b k) e).2.1 = true ↔ (∃ i, i ≤ k ∧ b i = true ∧ LS ks (seg w i (k + 1))) ∨ (e = true ∧ LS ks [])
 | [], _, _, b, e, k => by
  rw [rowS_nil]
  simp only [LS_nil, and_true]
  constructor
  ·exact fun h => .inr h
  ·rintro (⟨i, hi, _, h⟩ | h)
   ·exact absurd h (seg_ne w (by omega))
   ·exact h
 | x :: xs, hg, hr, b, e, k => by
  have hx := hg x (by simp)
  have hl := run_len hx w b k
  rw [rowS_cons, runS_cons hx xs w b k]
  simp only
  rw [List.take_left' hl, List.drop_left' hl]
  have ih := row_runs w xs (fun z hz => hg z (by simp [hz])) (fun z hz => hr z (by simp [hz])) (nextB x w b) (hd (stepF (w k) x (run x w b k) (b k)) || (e && x.emp)) k
  rw [show (hd (run x w b k) || (b k && x.emp)) = nextB x w b k from rfl, ih]
  have hc := hr x (by simp)
  have hn : ∀ i, nextB x w b i = true ↔ ∃ j, j ≤ i ∧ b j = true ∧ x.L (seg w j i) := by
   intro i
   unfold nextB
   rw [Bool.or_eq_true, hc w b i, Bool.and_eq_true, emp_iff x hx]
   constructor
   ·rintro (⟨j, h1, h2, h3⟩ | ⟨h1, h2⟩)
    ·exact ⟨j, by omega, h2, h3⟩
    ·exact ⟨i, Nat.le_refl _, h1, by rw [seg_self]; exact h2⟩
   ·rintro ⟨j, h1, h2, h3⟩
    by_cases hji : j = i
    ·subst hji
     exact .inr ⟨h2, by rw [seg_self] at h3; exact h3⟩
    ·exact .inl ⟨j, by omega, h2, h3⟩
  have h1 := hc w b (k + 1)
  rw [show run x w b (k + 1) = stepF (w k) x (run x w b k) (b k) from rfl] at h1
  rw [Bool.or_eq_true, h1, Bool.and_eq_true, emp_iff x hx, LS_cons]
  simp only [LS_cons]
  constructor
  ·rintro (⟨i, hi, h2, h3⟩ | ⟨⟨i, hi, h2, h3⟩ | ⟨h2, h3⟩, h4⟩)
   ·obtain ⟨j, hj, h4, h5⟩ := (hn i).1 h2
    exact .inl ⟨j, by omega, h4, _, _, (seg_app w hj (by omega)).symm, h5, h3⟩
   ·exact .inl ⟨i, by omega, h2, _, _, (List.append_nil _).symm, h3, h4⟩
   ·exact .inr ⟨h2, [], [], rfl, h3, h4⟩
  ·rintro (⟨i, hi, h2, p, q, e1, h3, h4⟩ | ⟨h2, p, q, e1, h3, h4⟩)
   ·obtain ⟨j, hj1, hj2, rfl, rfl⟩ := seg_split (by omega) e1
    by_cases hjk : j = k + 1
    ·subst hjk
     rw [seg_self] at h4
     exact .inr ⟨.inl ⟨i, by omega, h2, h3⟩, h4⟩
    ·exact .inl ⟨j, by omega, (hn j).2 ⟨i, hj1, h2, h3⟩, h4⟩
   ·obtain ⟨rfl, rfl⟩ := List.append_eq_nil_iff.1 e1.symm
    exact .inr ⟨.inr ⟨h2, h3⟩, h4⟩
theorem alt_runs (w : Nat → ByteArray) : ∀ (ks : List X), goodL ks → (∀ y ∈ ks, RunC y) → ∀ (b : Nat → Bool) (e : Bool) (k : Nat),
  (altS (w k) ks (runA ks w b k) (b k) e).1 = true ↔ (∃ i, i ≤ k ∧ b i = true ∧ LA ks (seg w i (k + 1))) ∨ e = true
 | [], _, _, b, e, k => by
  rw [altS_nil]
  simp only [LA_nil, and_false, exists_false, false_or]
 | x :: xs, hg, hr, b, e, k => by
  have hx := hg x (by simp)
  have hl := run_len hx w b k
  rw [altS_cons, runA_cons hx xs w b k]
  simp only
  rw [List.take_left' hl, List.drop_left' hl, alt_runs w xs (fun z hz => hg z (by simp [hz])) (fun z hz => hr z (by simp [hz])) b _ k, Bool.or_eq_true]
  have h1 := hr x (by simp) w b (k + 1)
  rw [show run x w b (k + 1) = stepF (w k) x (run x w b k) (b k) from rfl] at h1
  rw [h1]
  simp only [LA_cons]
  constructor
  ·rintro (⟨i, hi, h2, h3⟩ | h2 | ⟨i, hi, h2, h3⟩)
   ·exact .inl ⟨i, hi, h2, .inr h3⟩
   ·exact .inr h2
   ·exact .inl ⟨i, by omega, h2, .inl h3⟩
  ·rintro (⟨i, hi, h2, h3 | h3⟩ | h2)
   ·exact .inr (.inr ⟨i, by omega, h2, h3⟩)
   ·exact .inl ⟨i, hi, h2, h3⟩
   ·exact .inr (.inl h2)

theorem run_any : ∀ x : X, x.good → RunC x := by
 intro x
 induction x using X.ind' with
 | h x ih =>
  intro hg w b k
  have ih' : ∀ y ∈ x.kids, RunC y := fun y hy => ih y hy (hg.kids y hy)
  have hf := hg.fit
  have hz : hd (run x w b 0) = false := by
   rw [run, X.sz_eq]
   rw [Nat.add_comm, List.replicate_succ]
   rfl
  cases k with
  | zero =>
   rw [hz]
   constructor
   ·intro h; cases h
   ·rintro ⟨i, hi, _⟩; omega
  | succ k =>
   have ht : ∀ n : Nat, List.tail (List.replicate x.sz false) = List.replicate (szL x.kids) false := fun n => by rw [X.sz_eq, Nat.add_comm, List.replicate_succ]; rfl
   rw [run, stepF_eq]
   rcases good_kind hg with h | h | h | h
   ·simp only [h, if_true]
    rw [show hd ((b k && decide (x.lab = w k)) :: (run x w b k).tail) = (b k && decide (x.lab = w k)) from rfl, Bool.and_eq_true, decide_eq_true_eq]
    constructor
    ·rintro ⟨h1, h2⟩
     exact ⟨k, by omega, h1, by rw [X.L_eq, if_pos h, seg_one, h2]⟩
    ·rintro ⟨i, hi, h1, h2⟩
     rw [X.L_eq, if_pos h] at h2
     have hl := congrArg List.length h2
     rw [seg_len] at hl
     simp at hl
     obtain rfl : i = k := by omega
     rw [seg_one] at h2
     injection h2 with h2 _
     exact ⟨h1, h2.symm⟩
   ·have hrun : ∀ n, (run x w b n).tail = runS x.kids w b n := by
     intro n
     induction n with
     | zero => rw [run, runS, ht 0]
     | succ n ihn => rw [run, stepF_eq, if_neg (by omega), if_pos h, List.tail_cons, ihn, runS]
    rw [if_neg (by omega), if_pos h]
    rw [hrun k]
    rw [show ∀ (a : Bool) (l : List Bool), hd (a :: l) = a from fun _ _ => rfl, row_runs w x.kids hg.kids ih' b false k]
    constructor
    ·rintro (⟨i, hi, h1, h2⟩ | ⟨h1, _⟩)
     ·exact ⟨i, by omega, h1, by rw [X.L_eq, if_neg (by omega), if_pos h]; exact h2⟩
     ·cases h1
    ·rintro ⟨i, hi, h1, h2⟩
     rw [X.L_eq, if_neg (by omega), if_pos h] at h2
     exact .inl ⟨i, by omega, h1, h2⟩
   ·have hrun : ∀ n, (run x w b n).tail = runA x.kids w b n := by
     intro n
     induction n with
     | zero => rw [run, runA, ht 0]
     | succ n ihn => rw [run, stepF_eq, if_neg (by omega), if_neg (by omega), if_pos h, List.tail_cons, ihn, runA]
    rw [if_neg (by omega), if_neg (by omega), if_pos h]
    rw [hrun k]
    rw [show ∀ (a : Bool) (l : List Bool), hd (a :: l) = a from fun _ _ => rfl, alt_runs w x.kids hg.kids ih' b false k]
    constructor
    ·rintro (⟨i, hi, h1, h2⟩ | h1)
     ·refine ⟨i, by omega, h1, ?_⟩
      rw [X.L_eq, if_neg (by omega), if_neg (by omega)]
      rcases h with h | h
      ·rw [if_pos h]; exact h2
      ·rw [if_neg (by omega), if_pos h]; exact .inr h2
     ·cases h1
    ·rintro ⟨i, hi, h1, h2⟩
     refine .inl ⟨i, by omega, h1, ?_⟩
     rw [X.L_eq, if_neg (by omega), if_neg (by omega)] at h2
     rcases h with h | h
     ·rw [if_pos h] at h2; exact h2
     ·rw [if_neg (by omega), if_pos h] at h2
      rcases h2 with h2 | h2
      ·exact absurd h2 (seg_ne w hi)
      ·exact h2
   ·obtain ⟨y, hy⟩ : ∃ y, x.kids = [y] := by
     unfold X.fits fitB at hf
     rcases h with h | h <;>
     ·simp [h] at hf
      exact List.length_eq_one_iff.1 hf.2
    have hyr := ih' y (by rw [hy]; simp)
    have hyg := hg.kids y (by rw [hy]; simp)
    rw [hy] at ht
    have hrun : ∀ n, (run x w b n).tail = run y w (fun i => b i || hd ((run x w b i).tail)) n := by
     intro n
     induction n with
     | zero => rw [run, ht 0, run, szL_cons, szL_nil]; rfl
     | succ n ihn =>
      have hl := run_len hyg w (fun i => b i || hd ((run x w b i).tail)) n
      conv => lhs; rw [run, stepF_eq, if_neg (by omega), if_neg (by omega), if_neg (by omega), List.tail_cons, hy, altS_cons, altS_nil]
      simp only [List.append_nil]
      rw [ihn, List.take_of_length_le (by omega), run, ← ihn]
    have hstep : ∀ n, (altS (w n) x.kids (run x w b n).tail (b n || hd (run x w b n).tail) false).2 = (run x w b (n + 1)).tail := by
     intro n
     rw [run, stepF_eq, if_neg (by omega), if_neg (by omega), if_neg (by omega), List.tail_cons]
    rw [if_neg (by omega), if_neg (by omega), if_neg (by omega), hstep k]
    rw [show ∀ (a : Bool) (l : List Bool), hd (a :: l) = a from fun _ _ => rfl]
    have hA : ∀ v, LA x.kids v ↔ y.L v := fun v => by rw [hy, LA_cons, LA_nil, or_false]
    have main : ∀ n, hd (run x w b n).tail = true ↔ ∃ i, i < n ∧ b i = true ∧ Pl (LA x.kids) (seg w i n) := by
     intro n
     have hone : ∀ m, hd (run x w b m).tail = true ↔ ∃ i, i < m ∧ (b i = true ∨ hd (run x w b i).tail = true) ∧ y.L (seg w i m) := by
      intro m
      rw [hrun m, hyr]
      constructor
      ·rintro ⟨i, h1, h2, h3⟩; exact ⟨i, h1, Bool.or_eq_true _ _ ▸ h2, h3⟩
      ·rintro ⟨i, h1, h2, h3⟩; exact ⟨i, h1, by rw [Bool.or_eq_true]; exact h2, h3⟩
     constructor
     ·induction n using Nat.strongRecOn with
      | ind n ihn =>
       intro hh
       obtain ⟨i, hi, h1, h2⟩ := (hone n).1 hh
       rcases h1 with h1 | h1
       ·exact ⟨i, hi, h1, .one _ ((hA _).2 h2)⟩
       ·obtain ⟨j, hj, h3, h4⟩ := ihn i hi h1
        refine ⟨j, by omega, h3, ?_⟩
        rw [← seg_app w (i := j) (j := i) (k := n) (by omega) (by omega)]
        exact .snoc _ _ h4 ((hA _).2 h2)
     ·rintro ⟨i, hi, h1, h2⟩
      generalize hu : seg w i n = u at h2
      induction h2 generalizing n with
      | one p hp =>
       subst hu
       exact (hone n).2 ⟨i, hi, .inl h1, (hA _).1 hp⟩
      | snoc p q hp hq ihp =>
       obtain ⟨m, hm1, hm2, rfl, rfl⟩ := seg_split (by omega) hu
       by_cases hmi : m = i
       ·subst hmi
        exact (hone n).2 ⟨m, hi, .inl h1, (hA _).1 hq⟩
       ·by_cases hmn : m = n
        ·subst hmn
         exact ihp m hi rfl
        ·exact (hone n).2 ⟨m, by omega, .inr (ihp m (by omega) rfl), (hA _).1 hq⟩
    rw [main (k + 1)]
    constructor
    ·rintro ⟨i, hi, h1, h2⟩
     refine ⟨i, hi, h1, ?_⟩
     rw [X.L_eq, if_neg (by omega), if_neg (by omega), if_neg (by omega), if_neg (by omega)]
     split
     ·exact .inr h2
     ·exact h2
    ·rintro ⟨i, hi, h1, h2⟩
     refine ⟨i, hi, h1, ?_⟩
     rw [X.L_eq, if_neg (by omega), if_neg (by omega), if_neg (by omega), if_neg (by omega)] at h2
     split at h2
     ·rcases h2 with h2 | h2
      ·exact absurd h2 (seg_ne w hi)
      ·exact h2
     ·exact h2

theorem flW_run (x : X) (word : List ByteArray) : ∀ k, flW x word k = run x (fun k => (word[k]?).getD ⟨#[]⟩) (fun k => decide (k = 0)) k
 | 0 => rfl
 | k + 1 => by rw [flW, flW_run x word k]; rfl
theorem seg_word (word : List ByteArray) : seg (fun k => (word[k]?).getD ⟨#[]⟩) 0 word.length = word := by
 unfold seg
 apply List.ext_getElem
 ·simp
 ·intro i h1 h2
  simp [List.getElem?_eq_getElem h2]
/-- what Takes tells -/
theorem takesB_iff (x : X) (word : List ByteArray) : takesB x word = true ↔ x.right = true ∧ x.L word := by
 unfold takesB
 rw [Bool.and_eq_true]
 constructor
 ·rintro ⟨hr, h⟩
  obtain ⟨hg, -⟩ := right_good hr
  refine ⟨hr, ?_⟩
  rw [Bool.or_eq_true, Bool.and_eq_true, decide_eq_true_eq] at h
  rcases h with h | ⟨h1, h2⟩
  ·rw [flW_run, run_any x hg] at h
   obtain ⟨i, hi, h1, h2⟩ := h
   obtain rfl : i = 0 := by simpa using h1
   rw [seg_word] at h2
   exact h2
  ·obtain rfl : word = [] := List.eq_nil_of_length_eq_zero h1
   exact (emp_iff x hg).1 h2
 ·rintro ⟨hr, h⟩
  obtain ⟨hg, -⟩ := right_good hr
  refine ⟨hr, ?_⟩
  rw [Bool.or_eq_true, Bool.and_eq_true, decide_eq_true_eq]
  by_cases h0 : word.length = 0
  ·obtain rfl : word = [] := List.eq_nil_of_length_eq_zero h0
   exact .inr ⟨rfl, (emp_iff x hg).2 h⟩
  ·left
   rw [flW_run, run_any x hg]
   exact ⟨0, by omega, by simp, by rw [seg_word]; exact h⟩
end Go.Proofs.YtnccgaanfjaimaaDoor

namespace Go.Proofs.YtnccgaanfjaimaaDoor
open Go.ChangeShapes Go.WideShapes Go.ChangeAt Go.RowKit
set_option linter.unusedVariables false
set_option linter.unusedSimpArgs false

theorem seg_nil_iff (w : Nat → ByteArray) {i j : Nat} (h : i ≤ j) : seg w i j = [] ↔ i = j := by
 constructor
 ·intro e
  have h1 := seg_len w i j
  rw [e] at h1
  simp at h1
  omega
 ·rintro rfl; exact seg_self w i
/-- what lies between two places is of the kind P -/
def Bt (w : Nat → ByteArray) (P : Wd → Prop) (i j : Nat) : Prop := i ≤ j ∧ P (seg w i j)
theorem Bt.le {w : Nat → ByteArray} {P : Wd → Prop} {i j : Nat} (h : Bt w P i j) : i ≤ j := h.1

/-- at most m steps -/
def St (R : Nat → Nat → Prop) : Nat → Nat → Nat → Prop
 | 0, i, j => i = j
 | m + 1, i, j => i = j ∨ ∃ k, R i k ∧ St R m k j
theorem St.refl (R : Nat → Nat → Prop) : ∀ m i, St R m i i
 | 0, i => rfl
 | m + 1, i => .inl rfl
theorem St.le {R : Nat → Nat → Prop} (hR : ∀ i k, R i k → i ≤ k) : ∀ {m i j}, St R m i j → i ≤ j
 | 0, i, j, h => Nat.le_of_eq h
 | m + 1, i, j, h => by
  rcases h with rfl | ⟨k, h1, h2⟩
  ·exact Nat.le_refl _
  ·exact Nat.le_trans (hR _ _ h1) (St.le hR h2)
theorem St_one (R : Nat → Nat → Prop) (i j : Nat) : St R 1 i j ↔ i = j ∨ R i j := by
 constructor
 ·rintro (h | ⟨k, h1, h2⟩)
  ·exact .inl h
  ·obtain rfl : k = j := h2
   exact .inr h1
 ·rintro (h | h)
  ·exact .inl h
  ·exact .inr ⟨j, h, rfl⟩
theorem St_up {R : Nat → Nat → Prop} : ∀ {m i j}, St R m i j → St R (m + 1) i j
 | 0, i, j, h => .inl h
 | m + 1, i, j, h => by
  rcases h with rfl | ⟨k, h1, h2⟩
  ·exact .inl rfl
  ·exact .inr ⟨k, h1, St_up h2⟩
theorem St_more {R : Nat → Nat → Prop} {m i j : Nat} (h : St R m i j) : ∀ d, St R (m + d) i j
 | 0 => h
 | d + 1 => St_up (St_more h d)
theorem St_add (R : Nat → Nat → Prop) : ∀ (a b i j : Nat), St R (a + b) i j ↔ ∃ k, St R a i k ∧ St R b k j
 | 0, b, i, j => by
  rw [Nat.zero_add]
  exact ⟨fun h => ⟨i, rfl, h⟩, fun ⟨k, h1, h2⟩ => by obtain rfl : i = k := h1; exact h2⟩
 | a + 1, b, i, j => by
  rw [show a + 1 + b = (a + b) + 1 by omega]
  constructor
  ·rintro (rfl | ⟨k, h1, h2⟩)
   ·exact ⟨i, St.refl _ _ _, St.refl _ _ _⟩
   ·obtain ⟨m, h3, h4⟩ := (St_add R a b k j).1 h2
    exact ⟨m, .inr ⟨k, h1, h3⟩, h4⟩
  ·rintro ⟨m, (rfl | ⟨k, h1, h2⟩), h3⟩
   ·rw [show (a + b) + 1 = b + (a + 1) by omega]
    exact St_more h3 _
   ·exact .inr ⟨k, h1, (St_add R a b k j).2 ⟨m, h2, h3⟩⟩
theorem St_star (w : Nat → ByteArray) (P : Wd → Prop) : ∀ (m i j : Nat), i ≤ j → j - i ≤ m → (St (Bt w P) m i j ↔ i = j ∨ Pl P (seg w i j))
 | 0, i, j, h, hm => by
  obtain rfl : i = j := by omega
  exact ⟨fun _ => .inl rfl, fun _ => rfl⟩
 | m + 1, i, j, h, hm => by
  constructor
  ·rintro (rfl | ⟨k, h1, h2⟩)
   ·exact .inl rfl
   ·have hkj := St.le (fun _ _ h => Bt.le h) h2
    by_cases hik : i < k
    ·rcases (St_star w P m k j hkj (by omega)).1 h2 with rfl | h3
     ·exact .inr (.one _ h1.2)
     ·right
      rw [← seg_app w h1.1 hkj]
      exact Pl.cons h1.2 h3
    ·obtain rfl : i = k := by have := h1.1; omega
     have hpn : Pl P (seg w i i) := .one _ h1.2
     by_cases hij : i = j
     ·exact .inl hij
     ·right
      -- an empty piece in front
      have : ∀ m j, St (Bt w P) m i j → i = j ∨ Pl P (seg w i j) := by
       intro m
       induction m with
       | zero => intro j h; exact .inl h
       | succ m ih =>
        intro j h
        rcases h with rfl | ⟨k, h3, h4⟩
        ·exact .inl rfl
        ·-- by the number of steps
         have gen : ∀ m k j, i ≤ k → Bt w P i k → St (Bt w P) m k j → Pl P (seg w i j) := by
          intro m
          induction m with
          | zero => intro k j hk hb h; obtain rfl : k = j := h; exact .one _ hb.2
          | succ m ih2 =>
           intro k j hk hb h
           have gen2 : ∀ m k j, i ≤ k → Pl P (seg w i k) → St (Bt w P) m k j → Pl P (seg w i j) := by
            intro m
            induction m with
            | zero => intro k j hk hb h; obtain rfl : k = j := h; exact hb
            | succ m ih3 =>
             intro k j hk hb h
             rcases h with rfl | ⟨l, h5, h6⟩
             ·exact hb
             ·refine ih3 l j (Nat.le_trans hk h5.1) ?_ h6
              rw [← seg_app w hk h5.1]
              exact .snoc _ _ hb h5.2
           exact gen2 (m + 1) k j hk (.one _ hb.2) h
         exact .inr (gen m k j h3.1 h3 h4)
      rcases this m j h2 with h3 | h3
      ·exact absurd h3 hij
      ·exact h3
  ·rintro (rfl | h1)
   ·exact .inl rfl
   ·by_cases hij : i = j
    ·exact .inl hij
    ·obtain ⟨p, q, e, hp0, hp, hq⟩ := Pl.split1 h1 (seg_ne w (by omega))
     obtain ⟨k, hik, hkj, rfl, rfl⟩ := seg_split h e
     have hik2 : i ≠ k := fun e => hp0 (by rw [e]; exact seg_self w k)
     refine .inr ⟨k, ⟨hik, hp⟩, (St_star w P m k j hkj (by omega)).2 ?_⟩
     rcases hq with hq | hq
     ·exact .inl ((seg_nil_iff w hkj).1 hq)
     ·exact .inr hq
/-- one and any more -/
theorem St_plus (w : Nat → ByteArray) (P : Wd → Prop) {m i j : Nat} (h : i ≤ j) (hm : j - i ≤ m) : (∃ k, Bt w P i k ∧ St (Bt w P) m k j) ↔ Pl P (seg w i j) := by
 constructor
 ·rintro ⟨k, h1, h2⟩
  have hkj := St.le (fun _ _ h => Bt.le h) h2
  rcases (St_star w P m k j hkj (by have := h1.1; omega)).1 h2 with rfl | h3
  ·exact .one _ h1.2
  ·rw [← seg_app w h1.1 hkj]
   exact Pl.cons h1.2 h3
 ·intro h1
  obtain ⟨p, q, e, hp, hq⟩ := Pl.split h1
  obtain ⟨k, hik, hkj, rfl, rfl⟩ := seg_split h e
  refine ⟨k, ⟨hik, hp⟩, (St_star w P m k j hkj (by omega)).2 ?_⟩
  rcases hq with hq | hq
  ·exact .inl ((seg_nil_iff w hkj).1 hq)
  ·exact .inr hq

theorem LS_snoc (x : X) : ∀ (ks : List X) (u : Wd), LS (ks ++ [x]) u ↔ ∃ p q, u = p ++ q ∧ LS ks p ∧ x.L q
 | [], u => by
  rw [List.nil_append, LS_cons]
  constructor
  ·rintro ⟨p, q, rfl, h1, h2⟩
   rw [LS_nil] at h2
   subst h2
   exact ⟨[], p, by simp, by rw [LS_nil], h1⟩
  ·rintro ⟨p, q, rfl, h1, h2⟩
   rw [LS_nil] at h1
   subst h1
   exact ⟨q, [], by simp, h2, by rw [LS_nil]⟩
 | y :: ys, u => by
  rw [List.cons_append, LS_cons]
  constructor
  ·rintro ⟨p, q, rfl, h1, h2⟩
   obtain ⟨a, b, rfl, h3, h4⟩ := (LS_snoc x ys q).1 h2
   exact ⟨p ++ a, b, by simp, (LS_cons _ _ _).2 ⟨p, a, rfl, h1, h3⟩, h4⟩
  ·rintro ⟨p, q, rfl, h1, h2⟩
   obtain ⟨a, b, rfl, h3, h4⟩ := (LS_cons _ _ _).1 h1
   exact ⟨a, b ++ q, by simp, h3, (LS_snoc x ys _).2 ⟨b, q, rfl, h4, h2⟩⟩
theorem LA_snoc (x : X) : ∀ (ks : List X) (u : Wd), LA (ks ++ [x]) u ↔ LA ks u ∨ x.L u
 | [], u => by rw [List.nil_append, LA_cons, LA_nil]; simp
 | y :: ys, u => by rw [List.cons_append, LA_cons, LA_cons, LA_snoc x ys u, or_assoc]
theorem Bt_LS_nil (w : Nat → ByteArray) (i j : Nat) : Bt w (LS []) i j ↔ i = j := by
 constructor
 ·rintro ⟨h, h1⟩
  rw [LS_nil] at h1
  exact (seg_nil_iff w h).1 h1
 ·rintro rfl
  exact ⟨Nat.le_refl _, by rw [LS_nil]; exact seg_self w i⟩
theorem Bt_LS_snoc (w : Nat → ByteArray) (ks : List X) (x : X) (i j : Nat) : Bt w (LS (ks ++ [x])) i j ↔ ∃ k, Bt w (LS ks) i k ∧ Bt w x.L k j := by
 constructor
 ·rintro ⟨h, h1⟩
  obtain ⟨p, q, e, h2, h3⟩ := (LS_snoc x ks _).1 h1
  obtain ⟨k, hik, hkj, rfl, rfl⟩ := seg_split h e
  exact ⟨k, ⟨hik, h2⟩, hkj, h3⟩
 ·rintro ⟨k, ⟨h1, h2⟩, h3, h4⟩
  exact ⟨Nat.le_trans h1 h3, (LS_snoc x ks _).2 ⟨_, _, (seg_app w h1 h3).symm, h2, h4⟩⟩
theorem Bt_LA_nil (w : Nat → ByteArray) (i j : Nat) : Bt w (LA []) i j ↔ False := by
 constructor
 ·rintro ⟨_, h⟩; rw [LA_nil] at h; exact h
 ·exact False.elim
theorem Bt_LA_snoc (w : Nat → ByteArray) (ks : List X) (x : X) (i j : Nat) : Bt w (LA (ks ++ [x])) i j ↔ Bt w (LA ks) i j ∨ Bt w x.L i j := by
 constructor
 ·rintro ⟨h, h1⟩
  rcases (LA_snoc x ks _).1 h1 with h2 | h2
  ·exact .inl ⟨h, h2⟩
  ·exact .inr ⟨h, h2⟩
 ·rintro (⟨h, h1⟩ | ⟨h, h1⟩)
  ·exact ⟨h, (LA_snoc x ks _).2 (.inl h1)⟩
  ·exact ⟨h, (LA_snoc x ks _).2 (.inr h1)⟩
theorem Bt_label (w : Nat → ByteArray) {x : X} (hk : x.kind = 1) (i j : Nat) : Bt w x.L i j ↔ j = i + 1 ∧ w i = x.lab := by
 constructor
 ·rintro ⟨h, h1⟩
  rw [X.L_eq, if_pos hk] at h1
  have h2 := seg_len w i j
  rw [h1] at h2
  simp at h2
  obtain rfl : j = i + 1 := by omega
  rw [seg_one] at h1
  exact ⟨rfl, by injection h1⟩
 ·rintro ⟨rfl, h⟩
  exact ⟨Nat.le_succ _, by rw [X.L_eq, if_pos hk, seg_one, h]⟩
theorem Bt_seq (w : Nat → ByteArray) {x : X} (hk : x.kind = 2) (i j : Nat) : Bt w x.L i j ↔ Bt w (LS x.kids) i j := by
 unfold Bt; rw [X.L_eq, if_neg (by omega), if_pos hk]
theorem Bt_alt (w : Nat → ByteArray) {x : X} (hk : x.kind = 3) (i j : Nat) : Bt w x.L i j ↔ Bt w (LA x.kids) i j := by
 unfold Bt; rw [X.L_eq, if_neg (by omega), if_neg (by omega), if_pos hk]
theorem LA_one' (a : X) (u : Wd) : LA [a] u ↔ a.L u := by rw [LA_cons, LA_nil]; simp
theorem LA_one_fun (a : X) : LA [a] = a.L := funext fun u => propext (LA_one' a u)
theorem Bt_opt (w : Nat → ByteArray) {x a : X} (hk : x.kind = 6) (hx : x.kids = [a]) (i j : Nat) : Bt w x.L i j ↔ i = j ∨ Bt w a.L i j := by
 unfold Bt
 rw [X.L_eq, if_neg (by omega), if_neg (by omega), if_neg (by omega), if_pos hk, hx, LA_one_fun]
 constructor
 ·rintro ⟨h, h1 | h1⟩
  ·exact .inl ((seg_nil_iff w h).1 h1)
  ·exact .inr ⟨h, h1⟩
 ·rintro (rfl | ⟨h, h1⟩)
  ·exact ⟨Nat.le_refl _, .inl (seg_self w i)⟩
  ·exact ⟨h, .inr h1⟩
theorem Bt_star (w : Nat → ByteArray) {x a : X} (hk : x.kind = 4) (hx : x.kids = [a]) {i j m : Nat} (hm : j - i ≤ m) : Bt w x.L i j ↔ St (Bt w a.L) m i j := by
 unfold Bt
 rw [X.L_eq, if_neg (by omega), if_neg (by omega), if_neg (by omega), if_neg (by omega), if_pos hk, hx, LA_one_fun]
 constructor
 ·rintro ⟨h, h1⟩
  refine (St_star w a.L m i j h hm).2 ?_
  rcases h1 with h1 | h1
  ·exact .inl ((seg_nil_iff w h).1 h1)
  ·exact .inr h1
 ·intro h1
  have h := St.le (fun _ _ h => Bt.le h) h1
  refine ⟨h, ?_⟩
  rcases (St_star w a.L m i j h hm).1 h1 with h2 | h2
  ·exact .inl ((seg_nil_iff w h).2 h2)
  ·exact .inr h2
theorem Bt_plus (w : Nat → ByteArray) {x a : X} (hk : x.kind = 5) (hx : x.kids = [a]) {i j m : Nat} (hm : j - i ≤ m) : Bt w x.L i j ↔ ∃ k, Bt w a.L i k ∧ St (Bt w a.L) m k j := by
 have e : Bt w x.L i j ↔ i ≤ j ∧ Pl a.L (seg w i j) := by
  unfold Bt
  rw [X.L_eq, if_neg (by omega), if_neg (by omega), if_neg (by omega), if_neg (by omega), if_neg (by omega), hx, LA_one_fun]
 rw [e]
 constructor
 ·rintro ⟨h, h1⟩
  exact (St_plus w a.L h hm).2 h1
 ·rintro ⟨k, h1, h2⟩
  have h := Nat.le_trans h1.1 (St.le (fun _ _ h => Bt.le h) h2)
  exact ⟨h, (St_plus w a.L h hm).1 ⟨k, h1, h2⟩⟩
end Go.Proofs.YtnccgaanfjaimaaDoor

namespace Go.Proofs.YtnccgaanfjaimaaDoor
open Go.ChangeShapes Go.WideShapes Go.ChangeAt Go.RowKit
set_option linter.unusedVariables false
set_option linter.unusedSimpArgs false

theorem XR.one {B g : Nat} {w : World} {k : Int} {l : ByteArray} {kv : Value} {x : X} {fr : Nat × Nat} (h : w.heap[g]? = some (.cells #[.int .i64 k, .string l, kv] 25 fr)) (hg : g < B) (hk : x.kind = k) (hl : x.lab = l) (hx : XR B w kv x.kids) (c : Nat) (hc : 1 ≤ c) : XR B w (.slice (some ⟨g, 0, none⟩) 1 c) [x] := by
 refine .mk (some ⟨g, 0, none⟩) c [x] ⟨g, 0, none⟩ (fun _ => kv) hc (fun _ => ⟨rfl, hg⟩) (fun i hi => ?_) (fun i hi => ?_) (fun i hi => ?_) (fun i hi => ?_)
 all_goals obtain rfl : i = 0 := by simpa using hi
 ·simpa [Addr.add, hk] using cell_of_row _ _ 0 _ _ _ h
 ·simpa [Addr.add, hl] using cell_of_row _ _ 1 _ _ _ h
 ·simpa [Addr.add] using cell_of_row _ _ 2 _ _ _ h
 ·exact hx
theorem XR.two {B g : Nat} {w : World} {k k' : Int} {l l' : ByteArray} {kv kv' : Value} {x x' : X} {fr : Nat × Nat} (h : w.heap[g]? = some (.cells #[.int .i64 k, .string l, kv, .int .i64 k', .string l', kv'] 25 fr)) (hg : g < B)
  (hk : x.kind = k) (hl : x.lab = l) (hx : XR B w kv x.kids) (hk' : x'.kind = k') (hl' : x'.lab = l') (hx' : XR B w kv' x'.kids) (c : Nat) (hc : 2 ≤ c) : XR B w (.slice (some ⟨g, 0, none⟩) 2 c) [x, x'] := by
 refine .mk (some ⟨g, 0, none⟩) c [x, x'] ⟨g, 0, none⟩ (fun i => if i = 0 then kv else kv') hc (fun _ => ⟨rfl, hg⟩) (fun i hi => ?_) (fun i hi => ?_) (fun i hi => ?_) (fun i hi => ?_)
 all_goals
  have h01 : i = 0 ∨ i = 1 := by simp at hi; omega
  rcases h01 with rfl | rfl
 ·simpa [Addr.add, hk] using cell_of_row _ _ 0 _ _ _ h
 ·simpa [Addr.add, hk'] using cell_of_row _ _ 3 _ _ _ h
 ·simpa [Addr.add, hl] using cell_of_row _ _ 1 _ _ _ h
 ·simpa [Addr.add, hl'] using cell_of_row _ _ 4 _ _ _ h
 ·simpa [Addr.add] using cell_of_row _ _ 2 _ _ _ h
 ·simpa [Addr.add] using cell_of_row _ _ 5 _ _ _ h
 ·exact hx
 ·exact hx'
theorem SR.lit (w : World) (l : List ByteArray) (t : TypeId) : SR (w.heap.size + 1) (w.alloc (.cells (l.map Value.string).toArray t)) (.slice (some ⟨w.heap.size, 0, none⟩) l.length l.length) l := by
 refine ⟨_, _, rfl, fun _ => ⟨_, rfl, by show w.heap.size < _; omega, fun k hk => ?_⟩⟩
 exact lit_cells w _ rfl (l.map Value.string) t k _ (by simp [hk])

def labX (s : ByteArray) : X := .mk 1 s []
def x0 : X := .mk 4 ⟨#[]⟩ [.mk 2 ⟨#[]⟩ [labX ⟨#[97]⟩, labX ⟨#[98]⟩]]
theorem x0_sz : x0.sz = 4 := by kernel_rfl
theorem x0_right : x0.right = true := by kernel_rfl
theorem x0_emp : x0.emp = true := by kernel_rfl
theorem x0_t2 : takesB x0 [⟨#[97]⟩, ⟨#[98]⟩] = true := by kernel_rfl
theorem x0_t4 : takesB x0 [⟨#[97]⟩, ⟨#[98]⟩, ⟨#[97]⟩, ⟨#[98]⟩] = true := by kernel_rfl
theorem x0_t1 : takesB x0 [⟨#[97]⟩] = false := by kernel_rfl
theorem x0_t3 : takesB x0 [⟨#[97]⟩, ⟨#[98]⟩, ⟨#[97]⟩] = false := by kernel_rfl
theorem x0_lit : x0.lit := by
 intro p hp
 have : x0.parts = [x0, .mk 2 ⟨#[]⟩ [labX ⟨#[97]⟩, labX ⟨#[98]⟩], labX ⟨#[97]⟩, labX ⟨#[98]⟩] := by kernel_rfl
 rw [this] at hp
 simp at hp
 rcases hp with rfl | rfl | rfl | rfl <;> (simp [x0, labX, X.lab, maxLen]; try decide)

def v0 (g : Nat) : Value := .agg #[.int .i64 4, .string ⟨#[]⟩, .slice (some ⟨g, 0, none⟩) 1 1]

theorem at_push (w : World) (o : Obj) : (w.alloc o).heap[w.heap.size]? = some o := by
 show (w.heap.push o)[w.heap.size]? = _
 simp
theorem lt_push (w : World) (o : Obj) : w.heap.size < (w.alloc o).heap.size := by
 show _ < (w.heap.push o).size
 simp
theorem box3 {W : World} {g : Nat} {a b c : Value} {t : TypeId} {fr : Nat × Nat} (h : W.heap[g]? = some (.cells #[a, b, c] t fr)) :
  W.cell? ⟨g, 0, none⟩ = some a ∧ W.cell? ⟨g, 1, none⟩ = some b ∧ W.cell? ⟨g, 2, none⟩ = some c :=
 ⟨cell_of_row _ _ 0 _ _ _ h, cell_of_row _ _ 1 _ _ _ h, cell_of_row _ _ 2 _ _ _ h⟩
end Go.Proofs.YtnccgaanfjaimaaDoor

namespace Go.Proofs.YtnccgaanfjaimaaDoor
open Go.ChangeShapes Go.WideShapes Go.ChangeAt Go.RowKit
set_option linter.unusedVariables false
set_option linter.unusedSimpArgs false

def ofX (k : Int) (ks : List X) : X := .mk k ⟨#[]⟩ ks
theorem ofX_sz (k : Int) (ks : List X) : (ofX k ks).sz = 1 + szL ks := X.sz_eq _
theorem parts_of (k : Int) (ks : List X) : (ofX k ks).parts = ofX k ks :: partsL ks := X.parts_eq _
theorem partsL_one (a : X) : partsL [a] = a.parts := by rw [partsL_cons, partsL_nil, List.append_nil]
theorem partsL_two (a b : X) : partsL [a, b] = a.parts ++ b.parts := by rw [partsL_cons, partsL_one]
theorem szL_one (a : X) : szL [a] = a.sz := by rw [szL_cons, szL_nil]; omega
theorem szL_two (a b : X) : szL [a, b] = a.sz + b.sz := by rw [szL_cons, szL_one]
theorem right_of2 {k : Int} (hk : k = 2 ∨ k = 3) {a b : X} (ha : a.right = true) (hb : b.right = true) (h1 : a.sz ≤ 11) (h2 : b.sz ≤ 11) : (ofX k [a, b]).right = true := by
 refine is_right (by rw [ofX_sz, szL_two]; omega) fun p hp => ?_
 rw [parts_of, partsL_two] at hp
 rcases List.mem_cons.1 hp with rfl | hp
 ·rcases hk with rfl | rfl <;> rfl
 ·rcases List.mem_append.1 hp with hp | hp
  ·exact (right_good ha).1 p hp
  ·exact (right_good hb).1 p hp
theorem right_of1 {k : Int} (hk : k = 4 ∨ k = 5 ∨ k = 6) {a : X} (ha : a.right = true) (h1 : a.sz ≤ 11) : (ofX k [a]).right = true := by
 refine is_right (by rw [ofX_sz, szL_one]; omega) fun p hp => ?_
 rw [parts_of, partsL_one] at hp
 rcases List.mem_cons.1 hp with rfl | hp
 ·rcases hk with rfl | rfl | rfl <;> rfl
 ·exact (right_good ha).1 p hp
theorem lit_L : ∀ {ks : List X}, (∀ y ∈ ks, y.lit) → ∀ p ∈ partsL ks, p.lab.size ≤ maxLen
 | [], h, p, hp => by rw [partsL_nil] at hp; cases hp
 | y :: ys, h, p, hp => by
  rw [partsL_cons] at hp
  rcases List.mem_append.1 hp with hp | hp
  ·exact h y (by simp) p hp
  ·exact lit_L (fun z hz => h z (by simp [hz])) p hp
theorem lit_of {k : Int} {ks : List X} (h : ∀ y ∈ ks, y.lit) : (ofX k ks).lit := by
 intro p hp
 rw [parts_of] at hp
 rcases List.mem_cons.1 hp with rfl | hp
 ·exact Nat.zero_le _
 ·exact lit_L h p hp

theorem bool_ext {a b : Bool} (h : a = true ↔ b = true) : a = b := by cases a <;> cases b <;> simp_all
/-- is one of the first? -/
def orN (f : Nat → Bool) : Nat → Bool
 | 0 => false
 | k + 1 => orN f k || f k
theorem orN_iff (f : Nat → Bool) : ∀ n, orN f n = true ↔ ∃ k, k < n ∧ f k = true
 | 0 => by
  constructor
  ·intro h; cases h
  ·rintro ⟨k, hk, _⟩; omega
 | n + 1 => by
  rw [orN, Bool.or_eq_true, orN_iff f n]
  constructor
  ·rintro (⟨k, hk, h⟩ | h)
   ·exact ⟨k, by omega, h⟩
   ·exact ⟨n, by omega, h⟩
  ·rintro ⟨k, hk, h⟩
   by_cases hkn : k = n
   ·subst hkn; exact .inr h
   ·exact .inl ⟨k, by omega, h⟩

theorem L_label (x : X) (u : Wd) (h : x.kind = 2) : x.L u ↔ LS x.kids u := by rw [X.L_eq, if_neg (by omega), if_pos h]
theorem takes_alt {a b : X} (ha : a.right = true) (hb : b.right = true) (h1 : a.sz ≤ 11) (h2 : b.sz ≤ 11) (u : Wd) : takesB (ofX 3 [a, b]) u = (takesB a u || takesB b u) := by
 refine bool_ext ?_
 rw [takesB_iff, Bool.or_eq_true, takesB_iff, takesB_iff, X.L_eq]
 simp only [ofX, X.kind, X.kids]
 rw [if_neg (by decide), if_neg (by decide), if_pos trivial, LA_cons, LA_cons, LA_nil, or_false]
 simp only [ha, hb, true_and, show (X.mk 3 ⟨#[]⟩ [a, b]).right = true from right_of2 (.inr rfl) ha hb h1 h2]
theorem takes_opt {a : X} (ha : a.right = true) (h1 : a.sz ≤ 11) (u : Wd) : takesB (ofX 6 [a]) u = (decide (u.length = 0) || takesB a u) := by
 refine bool_ext ?_
 rw [takesB_iff, Bool.or_eq_true, takesB_iff, X.L_eq, decide_eq_true_eq, List.length_eq_zero_iff]
 simp only [ofX, X.kind, X.kids]
 rw [if_neg (by decide), if_neg (by decide), if_neg (by decide), if_pos trivial, LA_cons, LA_nil, or_false]
 simp only [ha, true_and, show (X.mk 6 ⟨#[]⟩ [a]).right = true from right_of1 (.inr (.inr rfl)) ha h1]
theorem takes_seq {a b : X} (ha : a.right = true) (hb : b.right = true) (h1 : a.sz ≤ 11) (h2 : b.sz ≤ 11) (u : Wd) : takesB (ofX 2 [a, b]) u = orN (fun k => takesB a (u.take k) && takesB b (u.drop k)) (u.length + 1) := by
 refine bool_ext ?_
 rw [takesB_iff, orN_iff, X.L_eq]
 simp only [ofX, X.kind, X.kids, Bool.and_eq_true, takesB_iff, ha, hb, true_and]
 rw [if_neg (by decide), if_pos trivial, LS_cons]
 simp only [show (X.mk 2 ⟨#[]⟩ [a, b]).right = true from right_of2 (.inl rfl) ha hb h1 h2, true_and, LS_cons, LS_nil]
 constructor
 ·rintro ⟨p, q, rfl, hp, q1, q2, rfl, hq, rfl⟩
  exact ⟨p.length, by simp; omega, by simpa using hp, by simpa using hq⟩
 ·rintro ⟨k, hk, hp, hq⟩
  exact ⟨_, _, (List.take_append_drop k u).symm, hp, _, [], (List.append_nil _).symm, hq, rfl⟩
theorem LA_one (a : X) : LA [a] = a.L := by
 funext u
 exact propext (by rw [LA_cons, LA_nil, or_false])
theorem star_iff {a : X} (ha : a.right = true) (h1 : a.sz ≤ 11) (u : Wd) : takesB (ofX 4 [a]) u = true ↔ u = [] ∨ Pl a.L u := by
 rw [takesB_iff, X.L_eq]
 simp only [ofX, X.kind, X.kids]
 rw [if_neg (by decide), if_neg (by decide), if_neg (by decide), if_neg (by decide), if_pos trivial, LA_one]
 simp only [show (X.mk 4 ⟨#[]⟩ [a]).right = true from right_of1 (.inl rfl) ha h1, true_and]
theorem L5 (a : X) (u : Wd) : (ofX 5 [a]).L u ↔ Pl a.L u := by
 have h : (ofX 5 [a]).L u ↔ Pl (LA [a]) u := by
  unfold ofX
  rw [X.L]
  rfl
 rw [h, LA_one]
theorem plus_iff {a : X} (ha : a.right = true) (h1 : a.sz ≤ 11) (u : Wd) : takesB (ofX 5 [a]) u = true ↔ Pl a.L u := by
 rw [takesB_iff, L5]
 simp only [show (ofX 5 [a]).right = true from right_of1 (.inr (.inl rfl)) ha h1, true_and]
theorem takes_star {a : X} (ha : a.right = true) (h1 : a.sz ≤ 11) (u : Wd) : takesB (ofX 4 [a]) u = (decide (u.length = 0) || orN (fun k => decide (0 < k) && takesB a (u.take k) && takesB (ofX 4 [a]) (u.drop k)) (u.length + 1)) := by
 refine bool_ext ?_
 rw [star_iff ha h1, Bool.or_eq_true, orN_iff, decide_eq_true_eq, List.length_eq_zero_iff]
 simp only [Bool.and_eq_true, decide_eq_true_eq, takesB_iff a, star_iff ha h1, ha, true_and]
 constructor
 ·rintro (h | h)
  ·exact .inl h
  ·by_cases hu : u = []
   ·exact .inl hu
   ·obtain ⟨p, q, rfl, hp0, hp, hq⟩ := h.split1 hu
    refine .inr ⟨p.length, by simp; omega, ⟨List.length_pos_iff.2 hp0, by simpa using hp⟩, ?_⟩
    rw [List.drop_left]
    exact hq
 ·rintro (h | ⟨k, hk, ⟨h0, hp⟩, hq⟩)
  ·exact .inl h
  ·refine .inr ?_
   rw [← List.take_append_drop k u]
   rcases hq with hq | hq
   ·rw [hq, List.append_nil]
    exact .one _ hp
   ·exact Pl.cons hp hq
theorem takes_plus {a : X} (ha : a.right = true) (h1 : a.sz ≤ 11) (u : Wd) : takesB (ofX 5 [a]) u = orN (fun k => takesB a (u.take k) && takesB (ofX 4 [a]) (u.drop k)) (u.length + 1) := by
 refine bool_ext ?_
 rw [plus_iff ha h1, orN_iff]
 simp only [Bool.and_eq_true, takesB_iff a, star_iff ha h1, ha, true_and]
 constructor
 ·intro h
  obtain ⟨p, q, rfl, hp, hq⟩ := h.split
  exact ⟨p.length, by simp; omega, by simpa using hp, by simpa using hq⟩
 ·rintro ⟨k, hk, hp, hq⟩
  rw [← List.take_append_drop k u]
  rcases hq with hq | hq
  ·rw [hq, List.append_nil]
   exact .one _ hp
  ·exact Pl.cons hp hq
end Go.Proofs.YtnccgaanfjaimaaDoor

namespace Go.Proofs.YtnccgaanfjaimaaDoor
open Go.ChangeShapes Go.WideShapes Go.ChangeAt Go.RowKit
set_option linter.unusedVariables false
set_option linter.unusedSimpArgs false

attribute [local go_sem] Oper.semAt_some

theorem SR.take {B : Nat} {w : World} {A : Option Addr} {n c : Nat} {l : Wd} (h : SR B w (.slice A n c) l) {k : Nat} (hk : k ≤ l.length) : SR B w (.slice A k c) (l.take k) := by
 obtain ⟨A', c', e, h⟩ := h
 injection e with e1 e2 e3
 subst e1 e3
 refine ⟨A, c, by rw [List.length_take, Nat.min_eq_left hk], fun h0 => ?_⟩
 rw [List.length_take] at h0
 obtain ⟨ad, rfl, hb, hc⟩ := h (by omega)
 exact ⟨ad, rfl, hb, fun i hi => by rw [List.length_take] at hi; rw [hc i (by omega), List.getElem_take]⟩
def dropA (A : Option Addr) (c k : Nat) : Option Addr := if c = k then A else A.map fun ad => ad.add k
theorem SR.drop {B : Nat} {w : World} {A : Option Addr} {n c : Nat} {l : Wd} (h : SR B w (.slice A n c) l) (hnc : n ≤ c) {k : Nat} (hk : k ≤ l.length) : SR B w (.slice (dropA A c k) (n - k : Nat) (c - k : Nat)) (l.drop k) := by
 obtain ⟨A', c', e, h⟩ := h
 injection e with e1 e2 e3
 subst e1 e3
 refine ⟨_, c - k, by rw [List.length_drop, e2], fun h0 => ?_⟩
 rw [List.length_drop] at h0
 obtain ⟨ad, rfl, hb, hc⟩ := h (by omega)
 unfold dropA
 rw [if_neg (by omega)]
 exact ⟨ad.add k, rfl, by rw [block_add]; exact hb, fun i hi => by rw [List.length_drop] at hi; rw [add_of_add, hc (k + i) (by omega), List.getElem_drop]⟩
theorem lit_below {W W' : World} {o : Obj} (h : Gr (W.alloc o) W') : Below (W.heap.size + 1) (W.alloc o) W' := by
 have := h.below
 rwa [World.size_alloc] at this
theorem lit_step {W1 W W' : World} {o : Obj} (hb : Below W1.heap.size W1 W) (h : Gr (W.alloc o) W') : Below W1.heap.size W1 W' :=
 (hb.alloc hb.size o).trans (h.below.mono (by have := hb.size; rw [World.size_alloc]; omega))
theorem calls_base {f : FuncId} {args : Array Value} {W0 W : World} {r : Ending} (h : Calls Tryd.prog f args W fun e w' => e = r ∧ Below W.heap.size W w') (hb : Below W0.heap.size W0 W) :
  Calls Tryd.prog f args W fun e w' => e = r ∧ Below W0.heap.size W0 w' :=
 h.mono (by rintro e w1 ⟨rfl, h1⟩; exact ⟨rfl, hb.trans (h1.mono hb.size)⟩)
theorem XV.of1 {s0 : Nat} {W0 W W' : World} {k ka : Int} {la : ByteArray} {kva : Value} {a : X} (h : XV s0 W0 (.agg #[.int .i64 ka, .string la, kva]) a) (hb : Below s0 W0 W) (hs : s0 ≤ W.heap.size)
  (h2 : Below (W.heap.size + 1) (W.alloc (.cells #[.int .i64 ka, .string la, kva] 25)) W') : XV W'.heap.size W' (.agg #[.int .i64 k, .string ⟨#[]⟩, .slice (some ⟨W.heap.size, 0, none⟩) 1 1]) (ofX k [a]) := by
 obtain ⟨kv, e, hr⟩ := h
 injection e with e
 injection e with e
 injection e with e1 e
 injection e with e2 e
 injection e with e3 e
 injection e1 with _ e1
 injection e2 with e2
 subst e1 e2 e3
 have hz : W.heap.size + 1 ≤ W'.heap.size := by have := h2.size; simpa using this
 refine ⟨_, rfl, XR.one (g := W.heap.size) ((h2.block _ (by omega)).trans (at_push _ _)) (by omega) rfl rfl ?_ 1 (Nat.le_refl _)⟩
 refine (((hr.bel hb).bel ((Below.refl _ W).alloc hs _)).bel (h2.mono (by omega))).mono (by omega)
theorem XV.of2 {s0 : Nat} {W0 W W' : World} {k ka kb : Int} {la lb : ByteArray} {kva kvb : Value} {a b : X} (h : XV s0 W0 (.agg #[.int .i64 ka, .string la, kva]) a) (h' : XV s0 W0 (.agg #[.int .i64 kb, .string lb, kvb]) b) (hb : Below s0 W0 W) (hs : s0 ≤ W.heap.size)
  (h2 : Below (W.heap.size + 1) (W.alloc (.cells #[.int .i64 ka, .string la, kva, .int .i64 kb, .string lb, kvb] 25)) W') : XV W'.heap.size W' (.agg #[.int .i64 k, .string ⟨#[]⟩, .slice (some ⟨W.heap.size, 0, none⟩) 2 2]) (ofX k [a, b]) := by
 obtain ⟨kv, e, hr⟩ := h
 injection e with e
 injection e with e
 injection e with e1 e
 injection e with e2 e
 injection e with e3 e
 injection e1 with _ e1
 injection e2 with e2
 subst e1 e2 e3
 obtain ⟨kv', e, hr'⟩ := h'
 injection e with e
 injection e with e
 injection e with e1 e
 injection e with e2 e
 injection e with e3 e
 injection e1 with _ e1
 injection e2 with e2
 subst e1 e2 e3
 have hz : W.heap.size + 1 ≤ W'.heap.size := by have := h2.size; simpa using this
 refine ⟨_, rfl, XR.two (g := W.heap.size) ((h2.block _ (by omega)).trans (at_push _ _)) (by omega) rfl rfl ?_ rfl rfl ?_ 2 (Nat.le_refl _)⟩
 ·exact (((hr.bel hb).bel ((Below.refl _ W).alloc hs _)).bel (h2.mono (by omega))).mono (by omega)
 ·exact (((hr'.bel hb).bel ((Below.refl _ W).alloc hs _)).bel (h2.mono (by omega))).mono (by omega)

end Go.Proofs.YtnccgaanfjaimaaDoor

namespace Go.Proofs.YtnccgaanfjaimaaDoor
open Go.ChangeShapes Go.WideShapes Go.ChangeAt Go.RowKit
set_option linter.unusedVariables false
set_option linter.unusedSimpArgs false

attribute [local go_sem] Oper.semAt_some

def upd (f : Nat → Nat → Bool) (i j : Nat) (b : Bool) : Nat → Nat → Bool := fun i' j' => if i' = i ∧ j' = j then b else f i' j'
theorem upd_self (f : Nat → Nat → Bool) (i j : Nat) (b : Bool) : upd f i j b i j = b := by simp [upd]
theorem upd_ne (f : Nat → Nat → Bool) {i j i' j' : Nat} (b : Bool) (h : ¬ (i' = i ∧ j' = j)) : upd f i j b i' j' = f i' j' := by simp [upd, h]

/-- the row at block g holds rows of n + 1 flags, each in a block of its own; all lie at B or above -/
structure MtAt (B : Nat) (w : World) (g : Nat) (r : Nat → Nat) (n : Nat) (f : Nat → Nat → Bool) : Prop where
 hb : B ≤ g
 outer : ∃ cur, w.heap[g]? = some (.cells cur 42 (0, 0)) ∧ ∀ i, i ≤ n → cur[i]? = some (.slice (some ⟨r i, 0, none⟩) (n + 1) (n + 1))
 row : ∀ i, i ≤ n → B ≤ r i ∧ ∃ row, w.heap[r i]? = some (.cells row 4 (0, 0)) ∧ row.size = n + 1 ∧ ∀ j, j ≤ n → row[j]? = some (.bool (f i j))
 inj : ∀ i j, i ≤ n → j ≤ n → r i = r j → i = j

theorem MtAt.lt {B : Nat} {w : World} {g : Nat} {r : Nat → Nat} {n : Nat} {f : Nat → Nat → Bool} (h : MtAt B w g r n f) : g < w.heap.size := by
 obtain ⟨cur, h1, _⟩ := h.outer
 exact (Array.getElem?_eq_some_iff.1 h1).1
theorem MtAt.row_lt {B : Nat} {w : World} {g : Nat} {r : Nat → Nat} {n : Nat} {f : Nat → Nat → Bool} (h : MtAt B w g r n f) {i : Nat} (hi : i ≤ n) : r i < w.heap.size := by
 obtain ⟨_, row, h1, _⟩ := h.row i hi
 exact (Array.getElem?_eq_some_iff.1 h1).1
theorem MtAt.bel {B : Nat} {w w' : World} {g : Nat} {r : Nat → Nat} {n : Nat} {f : Nat → Nat → Bool} (h : MtAt B w g r n f) (hb : Below w.heap.size w w') : MtAt B w' g r n f := by
 refine ⟨h.hb, ?_, fun i hi => ?_, h.inj⟩
 ·obtain ⟨cur, h1, h2⟩ := h.outer
  exact ⟨cur, (hb.block _ h.lt).trans h1, h2⟩
 ·obtain ⟨hB, row, h1, h2⟩ := h.row i hi
  exact ⟨hB, row, (hb.block _ (h.row_lt hi)).trans h1, h2⟩
theorem MtAt.mono {B B' : Nat} {w : World} {g : Nat} {r : Nat → Nat} {n : Nat} {f : Nat → Nat → Bool} (h : MtAt B w g r n f) (hB : B' ≤ B) : MtAt B' w g r n f :=
 ⟨Nat.le_trans hB h.hb, h.outer, fun i hi => ⟨Nat.le_trans hB (h.row i hi).1, (h.row i hi).2⟩, h.inj⟩
theorem MtAt.ext {B : Nat} {w : World} {g : Nat} {r : Nat → Nat} {n : Nat} {f f' : Nat → Nat → Bool} (h : MtAt B w g r n f) (e : ∀ i j, i ≤ n → j ≤ n → f i j = f' i j) : MtAt B w g r n f' :=
 ⟨h.hb, h.outer, fun i hi => by
  obtain ⟨h1, row, h2, h3, h4⟩ := h.row i hi
  exact ⟨h1, row, h2, h3, fun j hj => by rw [h4 j hj, e i j hi hj]⟩, h.inj⟩
theorem MtAt.cell {B : Nat} {w : World} {g : Nat} {r : Nat → Nat} {n : Nat} {f : Nat → Nat → Bool} (h : MtAt B w g r n f) {i : Nat} (hi : i ≤ n) : w.cell? ⟨g, i, none⟩ = some (.slice (some ⟨r i, 0, none⟩) (n + 1) (n + 1)) := by
 obtain ⟨cur, h1, h2⟩ := h.outer
 rw [cell_of_row _ _ _ _ _ _ h1]
 exact h2 i hi
theorem MtAt.flag {B : Nat} {w : World} {g : Nat} {r : Nat → Nat} {n : Nat} {f : Nat → Nat → Bool} (h : MtAt B w g r n f) {i j : Nat} (hi : i ≤ n) (hj : j ≤ n) : w.cell? ⟨r i, j, none⟩ = some (.bool (f i j)) := by
 obtain ⟨_, row, h1, _, h2⟩ := h.row i hi
 rw [cell_of_row _ _ _ _ _ _ h1]
 exact h2 j hj
theorem MtAt.frozen {B : Nat} {w : World} {g : Nat} {r : Nat → Nat} {n : Nat} {f : Nat → Nat → Bool} (h : MtAt B w g r n f) {i : Nat} (hi : i ≤ n) (j : Nat) : w.frozen? ⟨r i, j, none⟩ = false := by
 obtain ⟨_, row, h1, _, h2⟩ := h.row i hi
 simp [World.frozen?, h1]
theorem MtAt.set {B : Nat} {w : World} {g : Nat} {r : Nat → Nat} {n : Nat} {f : Nat → Nat → Bool} (h : MtAt B w g r n f) {i j : Nat} (hi : i ≤ n) (hj : j ≤ n) (b : Bool) : MtAt B (w.setCell ⟨r i, j, none⟩ (.bool b)) g r n (upd f i j b) := by
 have hne : g ≠ r i := by
  obtain ⟨cur, h1, _⟩ := h.outer
  obtain ⟨_, row, h2, _⟩ := h.row i hi
  rintro e
  rw [e, h2] at h1
  injection h1 with h1
  injection h1 with _ h1 _
  cases h1
 refine ⟨h.hb, ?_, fun i' hi' => ?_, h.inj⟩
 ·obtain ⟨cur, h1, h2⟩ := h.outer
  exact ⟨cur, (Below.heap_setCell w _ _ _ hne).trans h1, h2⟩
 ·obtain ⟨hB, row, h1, h2, h3⟩ := h.row i' hi'
  by_cases e : i' = i
  ·subst e
   refine ⟨hB, row.setIfInBounds j (.bool b), ?_, by simp [h2], fun j' hj' => ?_⟩
   ·simp only [World.setCell]
    rw [Array.getElem?_modify]
    simp [h1]
   ·by_cases ej : j' = j
    ·subst ej
     rw [upd_self, Array.getElem?_setIfInBounds_self_of_lt (by omega)]
    ·rw [upd_ne _ _ (fun h => ej h.2), Array.getElem?_setIfInBounds_ne (fun h => ej h.symm)]
     exact h3 j' hj'
  ·refine ⟨hB, row, (Below.heap_setCell w _ _ _ (fun h' => e (h.inj _ _ hi' hi h'))).trans h1, h2, fun j' hj' => ?_⟩
   rw [upd_ne _ _ (fun h => e h.1)]
   exact h3 j' hj'

/-- a square as a value -/
def Mt (B : Nat) (w : World) (v : Value) (n : Nat) (f : Nat → Nat → Bool) : Prop := ∃ g c r, v = .slice (some ⟨g, 0, none⟩) (n + 1) c ∧ n + 1 ≤ c ∧ MtAt B w g r n f
theorem Mt.bel {B : Nat} {w w' : World} {v : Value} {n : Nat} {f : Nat → Nat → Bool} (h : Mt B w v n f) (hb : Below w.heap.size w w') : Mt B w' v n f := by
 obtain ⟨g, c, r, e, hc, h⟩ := h
 exact ⟨g, c, r, e, hc, h.bel hb⟩
theorem Mt.mono {B B' : Nat} {w : World} {v : Value} {n : Nat} {f : Nat → Nat → Bool} (h : Mt B w v n f) (hB : B' ≤ B) : Mt B' w v n f := by
 obtain ⟨g, c, r, e, hc, h⟩ := h
 exact ⟨g, c, r, e, hc, h.mono hB⟩
theorem Mt.ext {B : Nat} {w : World} {v : Value} {n : Nat} {f f' : Nat → Nat → Bool} (h : Mt B w v n f) (e : ∀ i j, i ≤ n → j ≤ n → f i j = f' i j) : Mt B w v n f' := by
 obtain ⟨g, c, r, e1, hc, h⟩ := h
 exact ⟨g, c, r, e1, hc, h.ext e⟩

theorem parts59 : (Tryd.prog.info? 42).map (fun i => (i.zero, i.size, i.bytes)) = some (some (.slice none 0 0), 1, 24) := by kernel_rfl
theorem parts4 : (Tryd.prog.info? 4).map (fun i => (i.zero, i.size, i.bytes)) = some (some (.bool false), 1, 1) := by kernel_rfl

/-- the rows that are made so far -/
def rowsV (r : Nat → Nat) (n k : Nat) : List Value := (List.range k).map fun i => .slice (some ⟨r i, 0, none⟩) (n + 1) (n + 1)
structure MkR (W : World) (B : Nat) (r : Nat → Nat) (n k : Nat) : Prop where
 row : ∀ i, i < k → B ≤ r i ∧ ∃ row, W.heap[r i]? = some (.cells row 4 (0, 0)) ∧ row.size = n + 1 ∧ ∀ j, j ≤ n → row[j]? = some (.bool false)
 up : ∀ i j, i < j → j < k → r i < r j
theorem made_flags (n : Nat) : (madeCells (Value.bool false).cells (n + 1)).size = n + 1 ∧ ∀ j, j ≤ n → (madeCells (Value.bool false).cells (n + 1))[j]? = some (.bool false) := by
 refine ⟨size_madeCells _ _, fun j hj => ?_⟩
 have hz : (Value.bool false).cells = #[.bool false] := rfl
 rw [hz]
 have hz2 : ∀ m, (#[Value.bool false] : Array Value)[m % (#[Value.bool false] : Array Value).size]! = .bool false := fun m => by
  have : m % (#[Value.bool false] : Array Value).size = 0 := by simp [Nat.mod_one]
  rw [this]; rfl
 unfold madeCells
 rw [Array.getElem?_map, Array.getElem?_range, if_pos (by omega)]
 exact congrArg some (hz2 j)

/-- a row more -/
theorem MkR.more {w W w4 : World} {B n k : Nat} {r : Nat → Nat} {v : Value} {xs : List Value} {M : Array Value} (h : MkR W B r n k) (hown : W.ownsRow B 42 1 v k xs) (hB : B ≤ W.heap.size) (hM : M.size = n + 1 ∧ ∀ j, j ≤ n → M[j]? = some (.bool false))
  {o : Obj} (hg : ((W.alloc (.cells M 4)).alloc o).grownBy w4 v.ownBlock) : MkR w4 B (fun i => if i = k then W.heap.size else r i) n (k + 1) := by
 have hlt : ∀ g, v.ownBlock = some g → g < W.heap.size := fun g e => (hown.lt g e).2
 have hty : ∀ g, v.ownBlock = some g → ∃ cur, W.heap[g]? = some (.cells cur 42 (0, 0)) := fun g e => by
  rcases hown.2 with ⟨rfl, _⟩ | ⟨g', cap, cur, rfl, _, hgg, _⟩
  ·cases e
  ·obtain rfl : g' = g := by simpa [Value.ownBlock] using e
   exact ⟨cur, hgg⟩
 refine ⟨fun i hi => ?_, fun i j hij hj => ?_⟩
 ·by_cases e : i = k
  ·subst e
   rw [if_pos rfl]
   refine ⟨hB, M, ?_, hM.1, hM.2⟩
   rw [hg.block _ (by simp; omega) (fun e => Nat.lt_irrefl _ (hlt _ e.symm)), Below.heap_alloc _ _ _ (by simp)]
   exact at_push _ _
  ·rw [if_neg e]
   obtain ⟨h1, row, h2, h3⟩ := h.row i (by omega)
   have hl := (Array.getElem?_eq_some_iff.1 h2).1
   refine ⟨h1, row, ?_, h3⟩
   rw [hg.block _ (by simp; omega) (fun e => by
    obtain ⟨cur, h4⟩ := hty _ e.symm
    rw [h2] at h4
    injection h4 with h4
    injection h4 with _ h4 _
    cases h4), Below.heap_alloc _ _ _ (by simp; omega), Below.heap_alloc _ _ _ hl]
   exact h2
 ·have hik : i ≠ k := by omega
  show (if i = k then W.heap.size else r i) < (if j = k then W.heap.size else r j)
  rw [if_neg hik]
  by_cases e : j = k
  ·rw [if_pos e]
   obtain ⟨_, row, h2, _⟩ := h.row i (by omega)
   exact (Array.getElem?_eq_some_iff.1 h2).1
  ·rw [if_neg e]
   exact h.up i j hij (by omega)
theorem rowsV_more (r : Nat → Nat) (n k m : Nat) : rowsV (fun i => if i = k then m else r i) n (k + 1) = rowsV r n k ++ [.slice (some ⟨m, 0, none⟩) (n + 1) (n + 1)] := by
 unfold rowsV
 rw [List.range_succ, List.map_append]
 congr 1
 ·refine List.map_congr_left fun i hi => ?_
  have : i < k := List.mem_range.1 hi
  show Value.slice (some ⟨if i = k then m else r i, 0, none⟩) (n + 1) (n + 1) = _
  rw [if_neg (by omega)]
 ·simp
theorem MkR.mt {w : World} {B n : Nat} {r : Nat → Nat} {v : Value} (h : MkR w B r n (n + 1)) (hown : w.ownsRow B 42 1 v (n + 1) (rowsV r n (n + 1))) : Mt B w v n (fun _ _ => false) := by
 rcases hown.2 with ⟨_, h0⟩ | ⟨g, cap, cur, rfl, hb, hgg, hc, _, hcs, ht⟩
 ·omega
 ·refine ⟨g, cap, r, rfl, hc, hb, ⟨cur, hgg, fun i hi => ?_⟩, fun i hi => h.row i (by omega), fun i j hi hj e => ?_⟩
  ·have h1 : (cur.toList.take ((n + 1) * 1))[i]? = (rowsV r n (n + 1))[i]? := by rw [ht]
   rw [List.getElem?_take_of_lt (by omega), Array.getElem?_toList] at h1
   rw [h1]
   simp [rowsV, show i < n + 1 by omega]
  ·rcases Nat.lt_trichotomy i j with h1 | h1 | h1
   ·have := h.up i j h1 (by omega); omega
   ·exact h1
   ·have := h.up j i h1 (by omega); omega

set_option maxRecDepth 100000 in
set_option maxHeartbeats 4000000 in
theorem none60_any (w : World) (n : Nat) (hn : n ≤ 100000) : Calls Tryd.prog 88 #[.int .i64 n] w fun e w' => ∃ v, e = .returned v ∧ Mt w.heap.size w' v n (fun _ _ => false) ∧ Below w.heap.size w w' := by
 obtain ⟨i0, hi, hy0, hy1, hy2⟩ := info_parts parts59
 obtain ⟨i4, hi4, hz4, hs4, hb4⟩ := info_parts parts4
 obtain ⟨M, hM⟩ : ∃ M, M = madeCells (Value.bool false).cells (n + 1) := ⟨_, rfl⟩
 have hmk : ∀ W : World, (Instr.makeSlice 42 (.int .i64 ((n : Int) + 1)) (.int .i64 ((n : Int) + 1))).run Tryd.prog W = .ok (.slice (some ⟨W.heap.size, 0, none⟩) (n + 1) (n + 1)) (W.alloc (.cells M 4)) := fun W => by
  have h := run_make (P := Tryd.prog) W 42 4 i4 (.bool false) Tryd.underlying42 hi4 hz4 .i64 .i64 ((n : Int) + 1) ((n : Int) + 1) (by omega) (by omega) (by rw [hb4]; omega) (by omega)
  rw [show ((n : Int) + 1).toNat = n + 1 by omega, hs4, Nat.mul_one, ← hM] at h
  exact h
 have HM := Lib.hid (show M.size = n + 1 ∧ ∀ j, j ≤ n → M[j]? = some (.bool false) by rw [hM]; exact made_flags n)
 clear hM
 go_enter Tryd.func88, Tryd.ntmps88
 go_upto_region 3 with (fail)
 go_loopw [3, 4] (fun u3 u4 wr => ∃ (k : Nat) (r : Nat → Nat), k ≤ n + 1 ∧ u4 = .int .i64 k ∧ wr.ownsRow w.heap.size 42 1 u3 k (rowsV r n k) ∧ MkR wr w.heap.size r n k ∧ Below w.heap.size w wr) (fun _ u4 _ => n + 2 - (intOf u4).toNat)
 case atStart => exact ⟨0, fun _ => 0, Nat.zero_le _, rfl, World.ownsRow_nil _ _ _ _, ⟨fun i h => absurd h (Nat.not_lt_zero _), fun i j _ h => absurd h (Nat.not_lt_zero _)⟩, Below.refl _ _⟩
 case round =>
  obtain ⟨k, r, hk, rfl, hrow, hrw, hbe⟩ := hrel
  have HROW := Lib.hid hrow
  have HRW := Lib.hid hrw
  have HBE := Lib.hid hbe
  have hzr := hbe.size
  clear hrow hrw hbe
  by_cases hkn : k ≤ n
  ·have hki : (k : Int) ≤ (n : Int) := by omega
   obtain ⟨A, c, rfl⟩ := row_form HROW.out
   go_wp2_with (at_builtin; refine wpList_append_own_at _ rfl _ _ 43 rfl w.heap.size 42 i0 (.slice none 0 0) 1 24 Tryd.underlying43 hi hy0 hy1 hy2 rfl (by decide) _ _ _ rfl ((HROW.out.alloc _).alloc _) ⟨wr.heap.size + 1, 0, none⟩ 1 1 [.slice (some ⟨wr.heap.size, 0, none⟩) (n + 1) (n + 1)] rfl rfl (lit_cells (wr.alloc _) _ (by simp) _ 42) (by simp [Value.oneCell']) (by unfold maxLen; omega) (by omega) (by simp; omega) ?_; intro v' w4 hown' hgrow hnil hloc)
   go_roundw
   case rel =>
    refine ⟨k + 1, fun i => if i = k then wr.heap.size else r i, by omega, by go_num, ?_, HRW.out.more (w := w) HROW.out hzr HM.out hgrow, ?_⟩
    ·rw [rowsV_more]
     exact hown'
    ·exact ((HBE.out.alloc hzr _).alloc (by simp; omega) _).grown hgrow (by simp; omega) (fun g hg => (HROW.out.lt g hg).1)
   case measure => simp [intOf]; omega
  ·have hki : ¬ (k : Int) ≤ (n : Int) := by omega
   obtain rfl : k = n + 1 := by omega
   go_wp2_with fail
   go_ret
   exact ⟨_, rfl, HRW.out.mt HROW.out, HBE.out⟩
end Go.Proofs.YtnccgaanfjaimaaDoor

namespace Go.Proofs.YtnccgaanfjaimaaDoor
open Go.ChangeShapes Go.WideShapes Go.ChangeAt Go.RowKit
set_option linter.unusedVariables false
set_option linter.unusedSimpArgs false

attribute [local go_sem] Oper.semAt_some

noncomputable def pB (P : Prop) : Bool := @decide P (Classical.propDecidable P)
theorem pB_iff {P : Prop} : pB P = true ↔ P := ⟨fun h => @of_decide_eq_true _ (Classical.propDecidable _) h, fun h => @decide_eq_true _ (Classical.propDecidable _) h⟩
noncomputable def pF (P : Nat → Nat → Prop) : Nat → Nat → Bool := fun i j => pB (P i j)
theorem pF_iff {P : Nat → Nat → Prop} {i j : Nat} : pF P i j = true ↔ P i j := pB_iff
theorem MtAt.set_p {B : Nat} {w : World} {g : Nat} {r : Nat → Nat} {n : Nat} {P P' : Nat → Nat → Prop} (h : MtAt B w g r n (pF P)) {i j : Nat} (hi : i ≤ n) (hj : j ≤ n) (b : Bool) (hb : b = true ↔ P' i j) (hr : ∀ i' j', ¬ (i' = i ∧ j' = j) → (P i' j' ↔ P' i' j')) :
  MtAt B (w.setCell ⟨r i, j, none⟩ (.bool b)) g r n (pF P') :=
 (h.set hi hj b).ext fun i' j' _ _ => by
  by_cases e : i' = i ∧ j' = j
  ·rw [e.1, e.2, upd_self]
   exact bool_ext (hb.trans pF_iff.symm)
  ·rw [upd_ne _ _ e]
   exact bool_ext (pF_iff.trans ((hr i' j' e).trans pF_iff.symm))
theorem MtAt.ext_p {B : Nat} {w : World} {g : Nat} {r : Nat → Nat} {n : Nat} {P P' : Nat → Nat → Prop} (h : MtAt B w g r n (pF P)) (e : ∀ i j, i ≤ n → j ≤ n → (P i j ↔ P' i j)) : MtAt B w g r n (pF P') :=
 h.ext fun i j hi hj => bool_ext (pF_iff.trans ((e i j hi hj).trans pF_iff.symm))
theorem Mt.ext_p {B : Nat} {w : World} {v : Value} {n : Nat} {P P' : Nat → Nat → Prop} (h : Mt B w v n (pF P)) (e : ∀ i j, i ≤ n → j ≤ n → (P i j ↔ P' i j)) : Mt B w v n (pF P') :=
 h.ext fun i j hi hj => bool_ext (pF_iff.trans ((e i j hi hj).trans pF_iff.symm))
theorem none_p : (fun _ _ => false) = pF (fun _ _ => False) := funext fun i => funext fun j => bool_ext (by rw [pF_iff]; simp)

set_option maxRecDepth 100000 in
set_option maxHeartbeats 4000000 in
theorem still61_any (w : World) (n : Nat) (hn : n ≤ 100000) : Calls Tryd.prog 89 #[.int .i64 n] w fun e w' => ∃ v, e = .returned v ∧ Mt w.heap.size w' v n (pF fun i j => i = j) ∧ Below w.heap.size w w' := by
 have HN := Lib.hid (none60_any w n hn)
 go_enter Tryd.func89, Tryd.ntmps89
 go_upto_region 3 with (go_at_call 88; refine HN.out.mono ?_; rintro e w1 ⟨v, rfl, hm, hb⟩)
 rw [none_p] at hm
 obtain ⟨g, c, r, rfl, hc, hm⟩ := hm
 have HM := Lib.hid (And.intro hm hb)
 have hcc : n + 1 ≤ c := hc
 clear hm hb
 go_loopw [4] (fun u4 wr => ∃ k : Nat, k ≤ n + 1 ∧ u4 = .int .i64 k ∧ MtAt w.heap.size wr g r n (pF fun i j => i = j ∧ i < k) ∧ Below w.heap.size w wr) (fun u4 _ => n + 2 - (intOf u4).toNat)
 case atStart => exact ⟨0, Nat.zero_le _, rfl, HM.out.1.ext_p (fun i j _ _ => by simp), HM.out.2⟩
 case round =>
  obtain ⟨k, hk, rfl, hm, hb⟩ := hrel
  have HR := Lib.hid (And.intro hm hb)
  by_cases hkn : k ≤ n
  ·have hki : (k : Int) ≤ (n : Int) := by omega
   have hki1 : (k : Int) < (n : Int) + 1 := by omega
   have hkn1 : k < n + 1 := by omega
   have h1 := hm.cell hkn
   have h2 := hm.flag hkn hkn
   have h3 := hm.frozen hkn k
   generalize hrk : r k = rk at *
   have HRK := Lib.hid hrk
   clear hm hb hrk
   go_wp2_with fail
   go_roundw
   case rel =>
    refine ⟨k + 1, by omega, by go_num, ?_, ?_⟩
    ·have h4 := HR.out.1.set_p (P' := fun i j => i = j ∧ i < k + 1) hkn hkn true (by simp) (fun i' j' h => by omega)
     rw [HRK.out] at h4
     exact h4
    ·refine HR.out.2.setCell ?_ _
     have h4 := (HR.out.1.row k hkn).1
     rw [HRK.out] at h4
     exact h4
   case measure => simp [intOf]; omega
  ·have hki : ¬ (k : Int) ≤ (n : Int) := by omega
   go_wp2_with fail
   go_ret
   exact ⟨_, rfl, ⟨g, c, r, rfl, hcc, HR.out.1.ext_p (fun i j hi hj => by omega)⟩, HR.out.2⟩

set_option maxRecDepth 100000 in
set_option maxHeartbeats 8000000 in
theorem either63_any {Ba Bb : Nat} {w : World} {va vb : Value} {n : Nat} {P Q : Nat → Nat → Prop} (hn : n ≤ 100000) (ha : Mt Ba w va n (pF P)) (hb : Mt Bb w vb n (pF Q)) :
  Calls Tryd.prog 91 #[va, vb] w fun e w' => ∃ v, e = .returned v ∧ Mt w.heap.size w' v n (pF fun i j => i ≤ j ∧ (P i j ∨ Q i j)) ∧ Below w.heap.size w w' := by
 obtain ⟨ga, ca, ra, rfl, hca, ha⟩ := ha
 obtain ⟨gb, cb, rb, rfl, hcb, hb⟩ := hb
 have HA := Lib.hid (fun W (h : Below w.heap.size w W) => ha.bel h)
 have HB := Lib.hid (fun W (h : Below w.heap.size w W) => hb.bel h)
 have HN := Lib.hid (none60_any w n hn)
 clear ha hb
 go_enter Tryd.func91, Tryd.ntmps91
 go_upto_region 3 with (go_at_call 88; refine HN.out.mono ?_; rintro e w1 ⟨v, rfl, hm, hb⟩)
 rw [none_p] at hm
 obtain ⟨g, c, r, rfl, hc, hm⟩ := hm
 have HM := Lib.hid (And.intro hm hb)
 have hcc : n + 1 ≤ c := hc
 clear hm hb
 go_loopw [6, 7] (fun u6 u7 wr => ∃ k : Nat, k ≤ n + 1 ∧ u6 = .int .i64 k ∧ MtAt w.heap.size wr g r n (pF fun i j => i < k ∧ i ≤ j ∧ (P i j ∨ Q i j)) ∧ Below w.heap.size w wr) (fun u6 u7 _ => n + 2 - (intOf u6).toNat)
 case atStart => exact ⟨0, Nat.zero_le _, rfl, HM.out.1.ext_p (fun i j _ _ => by simp), HM.out.2⟩
 case round =>
  obtain ⟨k, hk, rfl, hm, hb⟩ := hrel
  have HR := Lib.hid (And.intro hm hb)
  clear hm hb HM
  by_cases hkn : k ≤ n
  ·have hki1 : (k : Int) < (n : Int) + 1 := by omega
   go_upto_region 6 with (fail)
   go_loopw [7] (fun u7 wr => ∃ m : Nat, k ≤ m ∧ m ≤ n + 1 ∧ u7 = .int .i64 m ∧ MtAt w.heap.size wr g r n (pF fun i j => (i < k ∨ (i = k ∧ j < m)) ∧ i ≤ j ∧ (P i j ∨ Q i j)) ∧ Below w.heap.size w wr) (fun u7 _ => n + 2 - (intOf u7).toNat)
   case atStart =>
    refine ⟨k, Nat.le_refl _, by omega, rfl, HR.out.1.ext_p (fun i j _ _ => ?_), HR.out.2⟩
    constructor
    ·rintro ⟨h1, h2⟩; exact ⟨.inl h1, h2⟩
    ·rintro ⟨h1 | h1, h2⟩
     ·exact ⟨h1, h2⟩
     ·omega
   case round =>
    clear HR
    obtain ⟨m, hkm, hmn, rfl, hm, hb⟩ := hrel
    have HR := Lib.hid (And.intro hm hb)
    by_cases hml : m ≤ n
    ·have hmi : (m : Int) < (n : Int) + 1 := by omega
     have hm1 : m < n + 1 := by omega
     have hk1 : k < n + 1 := by omega
     have c1 := hm.cell hkn
     have c2 := hm.flag hkn hml
     have c3 := hm.frozen hkn m
     have c4 := (HA.out wr hb).cell hkn
     have c5 := (HA.out wr hb).flag hkn hml
     have c6 := (HB.out wr hb).cell hkn
     have c7 := (HB.out wr hb).flag hkn hml
     generalize hrk : r k = rk at *
     generalize hrak : ra k = rak at *
     generalize hrbk : rb k = rbk at *
     have HRK := Lib.hid hrk
     obtain ⟨x, hx⟩ : ∃ x, pF P k m = x := ⟨_, rfl⟩
     obtain ⟨y, hy⟩ : ∃ y, pF Q k m = y := ⟨_, rfl⟩
     rw [hx] at c5
     rw [hy] at c7
     have HXY := Lib.hid (And.intro hx hy)
     have HF := Lib.hid (show (x || y) = true ↔ P k m ∨ Q k m by rw [← hx, ← hy, Bool.or_eq_true, pF_iff, pF_iff])
     have HFIN := Lib.hid (show MtAt w.heap.size (wr.setCell ⟨rk, m, none⟩ (.bool (x || y))).drew g r n (pF fun i j => (i < k ∨ (i = k ∧ j < m + 1)) ∧ i ≤ j ∧ (P i j ∨ Q i j)) ∧ Below w.heap.size w (wr.setCell ⟨rk, m, none⟩ (.bool (x || y))).drew by
      have h4 := hm.set_p (P' := fun i j => (i < k ∨ (i = k ∧ j < m + 1)) ∧ i ≤ j ∧ (P i j ∨ Q i j)) hkn hml (x || y) (HF.out.trans ⟨fun h => ⟨.inr ⟨rfl, Nat.lt_succ_self _⟩, hkm, h⟩, fun h => h.2.2⟩) (fun i' j' h => by
       constructor
       ·rintro ⟨h1, h2⟩
        exact ⟨by omega, h2⟩
       ·rintro ⟨h1, h2⟩
        exact ⟨by omega, h2⟩)
      rw [hrk] at h4
      have h5 := (hm.row k hkn).1
      rw [hrk] at h5
      exact ⟨h4.bel (Below.refl _ _).drew, (hb.setCell h5 _).drew⟩)
     clear hx hy hm hb hrk hrak hrbk HR HA HB HN
     go_upto_region 8 with (fail)
     cases x with
     | true =>
      go_region
      go_wp2_with fail
      go_roundw
      case rel => exact ⟨m + 1, by omega, by omega, by go_num, HFIN.out.1, HFIN.out.2⟩
      case measure => simp [intOf]; omega
     | false =>
      go_region
      go_wp2_with fail
      go_roundw
      case rel => exact ⟨m + 1, by omega, by omega, by go_num, HFIN.out.1, HFIN.out.2⟩
      case measure => simp [intOf]; omega
    ·have hmi : ¬ (m : Int) < (n : Int) + 1 := by omega
     obtain rfl : m = n + 1 := by omega
     go_wp2_with fail
     go_roundw
     case rel =>
      refine ⟨k + 1, by omega, by go_num, HR.out.1.ext_p (fun i j hi hj => ?_), HR.out.2⟩
      constructor
      ·rintro ⟨h1, h2⟩; exact ⟨by omega, h2⟩
      ·rintro ⟨h1, h2⟩; exact ⟨by omega, h2⟩
     case measure => simp [intOf]; omega
  ·have hki1 : ¬ (k : Int) < (n : Int) + 1 := by omega
   obtain rfl : k = n + 1 := by omega
   go_wp2_with fail
   go_ret
   refine ⟨_, rfl, ⟨g, c, r, rfl, hcc, HR.out.1.ext_p (fun i j hi hj => ?_)⟩, HR.out.2⟩
   constructor
   ·rintro ⟨h1, h2⟩; exact h2
   ·intro h2; exact ⟨by omega, h2⟩
end Go.Proofs.YtnccgaanfjaimaaDoor
