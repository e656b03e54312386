/- The words of an expression: what the flags tell. -/
import Derived.Test.YtnohnkhhkeikoaaU
namespace Go.Proofs.Ytnohnkhhkeikoaa
open Go.ChangeShapes Go.WideShapes Go.ChangeAt Go.RowKit
set_option linter.unusedVariables false

abbrev Wd := List ByteArray

/-- one or more, one behind the other -/
inductive Pl (P : Wd → Prop) : Wd → Prop where
  | one (p : Wd) (h : P p) : Pl P p
  | snoc (p q : Wd) (h : Pl P p) (h1 : P q) : Pl P (p ++ q)

mutual
def X.L : X → Wd → Prop
  | .mk k l ks, u => if k = 1 then u = [l] else if k = 2 then LS ks u else if k = 3 then LA ks u else if k = 6 then u = [] ∨ LA ks u else if k = 4 then u = [] ∨ Pl (fun v => LA ks v) u else Pl (fun v => LA ks v) u
def LS : List X → Wd → Prop
  | [], u => u = []
  | x :: xs, u => ∃ p q, u = p ++ q ∧ X.L x p ∧ LS xs q
def LA : List X → Wd → Prop
  | [], _ => False
  | x :: xs, u => X.L x u ∨ LA xs u
end
theorem X.L_eq (x : X) (u : Wd) : x.L u ↔ if x.kind = 1 then u = [x.lab] else if x.kind = 2 then LS x.kids u else if x.kind = 3 then LA x.kids u else if x.kind = 6 then u = [] ∨ LA x.kids u else if x.kind = 4 then u = [] ∨ Pl (LA x.kids) u else Pl (LA x.kids) u := by
  cases x
  rw [X.L]
  rfl
theorem LS_nil (u : Wd) : LS [] u ↔ u = [] := by rw [LS]
theorem LS_cons (x : X) (xs : List X) (u : Wd) : LS (x :: xs) u ↔ ∃ p q, u = p ++ q ∧ x.L p ∧ LS xs q := by rw [LS]
theorem LA_nil (u : Wd) : LA [] u ↔ False := by rw [LA]
theorem LA_cons (x : X) (xs : List X) (u : Wd) : LA (x :: xs) u ↔ x.L u ∨ LA xs u := by rw [LA]

theorem Pl.cons {P : Wd → Prop} {p q : Wd} (hp : P p) (hq : Pl P q) : Pl P (p ++ q) := by
  induction hq with
  | one q h => exact .snoc p q (.one p hp) h
  | snoc a b h h1 ih =>
    rw [← List.append_assoc]
    exact .snoc _ b ih h1
theorem Pl.split {P : Wd → Prop} {u : Wd} (h : Pl P u) : ∃ p q, u = p ++ q ∧ P p ∧ (q = [] ∨ Pl P q) := by
  induction h with
  | one p h => exact ⟨p, [], by simp, h, .inl rfl⟩
  | snoc a b h h1 ih =>
    obtain ⟨p, q, rfl, hp, hq⟩ := ih
    refine ⟨p, q ++ b, by simp, hp, .inr ?_⟩
    rcases hq with rfl | hq
    · exact .one _ h1
    · exact .snoc _ _ hq h1
theorem Pl.split1 {P : Wd → Prop} {u : Wd} (h : Pl P u) (hu : u ≠ []) : ∃ p q, u = p ++ q ∧ p ≠ [] ∧ P p ∧ (q = [] ∨ Pl P q) := by
  induction h with
  | one p h => exact ⟨p, [], by simp, hu, h, .inl rfl⟩
  | snoc a b h h1 ih =>
    by_cases ha : a = []
    · subst ha
      exact ⟨b, [], by simp, by simpa using hu, h1, .inl rfl⟩
    · obtain ⟨p, q, rfl, hp0, hp, hq⟩ := ih ha
      refine ⟨p, q ++ b, by simp, hp0, hp, .inr ?_⟩
      rcases hq with rfl | hq
      · exact .one _ h1
      · exact .snoc _ _ hq h1
theorem Pl.nil {P : Wd → Prop} : Pl P [] ↔ P [] := by
  refine ⟨fun h => ?_, fun h => .one _ h⟩
  generalize hu : ([] : Wd) = u at h
  induction h with
  | one p h => exact h
  | snoc a b h h1 ih =>
    have := congrArg List.length hu
    simp at this
    obtain rfl : b = [] := List.eq_nil_of_length_eq_zero (by omega)
    obtain rfl : a = [] := List.eq_nil_of_length_eq_zero (by omega)
    exact h1

/-- a piece of the labels that come -/
def seg (w : Nat → ByteArray) (i k : Nat) : Wd := (List.range' i (k - i)).map w
theorem seg_len (w : Nat → ByteArray) (i k : Nat) : (seg w i k).length = k - i := by simp [seg]
theorem seg_self (w : Nat → ByteArray) (i : Nat) : seg w i i = [] := by simp [seg]
theorem seg_app (w : Nat → ByteArray) {i j k : Nat} (h : i ≤ j) (h' : j ≤ k) : seg w i j ++ seg w j k = seg w i k := by
  unfold seg
  rw [← List.map_append]
  congr 1
  have := @List.range'_append_1 i (j - i) (k - j)
  rw [show i + (j - i) = j by omega, show (j - i) + (k - j) = k - i by omega] at this
  exact this
theorem seg_split {w : Nat → ByteArray} {i k : Nat} (h : i ≤ k) {p q : Wd} (e : seg w i k = p ++ q) : ∃ j, i ≤ j ∧ j ≤ k ∧ p = seg w i j ∧ q = seg w j k := by
  have hl := congrArg List.length e
  rw [seg_len, List.length_append] at hl
  refine ⟨i + p.length, by omega, by omega, ?_⟩
  have h1 := seg_app w (i := i) (j := i + p.length) (k := k) (by omega) (by omega)
  rw [e] at h1
  have h2 := List.append_inj h1 (by rw [seg_len]; omega)
  exact ⟨h2.1.symm, h2.2.symm⟩
theorem seg_one (w : Nat → ByteArray) (k : Nat) : seg w k (k + 1) = [w k] := by simp [seg]
theorem seg_ne (w : Nat → ByteArray) {i k : Nat} (h : i < k) : seg w i k ≠ [] := by
  intro e
  have := congrArg List.length e
  rw [seg_len] at this
  simp at this
  omega

/-- an expression's flags while labels come, begun at b -/
def run (x : X) (w : Nat → ByteArray) (b : Nat → Bool) : Nat → List Bool
  | 0 => List.replicate x.sz false
  | k + 1 => stepF (w k) x (run x w b k) (b k)
def runS (ks : List X) (w : Nat → ByteArray) (b : Nat → Bool) : Nat → List Bool
  | 0 => List.replicate (szL ks) false
  | k + 1 => (rowS (w k) ks (runS ks w b k) (b k) false).2.2
def runA (ks : List X) (w : Nat → ByteArray) (b : Nat → Bool) : Nat → List Bool
  | 0 => List.replicate (szL ks) false
  | k + 1 => (altS (w k) ks (runA ks w b k) (b k) false).2
theorem run_len {x : X} (hg : x.good) (w : Nat → ByteArray) (b : Nat → Bool) : ∀ k, (run x w b k).length = x.sz
  | 0 => by simp [run]
  | k + 1 => by rw [run]; exact stepF_len _ x hg _ _ (run_len hg w b k)

theorem rowS_e (s : ByteArray) : ∀ (ks : List X) (kf : List Bool) (b e e' : Bool), (rowS s ks kf b e).2.2 = (rowS s ks kf b e').2.2
  | [], kf, b, e, e' => by rw [rowS_nil, rowS_nil]
  | x :: xs, kf, b, e, e' => by
    rw [rowS_cons, rowS_cons]
    simp only
    rw [rowS_e s xs _ _ (hd (stepF s x (kf.take x.sz) b) || (e && x.emp)) (hd (stepF s x (kf.take x.sz) b) || (e' && x.emp))]
theorem altS_acc (s : ByteArray) : ∀ (ks : List X) (kf : List Bool) (b e e' : Bool), (altS s ks kf b e).2 = (altS s ks kf b e').2
  | [], kf, b, e, e' => by rw [altS_nil, altS_nil]
  | x :: xs, kf, b, e, e' => by
    rw [altS_cons, altS_cons]
    simp only
    rw [altS_acc s xs _ _ (e || hd (stepF s x (kf.take x.sz) b)) (e' || hd (stepF s x (kf.take x.sz) b))]

/-- where the next of a row begins -/
def nextB (x : X) (w : Nat → ByteArray) (b : Nat → Bool) (k : Nat) : Bool := hd (run x w b k) || (b k && x.emp)
theorem runS_cons {x : X} (hg : x.good) (xs : List X) (w : Nat → ByteArray) (b : Nat → Bool) : ∀ k, runS (x :: xs) w b k = run x w b k ++ runS xs w (nextB x w b) k
  | 0 => by rw [runS, run, runS, szL_cons, List.replicate_append_replicate]
  | k + 1 => by
    have hl := run_len hg w b k
    rw [runS, runS_cons hg xs w b k, rowS_cons]
    simp only
    rw [List.take_left' hl, List.drop_left' hl, rowS_e (w k) xs _ _ _ false]
    rfl
theorem runA_cons {x : X} (hg : x.good) (xs : List X) (w : Nat → ByteArray) (b : Nat → Bool) : ∀ k, runA (x :: xs) w b k = run x w b k ++ runA xs w b k
  | 0 => by rw [runA, run, runA, szL_cons, List.replicate_append_replicate]
  | k + 1 => by
    have hl := run_len hg w b k
    rw [runA, runA_cons hg xs w b k, altS_cons]
    simp only
    rw [List.take_left' hl, List.drop_left' hl, altS_acc (w k) xs _ _ _ false]
    rfl

/-- an expression takes the empty word just if it may be empty -/
theorem emp_iff : ∀ (x : X), x.good → (x.emp = true ↔ x.L []) := by
  intro x
  induction x using X.ind' with
  | h x ih =>
    intro hg
    have ih' : ∀ y ∈ x.kids, (y.emp = true ↔ y.L []) := fun y hy => ih y hy (hg.kids y hy)
    have hA : ∀ ks : List X, (∀ y ∈ ks, (y.emp = true ↔ y.L [])) → (anyE ks = true ↔ LA ks []) := by
      intro ks
      induction ks with
      | nil => intro _; rw [anyE, LA_nil]; simp
      | cons y ys ihy => intro h; rw [anyE, LA_cons, Bool.or_eq_true, h y (by simp), ihy (fun z hz => h z (by simp [hz]))]
    have hS : ∀ ks : List X, (∀ y ∈ ks, (y.emp = true ↔ y.L [])) → (allE ks = true ↔ LS ks []) := by
      intro ks
      induction ks with
      | nil => intro _; rw [allE, LS_nil]; simp
      | cons y ys ihy =>
        intro h
        rw [allE, LS_cons, Bool.and_eq_true, h y (by simp), ihy (fun z hz => h z (by simp [hz]))]
        constructor
        · rintro ⟨h1, h2⟩; exact ⟨[], [], rfl, h1, h2⟩
        · rintro ⟨p, q, e, h1, h2⟩
          obtain ⟨rfl, rfl⟩ := List.append_eq_nil_iff.1 e.symm
          exact ⟨h1, h2⟩
    have he : x.emp = if x.kind = 4 ∨ x.kind = 6 then true else if x.kind = 3 then anyE x.kids else if x.kind = 2 ∨ x.kind = 5 then allE x.kids else false := by
      cases x; rw [X.emp]; rfl
    rw [he, X.L_eq]
    have hf := hg.fit
    rcases good_kind hg with h | h | h | h
    · simp [h]
    · simp [h, hS _ ih']
    · rcases h with h | h <;> simp [h, hA _ ih']
    · rcases h with h | h
      · simp [h]
      · obtain ⟨y, hy⟩ : ∃ y, x.kids = [y] := by
          unfold X.fits fitB at hf
          simp [h] at hf
          exact List.length_eq_one_iff.1 hf.2
        simp only [h]
        simp only [show ¬((5 : Int) = 4 ∨ (5 : Int) = 6) by decide, show ¬((5 : Int) = 3) by decide, show ((5 : Int) = 2 ∨ (5 : Int) = 5) by decide, show ¬((5 : Int) = 1) by decide, show ¬((5 : Int) = 2) by decide, show ¬((5 : Int) = 6) by decide, show ¬((5 : Int) = 4) by decide, if_true, if_false]
        rw [Pl.nil, hy, allE, allE, LA_cons, LA_nil, ← ih' y (by rw [hy]; simp)]
        simp
end Go.Proofs.Ytnohnkhhkeikoaa
