/- Plain words on values: how they stand, and rows of them; sets of rows. -/
import Derived.Lib.Bytealg
import Derived.Lib.Small
import Derived.Test.YtadjgjbkjhallaaDoorRows
import Derived.Sort.Walk0
namespace Go.Proofs.YtadjgjbkjhallaaDoor
set_option linter.unusedVariables false

instance : DecidableEq ByteArray := fun a b => decidable_of_iff (a.data = b.data) ⟨fun h => ByteArray.ext h, fun h => congrArg _ h⟩

theorem data_inj {a b : ByteArray} (h : a.data.toList = b.data.toList) : a = b := ByteArray.ext (Array.ext' h)

/-- what a way of comparing must be -/
structure Three {α : Type} (c : α → α → Int) : Prop where
  rng : ∀ a b, c a b = -1 ∨ c a b = 0 ∨ c a b = 1
  neg : ∀ a b, c a b = - c b a
  zero : ∀ a b, c a b = 0 ↔ a = b
  trans : ∀ a b d, c a b ≤ 0 → c b d ≤ 0 → c a d ≤ 0

namespace Three
variable {α : Type} {c : α → α → Int} (h : Three c)
include h
theorem rfl' (a : α) : c a a = 0 := (h.zero a a).2 rfl
theorem lt_trans {a b d : α} (h1 : c a b = -1) (h2 : c b d = -1) : c a d = -1 := by
  have h3 := h.trans a b d (by omega) (by omega)
  rcases h.rng a d with e | e | e
  · exact e
  · rw [h.zero] at e
    subst e
    have := h.neg a b
    omega
  · omega
theorem le_lt {a b d : α} (h1 : c a b ≤ 0) (h2 : c b d = -1) : c a d = -1 := by
  rcases h.rng a b with e | e | e
  · exact h.lt_trans e h2
  · rw [h.zero] at e; subst e; exact h2
  · omega
theorem lt_ne {a b : α} (h1 : c a b = -1) : a ≠ b := fun e => by subst e; rw [h.rfl'] at h1; omega
end Three

theorem three_int : Three Lib.compareInt where
  rng a b := by unfold Lib.compareInt; split <;> (try split) <;> simp
  neg a b := by unfold Lib.compareInt; split <;> split <;> (try split) <;> (try split) <;> omega
  zero a b := by unfold Lib.compareInt; split <;> (try split) <;> omega
  trans a b d := by unfold Lib.compareInt; split <;> split <;> (try split) <;> (try split) <;> (try split) <;> (try split) <;> omega

theorem cb_rng : ∀ a b, Lib.compareBytes a b = -1 ∨ Lib.compareBytes a b = 0 ∨ Lib.compareBytes a b = 1
  | [], [] => by simp [Lib.compareBytes]
  | [], _ :: _ => by simp [Lib.compareBytes]
  | _ :: _, [] => by simp [Lib.compareBytes]
  | a :: aa, b :: bb => by
    simp only [Lib.compareBytes]
    split
    · simp
    · split
      · simp
      · exact cb_rng aa bb
theorem u8_tri (a b : UInt8) (h1 : ¬ a < b) (h2 : ¬ b < a) : a = b := by
  rw [UInt8.lt_iff_toNat_lt] at h1 h2
  exact UInt8.toNat_inj.1 (by omega)
theorem cb_neg : ∀ a b, Lib.compareBytes a b = - Lib.compareBytes b a
  | [], [] => by simp [Lib.compareBytes]
  | [], _ :: _ => by simp [Lib.compareBytes]
  | _ :: _, [] => by simp [Lib.compareBytes]
  | a :: aa, b :: bb => by
    simp only [Lib.compareBytes]
    by_cases h1 : a < b
    · have h2 : ¬ b < a := fun h => by rw [UInt8.lt_iff_toNat_lt] at *; omega
      rw [if_pos h1, if_neg h2, if_pos h1]
    · rw [if_neg h1]
      by_cases h2 : b < a
      · rw [if_pos h2, if_pos h2]; simp
      · rw [if_neg h2, if_neg h2, if_neg h1]
        exact cb_neg aa bb
theorem cb_zero : ∀ a b, Lib.compareBytes a b = 0 ↔ a = b
  | [], [] => by simp [Lib.compareBytes]
  | [], _ :: _ => by simp [Lib.compareBytes]
  | _ :: _, [] => by simp [Lib.compareBytes]
  | a :: aa, b :: bb => by
    simp only [Lib.compareBytes]
    by_cases h1 : a < b
    · have h2 : a ≠ b := fun h => by rw [UInt8.lt_iff_toNat_lt, h] at h1; omega
      rw [if_pos h1]
      simp [h2]
    · rw [if_neg h1]
      by_cases h2 : b < a
      · have h3 : a ≠ b := fun h => by rw [UInt8.lt_iff_toNat_lt, h] at h2; omega
        rw [if_pos h2]
        simp [h3]
      · rw [if_neg h2, cb_zero aa bb]
        have := u8_tri a b h1 h2
        simp [this]
theorem cb_trans : ∀ a b d, Lib.compareBytes a b ≤ 0 → Lib.compareBytes b d ≤ 0 → Lib.compareBytes a d ≤ 0
  | [], b, [] => by simp [Lib.compareBytes]
  | [], b, _ :: _ => by simp [Lib.compareBytes]
  | _ :: _, [], d => fun h => by simp [Lib.compareBytes] at h
  | _ :: _, _ :: _, [] => fun _ h => by simp [Lib.compareBytes] at h
  | a :: aa, b :: bb, d :: dd => by
    simp only [Lib.compareBytes]
    intro h1 h2
    by_cases a1 : a < b
    · by_cases b1 : b < d
      · have : a < d := by rw [UInt8.lt_iff_toNat_lt] at *; omega
        rw [if_pos this]; omega
      · rw [if_neg b1] at h2
        by_cases b2 : d < b
        · rw [if_pos b2] at h2; omega
        · have := u8_tri b d b1 b2
          subst this
          rw [if_pos a1]; omega
    · rw [if_neg a1] at h1
      by_cases a2 : b < a
      · rw [if_pos a2] at h1; omega
      · rw [if_neg a2] at h1
        have := u8_tri a b a1 a2
        subst this
        by_cases b1 : a < d
        · rw [if_pos b1]; omega
        · rw [if_neg b1] at h2 ⊢
          by_cases b2 : d < a
          · rw [if_pos b2] at h2; omega
          · rw [if_neg b2] at h2 ⊢
            exact cb_trans aa bb dd h1 h2

def cmpB (a b : ByteArray) : Int := Lib.compareBytes a.data.toList b.data.toList
theorem three_bytes : Three cmpB where
  rng a b := cb_rng _ _
  neg a b := cb_neg _ _
  zero a b := by unfold cmpB; rw [cb_zero]; exact ⟨data_inj, fun h => by rw [h]⟩
  trans a b d := cb_trans _ _ _

/-- one way, then another one -/
def lexC {α β : Type} (c : α → α → Int) (d : β → β → Int) (x y : α × β) : Int := if c x.1 y.1 = 0 then d x.2 y.2 else c x.1 y.1
theorem three_lex {α β : Type} {c : α → α → Int} {d : β → β → Int} (hc : Three c) (hd : Three d) : Three (lexC c d) where
  rng a b := by unfold lexC; split; exact hd.rng _ _; exact hc.rng _ _
  neg a b := by
    unfold lexC
    have h := hc.neg a.1 b.1
    by_cases e : c a.1 b.1 = 0
    · rw [if_pos e, if_pos (by omega)]; exact hd.neg _ _
    · rw [if_neg e, if_neg (by omega)]; exact h
  zero a b := by
    unfold lexC
    by_cases e : c a.1 b.1 = 0
    · rw [if_pos e, hd.zero, Prod.ext_iff]
      exact ⟨fun h => ⟨(hc.zero _ _).1 e, h⟩, fun h => h.2⟩
    · rw [if_neg e]
      refine ⟨fun h => absurd h e, fun h => ?_⟩
      rw [h, hc.rfl']
  trans a b e := by
    unfold lexC
    intro h1 h2
    by_cases e1 : c a.1 b.1 = 0
    · rw [if_pos e1] at h1
      have q1 := (hc.zero _ _).1 e1
      rw [q1]
      by_cases e2 : c b.1 e.1 = 0
      · rw [if_pos e2] at h2 ⊢
        exact hd.trans _ _ _ h1 h2
      · rw [if_neg e2] at h2 ⊢
        exact h2
    · rw [if_neg e1] at h1
      have l1 : c a.1 b.1 = -1 := by rcases hc.rng a.1 b.1 with h | h | h <;> omega
      by_cases e2 : c b.1 e.1 = 0
      · have q2 := (hc.zero _ _).1 e2
        rw [← q2, if_neg e1]
        exact h1
      · rw [if_neg e2] at h2
        have l2 : c b.1 e.1 = -1 := by rcases hc.rng b.1 e.1 with h | h | h <;> omega
        have := hc.lt_trans l1 l2
        rw [if_neg (by omega)]
        omega

/-- a Kind, a Num, a Text -/
abbrev Vt := Int × Int × ByteArray
def cmpV : Vt → Vt → Int := lexC Lib.compareInt (lexC Lib.compareInt cmpB)
theorem three_val : Three cmpV := three_lex three_int (three_lex three_int three_bytes)

/-- rows -/
def cmpR : List Vt → List Vt → Int
  | [], [] => 0
  | [], _ :: _ => -1
  | _ :: _, [] => 1
  | a :: x, b :: y => if cmpV a b = 0 then cmpR x y else cmpV a b

theorem cr_rng : ∀ a b, cmpR a b = -1 ∨ cmpR a b = 0 ∨ cmpR a b = 1
  | [], [] => by simp [cmpR]
  | [], _ :: _ => by simp [cmpR]
  | _ :: _, [] => by simp [cmpR]
  | a :: x, b :: y => by
    simp only [cmpR]
    split
    · exact cr_rng x y
    · exact three_val.rng a b
theorem cr_neg : ∀ a b, cmpR a b = - cmpR b a
  | [], [] => by simp [cmpR]
  | [], _ :: _ => by simp [cmpR]
  | _ :: _, [] => by simp [cmpR]
  | a :: x, b :: y => by
    simp only [cmpR]
    have h := three_val.neg a b
    by_cases e : cmpV a b = 0
    · rw [if_pos e, if_pos (by omega)]; exact cr_neg x y
    · rw [if_neg e, if_neg (by omega)]; exact h
theorem cr_zero : ∀ a b, cmpR a b = 0 ↔ a = b
  | [], [] => by simp [cmpR]
  | [], _ :: _ => by simp [cmpR]
  | _ :: _, [] => by simp [cmpR]
  | a :: x, b :: y => by
    simp only [cmpR]
    by_cases e : cmpV a b = 0
    · rw [if_pos e, cr_zero x y, (three_val.zero a b).1 e]; simp
    · rw [if_neg e]
      refine ⟨fun h => absurd h e, fun h => ?_⟩
      injection h with h1 h2
      rw [h1, three_val.rfl'] at e
      exact absurd rfl e
theorem cr_trans : ∀ a b d, cmpR a b ≤ 0 → cmpR b d ≤ 0 → cmpR a d ≤ 0
  | [], b, [] => by simp [cmpR]
  | [], b, _ :: _ => by simp [cmpR]
  | _ :: _, [], d => fun h => by simp [cmpR] at h
  | _ :: _, _ :: _, [] => fun _ h => by simp [cmpR] at h
  | a :: x, b :: y, d :: z => by
    simp only [cmpR]
    intro h1 h2
    by_cases e1 : cmpV a b = 0
    · rw [if_pos e1] at h1
      have q1 := (three_val.zero _ _).1 e1
      subst q1
      by_cases e2 : cmpV a d = 0
      · rw [if_pos e2] at h2 ⊢
        exact cr_trans x y z h1 h2
      · rw [if_neg e2] at h2 ⊢
        exact h2
    · rw [if_neg e1] at h1
      have l1 : cmpV a b = -1 := by rcases three_val.rng a b with h | h | h <;> omega
      by_cases e2 : cmpV b d = 0
      · have q2 := (three_val.zero _ _).1 e2
        subst q2
        rw [if_neg e1]
        exact h1
      · rw [if_neg e2] at h2
        have l2 : cmpV b d = -1 := by rcases three_val.rng b d with h | h | h <;> omega
        have := three_val.lt_trans l1 l2
        rw [if_neg (by omega)]
        omega
theorem three_rows : Three cmpR := ⟨cr_rng, cr_neg, cr_zero, cr_trans⟩

/-- the loop's step: what was passed is the same -/
theorem cr_take : ∀ (k : Nat) (x y : List Vt), x.take k = y.take k → k ≤ x.length → k ≤ y.length → cmpR x y = cmpR (x.drop k) (y.drop k)
  | 0, _, _, _, _, _ => by simp
  | k + 1, a :: x, b :: y, h, h1, h2 => by
    simp only [List.take_succ_cons, List.cons.injEq] at h
    simp only [List.drop_succ_cons, cmpR]
    obtain ⟨rfl, h⟩ := h
    rw [if_pos (three_val.rfl' a)]
    exact cr_take k x y h (by simpa using h1) (by simpa using h2)
  | k + 1, [], _, _, h1, _ => by simp at h1
  | k + 1, _ :: _, [], _, _, h2 => by simp at h2
theorem cr_here {k : Nat} {x y : List Vt} (h : x.take k = y.take k) (h1 : k < x.length) (h2 : k < y.length) (hne : cmpV x[k] y[k] ≠ 0) : cmpR x y = cmpV x[k] y[k] := by
  rw [cr_take k x y h (by omega) (by omega), List.drop_eq_getElem_cons h1, List.drop_eq_getElem_cons h2]
  simp only [cmpR]
  rw [if_neg hne]
theorem cr_end {k : Nat} {x y : List Vt} (h : x.take k = y.take k) (hk : k = min x.length y.length) : cmpR x y = Lib.compareInt x.length y.length := by
  rw [cr_take k x y h (by omega) (by omega)]
  unfold Lib.compareInt
  by_cases h1 : x.length < y.length
  · rw [if_pos (by omega), List.drop_eq_nil_of_le (by omega), List.drop_eq_getElem_cons (l := y) (i := k) (by omega)]
    rfl
  · rw [if_neg (by omega)]
    by_cases h2 : y.length < x.length
    · rw [if_pos (by omega), List.drop_eq_getElem_cons (l := x) (i := k) (by omega), List.drop_eq_nil_of_le (by omega : y.length ≤ k)]
      rfl
    · rw [if_neg (by omega), List.drop_eq_nil_of_le (by omega), List.drop_eq_nil_of_le (by omega)]
      rfl

/-- a row of rows that rises -/
def Up (S : List (List Vt)) : Prop := S.Pairwise fun x y => cmpR x y = -1
theorem Up.ext : ∀ {S T : List (List Vt)}, Up S → Up T → (∀ x, x ∈ S ↔ x ∈ T) → S = T
  | [], [], _, _, _ => rfl
  | [], b :: s, _, _, h => by have := (h b).2 (by simp); simp at this
  | a :: r, [], _, _, h => by have := (h a).1 (by simp); simp at this
  | a :: r, b :: s, h1, h2, h => by
    obtain ⟨a1, a2⟩ := List.pairwise_cons.1 h1
    obtain ⟨b1, b2⟩ := List.pairwise_cons.1 h2
    have hab : a = b := by
      rcases List.mem_cons.1 ((h a).1 (by simp)) with e | ha
      · exact e
      · rcases List.mem_cons.1 ((h b).2 (by simp)) with e | hb
        · exact e.symm
        · have := three_rows.lt_trans (a1 b hb) (b1 a ha)
          rw [three_rows.rfl'] at this
          omega
    subst hab
    rw [Up.ext a2 b2 (fun p => ⟨fun hp => by
      rcases List.mem_cons.1 ((h p).1 (by simp [hp])) with e | hp'
      · exact absurd e.symm (three_rows.lt_ne (a1 p hp))
      · exact hp', fun hp => by
      rcases List.mem_cons.1 ((h p).2 (by simp [hp])) with e | hp'
      · exact absurd e.symm (three_rows.lt_ne (b1 p hp))
      · exact hp'⟩)]

/-- S is the set of the rows of l -/
structure SetOf (l S : List (List Vt)) : Prop where
  up : Up S
  mem : ∀ x, x ∈ S ↔ x ∈ l
theorem SetOf.one {l l' S S' : List (List Vt)} (h : SetOf l S) (h' : SetOf l' S') (e : ∀ x, x ∈ l ↔ x ∈ l') : S = S' :=
  h.up.ext h'.up fun x => (h.mem x).trans ((e x).trans (h'.mem x).symm)
theorem SetOf.self {l S : List (List Vt)} (h : SetOf l S) : SetOf S S := ⟨h.up, fun _ => Iff.rfl⟩

/-- the row is passed over, or put behind all -/
theorem set_step {P S : List (List Vt)} {k : Nat} (hs : P.Pairwise fun x y => cmpR x y ≤ 0) (hk : k < P.length) (h : SetOf (P.take k) S) :
    (0 < k → cmpR (P[k - 1]'(by omega)) P[k] = 0 → SetOf (P.take (k + 1)) S) ∧ ((0 < k → cmpR (P[k - 1]'(by omega)) P[k] ≠ 0) → SetOf (P.take (k + 1)) (S ++ [P[k]])) := by
  have hm : ∀ x, x ∈ P.take (k + 1) ↔ x ∈ P.take k ∨ x = P[k] := fun x => by rw [List.take_succ_eq_append_getElem hk, List.mem_append, List.mem_singleton]
  refine ⟨fun h0 he => ⟨h.up, fun x => ?_⟩, fun hne => ⟨?_, fun x => ?_⟩⟩
  · rw [h.mem, hm]
    refine ⟨.inl, fun hx => hx.elim id fun hx => ?_⟩
    rw [three_rows.zero] at he
    rw [hx, ← he]
    exact List.mem_take_iff_getElem.2 ⟨k - 1, by omega, rfl⟩
  · refine List.pairwise_append.2 ⟨h.up, by simp, fun x hx y hy => ?_⟩
    obtain rfl : y = P[k] := by simpa using hy
    obtain ⟨i, hi, rfl⟩ := List.mem_take_iff_getElem.1 ((h.mem x).1 hx)
    have hik : i < k := by omega
    have h1 : cmpR (P[k - 1]'(by omega)) P[k] ≤ 0 := List.pairwise_iff_getElem.1 hs (k - 1) k (by omega) hk (by omega)
    have h2 := hne (by omega)
    have h3 : cmpR (P[k - 1]'(by omega)) P[k] = -1 := by rcases three_rows.rng (P[k - 1]'(by omega)) P[k] with h | h | h <;> omega
    by_cases hi2 : i = k - 1
    · subst hi2; exact h3
    · exact three_rows.le_lt (List.pairwise_iff_getElem.1 hs i (k - 1) (by omega) (by omega) (by omega)) h3
  · rw [hm, List.mem_append, h.mem]
    simp
end Go.Proofs.YtadjgjbkjhallaaDoor
