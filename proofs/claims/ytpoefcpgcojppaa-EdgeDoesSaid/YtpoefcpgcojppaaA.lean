/- Plain words on texts, numbers, edges: how they stand. -/
import Derived.Lib.Bytealg
import Derived.Lib.Small
import Derived.Test.YtpoefcpgcojppaaRows
import Derived.Test.YtpoefcpgcojppaaSA
namespace Go.Proofs.Ytpoefcpgcojppaa
set_option linter.unusedVariables false

instance : DecidableEq ByteArray := fun a b => decidable_of_iff (a.data = b.data) ⟨fun h => ByteArray.ext h, fun h => congrArg _ h⟩

theorem data_inj {a b : ByteArray} (h : a.data.toList = b.data.toList) : a = b := ByteArray.ext (Array.ext' h)

/-- what a way of comparing must be -/
structure Three {α : Type} (c : α → α → Int) : Prop where
  rng : ∀ a b, c a b = -1 ∨ c a b = 0 ∨ c a b = 1
  neg : ∀ a b, c a b = - c b a
  zero : ∀ a b, c a b = 0 ↔ a = b
  trans : ∀ a b d, c a b ≤ 0 → c b d ≤ 0 → c a d ≤ 0

namespace Three
variable {α : Type} {c : α → α → Int} (h : Three c)
include h
theorem rfl' (a : α) : c a a = 0 := (h.zero a a).2 rfl
theorem lt_trans {a b d : α} (h1 : c a b = -1) (h2 : c b d = -1) : c a d = -1 := by
  have h3 := h.trans a b d (by omega) (by omega)
  rcases h.rng a d with e | e | e
  · exact e
  · rw [h.zero] at e
    subst e
    have := h.neg a b
    omega
  · omega
theorem le_lt {a b d : α} (h1 : c a b ≤ 0) (h2 : c b d = -1) : c a d = -1 := by
  rcases h.rng a b with e | e | e
  · exact h.lt_trans e h2
  · rw [h.zero] at e; subst e; exact h2
  · omega
theorem lt_ne {a b : α} (h1 : c a b = -1) : a ≠ b := fun e => by subst e; rw [h.rfl'] at h1; omega
end Three

theorem three_int : Three Lib.compareInt where
  rng a b := by unfold Lib.compareInt; split <;> (try split) <;> simp
  neg a b := by unfold Lib.compareInt; split <;> split <;> (try split) <;> (try split) <;> omega
  zero a b := by unfold Lib.compareInt; split <;> (try split) <;> omega
  trans a b d := by unfold Lib.compareInt; split <;> split <;> (try split) <;> (try split) <;> (try split) <;> (try split) <;> omega

theorem cb_rng : ∀ a b, Lib.compareBytes a b = -1 ∨ Lib.compareBytes a b = 0 ∨ Lib.compareBytes a b = 1
  | [], [] => by simp [Lib.compareBytes]
  | [], _ :: _ => by simp [Lib.compareBytes]
  | _ :: _, [] => by simp [Lib.compareBytes]
  | a :: aa, b :: bb => by
    simp only [Lib.compareBytes]
    split
    · simp
    · split
      · simp
      · exact cb_rng aa bb
theorem u8_tri (a b : UInt8) (h1 : ¬ a < b) (h2 : ¬ b < a) : a = b := by
  rw [UInt8.lt_iff_toNat_lt] at h1 h2
  exact UInt8.toNat_inj.1 (by omega)
theorem cb_neg : ∀ a b, Lib.compareBytes a b = - Lib.compareBytes b a
  | [], [] => by simp [Lib.compareBytes]
  | [], _ :: _ => by simp [Lib.compareBytes]
  | _ :: _, [] => by simp [Lib.compareBytes]
  | a :: aa, b :: bb => by
    simp only [Lib.compareBytes]
    by_cases h1 : a < b
    · have h2 : ¬ b < a := fun h => by rw [UInt8.lt_iff_toNat_lt] at *; omega
      rw [if_pos h1, if_neg h2, if_pos h1]
    · rw [if_neg h1]
      by_cases h2 : b < a
      · rw [if_pos h2, if_pos h2]; simp
      · rw [if_neg h2, if_neg h2, if_neg h1]
        exact cb_neg aa bb
theorem cb_zero : ∀ a b, Lib.compareBytes a b = 0 ↔ a = b
  | [], [] => by simp [Lib.compareBytes]
  | [], _ :: _ => by simp [Lib.compareBytes]
  | _ :: _, [] => by simp [Lib.compareBytes]
  | a :: aa, b :: bb => by
    simp only [Lib.compareBytes]
    by_cases h1 : a < b
    · have h2 : a ≠ b := fun h => by rw [UInt8.lt_iff_toNat_lt, h] at h1; omega
      rw [if_pos h1]
      simp [h2]
    · rw [if_neg h1]
      by_cases h2 : b < a
      · have h3 : a ≠ b := fun h => by rw [UInt8.lt_iff_toNat_lt, h] at h2; omega
        rw [if_pos h2]
        simp [h3]
      · rw [if_neg h2, cb_zero aa bb]
        have := u8_tri a b h1 h2
        simp [this]
theorem cb_trans : ∀ a b d, Lib.compareBytes a b ≤ 0 → Lib.compareBytes b d ≤ 0 → Lib.compareBytes a d ≤ 0
  | [], b, [] => by simp [Lib.compareBytes]
  | [], b, _ :: _ => by simp [Lib.compareBytes]
  | _ :: _, [], d => fun h => by simp [Lib.compareBytes] at h
  | _ :: _, _ :: _, [] => fun _ h => by simp [Lib.compareBytes] at h
  | a :: aa, b :: bb, d :: dd => by
    simp only [Lib.compareBytes]
    intro h1 h2
    by_cases a1 : a < b
    · by_cases b1 : b < d
      · have : a < d := by rw [UInt8.lt_iff_toNat_lt] at *; omega
        rw [if_pos this]; omega
      · rw [if_neg b1] at h2
        by_cases b2 : d < b
        · rw [if_pos b2] at h2; omega
        · have := u8_tri b d b1 b2
          subst this
          rw [if_pos a1]; omega
    · rw [if_neg a1] at h1
      by_cases a2 : b < a
      · rw [if_pos a2] at h1; omega
      · rw [if_neg a2] at h1
        have := u8_tri a b a1 a2
        subst this
        by_cases b1 : a < d
        · rw [if_pos b1]; omega
        · rw [if_neg b1] at h2 ⊢
          by_cases b2 : d < a
          · rw [if_pos b2] at h2; omega
          · rw [if_neg b2] at h2 ⊢
            exact cb_trans aa bb dd h1 h2

def cmpB (a b : ByteArray) : Int := Lib.compareBytes a.data.toList b.data.toList
theorem three_bytes : Three cmpB where
  rng a b := cb_rng _ _
  neg a b := cb_neg _ _
  zero a b := by unfold cmpB; rw [cb_zero]; exact ⟨data_inj, fun h => by rw [h]⟩
  trans a b d := cb_trans _ _ _

/-- one way, then another one -/
def lexC {α β : Type} (c : α → α → Int) (d : β → β → Int) (x y : α × β) : Int := if c x.1 y.1 = 0 then d x.2 y.2 else c x.1 y.1
theorem three_lex {α β : Type} {c : α → α → Int} {d : β → β → Int} (hc : Three c) (hd : Three d) : Three (lexC c d) where
  rng a b := by unfold lexC; split; exact hd.rng _ _; exact hc.rng _ _
  neg a b := by
    unfold lexC
    have h := hc.neg a.1 b.1
    by_cases e : c a.1 b.1 = 0
    · rw [if_pos e, if_pos (by omega)]; exact hd.neg _ _
    · rw [if_neg e, if_neg (by omega)]; exact h
  zero a b := by
    unfold lexC
    by_cases e : c a.1 b.1 = 0
    · rw [if_pos e, hd.zero, Prod.ext_iff]
      exact ⟨fun h => ⟨(hc.zero _ _).1 e, h⟩, fun h => h.2⟩
    · rw [if_neg e]
      refine ⟨fun h => absurd h e, fun h => ?_⟩
      rw [h, hc.rfl']
  trans a b e := by
    unfold lexC
    intro h1 h2
    by_cases e1 : c a.1 b.1 = 0
    · rw [if_pos e1] at h1
      have q1 := (hc.zero _ _).1 e1
      rw [q1]
      by_cases e2 : c b.1 e.1 = 0
      · rw [if_pos e2] at h2 ⊢
        exact hd.trans _ _ _ h1 h2
      · rw [if_neg e2] at h2 ⊢
        exact h2
    · rw [if_neg e1] at h1
      have l1 : c a.1 b.1 = -1 := by rcases hc.rng a.1 b.1 with h | h | h <;> omega
      by_cases e2 : c b.1 e.1 = 0
      · have q2 := (hc.zero _ _).1 e2
        rw [← q2, if_neg e1]
        exact h1
      · rw [if_neg e2] at h2
        have l2 : c b.1 e.1 = -1 := by rcases hc.rng b.1 e.1 with h | h | h <;> omega
        have := hc.lt_trans l1 l2
        rw [if_neg (by omega)]
        omega

/-- a Kind, a Num, a Text -/
abbrev Vt := Int × Int × ByteArray
/-- a Key, a value -/
abbrev Pt := ByteArray × Vt
/-- Time, From, To, Label: how an edge stands -/
abbrev Kt := Int × ByteArray × ByteArray × ByteArray
def cmpK : Kt → Kt → Int := lexC Lib.compareInt (lexC cmpB (lexC cmpB cmpB))
theorem three_key : Three cmpK := three_lex three_int (three_lex three_bytes (three_lex three_bytes three_bytes))
theorem Three.cm {α : Type} {c : α → α → Int} (h : Three c) : Cm c := ⟨h.neg, h.trans⟩

/-- an edge -/
structure Ed where
  src : ByteArray
  dst : ByteArray
  lab : ByteArray
  time : Int
  props : List Pt
deriving DecidableEq
def Ed.key (e : Ed) : Kt := (e.time, e.src, e.dst, e.lab)
def cmpE (a b : Ed) : Int := cmpK a.key b.key
theorem cm_edge : Cm cmpE := ⟨fun a b => three_key.neg _ _, fun a b d => three_key.trans _ _ _⟩
def or4 (a b c d : Int) : Int := if a = 0 then (if b = 0 then (if c = 0 then d else c) else b) else a
theorem cmpK_or (x y : Kt) : cmpK x y = or4 (Lib.compareInt x.1 y.1) (cmpB x.2.1 y.2.1) (cmpB x.2.2.1 y.2.2.1) (cmpB x.2.2.2 y.2.2.2) := rfl
end Go.Proofs.Ytpoefcpgcojppaa
