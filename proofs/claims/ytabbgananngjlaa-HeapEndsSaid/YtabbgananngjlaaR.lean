/- Words for the law of order: a heap whose blocks all lie behind a mark; what taken tells of a sorted row. -/
import Derived.Test.YtabbgananngjlaaQ
namespace Go.Proofs.Ytabbgananngjlaa
open Go.ChangeShapes Go.WideShapes Go.ChangeAt Go.RowKit
set_option linter.unusedVariables false

/-- a heap whose blocks all lie at or behind B -/
structure HS (B : Nat) (w : World) (b : Nat) (sv : Value) (L : List It) : Prop where
  hb : Hb w b sv L
  hh : Heap L
  lo : B ≤ b
  ro : ∀ g, sv.ownBlock = some g → B ≤ g
  sz : B ≤ w.heap.size
theorem HS.below {B b : Nat} {w w' : World} {sv : Value} {L : List It} (h : HS B w b sv L) (hb : Below w.heap.size w w') : HS B w' b sv L := ⟨h.hb.below hb, h.hh, h.lo, h.ro, Nat.le_trans h.sz hb.size⟩
theorem HS.keepB {B b : Nat} {w w' : World} {sv : Value} {L : List It} (h : HS B w b sv L) (k : Keep (Off b sv) w w') : Below B w w' :=
  k.below h.sz fun i hi => ⟨by have := h.lo; omega, fun e => by have := h.ro i e; omega⟩
theorem HS.turn {B b : Nat} {w w' : World} {sv : Value} {L L2 : List It} (h : HS B w b sv L) (t : Turn w b sv L2 w') : Below B w w' ∧ ∃ sv' M, HS B w' b sv' M ∧ M.Perm L2 := by
  obtain ⟨sv1, M, h1, h2, h3, h4, h5⟩ := t
  refine ⟨h.keepB h5, sv1, M, ⟨h1, h3, h.lo, fun g hg => ?_, Nat.le_trans h.sz h5.size⟩, h2⟩
  rcases h4 g hg with k | k
  · exact h.ro g k
  · exact Nat.le_trans h.sz k
theorem HS.of_new {w w' : World} {b : Nat} {sv : Value} {L : List It} (h1 : Hb w' b sv L) (h2 : Heap L) (h3 : w.heap.size ≤ b) (h4 : ∀ g, sv.ownBlock = some g → w.heap.size ≤ g) (h5 : Below w.heap.size w w') : HS w.heap.size w' b sv L := ⟨h1, h2, h3, h4, h5.size⟩

theorem tk_app (key : Int) : ∀ (m : Nat) (S : List It), (tk key m S).1 ++ (tk key m S).2 = S
  | 0, S => rfl
  | m + 1, [] => rfl
  | m + 1, x :: S => by
    unfold tk
    split
    · simp [tk_app key m S]
    · rfl
theorem tk_le (key : Int) : ∀ (m : Nat) (S : List It) (x : It), x ∈ (tk key m S).1 → x.1 ≤ key
  | 0, S, x, h => by simp [tk] at h
  | m + 1, [], x, h => by simp [tk] at h
  | m + 1, y :: S, x, h => by
    unfold tk at h
    split at h
    · simp only [List.mem_cons] at h
      rcases h with rfl | h
      · assumption
      · exact tk_le key m S x h
    · simp at h
theorem tk_gt (key : Int) : ∀ (m : Nat) (S : List It), Srt S → S.length ≤ m → ∀ x ∈ (tk key m S).2, key < x.1
  | 0, S, h, hl, x, hx => by
    have : S = [] := List.eq_nil_of_length_eq_zero (by omega)
    subst this
    simp [tk] at hx
  | m + 1, [], h, hl, x, hx => by simp [tk] at hx
  | m + 1, y :: S, h, hl, x, hx => by
    unfold tk at hx
    split at hx
    · exact tk_gt key m S h.tail (by simp at hl; omega) x hx
    · rename_i hk
      simp only [List.mem_cons] at hx
      rcases hx with rfl | hx
      · omega
      · have := (List.pairwise_cons.1 h).1 x hx
        rw [le_iff] at this
        omega

/-- of a sorted row: which ones are told, by their places -/
theorem tk_at {key : Int} {m : Nat} {S : List It} (h : Srt S) (hl : S.length ≤ m) {i : Nat} (hi : i < S.length) :
    decide ((g S i).1 ≤ key) = decide (i < (tk key m S).1.length) ∧ (i < (tk key m S).1.length → g (tk key m S).1 i = g S i) := by
  have ha := tk_app key m S
  by_cases hlt : i < (tk key m S).1.length
  · have e : g S i = g (tk key m S).1 i := by rw [← ha, g_app hlt, ha]
    refine ⟨?_, fun _ => e.symm⟩
    rw [decide_eq_true hlt, decide_eq_true]
    rw [e]
    exact tk_le key m S _ (g_mem hlt)
  · refine ⟨?_, fun h => absurd h hlt⟩
    rw [decide_eq_false hlt, decide_eq_false]
    have hlen : (tk key m S).1.length + (tk key m S).2.length = S.length := by rw [← List.length_append, ha]
    have e : g S i = g (tk key m S).2 (i - (tk key m S).1.length) := by
      conv => lhs; rw [← ha]
      simp [g, List.getElem?_append_right (Nat.le_of_not_lt hlt)]
    rw [e]
    have := tk_gt key m S h hl _ (g_mem (L := (tk key m S).2) (i := i - (tk key m S).1.length) (by omega))
    omega
theorem tk_lens (key : Int) (m : Nat) (S : List It) : (tk key m S).1.length + (tk key m S).2.length = S.length := by
  rw [← List.length_append, tk_app]

/-- a row begun at another place -/
def rt (l : List It) (k : Nat) : List It := l.drop k ++ l.take k
theorem rt_perm (l : List It) (k : Nat) : (rt l k).Perm l := by
  have := List.perm_append_comm (l₁ := l.drop k) (l₂ := l.take k)
  rwa [List.take_append_drop] at this
theorem rt_len (l : List It) (k : Nat) : (rt l k).length = l.length := (rt_perm l k).length_eq
theorem rt_at {l : List It} {k i : Nat} (hk : k < l.length) (hi : i < l.length) : g (rt l k) i = g l ((i + k) % l.length) := by
  unfold rt
  by_cases h : i < l.length - k
  · rw [Nat.mod_eq_of_lt (by omega), g_app (by simpa using h)]
    simp [g, List.getElem?_drop, Nat.add_comm]
  · have e : (i + k) % l.length = i + k - l.length := by
      rw [Nat.mod_eq_sub_mod (by omega), Nat.mod_eq_of_lt (by omega)]
    rw [e]
    unfold g
    rw [List.getElem?_append_right (by simp; omega), List.length_drop, List.getElem?_take_of_lt (by omega), show i - (l.length - k) = i + k - l.length by omega]
theorem srt_step {S : List It} {M : List It} {q : Nat} (hh : Heap M) (h : srt M = S.drop q) (hq : q < S.length) : 0 < M.length ∧ g M 0 = g S q ∧ srt (cutL M) = S.drop (q + 1) := by
  have hlen : M.length = S.length - q := by rw [← srt_len, h, List.length_drop]
  have h0 : 0 < M.length := by omega
  have e := srt_cut hh h0
  rw [h, List.drop_eq_getElem_cons hq] at e
  injection e with e1 e2
  exact ⟨h0, by rw [← e1, g_get hq], e2.symm⟩
end Go.Proofs.Ytabbgananngjlaa
