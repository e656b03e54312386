/- Plain words on items: their order, sorted lists, heaps in lists. -/
import Derived.Test.YtfcdgfjpmcapkaaGreatRows
namespace Go.Proofs.YtfcdgfjpmcapkaaGreat
set_option linter.unusedVariables false

abbrev It := Int × Int
/-- an item stands ahead of another one, or is it -/
def le (a b : It) : Bool := decide (a.1 < b.1) || (decide (a.1 = b.1) && decide (a.2 ≤ b.2))
theorem le_iff {a b : It} : le a b = true ↔ a.1 < b.1 ∨ (a.1 = b.1 ∧ a.2 ≤ b.2) := by simp [le]
theorem le_false {a b : It} : le a b = false ↔ b.1 < a.1 ∨ (b.1 = a.1 ∧ b.2 < a.2) := by
  rw [← Bool.not_eq_true, le_iff]; omega
theorem le_rfl (a : It) : le a a = true := by rw [le_iff]; omega
theorem le_trans {a b c : It} (h : le a b = true) (k : le b c = true) : le a c = true := by rw [le_iff] at *; omega
theorem le_total (a b : It) : le a b = true ∨ le b a = true := by rw [le_iff, le_iff]; omega
theorem le_of_false {a b : It} (h : le a b = false) : le b a = true := by rw [le_false] at h; rw [le_iff]; omega
theorem le_anti {a b : It} (h : le a b = true) (k : le b a = true) : a = b := by
  rw [le_iff] at h k
  exact Prod.ext (by omega) (by omega)

/-- two items held against each other -/
def cmpV (a b : It) : Int := if a.1 < b.1 then -1 else if b.1 < a.1 then 1 else if a.2 < b.2 then -1 else if b.2 < a.2 then 1 else 0
theorem cmpV_neg (a b : It) : decide (cmpV a b < 0) = !le b a := by
  unfold cmpV
  rw [Bool.eq_iff_iff, Bool.not_eq_true', le_false, decide_eq_true_iff]
  split <;> (try split) <;> (try split) <;> (try split) <;> omega

/-- items that rise -/
def Srt (S : List It) : Prop := S.Pairwise fun a b => le a b = true
theorem Srt.eq {S T : List It} (h : Srt S) (k : Srt T) (hp : S.Perm T) : S = T := hp.eq_of_pairwise (fun a b _ _ => le_anti) h k
/-- an item put where it stands -/
def ins (x : It) : List It → List It
  | [] => [x]
  | y :: l => if le x y then x :: y :: l else y :: ins x l
/-- items in order -/
def srt (L : List It) : List It := L.foldr ins []
theorem ins_perm (x : It) : ∀ l, (ins x l).Perm (x :: l)
  | [] => List.Perm.refl _
  | y :: l => by
    unfold ins
    split
    · exact List.Perm.refl _
    · exact ((ins_perm x l).cons y).trans (List.Perm.swap x y l)
theorem ins_srt (x : It) : ∀ {l}, Srt l → Srt (ins x l)
  | [], _ => by simp [ins, Srt]
  | y :: l, h => by
    unfold ins
    have h' := List.pairwise_cons.1 h
    split
    · rename_i hxy
      refine List.pairwise_cons.2 ⟨fun z hz => ?_, h⟩
      rcases List.mem_cons.1 hz with rfl | hz
      · exact hxy
      · exact le_trans hxy (h'.1 z hz)
    · rename_i hxy
      refine List.pairwise_cons.2 ⟨fun z hz => ?_, ins_srt x h'.2⟩
      rcases List.mem_cons.1 ((ins_perm x l).mem_iff.1 hz) with rfl | hz
      · exact le_of_false (by simpa using hxy)
      · exact h'.1 z hz
theorem srt_perm : ∀ L, (srt L).Perm L
  | [] => List.Perm.refl _
  | x :: l => (ins_perm x _).trans ((srt_perm l).cons x)
theorem srt_srt : ∀ L, Srt (srt L)
  | [] => List.Pairwise.nil
  | x :: l => ins_srt x (srt_srt l)
theorem srt_len (L : List It) : (srt L).length = L.length := (srt_perm L).length_eq
theorem srt_congr {L M : List It} (h : L.Perm M) : srt L = srt M := (srt_srt L).eq (srt_srt M) ((srt_perm L).trans (h.trans (srt_perm M).symm))
theorem srt_of {S : List It} (h : Srt S) : srt S = S := (srt_srt S).eq h (srt_perm S)
theorem srt_app (L M : List It) : srt (srt L ++ M) = srt (L ++ M) := srt_congr ((srt_perm L).append_right M)
theorem srt_head {L S : List It} {x : It} (h : srt L = x :: S) (y : It) (hy : y ∈ L) : le x y = true := by
  have hs := srt_srt L
  rw [h] at hs
  have hm : y ∈ x :: S := by rw [← h]; exact (srt_perm L).mem_iff.2 hy
  rcases List.mem_cons.1 hm with rfl | hm
  · exact le_rfl _
  · exact (List.pairwise_cons.1 hs).1 y hm
/-- the least one is first -/
theorem srt_first {L : List It} {x : It} (hx : x ∈ L) (h : ∀ y ∈ L, le x y = true) : ∃ S, srt L = x :: S := by
  match hS : srt L with
  | [] => exact absurd ((srt_perm L).mem_iff.2 hx) (by rw [hS]; simp)
  | y :: S =>
    have hy : y ∈ L := (srt_perm L).mem_iff.1 (by rw [hS]; simp)
    exact ⟨S, by rw [le_anti (h y hy) (srt_head hS x hx)]⟩
theorem Srt.tail {x : It} {S : List It} (h : Srt (x :: S)) : Srt S := (List.pairwise_cons.1 h).2

/-- the item at a place -/
def g (L : List It) (i : Nat) : It := L[i]?.getD (0, 0)
theorem g_get {L : List It} {i : Nat} (h : i < L.length) : g L i = L[i] := by simp [g, h]
theorem g_mem {L : List It} {i : Nat} (h : i < L.length) : g L i ∈ L := by rw [g_get h]; exact List.getElem_mem h
/-- two items change their places -/
def sw (L : List It) (i j : Nat) : List It := (L.set i (g L j)).set j (g L i)
theorem sw_len (L : List It) (i j : Nat) : (sw L i j).length = L.length := by simp [sw]
theorem g_sw {L : List It} {i j : Nat} (hi : i < L.length) (hj : j < L.length) (k : Nat) : g (sw L i j) k = if k = j then g L i else if k = i then g L j else g L k := by
  by_cases h1 : k = j
  · subst h1
    simp [g, sw, hj]
  · by_cases h2 : k = i
    · subst h2
      simp [g, sw, h1, Ne.symm h1, hi]
    · simp [g, sw, h1, h2, Ne.symm h1, Ne.symm h2]
theorem sw_perm {L : List It} {i j : Nat} (hi : i < L.length) (hj : j < L.length) : (sw L i j).Perm L := by
  unfold sw
  rw [g_get hi, g_get hj]
  first | exact List.set_set_perm hi hj | exact List.set_set_perm ..

def par (i : Nat) : Nat := (i - 1) / 2
/-- places from top on: what is above is not behind -/
def Ord (L : List It) (top : Nat) : Prop := ∀ i, 0 < i → i < L.length → top ≤ par i → le (g L (par i)) (g L i) = true
def Heap (L : List It) : Prop := Ord L 0
theorem heap_root {L : List It} (h : Heap L) : ∀ i, i < L.length → le (g L 0) (g L i) = true := by
  intro i
  induction i using Nat.strongRecOn with
  | ind i ih =>
    intro hi
    by_cases h0 : i = 0
    · subst h0; exact le_rfl _
    · exact le_trans (ih (par i) (by unfold par; omega) (by unfold par; omega)) (h i (by omega) hi (Nat.zero_le _))
theorem heap_first {L : List It} (h : Heap L) (h0 : 0 < L.length) : ∃ S, srt L = g L 0 :: S := by
  refine srt_first (g_mem h0) fun y hy => ?_
  obtain ⟨i, hi, rfl⟩ := List.mem_iff_getElem.1 hy
  rw [← g_get hi]
  exact heap_root h i hi

/-- an item goes down -/
def Down (L : List It) (top p : Nat) : Prop :=
  (∀ i, 0 < i → i < L.length → top ≤ par i → par i ≠ p → le (g L (par i)) (g L i) = true) ∧ (∀ i, 0 < i → i < L.length → par i = p → 0 < p → top ≤ par p → le (g L (par p)) (g L i) = true)
theorem down_start {L : List It} {top : Nat} (h : Ord L (top + 1)) : Down L top top :=
  ⟨fun i h0 hi ht hn => h i h0 hi (by omega), fun i _ _ _ hp ht => by unfold par at ht; omega⟩
/-- the one below that is ahead -/
def bel (L : List It) (p : Nat) : Nat := if 2 * p + 2 < L.length ∧ le (g L (2 * p + 1)) (g L (2 * p + 2)) = false then 2 * p + 2 else 2 * p + 1
theorem bel_par (L : List It) (p : Nat) : par (bel L p) = p ∧ p < bel L p ∧ bel L p ≤ 2 * p + 2 := by unfold bel par; split <;> omega
theorem bel_least {L : List It} {p : Nat} (hb : bel L p < L.length) (i : Nat) (h0 : 0 < i) (hi : i < L.length) (hp : par i = p) : le (g L (bel L p)) (g L i) = true := by
  have hh : i = 2 * p + 1 ∨ i = 2 * p + 2 := by unfold par at hp; omega
  unfold bel
  split
  · rename_i hc
    rcases hh with rfl | rfl
    · exact le_of_false hc.2
    · exact le_rfl _
  · rename_i hc
    rcases hh with rfl | rfl
    · exact le_rfl _
    · by_cases hl : le (g L (2 * p + 1)) (g L (2 * p + 2)) = true
      · exact hl
      · exact absurd ⟨hi, by simpa using hl⟩ hc
theorem bel_none {L : List It} {p : Nat} (hb : ¬ bel L p < L.length) (i : Nat) (h0 : 0 < i) (hi : i < L.length) : par i ≠ p := by
  intro hp
  have hh : i = 2 * p + 1 ∨ i = 2 * p + 2 := by unfold par at hp; omega
  unfold bel at hb
  split at hb <;> omega
theorem down_step {L : List It} {top p : Nat} (h : Down L top p) (ht : top ≤ p) (hb : bel L p < L.length) (hl : le (g L p) (g L (bel L p)) = false) : Down (sw L p (bel L p)) top (bel L p) := by
  obtain ⟨b1, b2, _⟩ := bel_par L p
  have hm := bel_least hb
  generalize bel L p = c at *
  have hp : p < L.length := by omega
  have hg := fun k => g_sw hp hb k
  refine ⟨fun i h0 hi h1 h2 => ?_, fun i h0 hi h1 h2 h3 => ?_⟩
  · rw [sw_len] at hi
    rw [hg, hg]
    have hpi : par i < i := by unfold par; omega
    by_cases e1 : i = c
    · subst e1
      rw [if_neg (by omega), if_pos b1, if_pos rfl]
      exact le_of_false hl
    · by_cases e2 : i = p
      · subst e2
        rw [if_neg (by omega), if_neg (by omega), if_neg (by omega), if_pos rfl]
        exact h.2 c (by omega) hb b1 h0 h1
      · rw [if_neg e1, if_neg e2, if_neg h2]
        by_cases e3 : par i = p
        · rw [if_pos e3]
          exact hm i h0 hi e3
        · rw [if_neg e3]
          exact h.1 i h0 hi h1 e3
  · rw [sw_len] at hi
    rw [hg, hg]
    have hpi : par i < i := by unfold par; omega
    rw [b1, if_neg (by omega), if_pos rfl, if_neg (by omega), if_neg (by omega), ← h1]
    exact h.1 i h0 hi (by omega) (by omega)
theorem down_end {L : List It} {top p : Nat} (h : Down L top p) (he : ¬ bel L p < L.length ∨ le (g L p) (g L (bel L p)) = true) : Ord L top := by
  intro i h0 hi h1
  by_cases hp : par i = p
  · rcases he with he | he
    · exact absurd hp (bel_none he i h0 hi)
    · by_cases hb : bel L p < L.length
      · rw [hp]
        exact le_trans he (bel_least hb i h0 hi hp)
      · exact absurd hp (bel_none hb i h0 hi)
  · exact h.1 i h0 hi h1 hp

/-- an item goes up -/
def Up (L : List It) (p : Nat) : Prop :=
  (∀ i, 0 < i → i < L.length → i ≠ p → le (g L (par i)) (g L i) = true) ∧ (∀ i, 0 < i → i < L.length → par i = p → 0 < p → le (g L (par p)) (g L i) = true)
theorem g_app {L M : List It} {i : Nat} (h : i < L.length) : g (L ++ M) i = g L i := by simp [g, List.getElem?_append_left h]
theorem up_start {L : List It} (h : Heap L) (x : It) : Up (L ++ [x]) L.length :=
  ⟨fun i h0 hi hn => by
    have hi' : i < L.length := by simp at hi; omega
    rw [g_app hi', g_app (by unfold par; omega)]
    exact h i h0 hi' (Nat.zero_le _), fun i h0 hi hp _ => by simp at hi; unfold par at hp; omega⟩
theorem up_step {L : List It} {p : Nat} (h : Up L p) (h0 : 0 < p) (hp : p < L.length) (hl : le (g L (par p)) (g L p) = false) : Up (sw L p (par p)) (par p) := by
  have hq : par p < p := by unfold par; omega
  have hg := fun k => g_sw hp (show par p < L.length by omega) k
  refine ⟨fun i i0 hi hn => ?_, fun i i0 hi h1 h2 => ?_⟩
  · rw [sw_len] at hi
    rw [hg, hg, if_neg hn]
    have hpi : par i < i := by unfold par; omega
    by_cases e1 : i = p
    · subst e1
      rw [if_pos rfl, if_pos rfl]
      exact le_of_false hl
    · rw [if_neg e1]
      by_cases e2 : par i = par p
      · rw [if_pos e2]
        have := h.1 i i0 hi e1
        rw [e2] at this
        exact le_trans (le_of_false hl) this
      · rw [if_neg e2]
        by_cases e3 : par i = p
        · rw [if_pos e3]
          exact h.2 i i0 hi e3 h0
        · rw [if_neg e3]
          exact h.1 i i0 hi e1
  · rw [sw_len] at hi
    have hq2 : par (par p) < par p := by unfold par at *; omega
    have hpi : par i < i := by unfold par; omega
    have hqe := h.1 (par p) h2 (by omega) (by omega)
    rw [hg, hg, if_neg (by omega), if_neg (by omega), if_neg (by omega)]
    by_cases e1 : i = p
    · rw [if_pos e1]
      exact hqe
    · rw [if_neg e1]
      have := h.1 i i0 hi e1
      rw [h1] at this
      exact le_trans hqe this
theorem up_end {L : List It} {p : Nat} (h : Up L p) (he : p = 0 ∨ le (g L (par p)) (g L p) = true) : Heap L := by
  intro i h0 hi _
  by_cases e : i = p
  · subst e
    rcases he with rfl | he
    · omega
    · exact he
  · exact h.1 i h0 hi e
theorem ord_far {L : List It} {top : Nat} (h : L.length / 2 ≤ top) : Ord L top := fun i h0 hi ht => by unfold par at ht; omega
/-- without the first one, the last in its place -/
def cutL (L : List It) : List It := (L.set 0 (g L (L.length - 1))).take (L.length - 1)
theorem cut_len (L : List It) : (cutL L).length = L.length - 1 := by simp [cutL]
theorem g_cut {L : List It} {i : Nat} (h : i < L.length - 1) : g (cutL L) i = if i = 0 then g L (L.length - 1) else g L i := by
  unfold cutL g
  rw [List.getElem?_take_of_lt h, List.getElem?_set]
  by_cases h0 : i = 0
  · subst h0
    have hp : 0 < L.length := by omega
    simp [hp]
  · simp [h0, Ne.symm h0]
theorem cut_ord {L : List It} (h : Heap L) : Ord (cutL L) 1 := by
  intro i h0 hi ht
  rw [cut_len] at hi
  have : par i < i := by unfold par; omega
  rw [g_cut hi, g_cut (by omega), if_neg (by omega), if_neg (by omega)]
  exact h i h0 (by omega) (Nat.zero_le _)
theorem cut_perm {L : List It} (h : 0 < L.length) : (g L 0 :: cutL L).Perm L := by
  match L, h with
  | [x], _ => simp [g, cutL]
  | x :: y :: l, _ =>
    have e : y :: l = (y :: l).dropLast ++ [(y :: l).getLast (by simp)] := (List.dropLast_concat_getLast (by simp)).symm
    have e1 : g (x :: y :: l) ((x :: y :: l).length - 1) = (y :: l).getLast (by simp) := by
      rw [g_get (by simp)]
      simp [List.getLast_eq_getElem]
    have e2 : cutL (x :: y :: l) = (y :: l).getLast (by simp) :: (y :: l).dropLast := by
      unfold cutL
      rw [e1]
      simp [List.dropLast_eq_take]
    rw [e2]
    have e3 : g (x :: y :: l) 0 = x := by simp [g]
    rw [e3]
    refine List.Perm.cons x ?_
    conv => rhs; rw [e]
    exact (List.perm_append_singleton _ _).symm
end Go.Proofs.YtfcdgfjpmcapkaaGreat
