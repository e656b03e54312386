/- The labels of an expression, in plain words. -/
import Derived.Test.YtnohnkhhkeikoaaWA
import Derived.Test.YtnohnkhhkeikoaaShelf
import Derived.Lib.RowBridge
import Derived.Lib.SlicesCompact
namespace Go.Proofs.Ytnohnkhhkeikoaa
open Go.ChangeShapes Go.WideShapes Go.ChangeAt Go.RowKit
set_option linter.unusedVariables false

abbrev By := List UInt8
def leB (x y : By) : Bool := decide (x ≤ y)
theorem leB_trans (a b c : By) (h : leB a b = true) (k : leB b c = true) : leB a c = true := by simp [leB] at h k ⊢; exact List.le_trans h k
theorem leB_total (a b : By) : (leB a b || leB b a) = true := by simp [leB]; exact List.le_total a b

theorem get_bang {α : Type} [Inhabited α] {l : List α} {i : Nat} (h : i < l.length) : l.toArray[i]! = l[i] := by
  rw [getElem!_pos _ i (by simpa using h)]
  simp

/-- what Compact leaves of a sorted row: it rises, and holds the same -/
theorem compact_upto {zs : List By} (hs : zs.Pairwise (fun x y => x ≤ y)) : ∀ m, m ≤ zs.length →
    (Lib.compactUpTo zs.toArray m).Pairwise (fun x y => x ≤ y ∧ x ≠ y) ∧ (∀ x, x ∈ Lib.compactUpTo zs.toArray m ↔ ∃ (j : Nat) (h : j < zs.length), j < m ∧ zs[j] = x) := by
  intro m
  induction m with
  | zero =>
    intro _
    have : Lib.compactUpTo zs.toArray 0 = [] := rfl
    rw [this]
    refine ⟨List.Pairwise.nil, fun x => ⟨(fun h => by cases h), ?_⟩⟩
    rintro ⟨j, _, h, _⟩
    omega
  | succ m ih =>
    intro hm
    obtain ⟨h1, h2⟩ := ih (by omega)
    have hmz : m < zs.length := by omega
    have hle : ∀ i (h : i < zs.length), i ≤ m → zs[i] ≤ zs[m] := fun i h him => by
      rcases Nat.lt_or_eq_of_le him with h0 | h0
      · exact List.pairwise_iff_getElem.1 hs i m h hmz h0
      · subst h0; exact List.le_refl _
    rw [Lib.compactUpTo_succ]
    by_cases hk : Lib.keeps zs.toArray m = true
    · rw [if_pos hk, get_bang hmz]
      refine ⟨?_, fun x => ?_⟩
      · rw [List.pairwise_append]
        refine ⟨h1, List.pairwise_singleton _ _, fun x hx y hy => ?_⟩
        rw [List.mem_singleton] at hy
        subst hy
        obtain ⟨j, hj, hjm, rfl⟩ := (h2 x).1 hx
        refine ⟨hle j hj (by omega), fun e => ?_⟩
        -- then the one ahead is the same
        have hm0 : 0 < m := by omega
        have hp : zs[m - 1] = zs[m] := by
          have a1 := hle (m - 1) (by omega) (by omega)
          have a2 : zs[j] ≤ zs[m - 1] := by
            rcases Nat.lt_or_eq_of_le (show j ≤ m - 1 by omega) with h0 | h0
            · exact List.pairwise_iff_getElem.1 hs j (m - 1) hj (by omega) h0
            · have : zs[j] = zs[m - 1] := by congr 1
              rw [this]; exact List.le_refl _
          rw [e] at a2
          exact List.le_antisymm a1 a2
        have := Lib.keeps_neg (d := zs.toArray) hm0 (by rw [get_bang hmz, get_bang (show m - 1 < zs.length by omega), hp])
        rw [hk] at this
        cases this
      · rw [List.mem_append, List.mem_singleton, h2]
        constructor
        · rintro (⟨j, hj, hjm, e⟩ | e)
          · exact ⟨j, hj, by omega, e⟩
          · exact ⟨m, hmz, by omega, e.symm⟩
        · rintro ⟨j, hj, hjm, e⟩
          by_cases h0 : j = m
          · subst h0; exact .inr e.symm
          · exact .inl ⟨j, hj, by omega, e⟩
    · rw [if_neg hk, List.append_nil]
      refine ⟨h1, fun x => ?_⟩
      rw [h2]
      have hm0 : 0 < m := by
        rcases Nat.eq_zero_or_pos m with h0 | h0
        · exact absurd (Lib.keeps_lt_one zs.toArray m (by omega)) hk
        · exact h0
      have hp : zs[m] = zs[m - 1] := by
        refine Classical.byContradiction fun hne => hk (Lib.keeps_pos ?_)
        rw [get_bang hmz, get_bang (show m - 1 < zs.length by omega)]
        exact hne
      constructor
      · rintro ⟨j, hj, hjm, e⟩
        exact ⟨j, hj, by omega, e⟩
      · rintro ⟨j, hj, hjm, e⟩
        by_cases h0 : j = m
        · subst h0; exact ⟨j - 1, by omega, by omega, by rw [← hp]; exact e⟩
        · exact ⟨j, hj, by omega, e⟩
theorem compact_sorted {zs : List By} (hs : zs.Pairwise (fun x y => x ≤ y)) : (Lib.compact zs).Pairwise (fun x y => x ≤ y ∧ x ≠ y) ∧ ∀ x, x ∈ Lib.compact zs ↔ x ∈ zs := by
  obtain ⟨h1, h2⟩ := compact_upto hs zs.length (Nat.le_refl _)
  refine ⟨h1, fun x => ?_⟩
  unfold Lib.compact
  rw [h2, List.mem_iff_getElem]
  constructor
  · rintro ⟨j, hj, _, e⟩; exact ⟨j, hj, e⟩
  · rintro ⟨j, hj, e⟩; exact ⟨j, hj, hj, e⟩

/-- the labels of parts, as they come -/
def labR (ps : List X) : List ByteArray := (ps.filter fun p => decide (p.kind = 1)).map X.lab
theorem labR_snoc (ps : List X) (p : X) : labR (ps ++ [p]) = labR ps ++ (if p.kind = 1 then [p.lab] else []) := by
  unfold labR
  rw [List.filter_append, List.map_append]
  by_cases h : p.kind = 1 <;> simp [h]
theorem labR_len (ps : List X) : (labR ps).length ≤ ps.length := by
  unfold labR
  rw [List.length_map]
  exact List.length_filter_le _ _
def bys (l : List ByteArray) : List By := l.map fun s => s.data.toList
def unby (s : By) : ByteArray := ⟨s.toArray⟩
theorem unby_by (s : ByteArray) : unby s.data.toList = s := by unfold unby; exact ByteArray.ext (by simp)
theorem by_unby (s : By) : (unby s).data.toList = s := by unfold unby; simp
/-- sorted, each once -/
def once (l : List ByteArray) : List By := Lib.compact ((bys l).mergeSort leB)
theorem once_len (l : List ByteArray) : (once l).length ≤ l.length := by
  unfold once
  refine Nat.le_trans (Lib.compact_length_le _) ?_
  rw [List.length_mergeSort]
  simp [bys]
theorem once_mem (l : List ByteArray) (x : By) : x ∈ once l ↔ unby x ∈ l := by
  have hs : ((bys l).mergeSort leB).Pairwise (fun x y => x ≤ y) := by
    have := List.pairwise_mergeSort (le := leB) leB_trans leB_total (bys l)
    exact this.imp (fun h => by simpa [leB] using h)
  unfold once
  rw [(compact_sorted hs).2, (List.mergeSort_perm _ _).mem_iff]
  unfold bys
  rw [List.mem_map]
  constructor
  · rintro ⟨s, hs, rfl⟩; rw [unby_by]; exact hs
  · intro h; exact ⟨_, h, by_unby x⟩
theorem once_rises (l : List ByteArray) : (once l).Pairwise (fun x y => x ≤ y ∧ x ≠ y) := by
  have hs : ((bys l).mergeSort leB).Pairwise (fun x y => x ≤ y) := by
    have := List.pairwise_mergeSort (le := leB) leB_trans leB_total (bys l)
    exact this.imp (fun h => by simpa [leB] using h)
  exact (compact_sorted hs).1
/-- the labels of an expression -/
def X.labs (x : X) : List ByteArray := if x.right = true then (once (labR x.parts)).map unby else []
theorem labs_wrong {x : X} (h : x.right = false) : x.labs = [] := by unfold X.labs; rw [h]; rfl
theorem labs_right {x : X} (h : x.right = true) : x.labs = (once (labR x.parts)).map unby := by unfold X.labs; rw [if_pos h]
theorem labs_len (x : X) : x.labs.length ≤ x.sz := by
  unfold X.labs
  split
  · rw [List.length_map]
    exact Nat.le_trans (once_len _) (labR_len _)
  · exact Nat.zero_le _
theorem labs_mem {x : X} (h : x.right = true) (s : ByteArray) : s ∈ x.labs ↔ s ∈ labR x.parts := by
  rw [labs_right h, List.mem_map]
  constructor
  · rintro ⟨y, hy, rfl⟩; exact (once_mem _ _).1 hy
  · intro hs; exact ⟨s.data.toList, (once_mem _ _).2 (by rw [unby_by]; exact hs), unby_by s⟩
theorem labs_rises (x : X) {i j : Nat} (hi : i < j) (hj : j < x.labs.length) : ¬ (x.labs[j]'hj).data.toList ≤ (x.labs[i]'(by omega)).data.toList := by
  unfold X.labs at hj ⊢
  split at hj
  · rename_i h
    simp only [h, if_true, List.getElem_map, by_unby]
    have hj' : j < (once (labR x.parts)).length := by simpa using hj
    obtain ⟨h1, h2⟩ := List.pairwise_iff_getElem.1 (once_rises (labR x.parts)) i j (by omega) hj' hi
    exact fun h3 => h2 (List.le_antisymm h1 h3)
  · simp at hj

/-- a word that is taken has no label but those -/
theorem L_known : ∀ (x : X) (u : Wd), x.L u → ∀ s ∈ u, s ∈ labR x.parts := by
  intro x
  induction x using X.ind' with
  | h x ih =>
    have hsub : ∀ ks : List X, (∀ y ∈ ks, ∀ u, y.L u → ∀ s ∈ u, s ∈ labR y.parts) → (∀ u, LS ks u → ∀ s ∈ u, s ∈ labR (partsL ks)) ∧ (∀ u, LA ks u → ∀ s ∈ u, s ∈ labR (partsL ks)) := by
      intro ks
      induction ks with
      | nil =>
        intro _
        refine ⟨fun u h s hs => ?_, fun u h => ?_⟩
        · rw [LS_nil] at h; subst h; cases hs
        · rw [LA_nil] at h; exact h.elim
      | cons y ys ihy =>
        intro h
        obtain ⟨i1, i2⟩ := ihy (fun z hz => h z (by simp [hz]))
        have hpa : labR (partsL (y :: ys)) = labR y.parts ++ labR (partsL ys) := by rw [partsL_cons]; unfold labR; rw [List.filter_append, List.map_append]
        rw [hpa]
        refine ⟨fun u hu s hs => ?_, fun u hu s hs => ?_⟩
        · obtain ⟨p, q, rfl, hp, hq⟩ := (LS_cons y ys u).1 hu
          rcases List.mem_append.1 hs with hs | hs
          · exact List.mem_append_left _ (h y (by simp) p hp s hs)
          · exact List.mem_append_right _ (i1 q hq s hs)
        · rcases (LA_cons y ys u).1 hu with hu | hu
          · exact List.mem_append_left _ (h y (by simp) u hu s hs)
          · exact List.mem_append_right _ (i2 u hu s hs)
    obtain ⟨j1, j2⟩ := hsub x.kids ih
    have hk : ∀ s, s ∈ labR (partsL x.kids) → s ∈ labR x.parts := by
      intro s hs
      rw [X.parts_eq]
      unfold labR at hs ⊢
      obtain ⟨p, hp, rfl⟩ := List.mem_map.1 hs
      rw [List.mem_filter] at hp
      exact List.mem_map.2 ⟨p, List.mem_filter.2 ⟨List.mem_cons_of_mem _ hp.1, hp.2⟩, rfl⟩
    have hpl : ∀ u, Pl (LA x.kids) u → ∀ s ∈ u, s ∈ labR (partsL x.kids) := by
      intro u hu
      induction hu with
      | one p h => exact j2 p h
      | snoc p q h h1 ihp =>
        intro s hs
        rcases List.mem_append.1 hs with hs | hs
        · exact ihp s hs
        · exact j2 q h1 s hs
    intro u hu s hs
    rw [X.L_eq] at hu
    by_cases h1 : x.kind = 1
    · rw [if_pos h1] at hu
      subst hu
      rw [List.mem_singleton] at hs
      subst hs
      rw [X.parts_eq]
      unfold labR
      exact List.mem_map.2 ⟨x, List.mem_filter.2 ⟨by simp, by simp [h1]⟩, rfl⟩
    · rw [if_neg h1] at hu
      refine hk s ?_
      split at hu
      · exact j1 u hu s hs
      · split at hu
        · exact j2 u hu s hs
        · split at hu
          · rcases hu with hu | hu
            · subst hu; cases hs
            · exact j2 u hu s hs
          · split at hu
            · rcases hu with hu | hu
              · subst hu; cases hs
              · exact hpl u hu s hs
            · exact hpl u hu s hs
end Go.Proofs.Ytnohnkhhkeikoaa
