/- All entries, key by key. -/
import Derived.Test.YtfcdgfjpmcapkaaGreatCB
namespace Go.Proofs.YtfcdgfjpmcapkaaGreat
open Go.ChangeShapes Go.WideShapes Go.ChangeAt Go.RowKit Go.Maps Go.Shelf
set_option linter.unusedVariables false

variable {Ks : List (ByteArray × Nat)} {E : List En} {S : List Et} {k : ByteArray}

theorem ksS_of : ksS (Ks.map rowV) = (Ks.map fun p => p.1.data.toList).mergeSort leB := by
  unfold ksS
  congr 1
  simp [strKeys, hd, rowV, Function.comp_def]
  intros
  rfl
theorem ksS_rise (ha : (Ks.map rowV).Pairwise fun x y => x.1 ≠ y.1) : (ksS (Ks.map rowV)).Pairwise fun a b => a < b := by
  rw [ksS_of]
  have h1 := List.pairwise_mergeSort (le := leB) (fun a b c h k => by simp [leB] at h k ⊢; exact List.le_trans h k) (fun a b => by simp [leB]; exact List.le_total a b) (Ks.map fun p => p.1.data.toList)
  have h2 : (Ks.map fun p => p.1.data.toList).Nodup := by
    rw [List.Nodup, List.pairwise_map]
    rw [List.pairwise_map] at ha
    exact ha.imp fun h e => h (by simp only [rowV, key]; rw [e])
  have h3 : ((Ks.map fun p => p.1.data.toList).mergeSort leB).Nodup := (List.mergeSort_perm _ _).nodup_iff.2 h2
  refine (h1.and h3).imp ?_
  intro a b ⟨h, hne⟩
  have hle : a ≤ b := by simpa [leB] using h
  by_cases hlt : a < b
  · exact hlt
  · exact absurd (List.le_antisymm hle hlt) hne
theorem lookS_of (ha : (Ks.map rowV).Pairwise fun x y => x.1 ≠ y.1) (z : Value) : ∀ s ∈ ksS (Ks.map rowV), ∃ p : ByteArray × Nat, p ∈ Ks ∧ p.1.data.toList = s ∧ (look (Ks.map rowV) (.string s)).getD z = .agg #[.string p.1, .map (some p.2)] := by
  intro s hs
  rw [ksS_of] at hs
  obtain ⟨p, hp, rfl⟩ := List.mem_map.1 ((List.mergeSort_perm _ _).mem_iff.1 hs)
  unfold look
  cases hf : (Ks.map rowV).find? fun q => q.1.sameKey (.string p.1.data.toList) with
  | none =>
    have := List.find?_eq_none.1 hf (rowV p) (List.mem_map.2 ⟨p, hp, rfl⟩)
    simp [rowV, key, Lit.sameKey] at this
  | some q =>
    obtain ⟨p', hp', rfl⟩ := List.mem_map.1 (List.mem_of_find?_eq_some hf)
    have h0 : (rowV p').1.sameKey (.string p.1.data.toList) = true := by simpa using List.find?_some hf
    have h1 := WideAt.sameKey_eq h0
    have h2 : p'.1.data.toList = p.1.data.toList := by simpa [rowV, key] using h1
    exact ⟨p', hp', h2, rfl⟩
theorem xsS_of (ha : (Ks.map rowV).Pairwise fun x y => x.1 ≠ y.1) (z : Value) : ∃ Kl : List (ByteArray × Nat), (∀ p ∈ Kl, p ∈ Ks) ∧ (∀ p ∈ Ks, ∃ q ∈ Kl, q.1 = p.1) ∧ (Kl.Pairwise fun a b => bl a.1 b.1 = true) ∧ xsS z (Ks.map rowV) = Kl.map fun p => (.string p.1, .agg #[.string p.1, .map (some p.2)]) := by
  classical
  have hl := lookS_of ha z
  obtain ⟨f, hf⟩ : ∃ f : List UInt8 → ByteArray × Nat, ∀ s ∈ ksS (Ks.map rowV), f s ∈ Ks ∧ (f s).1.data.toList = s ∧ (look (Ks.map rowV) (.string s)).getD z = .agg #[.string (f s).1, .map (some (f s).2)] := by
    refine ⟨fun s => if h : ∃ p : ByteArray × Nat, p ∈ Ks ∧ p.1.data.toList = s ∧ (look (Ks.map rowV) (.string s)).getD z = .agg #[.string p.1, .map (some p.2)] then h.choose else (⟨#[]⟩, 0), fun s hs => ?_⟩
    simp only [dif_pos (hl s hs)]
    exact (hl s hs).choose_spec
  refine ⟨(ksS (Ks.map rowV)).map f, ?_, ?_, ?_, ?_⟩
  · intro p hp
    obtain ⟨s, hs, rfl⟩ := List.mem_map.1 hp
    exact (hf s hs).1
  · intro p hp
    have hs : p.1.data.toList ∈ ksS (Ks.map rowV) := by
      rw [ksS_of]
      exact (List.mergeSort_perm _ _).mem_iff.2 (List.mem_map.2 ⟨p, hp, rfl⟩)
    exact ⟨f p.1.data.toList, List.mem_map.2 ⟨_, hs, rfl⟩, data_inj (hf _ hs).2.1⟩
  · rw [List.pairwise_map]
    refine (ksS_rise ha).imp_of_mem ?_
    intro a b ha' hb' h
    simp only [bl, decide_eq_true_eq]
    rw [(hf a ha').2.1, (hf b hb').2.1]
    exact h
  · unfold xsS
    rw [List.map_map]
    apply List.map_congr_left
    intro s hs
    obtain ⟨h1, h2, h3⟩ := hf s hs
    refine Prod.ext ?_ h3
    simp only [Function.comp, encStr]
    congr 1
    exact data_inj (by simp [h2])

/-- the entries, key by key -/
def allS (S : List Et) (Kl : List (ByteArray × Nat)) : List Et := Kl.flatMap fun p => ofS S p.1
theorem allS_snoc (S : List Et) (pre : List (ByteArray × Nat)) (x : ByteArray × Nat) : allS S (pre ++ [x]) = allS S pre ++ ofS S x.1 := by simp [allS]
theorem allS_eq {Kl : List (ByteArray × Nat)} (h : (E.map (·.1)).Perm S) (hs : Sd S) (hh : ∀ e ∈ E, ∃ p ∈ Ks, p.1 = e.1.1) (h2 : ∀ p ∈ Ks, ∃ q ∈ Kl, q.1 = p.1) (h3 : Kl.Pairwise fun a b => bl a.1 b.1 = true) : allS S Kl = S := by
  refine Sd.ext ?_ hs fun x => ⟨fun hx => ?_, fun hx => ?_⟩
  · unfold Sd allS
    rw [List.pairwise_flatMap]
    refine ⟨fun p hp => hs.filter _, h3.imp ?_⟩
    intro a b hab x hx y hy
    have ex : x.1 = a.1 := by simpa using (List.mem_filter.1 hx).2
    have ey : y.1 = b.1 := by simpa using (List.mem_filter.1 hy).2
    exact pb_iff.2 (.inl (by rw [ex, ey]; exact hab))
  · obtain ⟨p, _, hx⟩ := List.mem_flatMap.1 hx
    exact (List.mem_filter.1 hx).1
  · obtain ⟨e, he, rfl⟩ := List.mem_map.1 (h.mem_iff.2 hx)
    obtain ⟨p, hp, e1⟩ := hh e he
    obtain ⟨q, hq, e2⟩ := h2 p hp
    exact List.mem_flatMap.2 ⟨q, hq, List.mem_filter.2 ⟨hx, by simp [e2, e1]⟩⟩
end Go.Proofs.YtfcdgfjpmcapkaaGreat
