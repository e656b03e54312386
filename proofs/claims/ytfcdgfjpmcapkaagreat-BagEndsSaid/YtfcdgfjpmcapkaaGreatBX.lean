/- Of: a key's values and ends, as a function to range over. -/
import Derived.Test.YtfcdgfjpmcapkaaGreatBV
namespace Go.Proofs.YtfcdgfjpmcapkaaGreat
open Go.ChangeShapes Go.WideShapes Go.ChangeAt Go.RowKit Go.Maps Go.Shelf
set_option linter.unusedVariables false

attribute [local go_sem] Oper.semAt_some

section
variable {F : Fence} {n : Nat} {P : Program} {gf : Nat} {lb : Array Value} {Kp : World → World → Prop} {w0 : World}

theorem yield_round {m m' l l1 : Nat} {args : Array Value} {W : World} {R : Ending → World → Prop} (h : YieldAt Fence.wide m P l args W R) : YieldAt (Fence.wide.inRound l1) m' P l args W R := by
  obtain ⟨fn, tmps, assign, body, hy, hR⟩ := h
  exact ⟨fn, tmps, assign, body, hy, ⟨hR.1, fun c cs _ => hR.2 c cs (fun d h => by cases h)⟩⟩

theorem SeqX.map {α β : Type} {f : α → β} {encs : β → Array Value} {xs : List α} (h : SeqX F n P gf lb encs Kp (xs.map f) w0) : SeqX F n P gf lb (fun x => encs (f x)) Kp xs w0 := by
  intro l J Jx W hW hJ hJx hY h0
  refine (h l (fun ys W => J (xs.take ys.length) W) (fun ys W => Jx (xs.take ys.length) W) W hW (fun s => hJ _) (fun s => hJx _) ?_ (by simpa using h0)).mono ?_
  · intro pre y W1 hp hs hj
    have hl : pre.length < xs.length := by have := hp.length_le; simp at this; omega
    have hy : y = f xs[pre.length] := by
      obtain ⟨t, ht⟩ := hp
      have h1 : (pre ++ [y] ++ t)[pre.length]? = some y := by simp
      rw [ht] at h1
      simpa [hl] using h1.symm
    subst hy
    have e : xs.take (pre ++ [f xs[pre.length]]).length = xs.take pre.length ++ [xs[pre.length]] := by
      rw [List.length_append, List.length_singleton]
      exact List.take_succ_eq_append_getElem hl
    rw [e]
    exact hY (xs.take pre.length) xs[pre.length] W1 (by rw [← List.take_succ_eq_append_getElem hl]; exact List.take_prefix _ _) hs hj
  · rintro e W' ⟨hv, (hj | ⟨pre, hp, hj⟩)⟩
    · exact ⟨hv, .inl (by simpa using hj)⟩
    · exact ⟨hv, .inr ⟨_, List.take_prefix _ _, hj⟩⟩
end

section
variable {E : List En} {S : List Et} {k : ByteArray}
theorem of_perm (h : (E.map (·.1)).Perm S) : ((under E k).map (·.1)).Perm (ofS S k) := by
  have := h.filter (fun y => decide (y.1 = k))
  rw [List.filter_map] at this
  exact this
theorem of_rise (h : Sd S) : (ofS S k).Pairwise fun x y => x.2.1 < y.2.1 := by
  have h1 : (ofS S k).Pairwise fun x y => pb x y = true := List.Pairwise.sublist List.filter_sublist h
  refine h1.imp_of_mem ?_
  intro x y hx hy hp
  have ex : x.1 = k := by simpa using (List.mem_filter.1 hx).2
  have ey : y.1 = k := by simpa using (List.mem_filter.1 hy).2
  rcases pb_iff.1 hp with h | ⟨_, h⟩
  · rw [ex, ey, bl_irrefl] at h; cases h
  · exact h
theorem ks_of (h : (E.map (·.1)).Perm S) (hs : Sd S) : ksI ((under E k).map stayV) = (ofS S k).map (·.2.1) := by
  have e : intKeys (DataW.map (((under E k).map stayV).map hd)) = ((under E k).map (·.1)).map (·.2.1) := by
    simp [intKeys, hd, stayV, Function.comp_def]
    intros
    rfl
  unfold ksI
  rw [e]
  refine List.Perm.eq_of_pairwise (le := fun a b => a ≤ b) (fun a b _ _ h1 h2 => Int.le_antisymm h1 h2) ?_ ?_ ((List.mergeSort_perm _ _).trans ((of_perm h).map _))
  · have := List.pairwise_mergeSort (le := leI) (fun a b c => by simp [leI]; omega) (fun a b => by simp [leI]; omega) (((under E k).map (·.1)).map (·.2.1))
    exact this.imp fun h => by simpa [leI] using h
  · exact List.pairwise_map.2 ((of_rise hs).imp fun h => Int.le_of_lt h)
theorem look_of (h : (E.map (·.1)).Perm S) (hs : Sd S) (z : Value) : ∀ x ∈ ofS S k, ∃ m : Int, (look ((under E k).map stayV) (.int .i64 x.2.1)).getD z = .agg #[.int .i64 x.2.2, .int .i64 m] := by
  intro x hx
  obtain ⟨hxS, hxk⟩ := List.mem_filter.1 hx
  obtain ⟨e, he, rfl⟩ := List.mem_map.1 (h.mem_iff.2 hxS)
  have heu : e ∈ under E k := List.mem_filter.2 ⟨he, hxk⟩
  unfold look
  cases hf : ((under E k).map stayV).find? fun p => p.1.sameKey (.int .i64 e.1.2.1) with
  | none =>
    have := List.find?_eq_none.1 hf (stayV e) (List.mem_map.2 ⟨e, heu, rfl⟩)
    simp [stayV, Lit.sameKey] at this
  | some p =>
    obtain ⟨e', he', rfl⟩ := List.mem_map.1 (List.mem_of_find?_eq_some hf)
    have h0 : (stayV e').1.sameKey (.int .i64 e.1.2.1) = true := by simpa using List.find?_some hf
    have h1 := WideAt.sameKey_eq h0
    have h2 : e'.1.2.1 = e.1.2.1 := by simpa [stayV] using h1
    obtain ⟨he1, hek⟩ := List.mem_filter.1 he'
    have h3 : e'.1 ∈ S := h.mem_iff.1 (List.mem_map.2 ⟨e', he1, rfl⟩)
    have h4 : sp e'.1 e.1 = true := sp_iff.2 ⟨by simp at hek hxk; rw [hek, hxk], h2⟩
    have h5 : e'.1 = e.1 := hs.one h3 hxS h4
    exact ⟨e'.2, by simp [stayV, h5]⟩
theorem xs_of (h : (E.map (·.1)).Perm S) (hs : Sd S) (z : Value) : ∃ N : Et → Int, xsI z ((under E k).map stayV) = (ofS S k).map fun x => (.int .i64 x.2.1, .agg #[.int .i64 x.2.2, .int .i64 (N x)]) := by
  classical
  refine ⟨fun x => if hm : ∃ m : Int, (look ((under E k).map stayV) (.int .i64 x.2.1)).getD z = .agg #[.int .i64 x.2.2, .int .i64 m] then hm.choose else 0, ?_⟩
  unfold xsI
  rw [ks_of h hs, List.map_map]
  apply List.map_congr_left
  intro x hx
  have hm := look_of h hs z x hx
  simp only [Function.comp]
  rw [dif_pos hm]
  have := hm.choose_spec
  exact Prod.ext rfl this
end
end Go.Proofs.YtfcdgfjpmcapkaaGreat
