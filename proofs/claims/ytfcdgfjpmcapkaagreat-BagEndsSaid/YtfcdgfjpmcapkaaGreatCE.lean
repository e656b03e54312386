/- Plain words for the laws: what is put is well-formed, what a cut at the least end leaves. -/
import Derived.Test.YtfcdgfjpmcapkaaGreatCC
namespace Go.Proofs.YtfcdgfjpmcapkaaGreat
set_option linter.unusedVariables false

theorem put_we {S : List Et} {x : Et} (h : ∀ y ∈ S, We y) (hx : We x) : ∀ y ∈ putS S x, We y := by
  intro y hy
  unfold putS at hy
  rcases mem_insE.1 hy with rfl | hy
  · refine ⟨hx.1, hx.2.1, ?_⟩
    cases hf : fnd S x.1 x.2.1 with
    | none => exact hx.2.2
    | some e =>
      show (Lit.int .i64 (max e x.2.2)).wf = true
      have he := (h _ (fnd_mem hf)).2.2
      rcases Int.le_total e x.2.2 with hle | hle
      · rw [Int.max_eq_right hle]; exact hx.2.2
      · rw [Int.max_eq_left hle]; exact he
  · exact h y (mem_oth.1 hy).1
theorem puts_we : ∀ (l : List Et) {S : List Et}, (∀ y ∈ S, We y) → (∀ x ∈ l, We x) → ∀ y ∈ putsS S l, We y
  | [], S, h, _ => h
  | x :: r, S, h, hl => puts_we r (put_we h (hl x (by simp))) fun y hy => hl y (by simp [hy])
theorem We.of {x : Et} (h1 : x.1.size ≤ 140737488355328) (h2 : (Lit.int .i64 x.2.1).wf = true) (h3 : (Lit.int .i64 x.2.2).wf = true) : We x := ⟨h1, h2, h3⟩
theorem cut_less {S : List Et} {m : Int} (h : IsMin S m) : (cutS S m).length < S.length := by
  obtain ⟨x, hx, hm⟩ := h.1
  unfold cutS
  have : (S.filter fun y => decide (m < y.2.2)).length ≠ S.length := fun e => by
    have := List.length_filter_eq_length_iff.1 e x hx
    simp at this
    omega
  have h2 := List.length_filter_le (fun y : Et => decide (m < y.2.2)) S
  omega
theorem cut_above {S : List Et} {m : Int} : ∀ x ∈ cutS S m, m < x.2.2 := fun x hx => by simpa using (List.mem_filter.1 hx).2
theorem cut_sub {S : List Et} {m : Int} : ∀ x ∈ cutS S m, x ∈ S := fun x hx => (List.mem_filter.1 hx).1
end Go.Proofs.YtfcdgfjpmcapkaaGreat
