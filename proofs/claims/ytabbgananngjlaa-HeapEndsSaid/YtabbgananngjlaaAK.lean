/- Rows of deeds that are made: literal ones, appended ones. -/
import Derived.Test.YtabbgananngjlaaAD
namespace Go.Proofs.Ytabbgananngjlaa
open Go.ChangeShapes Go.WideShapes Go.ChangeAt Go.RowKit
set_option linter.unusedVariables false

/-- a deed without items, its four cells -/
def encN (d : Dd) : List Value := [.int .i64 d.what, .int .i64 d.key, .int .i64 d.many, .slice none 0 0]
def flatN (ds : List Dd) : List Value := ds.flatMap encN

/-- the cells of a row of deeds, and what its items are -/
def CD (w : World) (xs : List Value) (ds : List Dd) : Prop :=
  xs.length = ds.length * 4 ∧ ∀ k (h : k < ds.length), ∃ vi, xs[k * 4]? = some (.int .i64 ds[k].what) ∧ xs[k * 4 + 1]? = some (.int .i64 ds[k].key) ∧ xs[k * 4 + 2]? = some (.int .i64 ds[k].many) ∧ xs[k * 4 + 3]? = some vi ∧ PR w vi ds[k].items

theorem CD.nil (w : World) : CD w [] [] := ⟨rfl, fun k h => absurd h (by simp)⟩
theorem CD.keep {w w' : World} {xs : List Value} {ds : List Dd} (h : CD w xs ds) (hk : ∀ v l, PR w v l → (∃ d ∈ ds, d.items = l) → PR w' v l) : CD w' xs ds := by
  refine ⟨h.1, fun k hl => ?_⟩
  obtain ⟨vi, h1, h2, h3, h4, h5⟩ := h.2 k hl
  exact ⟨vi, h1, h2, h3, h4, hk vi _ h5 ⟨_, List.getElem_mem hl, rfl⟩⟩
theorem CD.app {w : World} {xs ys : List Value} {ds es : List Dd} (h : CD w xs ds) (k : CD w ys es) : CD w (xs ++ ys) (ds ++ es) := by
  refine ⟨by rw [List.length_append, List.length_append, h.1, k.1]; omega, fun j hj => ?_⟩
  rw [List.length_append] at hj
  by_cases hlt : j < ds.length
  · obtain ⟨vi, h1, h2, h3, h4, h5⟩ := h.2 j hlt
    have hx := h.1
    rw [List.getElem_append_left hlt]
    refine ⟨vi, ?_, ?_, ?_, ?_, h5⟩ <;> rw [List.getElem?_append_left (by omega)] <;> assumption
  · obtain ⟨vi, h1, h2, h3, h4, h5⟩ := k.2 (j - ds.length) (by omega)
    have hx := h.1
    rw [List.getElem_append_right (by omega)]
    refine ⟨vi, ?_, ?_, ?_, ?_, h5⟩ <;> rw [List.getElem?_append_right (by omega)]
    · rw [show j * 4 - xs.length = (j - ds.length) * 4 by omega]; exact h1
    · rw [show j * 4 + 1 - xs.length = (j - ds.length) * 4 + 1 by omega]; exact h2
    · rw [show j * 4 + 2 - xs.length = (j - ds.length) * 4 + 2 by omega]; exact h3
    · rw [show j * 4 + 3 - xs.length = (j - ds.length) * 4 + 3 by omega]; exact h4
theorem CD.one {w : World} {a b c : Int} {vi : Value} {l : List It} (h : PR w vi l) : CD w [.int .i64 a, .int .i64 b, .int .i64 c, vi] [⟨a, b, c, l⟩] := by
  refine ⟨rfl, fun k hk => ?_⟩
  have : k = 0 := by simpa using hk
  subst this
  exact ⟨vi, rfl, rfl, rfl, rfl, h⟩
theorem CD.lit (w : World) : ∀ ds : List Dd, (∀ d ∈ ds, d.items = []) → CD w (flatN ds) ds
  | [], _ => CD.nil w
  | d :: ds, h => by
    have h1 : CD w (encN d) [d] := by
      have e : d.items = [] := h d List.mem_cons_self
      have := CD.one (w := w) (a := d.what) (b := d.key) (c := d.many) (vi := .slice none 0 0) (l := []) ⟨none, 0, rfl, fun h => absurd h (by simp)⟩
      have e2 : d = ⟨d.what, d.key, d.many, []⟩ := by cases d; simp at e; simp [e]
      rw [e2]
      exact this
    have := h1.app (CD.lit w ds fun x hx => h x (List.mem_cons_of_mem _ hx))
    simpa [flatN] using this

/-- a row of deeds of one's own, read as the law reads it -/
theorem CD.prd {w : World} {base n : Nat} {v : Value} {xs : List Value} {ds : List Dd} (h : CD w xs ds) (hr : w.ownsRow base 34 4 v n xs) : PRD w.heap.size w v ds := by
  have hn : n = ds.length := by have := hr.1; have := h.1; omega
  subst hn
  rcases hr.2 with ⟨rfl, hx⟩ | ⟨g, cap, cur, rfl, _, hh, _⟩
  · have e : ds = [] := List.eq_nil_of_length_eq_zero hx
    subst e
    exact ⟨none, 0, rfl, fun h => absurd h (by simp)⟩
  · refine ⟨_, cap, rfl, fun _ => ⟨_, rfl, (Array.getElem?_eq_some_iff.1 hh).1, fun k hk => ?_⟩⟩
    obtain ⟨vi, h1, h2, h3, h4, h5⟩ := h.2 k hk
    have e : (⟨g, 0, none⟩ : Addr).add (k * 4) = ⟨g, k * 4, none⟩ := by rw [Addr.add_lit]; simp
    rw [e]
    have hlx := h.1
    refine ⟨vi, ?_, ?_, ?_, ?_, h5, fun h0 g' hg' => h5.ltb h0 g' hg'⟩
    · rw [hr.cellAt _ (by omega)]; exact h1
    · show w.cell? ⟨g, k * 4 + 1, none⟩ = _
      rw [hr.cellAt _ (by omega)]; exact h2
    · show w.cell? ⟨g, k * 4 + 2, none⟩ = _
      rw [hr.cellAt _ (by omega)]; exact h3
    · show w.cell? ⟨g, k * 4 + 3, none⟩ = _
      rw [hr.cellAt _ (by omega)]; exact h4

theorem info34 : (Try.prog.info? 34).map (fun i => (i.zero, i.size, i.bytes)) = some (some (.agg #[.int .i64 0, .int .i64 0, .int .i64 0, .slice none 0 0]), 4, 48) := by kernel_rfl
end Go.Proofs.Ytabbgananngjlaa
