/- Rows of texts among the arguments, opened; what is left of a law's row once its walk is done. -/
import Derived.Test.YtepelfigcoohiaaN
import Derived.Deep.Slices
import Derived.SliceStrings
import Derived.SizedLaws
import Derived.Carry
namespace Go.Proofs.Ytepelfigcoohiaa
open Go.ChangeShapes Go.WideShapes Go.ChangeAt Go.RowKit Go.Maps Go.Shelf Go.Deep
set_option linter.unusedVariables false

theorem cells30 : Try.prog.cellsOf 30 = 1 := by kernel_rfl
theorem cells9 : Try.prog.cellsOf 9 = 1 := by kernel_rfl
theorem bytes30 : Try.prog.bytesOf 30 = 24 := by kernel_rfl
theorem bytes9 : Try.prog.bytesOf 9 = 16 := by kernel_rfl

/-- what a row of texts reads as -/
def RowOf {H : Type} (d : DataW H) (l : List ByteArray) : Prop := (d = .nil ∧ l = []) ∨ ∃ sp, d = .slice (strs l) sp

theorem weightsAll_mem {H : Type} {P : Program} {e : TypeId} : ∀ {ds : List (DataW H)} {d : DataW H} {n : Nat}, d ∈ ds → n ∈ d.weights P e → n ∈ DataW.weightsAll P e ds
  | x :: r, d, n, hd, hn => by
    simp only [DataW.weightsAll, List.mem_append]
    rcases List.mem_cons.1 hd with rfl | hd
    · exact .inl hn
    · exact .inr (weightsAll_mem hd hn)

theorem row_sized {H : Type} {d : DataW H} {l : List ByteArray} (h : RowOf d l) (hw : ∀ n ∈ d.weights Try.prog 30, n ≤ reachBytes) : l.length ≤ reachBytes ∧ ∀ s ∈ l, s.size ≤ reachBytes := by
  rcases h with ⟨rfl, rfl⟩ | ⟨sp, rfl⟩
  · exact ⟨Nat.zero_le _, fun s hs => by cases hs⟩
  · have h1 := hw (((strs (H := H) l).length + sp.length) * Try.prog.bytesOf 9) (by simp [DataW.weights, Try.underlying30])
    rw [bytes9] at h1
    refine ⟨by simp [strs] at h1; omega, fun s hs => ?_⟩
    have h2 := hw s.data.toList.length (by
      simp only [DataW.weights, Try.underlying30, List.mem_cons, List.mem_append]
      exact .inr (.inl (weightsAll_mem (d := .lit (.string s.data.toList)) (by simp only [strs]; exact List.mem_map.2 ⟨s, hs, rfl⟩) (by simp [DataW.weights]))))
    rw [Array.length_toList] at h2
    exact h2

theorem open_row {H : Type} {enc : TypeId × Value → H} {w : World} {n : Nat} {V : Value} {x : DataW H × List MemPlace} (h : DataW.trod enc Try.prog w 0 (fun _ => true) true n 30 [V] = some x) :
    ∃ l, SR w V l ∧ RowOf x.1 l ∧ (0 < l.length → ∀ g, V.ownBlock = some g → g < w.heap.size) := by
  rcases open_strings Try.underlying30 Try.underlying9 cells9 h with ⟨hcs, hx⟩ | ⟨a, len, cap, ss, hcs, _, hl, hm, hz, hx, hcell, hsz⟩
  · obtain rfl : V = .slice none 0 0 := by simpa using hcs
    exact ⟨[], ⟨none, 0, rfl, fun h => absurd h (by simp)⟩, .inl ⟨by rw [hx], rfl⟩, fun _ g e => by simp [Value.ownBlock] at e⟩
  · obtain rfl : V = .slice (some a) len cap := by simpa using hcs
    simp only [if_true] at hz
    have hlen : (ss.take len).length = len := by rw [List.length_take]; omega
    have hc2 : ∀ k (hk : k < (ss.take len).length), w.cell? (a.add k) = some (.string (ss.take len)[k]) := by
      intro k hk
      rw [hcell k (by omega)]
      have : k < ss.length := by omega
      simp [List.getD, this]
    refine ⟨ss.take len, ⟨some a, cap, by rw [hlen], fun hn => ⟨a, rfl, ?_, hc2⟩⟩, .inr ⟨_, by rw [hx]⟩, fun hn g e => ?_⟩
    · have := World.block_lt_of_cell? _ _ (hc2 0 hn)
      rwa [block_add] at this
    · have := World.block_lt_of_cell? _ _ (hc2 0 hn)
      rw [block_add] at this
      simp [Value.ownBlock] at e
      omega

/-- the rows among the arguments -/
theorem open_rr {H : Type} {enc : TypeId × Value → H} {w : World} {n : Nat} {V : Value} {x : DataW H × List MemPlace} (h : DataW.trod enc Try.prog w 0 (fun _ => true) true n 24 [V] = some x) :
    ∃ ls, RR w.heap.size w V ls ∧ ((∀ n ∈ x.1.weights Try.prog 24, n ≤ reachBytes) → ls.length ≤ reachBytes ∧ ∀ l ∈ ls, l.length ≤ reachBytes ∧ ∀ s ∈ l, s.size ≤ reachBytes) := by
  rcases open_slice1 Try.underlying24 cells30 h with ⟨hcs, hx⟩ | ⟨a, len, cap, m, n', Vs, D, Pl, hcs, _, hl, hm, hmm, rfl, hx⟩
  · obtain rfl : V = .slice none 0 0 := by simpa using hcs
    exact ⟨[], ⟨none, 0, rfl, fun h => absurd h (by simp)⟩, fun _ => ⟨Nat.zero_le _, fun l hl => by cases hl⟩⟩
  · obtain rfl : V = .slice (some a) len cap := by simpa using hcs
    simp only [if_true] at hmm
    subst hmm
    obtain ⟨Lf, hLf⟩ := choose_lt (α := List ByteArray) (p := fun i l => SR w (Vs i) l ∧ RowOf (D i) l ∧ (0 < l.length → ∀ g, (Vs i).ownBlock = some g → g < w.heap.size)) (n := len) (fun i hi => open_row (hx i (by omega)).2)
    have hlen : ((List.range len).map Lf).length = len := by simp
    refine ⟨(List.range len).map Lf, ⟨some a, m, by rw [hlen], fun hn => ⟨a, rfl, ?_, fun k hk => ?_⟩⟩, fun hw => ⟨?_, fun l hl => ?_⟩⟩
    · rw [hlen] at hn
      have := World.block_lt_of_cell? _ _ (hx 0 (by omega)).1
      rwa [block_add] at this
    · rw [hlen] at hk
      obtain ⟨h1, _, h3⟩ := hLf k hk
      refine ⟨Vs k, (hx k (by omega)).1, ?_, ?_⟩
      · simpa using h1
      · simpa using h3
    · have h1 := hw (((List.map D (List.range len)).length + (List.map (fun j => D (len + j)) (List.range (m - len))).length) * Try.prog.bytesOf 30) (by simp [DataW.weights, Try.underlying24])
      rw [bytes30] at h1
      simp at h1
      rw [hlen]
      omega
    · obtain ⟨i, hi, rfl⟩ := List.mem_map.1 hl
      rw [List.mem_range] at hi
      refine row_sized (hLf i hi).2.1 fun n hn => hw n ?_
      simp only [DataW.weights, Try.underlying24, List.mem_cons, List.mem_append]
      exact .inr (.inl (weightsAll_mem (List.mem_map.2 ⟨i, List.mem_range.2 hi, rfl⟩) hn))

/-- arguments that are only read, a plain result -/
theorem post_read {H : Type} {enc : TypeId × Value → H} {P : Program} {f : Func} {s : ChangeSpec} {W W' : World} {args : Array Value} {v : Value} {ds gs : List (DataW H)} {before pa pv : List MemPlace}
    (hW : DataW.Whole enc P f.params.toList s.vars false W args.toList ds gs before)
    (hres : ∀ (b : Nat) (sp : Nat → Bool) (hd : Bool), DataW.TrodAll enc P W' b sp hd f.resultTypes.toList (v.resultList f.resultTypes.size) (s.fn H (ds ++ gs)).results [])
    (hargs : DataW.TrodAll enc P W' 0 (fun b => decide (b < W.heap.size)) true f.params.toList args.toList (s.fn H (ds ++ gs)).args pa)
    (hvars : DataW.TrodVars enc P W' (fun b => decide (b < W.heap.size)) s.vars (s.fn H (ds ++ gs)).vars pv)
    (hps : before = pa ++ pv) (hb : Below W.heap.size W W') : s.post enc P f false true false false W args v W' := by
  refine ⟨ds, gs, before, [], pa, pv, hW, hres _ _ _, hargs, hvars, World.keptBut_mono (fun p hp => ⟨hp, ?_⟩) (hb.frame (· ∈ before)), fun h => by cases h⟩
  rw [hps, List.mem_append] at hp
  exact .inr hp
end Go.Proofs.Ytepelfigcoohiaa
