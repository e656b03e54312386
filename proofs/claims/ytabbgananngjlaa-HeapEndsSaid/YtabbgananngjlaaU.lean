/- Rows of items among the arguments, opened; what is left of a law's row once its walk is done. -/
import Derived.Test.YtabbgananngjlaaP
import Derived.Deep.SlicePairs
import Derived.Deep.Slices
import Derived.SizedLaws
import Derived.Carry
import Derived.Lib.SmallJoins
namespace Go.Proofs.Ytabbgananngjlaa
open Go.ChangeShapes Go.WideShapes Go.ChangeAt Go.RowKit Go.Maps Go.Shelf Go.Deep
set_option linter.unusedVariables false

theorem cells40 : Try.prog.cellsOf 40 = 2 := by kernel_rfl
theorem cells3 : Try.prog.cellsOf 3 = 1 := by kernel_rfl
theorem bytes40 : Try.prog.bytesOf 40 = 16 := by kernel_rfl

/-- the row of items among the arguments -/
theorem open_items {H : Type} {enc : TypeId × Value → H} {w : World} {n : Nat} {V : Value} {x : DataW H × List MemPlace} (h : DataW.trod enc Try.prog w 0 (fun _ => true) true n 22 [V] = some x) :
    ∃ l, PR w V l ∧ (0 < l.length → ∀ g, V.ownBlock = some g → g < w.heap.size) ∧ ((∀ n ∈ x.1.weights Try.prog 22, n ≤ reachBytes) → l.length ≤ reachBytes) := by
  rcases open_slice_pairs Try.underlying22 Try.underlying40 cells40 rfl rfl cells3 cells3 h with ⟨hcs, hx⟩ | ⟨a, len, cap, m, n', V0, V1, D0, D1, P0, P1, hcs, _, hl, hm, hmm, hx, hi⟩
  · obtain rfl : V = .slice none 0 0 := by simpa using hcs
    exact ⟨[], ⟨none, 0, rfl, fun h => absurd h (by simp)⟩, fun h => absurd h (by simp), fun _ => Nat.zero_le _⟩
  · obtain rfl : V = .slice (some a) len cap := by simpa using hcs
    simp only [if_true] at hmm
    subst hmm
    have hint : ∀ i, i < m → ∃ p : It, w.cell? (a.add (i * 2)) = some (.int .i64 p.1) ∧ w.cell? (a.add (i * 2 + 1)) = some (.int .i64 p.2) := by
      intro i him
      obtain ⟨h1, h2, h3, h4⟩ := hi i him
      obtain ⟨k0, e0, _, _⟩ := DataW.trod_int Try.underlying3 h3
      obtain ⟨k1, e1, _, _⟩ := DataW.trod_int Try.underlying3 h4
      refine ⟨(k0, k1), ?_, ?_⟩
      · rw [h1]; simpa using e0
      · rw [h2]; simpa using e1
    obtain ⟨Lf, hLf⟩ := choose_lt (α := It) (p := fun i p => w.cell? (a.add (i * 2)) = some (.int .i64 p.1) ∧ w.cell? (a.add (i * 2 + 1)) = some (.int .i64 p.2)) (n := len) (fun i hi' => hint i (by omega))
    have hlen : ((List.range len).map Lf).length = len := by simp
    have hblk : 0 < len → a.block < w.heap.size := fun hn => by
      have := World.block_lt_of_cell? _ _ (hLf 0 hn).1
      rwa [block_add] at this
    refine ⟨(List.range len).map Lf, ⟨some a, m, by rw [hlen], fun hn => ⟨a, rfl, hblk (by omega), fun k hk => ?_⟩⟩, fun hn g e => ?_, fun hw => ?_⟩
    · rw [hlen] at hk
      simpa using hLf k hk
    · simp [Value.ownBlock] at e
      rw [← e]
      exact hblk (by omega)
    · have h1 := hw ((((List.range len).map fun i => DataW.agg [D0 i, D1 i]).length + ((List.range (m - len)).map fun j => DataW.agg [D0 (len + j), D1 (len + j)]).length) * Try.prog.bytesOf 40) (by rw [hx]; simp [DataW.weights, Try.underlying22])
      rw [bytes40] at h1
      simp at h1
      rw [hlen]
      omega

/-- arguments that are only read, a plain result -/
theorem post_read {H : Type} {enc : TypeId × Value → H} {P : Program} {f : Func} {s : ChangeSpec} {W W' : World} {args : Array Value} {v : Value} {ds gs : List (DataW H)} {before pa pv : List MemPlace}
    (hW : DataW.Whole enc P f.params.toList s.vars false W args.toList ds gs before)
    (hres : ∀ (b : Nat) (sp : Nat → Bool) (hd : Bool), DataW.TrodAll enc P W' b sp hd f.resultTypes.toList (v.resultList f.resultTypes.size) (s.fn H (ds ++ gs)).results [])
    (hargs : DataW.TrodAll enc P W' 0 (fun b => decide (b < W.heap.size)) true f.params.toList args.toList (s.fn H (ds ++ gs)).args pa)
    (hvars : DataW.TrodVars enc P W' (fun b => decide (b < W.heap.size)) s.vars (s.fn H (ds ++ gs)).vars pv)
    (hps : before = pa ++ pv) (hb : Below W.heap.size W W') : s.post enc P f false true false false W args v W' := by
  refine ⟨ds, gs, before, [], pa, pv, hW, hres _ _ _, hargs, hvars, World.keptBut_mono (fun p hp => ⟨hp, ?_⟩) (hb.frame (· ∈ before)), fun h => by cases h⟩
  rw [hps, List.mem_append] at hp
  exact .inr hp

theorem laidB : laidOutB Try.prog = true := by kernel_rfl
theorem own : ownKnob Try.prog.godebug = none := by kernel_rfl
theorem read22 : Try.prog.readableRec 22 = true := by kernel_rfl
theorem lt22 : 22 < Try.prog.types.size := of_decide_eq_true (by kernel_rfl)
theorem read3 : Try.prog.readableRec 3 = true := by kernel_rfl
theorem lt3 : 3 < Try.prog.types.size := of_decide_eq_true (by kernel_rfl)
end Go.Proofs.Ytabbgananngjlaa
