/- Rows of entries among the arguments, opened; what is left of a law's row once its walk is done. -/
import Derived.Test.YtfcdgfjpmcapkaaGreatCH
import Derived.Deep.Slices
import Derived.Deep.Strs
import Derived.SliceStrings
import Derived.SizedLaws
import Derived.Carry
import Derived.Lib.SmallJoins
namespace Go.Proofs.YtfcdgfjpmcapkaaGreat
open Go.ChangeShapes Go.WideShapes Go.ChangeAt Go.RowKit Go.Maps Go.Shelf Go.Deep Go.Joins
set_option linter.unusedVariables false

theorem cells38 : Tryz.prog.cellsOf 38 = 3 := by kernel_rfl
theorem cells3 : Tryz.prog.cellsOf 3 = 1 := by kernel_rfl
theorem cells9 : Tryz.prog.cellsOf 9 = 1 := by kernel_rfl
theorem bytes38 : Tryz.prog.bytesOf 38 = 32 := by kernel_rfl
theorem weightsAll_mem {H : Type} {P : Program} {e : TypeId} : ∀ {ds : List (DataW H)} {d : DataW H} {n : Nat}, d ∈ ds → n ∈ d.weights P e → n ∈ DataW.weightsAll P e ds
  | x :: r, d, n, hd, hn => by
    simp only [DataW.weightsAll, List.mem_append]
    rcases List.mem_cons.1 hd with rfl | hd
    · exact .inl hn
    · exact .inr (weightsAll_mem hd hn)

theorem len3 {α : Type} {cs : List α} (h : cs.length = 3) : ∃ v0 v1 v2, cs = [v0, v1, v2] := by
  match cs, h with
  | [a, b, c], _ => exact ⟨a, b, c, rfl⟩

theorem open_entry {H : Type} {enc : TypeId × Value → H} {w : World} {n : Nat} {ad : Addr} {cs : List Value} {x : DataW H × List MemPlace} (hc : w.cells? 0 ad 3 = some cs) (h : DataW.trod enc Tryz.prog w 0 (fun _ => true) true n 38 cs = some x) :
    ∃ y : Et, w.cell? (ad.add 0) = some (.string y.1) ∧ w.cell? (ad.add 1) = some (.int .i64 y.2.1) ∧ w.cell? (ad.add 2) = some (.int .i64 y.2.2) ∧ (Lit.int .i64 y.2.1).wf = true ∧ (Lit.int .i64 y.2.2).wf = true ∧ ((∀ n ∈ x.1.weights Tryz.prog 38, n ≤ reachBytes) → y.1.size ≤ reachBytes) := by
  obtain ⟨y0, y1, y2, k, hx, hl, h0, h1, h2⟩ := trod_struct3 Tryz.underlying38 h
  obtain ⟨_, hlen, hcell⟩ := World.cells?_some hc
  obtain ⟨v0, v1, v2, rfl⟩ : ∃ v0 v1 v2, cs = [v0, v1, v2] := len3 hlen
  have e0 := hcell 0 (by omega)
  have e1 := hcell 1 (by omega)
  have e2 := hcell 2 (by omega)
  simp only [cells3, cells9, List.drop_zero, List.drop_succ_cons, List.take_succ_cons, List.take_zero] at h0 h1 h2
  obtain ⟨s0, f0, g0, _⟩ := DataW.trod_string Tryz.underlying9 h0
  obtain ⟨k1, f1, g1, w1⟩ := DataW.trod_int Tryz.underlying3 h1
  obtain ⟨k2, f2, g2, w2⟩ := DataW.trod_int Tryz.underlying3 h2
  injection f0 with f0
  injection f1 with f1
  injection f2 with f2
  refine ⟨(s0, k1, k2), ?_, ?_, ?_, w1, w2, fun hw => ?_⟩
  · rw [e0, ← f0]; rfl
  · rw [e1, ← f1]; rfl
  · rw [e2, ← f2]; rfl
  · have := hw s0.data.toList.length (by
      rw [hx]
      simp only [DataW.weights, Tryz.underlying38, List.mem_append, List.map_cons, DataW.weightsEach]
      simp [DataW.weightsEach, g0, DataW.weights])
    rw [Array.length_toList] at this
    exact this

theorem open_entries {H : Type} {enc : TypeId × Value → H} {w : World} {n : Nat} {V : Value} {x : DataW H × List MemPlace} (h : DataW.trod enc Tryz.prog w 0 (fun _ => true) true n 31 [V] = some x) :
    ∃ l, PE w V l ∧ ((∀ n ∈ x.1.weights Tryz.prog 31, n ≤ reachBytes) → l.length ≤ reachBytes ∧ ∀ k, k < l.length → We (ge l k)) := by
  rcases open_slice Tryz.underlying31 h with ⟨hcs, hx⟩ | ⟨a, len, cap, m, n', D, Pl, hcs, _, hl, hm, hmm, hx, hi⟩
  · obtain rfl : V = .slice none 0 0 := by simpa using hcs
    exact ⟨[], ⟨none, 0, rfl, fun h => absurd h (by simp)⟩, fun _ => ⟨Nat.zero_le _, fun k hk => absurd hk (by simp)⟩⟩
  · obtain rfl : V = .slice (some a) len cap := by simpa using hcs
    simp only [if_true] at hmm
    subst hmm
    rw [cells38] at hi
    obtain ⟨Lf, hLf⟩ := choose_lt (α := Et) (p := fun i y => w.cell? (a.add (i * 3)) = some (.string y.1) ∧ w.cell? (a.add (i * 3 + 1)) = some (.int .i64 y.2.1) ∧ w.cell? (a.add (i * 3 + 2)) = some (.int .i64 y.2.2) ∧ (Lit.int .i64 y.2.1).wf = true ∧ (Lit.int .i64 y.2.2).wf = true ∧ ((∀ n ∈ (D i).weights Tryz.prog 38, n ≤ reachBytes) → y.1.size ≤ reachBytes)) (n := len)
      (fun i hi' => by
        obtain ⟨cs', h1, h2⟩ := hi i (by omega)
        obtain ⟨y, y1, y2, y3, y4⟩ := open_entry h1 h2
        rw [add_of_add] at y1 y2 y3
        exact ⟨y, y1, y2, y3, y4⟩)
    have hlen : ((List.range len).map Lf).length = len := by simp
    refine ⟨(List.range len).map Lf, ⟨some a, m, by rw [hlen], fun hn => ⟨a, rfl, ?_, fun k hk => ?_⟩⟩, fun hw => ⟨?_, fun k hk => ?_⟩⟩
    · rw [hlen] at hn
      have := World.block_lt_of_cell? _ _ (hLf 0 hn).1
      rwa [block_add] at this
    · rw [hlen] at hk
      obtain ⟨h1, h2, h3, _⟩ := hLf k hk
      simp only [List.getElem_map, List.getElem_range]
      exact ⟨h1, h2, h3⟩
    · have h1 := hw ((((List.range len).map D).length + ((List.range (m - len)).map fun j => D (len + j)).length) * Tryz.prog.bytesOf 38) (by rw [hx]; simp [DataW.weights, Tryz.underlying31])
      rw [bytes38] at h1
      simp at h1
      rw [hlen]
      omega
    · rw [hlen] at hk
      obtain ⟨_, _, _, h4, h5, h6⟩ := hLf k hk
      have e : ge ((List.range len).map Lf) k = Lf k := by rw [ge_get (by rw [hlen]; exact hk)]; simp
      rw [e]
      refine ⟨Nat.le_trans (h6 fun n hn => hw n ?_) (by decide), h4, h5⟩
      rw [hx]
      simp only [DataW.weights, Tryz.underlying31, List.mem_cons, List.mem_append]
      exact .inr (.inl (weightsAll_mem (List.mem_map.2 ⟨k, List.mem_range.2 hk, rfl⟩) hn))

/-- arguments that are only read, a plain result -/
theorem post_read {H : Type} {enc : TypeId × Value → H} {P : Program} {f : Func} {s : ChangeSpec} {W W' : World} {args : Array Value} {v : Value} {ds gs : List (DataW H)} {before pa pv : List MemPlace}
    (hW : DataW.Whole enc P f.params.toList s.vars false W args.toList ds gs before)
    (hres : ∀ (b : Nat) (sp : Nat → Bool) (hd : Bool), DataW.TrodAll enc P W' b sp hd f.resultTypes.toList (v.resultList f.resultTypes.size) (s.fn H (ds ++ gs)).results [])
    (hargs : DataW.TrodAll enc P W' 0 (fun b => decide (b < W.heap.size)) true f.params.toList args.toList (s.fn H (ds ++ gs)).args pa)
    (hvars : DataW.TrodVars enc P W' (fun b => decide (b < W.heap.size)) s.vars (s.fn H (ds ++ gs)).vars pv)
    (hps : before = pa ++ pv) (hb : Below W.heap.size W W') : s.post enc P f false true false false W args v W' := by
  refine ⟨ds, gs, before, [], pa, pv, hW, hres _ _ _, hargs, hvars, World.keptBut_mono (fun p hp => ⟨hp, ?_⟩) (hb.frame (· ∈ before)), fun h => by cases h⟩
  rw [hps, List.mem_append] at hp
  exact .inr hp

theorem laidB : laidOutB Tryz.prog = true := by kernel_rfl
theorem own : ownKnob Tryz.prog.godebug = none := by kernel_rfl
theorem read31 : Tryz.prog.readableRec 31 = true := by kernel_rfl
theorem lt31 : 31 < Tryz.prog.types.size := of_decide_eq_true (by kernel_rfl)
end Go.Proofs.YtfcdgfjpmcapkaaGreat
