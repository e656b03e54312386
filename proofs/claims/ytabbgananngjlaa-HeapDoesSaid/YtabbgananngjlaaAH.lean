/- Rows of deeds among the arguments, opened. -/
import Derived.Test.YtabbgananngjlaaU
import Derived.Test.YtabbgananngjlaaAD
namespace Go.Proofs.Ytabbgananngjlaa
open Go.ChangeShapes Go.WideShapes Go.ChangeAt Go.RowKit Go.Maps Go.Shelf Go.Deep Go.Joins
set_option linter.unusedVariables false

theorem cells34 : Try.prog.cellsOf 34 = 4 := by kernel_rfl
theorem cells22 : Try.prog.cellsOf 22 = 1 := by kernel_rfl
theorem bytes34 : Try.prog.bytesOf 34 = 48 := by kernel_rfl

theorem weightsAll_mem {H : Type} {P : Program} {e : TypeId} : ∀ {ds : List (DataW H)} {d : DataW H} {n : Nat}, d ∈ ds → n ∈ d.weights P e → n ∈ DataW.weightsAll P e ds
  | x :: r, d, n, hd, hn => by
    simp only [DataW.weightsAll, List.mem_append]
    rcases List.mem_cons.1 hd with rfl | hd
    · exact .inl hn
    · exact .inr (weightsAll_mem hd hn)

theorem open_deed {H : Type} {enc : TypeId × Value → H} {w : World} {n : Nat} {ad : Addr} {cs : List Value} {x : DataW H × List MemPlace} (hc : w.cells? 0 ad 4 = some cs) (h : DataW.trod enc Try.prog w 0 (fun _ => true) true n 34 cs = some x) :
    ∃ (d : Dd) (vi : Value), w.cell? ad = some (.int .i64 d.what) ∧ w.cell? ⟨ad.block, ad.off + 1, none⟩ = some (.int .i64 d.key) ∧ w.cell? ⟨ad.block, ad.off + 2, none⟩ = some (.int .i64 d.many) ∧ w.cell? ⟨ad.block, ad.off + 3, none⟩ = some vi ∧
      PR w vi d.items ∧ (0 < d.items.length → ∀ g, vi.ownBlock = some g → g < w.heap.size) ∧ ((∀ n ∈ x.1.weights Try.prog 34, n ≤ reachBytes) → d.items.length ≤ reachBytes) := by
  obtain ⟨y0, y1, y2, y3, k, hx, hl, h0, h1, h2, h3⟩ := trod_struct4 Try.underlying34 h
  obtain ⟨_, hlen, hcell⟩ := World.cells?_some hc
  match cs, hlen with
  | [v0, v1, v2, v3], _ =>
    have e0 := hcell 0 (by omega)
    have e1 := hcell 1 (by omega)
    have e2 := hcell 2 (by omega)
    have e3 := hcell 3 (by omega)
    simp only [cells3, cells22, List.drop_zero, List.drop_succ_cons, List.take_succ_cons, List.take_zero] at h0 h1 h2 h3
    obtain ⟨k0, f0, _, _⟩ := DataW.trod_int Try.underlying3 h0
    obtain ⟨k1, f1, _, _⟩ := DataW.trod_int Try.underlying3 h1
    obtain ⟨k2, f2, _, _⟩ := DataW.trod_int Try.underlying3 h2
    obtain ⟨l, hp, ho, hw⟩ := open_items h3
    have a1 : ad.add 1 = ⟨ad.block, ad.off + 1, none⟩ := by simp [Addr.add]
    have a2 : ad.add 2 = ⟨ad.block, ad.off + 2, none⟩ := by simp [Addr.add]
    have a3 : ad.add 3 = ⟨ad.block, ad.off + 3, none⟩ := by simp [Addr.add]
    have a0 : ad.add 0 = ad := by simp [Addr.add]
    rw [a0] at e0
    rw [a1] at e1
    rw [a2] at e2
    rw [a3] at e3
    refine ⟨⟨k0, k1, k2, l⟩, v3, ?_, ?_, ?_, ?_, hp, ho, fun hwt => hw fun n hn => hwt n ?_⟩
    · rw [e0]; simpa using f0
    · rw [e1]; simpa using f1
    · rw [e2]; simpa using f2
    · rw [e3]; rfl
    · rw [hx]
      simp only [DataW.weights, Try.underlying34, List.mem_append, List.map_cons, DataW.weightsEach]
      simp [DataW.weightsEach, hn]

theorem open_deeds {H : Type} {enc : TypeId × Value → H} {w : World} {n : Nat} {V : Value} {x : DataW H × List MemPlace} (h : DataW.trod enc Try.prog w 0 (fun _ => true) true n 23 [V] = some x) :
    ∃ ds, PRD w.heap.size w V ds ∧ ((∀ n ∈ x.1.weights Try.prog 23, n ≤ reachBytes) → ds.length ≤ reachBytes ∧ ∀ d ∈ ds, d.items.length ≤ reachBytes) := by
  rcases open_slice Try.underlying23 h with ⟨hcs, hx⟩ | ⟨a, len, cap, m, n', D, Pl, hcs, _, hl, hm, hmm, hx, hi⟩
  · obtain rfl : V = .slice none 0 0 := by simpa using hcs
    exact ⟨[], ⟨none, 0, rfl, fun h => absurd h (by simp)⟩, fun _ => ⟨Nat.zero_le _, fun d hd => by cases hd⟩⟩
  · obtain rfl : V = .slice (some a) len cap := by simpa using hcs
    simp only [if_true] at hmm
    subst hmm
    rw [cells34] at hi
    haveI : Inhabited Dd := ⟨⟨0, 0, 0, []⟩⟩
    obtain ⟨Lf, hLf⟩ := choose_lt (α := Dd) (p := fun i d => ∃ vi, w.cell? (a.add (i * 4)) = some (.int .i64 d.what) ∧ w.cell? ⟨(a.add (i * 4)).block, (a.add (i * 4)).off + 1, none⟩ = some (.int .i64 d.key) ∧ w.cell? ⟨(a.add (i * 4)).block, (a.add (i * 4)).off + 2, none⟩ = some (.int .i64 d.many) ∧
      w.cell? ⟨(a.add (i * 4)).block, (a.add (i * 4)).off + 3, none⟩ = some vi ∧ PR w vi d.items ∧ (0 < d.items.length → ∀ g, vi.ownBlock = some g → g < w.heap.size) ∧ ((∀ n ∈ (D i).weights Try.prog 34, n ≤ reachBytes) → d.items.length ≤ reachBytes)) (n := len)
      (fun i hi' => by
        obtain ⟨cs', h1, h2⟩ := hi i (by omega)
        exact open_deed h1 h2)
    have hlen : ((List.range len).map Lf).length = len := by simp
    refine ⟨(List.range len).map Lf, ⟨some a, m, by rw [hlen], fun hn => ⟨a, rfl, ?_, fun k hk => ?_⟩⟩, fun hw => ⟨?_, fun d hd => ?_⟩⟩
    · rw [hlen] at hn
      obtain ⟨vi, h1, _⟩ := hLf 0 hn
      have := World.block_lt_of_cell? _ _ h1
      rwa [block_add] at this
    · rw [hlen] at hk
      obtain ⟨vi, h1, h2, h3, h4, h5, h6, _⟩ := hLf k hk
      refine ⟨vi, ?_⟩
      simp only [List.getElem_map, List.getElem_range]
      exact ⟨h1, h2, h3, h4, h5, h6⟩
    · have h1 := hw ((((List.range len).map D).length + ((List.range (m - len)).map fun j => D (len + j)).length) * Try.prog.bytesOf 34) (by rw [hx]; simp [DataW.weights, Try.underlying23])
      rw [bytes34] at h1
      simp at h1
      rw [hlen]
      omega
    · obtain ⟨i, hi', rfl⟩ := List.mem_map.1 hd
      rw [List.mem_range] at hi'
      obtain ⟨vi, _, _, _, _, _, _, h7⟩ := hLf i hi'
      refine h7 fun n hn => hw n ?_
      rw [hx]
      simp only [DataW.weights, Try.underlying23, List.mem_cons, List.mem_append]
      exact .inr (.inl (weightsAll_mem (List.mem_map.2 ⟨i, List.mem_range.2 hi', rfl⟩) hn))
end Go.Proofs.Ytabbgananngjlaa
