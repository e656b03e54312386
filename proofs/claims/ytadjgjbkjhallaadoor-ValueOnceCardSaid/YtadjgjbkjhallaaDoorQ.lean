/- Rows of values, and rows of such rows, among the arguments, opened. -/
import Derived.Test.YtadjgjbkjhallaaDoorX
import Derived.Test.YtadjgjbkjhallaaDoorP
namespace Go.Proofs.YtadjgjbkjhallaaDoor
open Go.ChangeShapes Go.WideShapes Go.ChangeAt Go.RowKit Go.Deep Go.Joins
set_option linter.unusedVariables false

theorem cells38 : Tryd.prog.cellsOf 38 = 1 := by kernel_rfl
theorem bytes25 : Tryd.prog.bytesOf 25 = 32 := by kernel_rfl
theorem bytes38 : Tryd.prog.bytesOf 38 = 24 := by kernel_rfl
theorem read38 : Tryd.prog.readableRec 38 = true := by kernel_rfl
theorem lt38 : 38 < Tryd.prog.types.size := of_decide_eq_true (by kernel_rfl)
theorem read43 : Tryd.prog.readableRec 43 = true := by kernel_rfl
theorem lt43 : 43 < Tryd.prog.types.size := of_decide_eq_true (by kernel_rfl)
theorem weightsAll_mem {H : Type} {P : Program} {e : TypeId} : ∀ {ds : List (DataW H)} {d : DataW H} {n : Nat}, d ∈ ds → n ∈ d.weights P e → n ∈ DataW.weightsAll P e ds
  | x :: r, d, n, hd, hn => by
    simp only [DataW.weightsAll, List.mem_append]
    rcases List.mem_cons.1 hd with rfl | hd
    · exact .inl hn
    · exact .inr (weightsAll_mem hd hn)
theorem len3 {α : Type} {cs : List α} (h : cs.length = 3) : ∃ v0 v1 v2, cs = [v0, v1, v2] := by
  match cs, h with
  | [a, b, c], _ => exact ⟨a, b, c, rfl⟩

theorem open_cell {H : Type} {enc : TypeId × Value → H} {w : World} {n : Nat} {ad : Addr} {cs : List Value} {x : DataW H × List MemPlace} (hc : w.cells? 0 ad 3 = some cs) (h : DataW.trod enc Tryd.prog w 0 (fun _ => true) true n 25 cs = some x) :
    ∃ y : Vt, w.cell? (ad.add 0) = some (.int .i64 y.1) ∧ w.cell? (ad.add 1) = some (.int .i64 y.2.1) ∧ w.cell? (ad.add 2) = some (.string y.2.2) := by
  obtain ⟨y0, y1, y2, k, hx, hl, h0, h1, h2⟩ := trod_struct3 Tryd.underlying25 h
  obtain ⟨_, hlen, hcell⟩ := World.cells?_some hc
  obtain ⟨v0, v1, v2, rfl⟩ : ∃ v0 v1 v2, cs = [v0, v1, v2] := len3 hlen
  have e0 := hcell 0 (by omega)
  have e1 := hcell 1 (by omega)
  have e2 := hcell 2 (by omega)
  simp only [cells3, cells9, cells23, List.drop_zero, List.drop_succ_cons, List.take_succ_cons, List.take_zero] at h0 h1 h2
  obtain ⟨k0, f0, _, _⟩ := DataW.trod_int Tryd.underlying23 h0
  obtain ⟨k1, f1, _, _⟩ := DataW.trod_int Tryd.underlying3 h1
  obtain ⟨s2, f2, _, _⟩ := DataW.trod_string Tryd.underlying9 h2
  injection f0 with f0
  injection f1 with f1
  injection f2 with f2
  refine ⟨(k0, k1, s2), ?_, ?_, ?_⟩
  · rw [e0, ← f0]; rfl
  · rw [e1, ← f1]; rfl
  · rw [e2, ← f2]; rfl

theorem open_vals {H : Type} {enc : TypeId × Value → H} {w : World} {n : Nat} {V : Value} {x : DataW H × List MemPlace} (h : DataW.trod enc Tryd.prog w 0 (fun _ => true) true n 38 [V] = some x) :
    ∃ l, VR w V l ∧ ((∀ n ∈ x.1.weights Tryd.prog 38, n ≤ reachBytes) → l.length ≤ reachBytes) := by
  rcases open_slice Tryd.underlying38 h with ⟨hcs, hx⟩ | ⟨a, len, cap, m, n', D, Pl, hcs, _, hl, hm, hmm, hx, hi⟩
  · obtain rfl : V = .slice none 0 0 := by simpa using hcs
    exact ⟨[], ⟨none, 0, rfl, fun h => absurd h (by simp)⟩, fun _ => Nat.zero_le _⟩
  · obtain rfl : V = .slice (some a) len cap := by simpa using hcs
    simp only [if_true] at hmm
    subst hmm
    rw [cells25] at hi
    obtain ⟨Lf, hLf⟩ := choose_lt (α := Vt) (p := fun i y => w.cell? (a.add (i * 3)) = some (.int .i64 y.1) ∧ w.cell? (a.add (i * 3 + 1)) = some (.int .i64 y.2.1) ∧ w.cell? (a.add (i * 3 + 2)) = some (.string y.2.2)) (n := len)
      (fun i hi' => by
        obtain ⟨cs', h1, h2⟩ := hi i (by omega)
        obtain ⟨y, y1, y2, y3⟩ := open_cell h1 h2
        rw [add_of_add] at y1 y2 y3
        exact ⟨y, y1, y2, y3⟩)
    have hlen : ((List.range len).map Lf).length = len := by simp
    refine ⟨(List.range len).map Lf, ⟨some a, m, by rw [hlen], fun hn => ⟨a, rfl, ?_, fun k hk => ?_⟩⟩, fun hw => ?_⟩
    · rw [hlen] at hn
      have := World.block_lt_of_cell? _ _ (hLf 0 hn).1
      rwa [block_add] at this
    · rw [hlen] at hk
      obtain ⟨h1, h2, h3⟩ := hLf k hk
      simp only [List.getElem_map, List.getElem_range]
      exact ⟨h1, h2, h3⟩
    · have h1 := hw ((((List.range len).map D).length + ((List.range (m - len)).map fun j => D (len + j)).length) * Tryd.prog.bytesOf 25) (by rw [hx]; simp [DataW.weights, Tryd.underlying38])
      rw [bytes25] at h1
      simp at h1
      rw [hlen]
      omega

/-- the slice v holds just the rows of ls, all below block N -/
def RRV (N : Nat) (w : World) (v : Value) (ls : List (List Vt)) : Prop :=
  ∃ A c, v = .slice A ls.length c ∧ (0 < ls.length → ∃ ad, A = some ad ∧ ad.block < N ∧ ∀ k (h : k < ls.length), ∃ rv, w.cell? (ad.add k) = some rv ∧ VR w rv ls[k] ∧ (0 < ls[k].length → ∀ g, rv.ownBlock = some g → g < N))
theorem RRV.below {N : Nat} {w w' : World} {v : Value} {ls : List (List Vt)} (h : RRV N w v ls) (hb : Below N w w') : RRV N w' v ls := by
  obtain ⟨A, c, rfl, h⟩ := h
  refine ⟨A, c, rfl, fun hn => ?_⟩
  obtain ⟨ad, rfl, hg, hc⟩ := h hn
  refine ⟨ad, rfl, hg, fun k hk => ?_⟩
  obtain ⟨rv, h1, h2, h3⟩ := hc k hk
  exact ⟨rv, (hb.cell (p := ad.add k) (by rw [block_add]; exact hg)).trans h1, h2.keep (Keep.of_belowN hb) (fun h0 g e _ => h3 h0 g e), h3⟩

theorem open_rows {H : Type} {enc : TypeId × Value → H} {w : World} {n : Nat} {V : Value} {x : DataW H × List MemPlace} (h : DataW.trod enc Tryd.prog w 0 (fun _ => true) true n 43 [V] = some x) :
    ∃ ls, RRV w.heap.size w V ls ∧ ((∀ n ∈ x.1.weights Tryd.prog 43, n ≤ reachBytes) → ls.length ≤ reachBytes ∧ ∀ l ∈ ls, l.length ≤ reachBytes) := by
  rcases open_slice1 Tryd.underlying43 cells38 h with ⟨hcs, hx⟩ | ⟨a, len, cap, m, n', Vs, D, Pl, hcs, _, hl, hm, hmm, rfl, hx⟩
  · obtain rfl : V = .slice none 0 0 := by simpa using hcs
    exact ⟨[], ⟨none, 0, rfl, fun h => absurd h (by simp)⟩, fun _ => ⟨Nat.zero_le _, fun l hl => by cases hl⟩⟩
  · obtain rfl : V = .slice (some a) len cap := by simpa using hcs
    simp only [if_true] at hmm
    subst hmm
    obtain ⟨Lf, hLf⟩ := choose_lt (α := List Vt) (p := fun i l => VR w (Vs i) l ∧ ((∀ n ∈ (D i).weights Tryd.prog 38, n ≤ reachBytes) → l.length ≤ reachBytes)) (n := len) (fun i hi => open_vals (hx i (by omega)).2)
    have hlen : ((List.range len).map Lf).length = len := by simp
    refine ⟨(List.range len).map Lf, ⟨some a, m, by rw [hlen], fun hn => ⟨a, rfl, ?_, fun k hk => ?_⟩⟩, fun hw => ⟨?_, fun l hl => ?_⟩⟩
    · rw [hlen] at hn
      have := World.block_lt_of_cell? _ _ (hx 0 (by omega)).1
      rwa [block_add] at this
    · rw [hlen] at hk
      obtain ⟨h1, _⟩ := hLf k hk
      refine ⟨Vs k, (hx k (by omega)).1, ?_, ?_⟩
      · simpa using h1
      · simpa using h1.lt
    · have h1 := hw (((List.map D (List.range len)).length + (List.map (fun j => D (len + j)) (List.range (m - len))).length) * Tryd.prog.bytesOf 38) (by simp [DataW.weights, Tryd.underlying43])
      rw [bytes38] at h1
      simp at h1
      rw [hlen]
      omega
    · obtain ⟨i, hi, rfl⟩ := List.mem_map.1 hl
      rw [List.mem_range] at hi
      refine (hLf i hi).2 fun n hn => hw n ?_
      simp only [DataW.weights, Tryd.underlying43, List.mem_cons, List.mem_append]
      exact .inr (.inl (weightsAll_mem (List.mem_map.2 ⟨i, List.mem_range.2 hi, rfl⟩) hn))
end Go.Proofs.YtadjgjbkjhallaaDoor
