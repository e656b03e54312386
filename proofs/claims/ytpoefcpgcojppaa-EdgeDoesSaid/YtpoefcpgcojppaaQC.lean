/- Edges and rows of bytes among the arguments, opened. -/
import Derived.Test.YtpoefcpgcojppaaPQ
import Derived.Test.YtpoefcpgcojppaaPB
import Derived.LaidMore
import Derived.OpenShut
import Derived.SevenTiedAt
import Derived.MakeChecks
import Derived.Lib.LaidTab
import Derived.Deep.Slices
import Derived.Deep.Strs
import Derived.SliceStrings
import Derived.SizedLaws
import Derived.Carry
import Derived.Lib.SmallJoins
namespace Go.Proofs.Ytpoefcpgcojppaa
open Go.ChangeShapes Go.WideShapes Go.ChangeAt Go.RowKit Go.Deep Go.Joins
set_option linter.unusedVariables false

theorem own : ownKnob Try.prog.godebug = none := by kernel_rfl
theorem laidB : laidOutB Try.prog = true := by kernel_rfl
theorem cells3 : Try.prog.cellsOf 3 = 1 := by kernel_rfl
theorem cells5 : Try.prog.cellsOf 5 = 1 := by kernel_rfl
theorem cells9 : Try.prog.cellsOf 9 = 1 := by kernel_rfl
theorem cells22 : Try.prog.cellsOf 22 = 1 := by kernel_rfl
theorem cells24 : Try.prog.cellsOf 24 = 5 := by kernel_rfl
theorem cells31 : Try.prog.cellsOf 31 = 3 := by kernel_rfl
theorem cells53 : Try.prog.cellsOf 53 = 4 := by kernel_rfl
theorem read24 : Try.prog.readableRec 24 = true := by kernel_rfl
theorem read34 : Try.prog.readableRec 34 = true := by kernel_rfl
theorem lt24 : 24 < Try.prog.types.size := of_decide_eq_true (by kernel_rfl)
theorem lt34 : 34 < Try.prog.types.size := of_decide_eq_true (by kernel_rfl)
theorem bytes53 : Try.prog.bytesOf 53 = 48 := by kernel_rfl
theorem bytes5 : Try.prog.bytesOf 5 = 1 := by kernel_rfl
theorem cells29 : Try.prog.cellsOf 29 = 1 := by kernel_rfl
theorem weightsAll_mem {H : Type} {P : Program} {e : TypeId} : ∀ {ds : List (DataW H)} {d : DataW H} {n : Nat}, d ∈ ds → n ∈ d.weights P e → n ∈ DataW.weightsAll P e ds
  | x :: r, d, n, hd, hn => by
    simp only [DataW.weightsAll, List.mem_append]
    rcases List.mem_cons.1 hd with rfl | hd
    · exact .inl hn
    · exact .inr (weightsAll_mem hd hn)
theorem len3 {α : Type} {cs : List α} (h : cs.length = 3) : ∃ v0 v1 v2, cs = [v0, v1, v2] := by
  match cs, h with
  | [a, b, c], _ => exact ⟨a, b, c, rfl⟩
theorem len4 {α : Type} {cs : List α} (h : cs.length = 4) : ∃ v0 v1 v2 v3, cs = [v0, v1, v2, v3] := by
  match cs, h with
  | [a, b, c, d], _ => exact ⟨a, b, c, d, rfl⟩
theorem len5 {α : Type} {cs : List α} (h : cs.length = 5) : ∃ v0 v1 v2 v3 v4, cs = [v0, v1, v2, v3, v4] := by
  match cs, h with
  | [a, b, c, d, e], _ => exact ⟨a, b, c, d, e, rfl⟩

section
variable {H : Type} {enc : TypeId × Value → H} {P : Program} {w : World} {base : Nat} {spare : Nat → Bool} {held : Bool}
theorem trod_struct5 {t : TypeId} {f0 f1 f2 f3 f4 : Field} {fuel : Nat} {cs : List Value} {x : DataW H × List MemPlace} (ht : P.underlying t = some (.struct #[f0, f1, f2, f3, f4])) (h : DataW.trod enc P w base spare held fuel t cs = some x) :
    ∃ y0 y1 y2 y3 y4 n, x = (.agg [y0.1, y1.1, y2.1, y3.1, y4.1], y0.2 ++ (y1.2 ++ (y2.2 ++ (y3.2 ++ y4.2)))) ∧ cs.length = P.cellsOf t ∧ DataW.trod enc P w base spare held n f0.type ((cs.drop f0.offset).take (P.cellsOf f0.type)) = some y0 ∧
      DataW.trod enc P w base spare held n f1.type ((cs.drop f1.offset).take (P.cellsOf f1.type)) = some y1 ∧ DataW.trod enc P w base spare held n f2.type ((cs.drop f2.offset).take (P.cellsOf f2.type)) = some y2 ∧
      DataW.trod enc P w base spare held n f3.type ((cs.drop f3.offset).take (P.cellsOf f3.type)) = some y3 ∧ DataW.trod enc P w base spare held n f4.type ((cs.drop f4.offset).take (P.cellsOf f4.type)) = some y4 := by
  obtain ⟨xs, n, _, rfl, hl, hlen, hf⟩ := DataW.trod_struct ht h
  match xs, hlen with
  | [y0, y1, y2, y3, y4], _ => exact ⟨y0, y1, y2, y3, y4, n, by simp, hl, by simpa using hf 0 f0 rfl, by simpa using hf 1 f1 rfl, by simpa using hf 2 f2 rfl, by simpa using hf 3 f3 rfl, by simpa using hf 4 f4 rfl⟩
theorem array5 {α : Type} {cs : Array α} (h : cs.size = 5) : ∃ c0 c1 c2 c3 c4, cs = #[c0, c1, c2, c3, c4] := by
  obtain ⟨l⟩ := cs
  match l, h with
  | [c0, c1, c2, c3, c4], _ => exact ⟨c0, c1, c2, c3, c4, rfl⟩
theorem open_agg5 {r : Reach} {b0 : Nat} {t : TypeId} {f0 f1 f2 f3 f4 : Field} {v : Value} {d : DataW H} {p : List MemPlace} (hs : P.underlying t = some (.struct #[f0, f1, f2, f3, f4])) (hone : oneCellFields P #[f0, f1, f2, f3, f4] = true) (hC : P.cellsOf t = 5)
    (hv : Value.okWide P w r b0 t v) (h : DataW.Trod enc P w base spare held t v d p) :
    ∃ (v0 v1 v2 v3 v4 : Value) (y0 y1 y2 y3 y4 : DataW H × List MemPlace) (n : Nat), v = .agg #[v0, v1, v2, v3, v4] ∧ d = .agg [y0.1, y1.1, y2.1, y3.1, y4.1] ∧ p = y0.2 ++ (y1.2 ++ (y2.2 ++ (y3.2 ++ y4.2))) ∧
      DataW.trod enc P w base spare held n f0.type [v0] = some y0 ∧ DataW.trod enc P w base spare held n f1.type [v1] = some y1 ∧ DataW.trod enc P w base spare held n f2.type [v2] = some y2 ∧ DataW.trod enc P w base spare held n f3.type [v3] = some y3 ∧ DataW.trod enc P w base spare held n f4.type [v4] = some y4 := by
  obtain ⟨cs, rfl, hsz⟩ := okWide_struct hs hv
  obtain ⟨c0, c1, c2, c3, c4, rfl⟩ := array5 (hsz.trans hC)
  obtain ⟨fuel, hf⟩ := h
  obtain ⟨y0, y1, y2, y3, y4, n, hx, _, h0, h1, h2, h3, h4⟩ := trod_struct5 hs hf
  obtain ⟨o0, k0⟩ := hone_of hone 0 f0 rfl
  obtain ⟨o1, k1⟩ := hone_of hone 1 f1 rfl
  obtain ⟨o2, k2⟩ := hone_of hone 2 f2 rfl
  obtain ⟨o3, k3⟩ := hone_of hone 3 f3 rfl
  obtain ⟨o4, k4⟩ := hone_of hone 4 f4 rfl
  simp only [Prod.mk.injEq] at hx
  exact ⟨c0, c1, c2, c3, c4, y0, y1, y2, y3, y4, n, rfl, hx.1, hx.2, by simpa [Value.cells, o0, k0] using h0, by simpa [Value.cells, o1, k1] using h1, by simpa [Value.cells, o2, k2] using h2, by simpa [Value.cells, o3, k3] using h3, by simpa [Value.cells, o4, k4] using h4⟩
end

theorem PR.mk4 {w : World} {A : Option Addr} {c : Nat} {l : List Pt} (h : 0 < l.length → ∃ ad, A = some ad ∧ ad.block < w.heap.size ∧ ∀ k (hk : k < l.length), w.cell? (ad.add (k * 4)) = some (.string l[k].1) ∧ w.cell? (ad.add (k * 4 + 1)) = some (.int .i64 l[k].2.1) ∧ w.cell? (ad.add (k * 4 + 2)) = some (.int .i64 l[k].2.2.1) ∧ w.cell? (ad.add (k * 4 + 3)) = some (.string l[k].2.2.2)) : PR w (.slice A l.length c) l := by
  refine ⟨A, c, rfl, fun hn => ?_⟩
  obtain ⟨ad, h1, h2, h3⟩ := h hn
  refine ⟨ad, h1, h2, fun j u hj => ?_⟩
  have hlt := (List.getElem?_eq_some_iff.1 hj).1
  rw [flatP_len] at hlt
  have hk : j / 4 < l.length := by omega
  obtain ⟨e0, e1, e2, e3⟩ := h3 _ hk
  obtain ⟨f0, f1, f2, f3⟩ := flatP_at l _ hk
  have hr : j % 4 = 0 ∨ j % 4 = 1 ∨ j % 4 = 2 ∨ j % 4 = 3 := by omega
  rcases hr with hr | hr | hr | hr
  · have ej : j / 4 * 4 = j := by omega
    rw [ej] at f0 e0
    rw [f0] at hj
    injection hj with hj
    exact hj ▸ e0
  · have ej : j / 4 * 4 + 1 = j := by omega
    rw [ej] at f1 e1
    rw [f1] at hj
    injection hj with hj
    exact hj ▸ e1
  · have ej : j / 4 * 4 + 2 = j := by omega
    rw [ej] at f2 e2
    rw [f2] at hj
    injection hj with hj
    exact hj ▸ e2
  · have ej : j / 4 * 4 + 3 = j := by omega
    rw [ej] at f3 e3
    rw [f3] at hj
    injection hj with hj
    exact hj ▸ e3

theorem open_prop {H : Type} {enc : TypeId × Value → H} {w : World} {n : Nat} {ad : Addr} {cs : List Value} {x : DataW H × List MemPlace} (hc : w.cells? 0 ad 4 = some cs) (h : DataW.trod enc Try.prog w 0 (fun _ => true) true n 53 cs = some x) :
    ∃ y : Pt, (w.cell? (ad.add 0) = some (.string y.1) ∧ w.cell? (ad.add 1) = some (.int .i64 y.2.1) ∧ w.cell? (ad.add 2) = some (.int .i64 y.2.2.1) ∧ w.cell? (ad.add 3) = some (.string y.2.2.2)) ∧ ((∀ n ∈ x.1.weights Try.prog 53, n ≤ reachBytes) → y.1.size ≤ reachBytes ∧ y.2.2.2.size ≤ reachBytes) := by
  obtain ⟨y0, y1, k, hx, hl, h0, h1⟩ := trod_struct2 Try.underlying53 h
  obtain ⟨_, hlen, hcell⟩ := World.cells?_some hc
  obtain ⟨v0, v1, v2, v3, rfl⟩ : ∃ v0 v1 v2 v3, cs = [v0, v1, v2, v3] := len4 hlen
  have e0 := hcell 0 (by omega)
  have e1 := hcell 1 (by omega)
  have e2 := hcell 2 (by omega)
  have e3 := hcell 3 (by omega)
  simp only [cells9, cells31, List.drop_zero, List.drop_succ_cons, List.take_succ_cons, List.take_zero] at h0 h1
  obtain ⟨z0, z1, z2, k', hx1, hl1, g0, g1, g2⟩ := trod_struct3 Try.underlying31 h1
  simp only [cells3, cells9, cells29, List.drop_zero, List.drop_succ_cons, List.take_succ_cons, List.take_zero] at g0 g1 g2
  obtain ⟨s0, f0, t0, _⟩ := DataW.trod_string Try.underlying9 h0
  obtain ⟨k1, f1, t1, _⟩ := DataW.trod_int Try.underlying29 g0
  obtain ⟨k2, f2, t2, _⟩ := DataW.trod_int Try.underlying3 g1
  obtain ⟨s3, f3, t3, _⟩ := DataW.trod_string Try.underlying9 g2
  injection f0 with f0
  injection f1 with f1
  injection f2 with f2
  injection f3 with f3
  refine ⟨(s0, k1, k2, s3), ⟨?_, ?_, ?_, ?_⟩, fun hw => ⟨?_, ?_⟩⟩
  · rw [e0, ← f0]; rfl
  · rw [e1, ← f1]; rfl
  · rw [e2, ← f2]; rfl
  · rw [e3, ← f3]; rfl
  · have := hw s0.data.toList.length (by rw [hx]; simp [DataW.weights, Try.underlying53, DataW.weightsEach, t0])
    rw [Array.length_toList] at this
    exact this
  · have := hw s3.data.toList.length (by rw [hx, hx1]; simp [DataW.weights, Try.underlying53, Try.underlying31, DataW.weightsEach, t3])
    rw [Array.length_toList] at this
    exact this

theorem open_props {H : Type} {enc : TypeId × Value → H} {w : World} {n : Nat} {V : Value} {x : DataW H × List MemPlace} (h : DataW.trod enc Try.prog w 0 (fun _ => true) true n 22 [V] = some x) :
    ∃ l, PR w V l ∧ ((∀ n ∈ x.1.weights Try.prog 22, n ≤ reachBytes) → l.length ≤ reachBytes ∧ ∀ p ∈ l, p.1.size ≤ reachBytes ∧ p.2.2.2.size ≤ reachBytes) := by
  rcases open_slice Try.underlying22 h with ⟨hcs, hx⟩ | ⟨a, len, cap, m, n', D, Pl, hcs, _, hl, hm, hmm, hx, hi⟩
  · obtain rfl : V = .slice none 0 0 := by simpa using hcs
    exact ⟨[], PR.nil _ _ _, fun _ => ⟨Nat.zero_le _, fun p hp => by cases hp⟩⟩
  · obtain rfl : V = .slice (some a) len cap := by simpa using hcs
    simp only [if_true] at hmm
    subst hmm
    rw [cells53] at hi
    obtain ⟨Lf, hLf⟩ := choose_lt (α := Pt) (p := fun i y => (w.cell? (a.add (i * 4)) = some (.string y.1) ∧ w.cell? (a.add (i * 4 + 1)) = some (.int .i64 y.2.1) ∧ w.cell? (a.add (i * 4 + 2)) = some (.int .i64 y.2.2.1) ∧ w.cell? (a.add (i * 4 + 3)) = some (.string y.2.2.2)) ∧ ((∀ n ∈ (D i).weights Try.prog 53, n ≤ reachBytes) → y.1.size ≤ reachBytes ∧ y.2.2.2.size ≤ reachBytes)) (n := len)
      (fun i hi' => by
        obtain ⟨cs', h1, h2⟩ := hi i (by omega)
        obtain ⟨y, ⟨y1, y2, y3, y4⟩, y5⟩ := open_prop h1 h2
        rw [add_of_add] at y1 y2 y3 y4
        exact ⟨y, ⟨y1, y2, y3, y4⟩, y5⟩)
    have hlen : ((List.range len).map Lf).length = len := by simp
    refine ⟨(List.range len).map Lf, ?_, fun hw => ⟨?_, fun p hp => ?_⟩⟩
    · have := PR.mk4 (w := w) (A := some a) (c := m) (l := (List.range len).map Lf) (fun hn => ⟨a, rfl, ?_, fun k hk => ?_⟩)
      · rwa [hlen] at this
      · rw [hlen] at hn
        have := World.block_lt_of_cell? _ _ (hLf 0 hn).1.1
        rwa [block_add] at this
      · rw [hlen] at hk
        simp only [List.getElem_map, List.getElem_range]
        exact (hLf k hk).1
    · have h1 := hw ((((List.range len).map D).length + ((List.range (m - len)).map fun j => D (len + j)).length) * Try.prog.bytesOf 53) (by rw [hx]; simp [DataW.weights, Try.underlying22])
      rw [bytes53] at h1
      simp at h1
      rw [hlen]
      omega
    · obtain ⟨i, hi', rfl⟩ := List.mem_map.1 hp
      rw [List.mem_range] at hi'
      refine (hLf i hi').2 fun n hn => hw n ?_
      rw [hx]
      simp only [DataW.weights, Try.underlying22, List.mem_cons, List.mem_append]
      exact .inr (.inl (weightsAll_mem (List.mem_map.2 ⟨i, List.mem_range.2 hi', rfl⟩) hn))

def SzB (e : Ed) : Prop := e.src.size ≤ reachBytes ∧ e.dst.size ≤ reachBytes ∧ e.lab.size ≤ reachBytes ∧ e.props.length ≤ reachBytes ∧ ∀ p ∈ e.props, p.1.size ≤ reachBytes ∧ p.2.2.2.size ≤ reachBytes

set_option maxRecDepth 100000 in
/-- an edge among the arguments -/
theorem open_edge {H : Type} {enc : TypeId × Value → H} {W : World} {v : Value} {d : DataW H} {p : List MemPlace} {base : Nat} (hv : Value.okWide Try.prog W .any base 24 v) (h : DataW.Trod enc Try.prog W 0 (fun _ => true) true 24 v d p) :
    ∃ (x : Ed) (pv : Value), v = x.v pv ∧ PR W pv x.props ∧ ((∀ n ∈ d.weights Try.prog 24, n ≤ reachBytes) → SzB x) := by
  obtain ⟨v0, v1, v2, v3, v4, y0, y1, y2, y3, y4, n, rfl, rfl, rfl, h0, h1, h2, h3, h4⟩ := open_agg5 Try.underlying24 (by kernel_rfl) cells24 hv h
  obtain ⟨s0, f0, t0, _⟩ := DataW.trod_string Try.underlying9 h0
  obtain ⟨s1, f1, t1, _⟩ := DataW.trod_string Try.underlying9 h1
  obtain ⟨s2, f2, t2, _⟩ := DataW.trod_string Try.underlying9 h2
  obtain ⟨k3, f3, t3, _⟩ := DataW.trod_int Try.underlying3 h3
  obtain ⟨l, hl, hw4⟩ := open_props h4
  injection f0 with f0
  injection f1 with f1
  injection f2 with f2
  injection f3 with f3
  subst f0 f1 f2 f3
  refine ⟨⟨s0, s1, s2, k3, l⟩, v4, rfl, hl, fun hw => ?_⟩
  have hh4 := hw4 (fun n hn => hw n (by simp only [DataW.weights, Try.underlying24]; simp [DataW.weightsEach, hn]))
  refine ⟨?_, ?_, ?_, hh4.1, hh4.2⟩
  · have := hw s0.data.toList.length (by simp only [DataW.weights, Try.underlying24]; simp [DataW.weightsEach, t0, DataW.weights])
    rw [Array.length_toList] at this
    exact this
  · have := hw s1.data.toList.length (by simp only [DataW.weights, Try.underlying24]; simp [DataW.weightsEach, t1, DataW.weights])
    rw [Array.length_toList] at this
    exact this
  · have := hw s2.data.toList.length (by simp only [DataW.weights, Try.underlying24]; simp [DataW.weightsEach, t2, DataW.weights])
    rw [Array.length_toList] at this
    exact this
end Go.Proofs.Ytpoefcpgcojppaa
