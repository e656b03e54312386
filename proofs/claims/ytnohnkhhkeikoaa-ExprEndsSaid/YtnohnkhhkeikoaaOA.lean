/- Expressions and rows of texts among the arguments, opened. -/
import Derived.Test.YtnohnkhhkeikoaaU
import Derived.LaidMore
import Derived.OpenShut
import Derived.SevenTiedAt
import Derived.MakeChecks
import Derived.Lib.LaidTab
import Derived.Deep.Slices
import Derived.Deep.Strs
import Derived.SliceStrings
import Derived.SizedLaws
import Derived.Carry
import Derived.Lib.SmallJoins
namespace Go.Proofs.Ytnohnkhhkeikoaa
open Go.ChangeShapes Go.WideShapes Go.ChangeAt Go.RowKit Go.Deep Go.Joins
set_option linter.unusedVariables false

theorem own : ownKnob Try.prog.godebug = none := by kernel_rfl
theorem laidB : laidOutB Try.prog = true := by kernel_rfl
theorem cells9 : Try.prog.cellsOf 9 = 1 := by kernel_rfl
theorem cells22 : Try.prog.cellsOf 22 = 1 := by kernel_rfl
theorem cells23 : Try.prog.cellsOf 23 = 1 := by kernel_rfl
theorem cells25 : Try.prog.cellsOf 25 = 3 := by kernel_rfl
theorem read25 : Try.prog.readableRec 25 = true := by kernel_rfl
theorem read26 : Try.prog.readableRec 26 = true := by kernel_rfl
theorem lt25 : 25 < Try.prog.types.size := of_decide_eq_true (by kernel_rfl)
theorem lt26 : 26 < Try.prog.types.size := of_decide_eq_true (by kernel_rfl)
theorem bytes9 : Try.prog.bytesOf 9 = 16 := by kernel_rfl
theorem weightsAll_mem {H : Type} {P : Program} {e : TypeId} : ∀ {ds : List (DataW H)} {d : DataW H} {n : Nat}, d ∈ ds → n ∈ d.weights P e → n ∈ DataW.weightsAll P e ds
  | x :: r, d, n, hd, hn => by
    simp only [DataW.weightsAll, List.mem_append]
    rcases List.mem_cons.1 hd with rfl | hd
    · exact .inl hn
    · exact .inr (weightsAll_mem hd hn)
theorem len3 {α : Type} {cs : List α} (h : cs.length = 3) : ∃ v0 v1 v2, cs = [v0, v1, v2] := by
  match cs, h with
  | [a, b, c], _ => exact ⟨a, b, c, rfl⟩
theorem pick_lt {α : Type} [Inhabited α] {p : Nat → α → Prop} {n : Nat} (h : ∀ i, i < n → ∃ y, p i y) : ∃ f : Nat → α, ∀ i, i < n → p i (f i) := by
  have hch : ∀ i, ∃ y, i < n → p i y := fun i => by
    by_cases hi : i < n
    · obtain ⟨y, hy⟩ := h i hi
      exact ⟨y, fun _ => hy⟩
    · exact ⟨default, fun h => absurd h hi⟩
  exact ⟨fun i => (hch i).choose, fun i hi => (hch i).choose_spec hi⟩
instance : Inhabited X := ⟨.mk 0 ⟨#[]⟩ []⟩

set_option maxRecDepth 100000 in
theorem open_cells25 {H : Type} {enc : TypeId × Value → H} {w : World} {fuel : Nat} {cs : List Value} {x : DataW H × List MemPlace} (h : DataW.trod enc Try.prog w 0 (fun _ => true) true fuel 25 cs = some x) :
    ∃ n k s V y, fuel = n + 1 ∧ cs = [.int .i64 k, .string s, V] ∧ DataW.trod enc Try.prog w 0 (fun _ => true) true n 23 [V] = some y ∧ (∀ m ∈ y.1.weights Try.prog 23, m ∈ x.1.weights Try.prog 25) ∧ s.size ∈ x.1.weights Try.prog 25 := by
  obtain ⟨xs, n, hfu, rfl, hl, hlen, hf⟩ := DataW.trod_struct Try.underlying25 h
  match xs, hlen with
  | [y0, y1, y2], _ =>
    rw [cells25] at hl
    obtain ⟨v0, v1, v2, rfl⟩ := len3 hl
    have h0 := hf 0 _ rfl
    have h1 := hf 1 _ rfl
    have h2 := hf 2 _ rfl
    simp only [cells9, cells22, cells23, List.drop_zero, List.drop_succ_cons, List.take_succ_cons, List.take_zero, List.getElem?_cons_zero, List.getElem?_cons_succ] at h0 h1 h2
    obtain ⟨k0, f0, g0, _⟩ := DataW.trod_int Try.underlying22 h0
    obtain ⟨s1, f1, t1, _⟩ := DataW.trod_string Try.underlying9 h1
    injection f0 with f0
    injection f1 with f1
    subst f0 f1
    refine ⟨n, k0, s1, v2, y2, hfu, rfl, h2, fun m hm => ?_, ?_⟩
    · simp only [List.map_cons, List.map_nil, DataW.weights, Try.underlying25]
      simp [DataW.weightsEach, hm]
    · simp only [List.map_cons, List.map_nil, DataW.weights, Try.underlying25]
      simp [DataW.weightsEach, t1, DataW.weights]

set_option maxRecDepth 100000 in
/-- a row of expressions among the arguments -/
theorem open_exprs {H : Type} {enc : TypeId × Value → H} {w : World} : ∀ (fuel : Nat) (V : Value) (x : DataW H × List MemPlace), DataW.trod enc Try.prog w 0 (fun _ => true) true fuel 23 [V] = some x →
    ∃ l, XR w.heap.size w V l ∧ ((∀ n ∈ x.1.weights Try.prog 23, n ≤ reachBytes) → ∀ p ∈ partsL l, p.lab.size ≤ reachBytes) := by
  intro fuel
  induction fuel using Nat.strongRecOn with
  | ind fuel ih =>
    intro V x h
    rcases DataW.trod_slice Try.underlying23 h with ⟨hcs, hx⟩ | ⟨a, len, cap, elems, rest, n, rfl, hcs, rfl, hb, hl, hm, hlen, hel, _, _⟩
    · obtain rfl : V = .slice none 0 0 := by simpa using hcs
      exact ⟨[], XR.nil _ _ _ _, fun _ p hp => by rw [partsL_nil] at hp; cases hp⟩
    · obtain rfl : V = .slice (some a) len cap := by simpa using hcs
      rw [cells25] at hel
      have step : ∀ i, i < len → ∃ (q : X × Value), (w.cell? (a.add (i * 3)) = some (.int .i64 q.1.kind) ∧ w.cell? (a.add (i * 3 + 1)) = some (.string q.1.lab) ∧ w.cell? (a.add (i * 3 + 2)) = some q.2) ∧ XR w.heap.size w q.2 q.1.kids ∧
          ((∀ n ∈ DataW.weightsAll Try.prog 25 (elems.map (·.1)), n ≤ reachBytes) → ∀ p ∈ q.1.parts, p.lab.size ≤ reachBytes) := by
        intro i hi
        have h1 := hel i hi
        rw [List.getElem?_eq_getElem (by omega)] at h1
        obtain ⟨cs', h2, h3⟩ := Option.bind_eq_some_iff.1 h1
        obtain ⟨n', k, s, V', y, rfl, rfl, h4, h5, h6⟩ := open_cells25 h3
        obtain ⟨_, hlen', hcell⟩ := World.cells?_some h2
        have e0 := hcell 0 (by omega)
        have e1 := hcell 1 (by omega)
        have e2 := hcell 2 (by omega)
        rw [add_of_add] at e0 e1 e2
        obtain ⟨l, hl1, hl2⟩ := ih n' (by omega) V' y h4
        refine ⟨(.mk k s l, V'), ⟨by simpa [X.kind] using e0, by simpa [X.lab] using e1, by simpa using e2⟩, hl1, fun hw p hp => ?_⟩
        have hw' : ∀ m ∈ (elems[i]).1.weights Try.prog 25, m ≤ reachBytes := fun m hm => hw m (weightsAll_mem (List.mem_map.2 ⟨elems[i], List.getElem_mem _, rfl⟩) hm)
        rw [X.parts_eq] at hp
        rcases List.mem_cons.1 hp with rfl | hp
        · exact hw' _ h6
        · exact hl2 (fun m hm => hw' m (h5 m hm)) p hp
      obtain ⟨Lf, hLf⟩ := pick_lt step
      have hlen2 : ((List.range len).map fun i => (Lf i).1).length = len := by simp
      refine ⟨(List.range len).map fun i => (Lf i).1, ?_, fun hw p hp => ?_⟩
      · have := XR.mk (B := w.heap.size) (w := w) (some a) cap ((List.range len).map fun i => (Lf i).1) a (fun i => (Lf i).2) (by rw [hlen2]; exact hl) (fun h0 => ⟨rfl, by
            rw [hlen2] at h0
            have := World.block_lt_of_cell? _ _ (hLf 0 h0).1.1
            rwa [block_add] at this⟩)
          (fun i hi => by rw [hlen2] at hi; simpa using (hLf i hi).1.1) (fun i hi => by rw [hlen2] at hi; simpa using (hLf i hi).1.2.1) (fun i hi => by rw [hlen2] at hi; exact (hLf i hi).1.2.2) (fun i hi => by rw [hlen2] at hi; simpa using (hLf i hi).2.1)
        rwa [hlen2] at this
      · have hq : ∃ i, i < len ∧ p ∈ (Lf i).1.parts := by
          clear hlen2
          have : ∀ is : List Nat, (∀ i ∈ is, i < len) → p ∈ partsL (is.map fun i => (Lf i).1) → ∃ i, i < len ∧ p ∈ (Lf i).1.parts := by
            intro is
            induction is with
            | nil => intro _ h; rw [List.map_nil, partsL_nil] at h; cases h
            | cons i is ihh =>
              intro hi h
              rw [List.map_cons, partsL_cons] at h
              rcases List.mem_append.1 h with h | h
              · exact ⟨i, hi i (by simp), h⟩
              · exact ihh (fun j hj => hi j (by simp [hj])) h
          exact this _ (fun i hi => List.mem_range.1 hi) hp
        obtain ⟨i, hi, hpi⟩ := hq
        refine (hLf i hi).2.2 (fun m hm => hw m ?_) p hpi
        simp only [DataW.weights, Try.underlying23, List.mem_cons, List.mem_append]
        exact .inr (.inl hm)

set_option maxRecDepth 100000 in
/-- an expression among the arguments -/
theorem open_expr {H : Type} {enc : TypeId × Value → H} {W : World} {v : Value} {d : DataW H} {p : List MemPlace} {base : Nat} (hv : Value.okWide Try.prog W .any base 25 v) (h : DataW.Trod enc Try.prog W 0 (fun _ => true) true 25 v d p) :
    ∃ x : X, XV W.heap.size W v x ∧ ((∀ n ∈ d.weights Try.prog 25, n ≤ reachBytes) → x.lit) := by
  obtain ⟨cs, rfl, hsz⟩ := okWide_struct Try.underlying25 hv
  obtain ⟨fuel, hf⟩ := h
  obtain ⟨n, k, s, V, y, rfl, hcs, h1, h2, h3⟩ := open_cells25 hf
  obtain ⟨l, hl1, hl2⟩ := open_exprs n V y h1
  rw [cells25] at hsz
  obtain ⟨L⟩ := cs
  obtain ⟨c0, c1, c2, rfl⟩ := len3 (cs := L) hsz
  have hr := reachBytes_lt
  have hml : maxLen = 2 ^ 63 - 1 := rfl
  have hc : c0 = .int .i64 k ∧ c1 = .string s ∧ c2 = V := by
    simpa [Value.cells] using hcs
  obtain ⟨rfl, rfl, rfl⟩ := hc
  refine ⟨.mk k s l, ⟨_, rfl, hl1⟩, fun hw q hq => ?_⟩
  rw [X.parts_eq] at hq
  rcases List.mem_cons.1 hq with rfl | hq
  · exact Nat.le_trans (hw _ h3) (by omega)
  · exact Nat.le_trans (hl2 (fun m hm => hw m (h2 m hm)) q hq) (by omega)

set_option maxRecDepth 100000 in
theorem open_texts {H : Type} {enc : TypeId × Value → H} {w : World} {n : Nat} {V : Value} {x : DataW H × List MemPlace} (h : DataW.trod enc Try.prog w 0 (fun _ => true) true n 26 [V] = some x) :
    ∃ l, SR w.heap.size w V l ∧ (∀ A m c, V = .slice A m c → m ≤ c) ∧ ((∀ n ∈ x.1.weights Try.prog 26, n ≤ reachBytes) → l.length ≤ reachBytes ∧ ∀ s ∈ l, s.size ≤ reachBytes) := by
  rcases open_slice1 Try.underlying26 cells9 h with ⟨hcs, hx⟩ | ⟨a, len, cap, m, n', Vs, D, Pl, hcs, _, hl, hm, hmm, rfl, hx⟩
  · obtain rfl : V = .slice none 0 0 := by simpa using hcs
    exact ⟨[], ⟨none, 0, rfl, fun h => absurd h (by simp)⟩, fun A m c e => by injection e with _ e1 e2; omega, fun _ => ⟨Nat.zero_le _, fun s hs => by cases hs⟩⟩
  · obtain rfl : V = .slice (some a) len cap := by simpa using hcs
    simp only [if_true] at hmm
    subst hmm
    obtain ⟨Lf, hLf⟩ := pick_lt (α := ByteArray) (p := fun i s => Vs i = .string s ∧ s.size ∈ (D i).weights Try.prog 9) (n := len) (fun i hi => by
      obtain ⟨s0, f0, t0, _⟩ := DataW.trod_string Try.underlying9 (hx i (by omega)).2
      injection f0 with f0
      refine ⟨s0, f0, ?_⟩
      have t1 : D i = _ := congrArg Prod.fst t0
      rw [t1]
      simp [DataW.weights])
    have hlen : ((List.range len).map Lf).length = len := by simp
    refine ⟨(List.range len).map Lf, ⟨some a, m, by rw [hlen], fun hn => ⟨a, rfl, ?_, fun k hk => ?_⟩⟩, fun A m c e => by injection e with _ e1 e2; omega, fun hw => ⟨?_, fun s hs => ?_⟩⟩
    · rw [hlen] at hn
      have := World.block_lt_of_cell? _ _ (hx 0 (by omega)).1
      rwa [block_add] at this
    · rw [hlen] at hk
      rw [(hx k (by omega)).1, (hLf k hk).1]
      simp
    · have h1 := hw (((List.map D (List.range len)).length + (List.map (fun j => D (len + j)) (List.range (m - len))).length) * Try.prog.bytesOf 9) (by simp [DataW.weights, Try.underlying26])
      rw [bytes9] at h1
      simp at h1
      rw [hlen]
      omega
    · obtain ⟨i, hi, rfl⟩ := List.mem_map.1 hs
      rw [List.mem_range] at hi
      refine hw _ ?_
      simp only [DataW.weights, Try.underlying26, List.mem_cons, List.mem_append]
      exact .inr (.inl (weightsAll_mem (List.mem_map.2 ⟨i, List.mem_range.2 hi, rfl⟩) (hLf i hi).2))

/-- arguments that are only read, a plain result -/
theorem post_read {H : Type} {enc : TypeId × Value → H} {P : Program} {f : Func} {s : ChangeSpec} {W W' : World} {args : Array Value} {v : Value} {ds gs : List (DataW H)} {before pa pv : List MemPlace}
    (hW : DataW.Whole enc P f.params.toList s.vars false W args.toList ds gs before)
    (hres : ∀ (b : Nat) (sp : Nat → Bool) (hd : Bool), DataW.TrodAll enc P W' b sp hd f.resultTypes.toList (v.resultList f.resultTypes.size) (s.fn H (ds ++ gs)).results [])
    (hargs : DataW.TrodAll enc P W' 0 (fun b => decide (b < W.heap.size)) true f.params.toList args.toList (s.fn H (ds ++ gs)).args pa)
    (hvars : DataW.TrodVars enc P W' (fun b => decide (b < W.heap.size)) s.vars (s.fn H (ds ++ gs)).vars pv)
    (hps : before = pa ++ pv) (hb : Below W.heap.size W W') : s.post enc P f false true false false W args v W' := by
  refine ⟨ds, gs, before, [], pa, pv, hW, hres _ _ _, hargs, hvars, World.keptBut_mono (fun p hp => ⟨hp, ?_⟩) (hb.frame (· ∈ before)), fun h => by cases h⟩
  rw [hps, List.mem_append] at hp
  exact .inr hp
end Go.Proofs.Ytnohnkhhkeikoaa
