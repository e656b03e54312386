/- A copy of a row of rows; the library's sort at it. -/
import Derived.Test.YtadjgjbkjhallaaDoorAB
import Derived.Test.YtadjgjbkjhallaaDoorSG
import Derived.Shelf.SlSortCmp.Whole1
import Derived.Shelf.SlSortCmp.NoneTotal
import Derived.Maps.AppendAt
import Derived.Lib.SliceRun
namespace Go.Proofs.YtadjgjbkjhallaaDoor
open Go.ChangeShapes Go.WideShapes Go.ChangeAt Go.RowKit Go.Deep Go.Shelf Go.Sort
set_option linter.unusedVariables false

/-- the cells of a row of rows -/
def RowsOf (N : Nat) (w : World) (rvs : List Value) (ls : List (List Vt)) : Prop :=
  rvs.length = ls.length ∧ ∀ k (h : k < ls.length), ∃ rv, rvs[k]? = some rv ∧ VR w rv ls[k] ∧ (0 < ls[k].length → ∀ g, rv.ownBlock = some g → g < N)
theorem RowsOf.below {N : Nat} {w w' : World} {rvs : List Value} {ls : List (List Vt)} (h : RowsOf N w rvs ls) (hb : Below N w w') : RowsOf N w' rvs ls := by
  refine ⟨h.1, fun k hk => ?_⟩
  obtain ⟨rv, h1, h2, h3⟩ := h.2 k hk
  exact ⟨rv, h1, h2.keep (Keep.of_belowN hb) (fun h0 g e _ => h3 h0 g e), h3⟩
theorem RowsOf.mono {N M : Nat} {w : World} {rvs : List Value} {ls : List (List Vt)} (h : RowsOf N w rvs ls) (hb : N ≤ M) : RowsOf M w rvs ls := by
  refine ⟨h.1, fun k hk => ?_⟩
  obtain ⟨rv, h1, h2, h3⟩ := h.2 k hk
  exact ⟨rv, h1, h2, fun h0 g e => Nat.lt_of_lt_of_le (h3 h0 g e) hb⟩
theorem RowsOf.one {N : Nat} {w : World} {rvs : List Value} {ls : List (List Vt)} (h : RowsOf N w rvs ls) : ∀ u ∈ rvs, u.oneCell' = true := by
  intro u hu
  obtain ⟨k, hk, rfl⟩ := List.getElem_of_mem hu
  obtain ⟨rv, h1, ⟨A, c, rfl, _⟩, _⟩ := h.2 k (by rw [← h.1]; exact hk)
  rw [List.getElem?_eq_getElem hk] at h1
  injection h1 with h1
  rw [h1]; rfl
theorem RRV.cells {N : Nat} {w : World} {A : Option Addr} {n c : Nat} {ls : List (List Vt)} (h : RRV N w (.slice A n c) ls) :
    ∃ rvs, RowsOf N w rvs ls ∧ n = ls.length ∧ (0 < n → ∃ ad, A = some ad ∧ ad.block < N ∧ ∀ j u, rvs[j]? = some u → w.cell? (ad.add j) = some u) := by
  obtain ⟨A', c', e, h⟩ := h
  injection e with e1 e2 e3
  subst e1 e2 e3
  by_cases h0 : 0 < ls.length
  · obtain ⟨ad, hA, hb, hc⟩ := h h0
    obtain ⟨f, hf⟩ := choose_lt (α := Value) (p := fun i rv => w.cell? (ad.add i) = some rv ∧ ∀ h : i < ls.length, VR w rv ls[i] ∧ (0 < ls[i].length → ∀ g, rv.ownBlock = some g → g < N)) (n := ls.length)
      (fun i hi => by obtain ⟨rv, a, b, c⟩ := hc i hi; exact ⟨rv, a, fun _ => ⟨b, c⟩⟩)
    refine ⟨(List.range ls.length).map f, ⟨by simp, fun k hk => ⟨f k, by simp [hk], ((hf k hk).2 hk).1, ((hf k hk).2 hk).2⟩⟩, rfl, fun _ => ⟨ad, hA, hb, fun j u hj => ?_⟩⟩
    by_cases hjl : j < ls.length
    · simp [hjl] at hj
      rw [← hj]
      exact (hf j hjl).1
    · simp [hjl] at hj
  · have : ls = [] := List.eq_nil_of_length_eq_zero (by omega)
    subst this
    exact ⟨[], ⟨rfl, fun k hk => absurd hk (by simp)⟩, rfl, fun h => absurd h (by simp)⟩
theorem RRV.of_own {N base n : Nat} {w : World} {v : Value} {rvs : List Value} {ls : List (List Vt)} (h : w.ownsRow base 38 1 v n rvs) (hr : RowsOf N w rvs ls) (hN : N ≤ w.heap.size) : RRV w.heap.size w v ls := by
  have hn : n = ls.length := by have := h.1; have := hr.1; omega
  subst hn
  rcases h.2 with ⟨rfl, hx⟩ | ⟨g, cap, cur, rfl, _, hh, _⟩
  · have : ls = [] := List.eq_nil_of_length_eq_zero hx
    subst this
    exact ⟨none, 0, rfl, fun h => absurd h (by simp)⟩
  · refine ⟨_, cap, rfl, fun _ => ⟨_, rfl, (Array.getElem?_eq_some_iff.1 hh).1, fun k hk => ?_⟩⟩
    obtain ⟨rv, h1, h2, h3⟩ := hr.2 k hk
    exact ⟨rv, h.cells (g := g) rfl _ _ h1, h2, fun h0 g e => Nat.lt_of_lt_of_le (h3 h0 g e) hN⟩

theorem info38 : ∃ i, Tryd.prog.info? 38 = some i := by
  have : (Tryd.prog.info? 38).isSome = true := by kernel_rfl
  exact Option.isSome_iff_exists.1 this
theorem parts38 : (Tryd.prog.info? 38).map (fun i => (i.zero, i.size, i.bytes)) = some (some (.slice none 0 0), 1, 24) := by kernel_rfl
theorem info_parts38 : ∃ i, Tryd.prog.info? 38 = some i ∧ i.zero = some (.slice none 0 0) ∧ i.size = 1 ∧ i.bytes = 24 := by
  have h := parts38
  cases hq : Tryd.prog.info? 38 with
  | none => rw [hq] at h; cases h
  | some i =>
    rw [hq] at h
    simp only [Option.map_some, Option.some.injEq, Prod.mk.injEq] at h
    exact ⟨i, rfl, h.1, h.2.1, h.2.2⟩

/-! ### sorted -/
structure El (N : Nat) (w : World) where
  v : Value
  l : List Vt
  vr : VR w v l
  len : l.length ≤ 1000000
  low : 0 < l.length → ∀ g, v.ownBlock = some g → g < N
instance (N : Nat) (w : World) : Inhabited (El N w) := ⟨⟨.slice none 0 0, [], ⟨none, 0, rfl, fun h => absurd h (by simp)⟩, by simp, fun h => absurd h (by simp)⟩⟩
def cmpE {N : Nat} {w : World} (x y : El N w) : Int := cmpR x.l y.l
theorem swoE (N : Nat) (w : World) : SWO (ltOf (cmpE (N := N) (w := w))) where
  irrefl x := by unfold ltOf cmpE; rw [three_rows.rfl']; rfl
  trans x y z h1 h2 := by
    unfold ltOf cmpE at *
    simp only [decide_eq_true_iff] at *
    have a := three_rows.rng x.l y.l
    have b := three_rows.rng y.l z.l
    rw [three_rows.lt_trans (b := y.l) (by omega) (by omega)]
    omega
  ntrans x y z h1 h2 := by
    unfold ltOf cmpE at *
    simp only [decide_eq_false_iff_not] at *
    have a := three_rows.neg x.l y.l
    have b := three_rows.neg y.l z.l
    have c := three_rows.neg x.l z.l
    have := three_rows.trans z.l y.l x.l (by omega) (by omega)
    omega

theorem grownE {N : Nat} {w0 : World} {w : World} {g n : Nat} {os : Array Obj} (d : Array (El N w0)) : w.grownBy (sortWorld El.v w g 0 n d os) (some g) := by
  refine ⟨rfl, rfl, rfl, by simp [sortWorld, putRow, mapBlock], fun k hk hne => ?_⟩
  unfold sortWorld
  rw [heap_grow_old _ _ (by simpa [putRow, mapBlock] using hk)]
  have : g ≠ k := fun e => hne (by rw [e])
  simp [putRow, mapBlock, Sort.ahead, Array.getElem?_modify, this]
theorem heapE {N : Nat} {w0 : World} {w : World} {g n : Nat} {os : Array Obj} {cur : Array Value} {e : TypeId} {fr : Nat × Nat} (d : Array (El N w0)) (hb : w.heap[g]? = some (.cells cur e fr)) :
    (sortWorld El.v w g 0 n d os).heap[g]? = some (.cells (putCells El.v 0 d cur) e fr) := by
  have hg : g < w.heap.size := (Array.getElem?_eq_some_iff.1 hb).1
  unfold sortWorld
  rw [heap_grow_old _ _ (by simpa [putRow, mapBlock] using hg)]
  simp [putRow, mapBlock, Sort.ahead, Array.getElem?_modify, hb, onCells]
theorem cmp_laysE {N : Nat} {w : World} {g : Nat} (hN : N ≤ g) (hg : g < w.heap.size) (size : Nat) : CmpLays1 Tryd.prog 21 #[] (El.v (N := N) (w := w)) cmpE g 0 size w := by
  intro m os dk hs x y
  have hk := Keep.of_grown (p := fun k => k < N) (grownE (w := w) (g := g) (n := m) (os := os) dk) (fun k _ h e => by injection e with e; omega)
  exact rows_gr (x.vr.keep hk fun h g e _ => x.low h g e) (y.vr.keep hk fun h g e _ => y.low h g e) (Nat.le_trans x.len (by omega)) (Nat.le_trans y.len (by omega))
theorem takeE {N : Nat} {w0 : World} (cur : Array Value) (d : Array (El N w0)) (h : d.size ≤ cur.size) : (putCells El.v 0 d cur).toList.take d.size = d.toList.map El.v := by
  apply List.ext_getElem?
  intro j
  by_cases hj : j < d.size
  · rw [List.getElem?_take_of_lt hj, Array.getElem?_toList]
    simp [putCells, hj, show j < cur.size by omega]
  · rw [List.getElem?_take_eq_none (by omega), List.getElem?_eq_none (by simp; omega)]

def SortR (base : Nat) (v : Value) (N : Nat) (ls : List (List Vt)) (w : World) (e : Ending) (w' : World) : Prop :=
  e = .returned (.tuple #[]) ∧ ∃ rvs P, w'.ownsRow base 38 1 v ls.length rvs ∧ RowsOf N w' rvs P ∧ P.Perm ls ∧ (P.Pairwise fun x y => cmpR x y ≤ 0) ∧ w.grownBy w' v.ownBlock

theorem sort_rows {w : World} {base N : Nat} {v : Value} {rvs : List Value} {ls : List (List Vt)} (h : w.ownsRow base 38 1 v ls.length rvs) (hr : RowsOf N w rvs ls) (hN : N ≤ base) (hl : ls.length ≤ 1000000) (hls : ∀ l ∈ ls, l.length ≤ 1000000) :
    Calls Tryd.prog 38 #[v, .func (.func 21) #[] #[]] w (SortR base v N ls w) := by
  rcases h.2 with ⟨rfl, h0⟩ | ⟨g, cap, cur, rfl, hb, hg, h1, h2, h3, h4⟩
  · have e0 : ls = [] := List.eq_nil_of_length_eq_zero h0
    subst e0
    refine (AnyF.slices_SortFunc_none Tryd.sortN none 0 (.func (.func 21) #[] #[]) w).mono fun e w' ⟨he, hw⟩ => ⟨he, rvs, [], ?_⟩
    subst hw
    exact ⟨h, hr, List.Perm.refl _, List.Pairwise.nil, ⟨rfl, rfl, rfl, Nat.le_refl _, fun _ _ _ => rfl⟩⟩
  · have eg : ∀ args w, (callFunc 21 args).run Tryd.prog w = .ok (.enter 21 args) w := enters_of Tryd.func21 (by kernel_rfl) rfl
    have hgs : g < w.heap.size := (Array.getElem?_eq_some_iff.1 hg).1
    obtain ⟨f, hf⟩ := choose_lt (α := El N w) (p := fun i y => rvs[i]? = some y.v ∧ ls[i]? = some y.l) (n := ls.length) (fun i hi => by
      obtain ⟨rv, r1, r2, r3⟩ := hr.2 i hi
      exact ⟨⟨rv, ls[i], r2, hls _ (List.getElem_mem _), r3⟩, r1, List.getElem?_eq_getElem hi⟩)
    obtain ⟨d, hd⟩ : ∃ d : Array (El N w), d = ((List.range ls.length).map f).toArray := ⟨_, rfl⟩
    have hds : d.size = ls.length := by simp [hd]
    have hdv : d.toList.map El.v = rvs := by
      apply List.ext_getElem?
      intro j
      by_cases hj : j < ls.length
      · rw [(hf j hj).1]; simp [hd, hj]
      · rw [List.getElem?_eq_none (by simp [hd]; omega), List.getElem?_eq_none (by rw [hr.1]; omega)]
    have hdl : d.toList.map El.l = ls := by
      apply List.ext_getElem?
      intro j
      by_cases hj : j < ls.length
      · rw [(hf j hj).2]; simp [hd, hj]
      · rw [List.getElem?_eq_none (by simp [hd]; omega), List.getElem?_eq_none (by omega)]
    have hH : Holds El.v w g 0 d := by
      intro j hj
      refine ⟨?_, by simp [World.frozen?, hg]⟩
      have e1 : rvs[j]? = some d[j]!.v := by
        rw [← hdv, List.getElem?_map, Array.getElem?_toList, Array.getElem?_eq_getElem hj]
        rw [getElem!_pos d j hj]; rfl
      have := h.cells (g := g) rfl _ _ e1
      rw [← this]
      congr 1
      unfold Addr.add
      split
      · rename_i hj0; subst hj0; rfl
      · rfl
    have hcon := Any.slices_SortFunc Tryd.sortR El.v (fun x => by obtain ⟨A, c, e, _⟩ := x.vr; rw [e]; rfl) cmpE (swoE N w) 21 #[] g 0 cap d w eg (cmp_laysE (by omega) hgs d.size) hH hgs (by omega)
    rw [hds] at hcon
    refine hcon.mono ?_
    rintro e w' ⟨rfl, d', n', os, hp, hs, rfl⟩
    have hds' : d'.size = ls.length := by rw [hp.1, hds]
    have hperm : d'.toList.Perm d.toList := by
      have h := hp.2.2
      rw [← hds] at h
      have e1 : d.extract 0 d.size = d := by simp
      have e2 : d'.extract 0 d.size = d' := by rw [← hp.1]; simp
      rwa [e1, e2] at h
    have hgr := grownE (w := w) (g := g) (n := n') (os := os) d'
    have hk := Keep.of_grown (p := fun k => k < N) hgr (fun k _ h e => by injection e with e; omega)
    refine ⟨rfl, d'.toList.map El.v, d'.toList.map El.l, ⟨by simp [hds'], .inr ⟨g, cap, _, rfl, hb, heapE d' hg, h1, h2, by simp [putCells, h3], ?_⟩⟩, ⟨by simp, fun k hk' => ?_⟩, ?_, ?_, hgr⟩
    · have := takeE cur d' (by omega)
      rw [hds'] at this
      simpa using this
    · have hk2 : k < d'.size := by simpa using hk'
      refine ⟨d'[k].v, by simp [hk2], ?_, ?_⟩
      · simp only [List.getElem_map, Array.getElem_toList]
        exact d'[k].vr.keep hk fun h g e _ => d'[k].low h g e
      · simp only [List.getElem_map, Array.getElem_toList]
        exact d'[k].low
    · rw [← hdl]
      exact hperm.map _
    · rw [List.pairwise_iff_getElem]
      intro i j hi hj hij
      have hi2 : i < d'.size := by simpa using hi
      have hj2 : j < d'.size := by simpa using hj
      have := hs i j (Nat.zero_le _) hij (by omega)
      rw [getElem!_pos d' i hi2, getElem!_pos d' j hj2] at this
      simp only [List.getElem_map, Array.getElem_toList]
      unfold ltOf cmpE at this
      simp only [decide_eq_false_iff_not] at this
      have := three_rows.neg d'[j].l d'[i].l
      omega

/-! ### a copy -/
def CloneR (N : Nat) (ls : List (List Vt)) (w : World) (e : Ending) (w' : World) : Prop := ∃ v, e = .returned v ∧ ∃ rvs, w'.ownsRow w.heap.size 38 1 v ls.length rvs ∧ RowsOf N w' rvs ls ∧ Below w.heap.size w w'

set_option maxHeartbeats 1000000 in
set_option maxRecDepth 100000 in
theorem cloneR_any {N : Nat} {w : World} {v : Value} {ls : List (List Vt)} (h : RRV N w v ls) (hN : N ≤ w.heap.size) (hl : ls.length ≤ 1000000) : Calls Tryd.prog 37 #[v] w (CloneR N ls w) := by
  obtain ⟨i0, hi, hz0, hz1, hz3⟩ := info_parts38
  obtain ⟨A, c, rfl⟩ := h.form
  obtain ⟨rvs, hr, _, hc⟩ := h.cells
  have HR := Lib.hid hr
  obtain ⟨n, hn⟩ : ∃ n, ls.length = n := ⟨_, rfl⟩
  have HN := Lib.hid hn
  unfold CloneR
  rw [hn] at hc hl ⊢
  have hrn : rvs.length = n := by rw [← hn]; exact hr.1
  have HRN := Lib.hid hrn
  clear hn hr h hrn
  rcases A with _ | ad
  · have h0 : n = 0 := by
      rcases Nat.eq_zero_or_pos n with h | h
      · exact h
      · obtain ⟨ad, e, _⟩ := hc h; cases e
    subst h0
    have hnil := fun W => Lib.run_eql_slice_nil (P := Tryd.prog) W 43 38 none 0 c 0 0 Tryd.underlying43
    clear hc
    go_enter Tryd.func37, Tryd.ntmps37
    go_wp2
    go_ret
    refine ⟨_, rfl, rvs, ?_, HR.out, Below.refl _ _⟩
    have := List.eq_nil_of_length_eq_zero HRN.out
    subst this
    exact World.ownsRow_nil _ _ _ _
  · have hcell : ∀ j u, rvs[j]? = some u → w.cell? (ad.add j) = some u := by
      intro j u hj
      have hjn : j < n := by rw [← HRN.out]; exact (List.getElem?_eq_some_iff.1 hj).1
      obtain ⟨ad', e, _, hc⟩ := hc (by omega)
      injection e with e
      rw [e]
      exact hc j u hj
    have HC := Lib.hid hcell
    have hnil := fun W => Lib.run_eql_slice_nil (P := Tryd.prog) W 43 38 (some ad) n c 0 0 Tryd.underlying43
    clear hc hcell
    have hb1 : Below w.heap.size w (w.alloc (.cells #[] 38)) := (Below.refl _ w).alloc (Nat.le_refl _) _
    have hown : (w.alloc (.cells #[] 38)).ownsRow w.heap.size 38 1 (.slice (some ⟨w.heap.size, 0, none⟩) 0 0) 0 [] := ⟨rfl, .inr ⟨w.heap.size, 0, #[], rfl, Nat.le_refl _, heap_alloc_new w _, Nat.le_refl _, Nat.zero_le _, rfl, rfl⟩⟩
    have hcell1 : ∀ j u, rvs[j]? = some u → (w.alloc (.cells #[] 38)).cell? (ad.add j) = some u := fun j u hj => (hb1.cell (World.block_lt_of_cell? _ _ (HC.out j u hj))).trans (HC.out j u hj)
    have h1 := HR.out.one
    have hl1 : rvs.length = n * 1 := by rw [HRN.out]; omega
    have hsz1 : (w.alloc (.cells #[] 38)).heap.size = w.heap.size + 1 := by simp
    go_enter Tryd.func37, Tryd.ntmps37
    go_upto_region 3 with (fail)
    go_wp2_with (at_builtin; refine wpList_append_own_at _ rfl _ _ 43 rfl w.heap.size 38 i0 _ 1 24 Tryd.underlying43 hi hz0 hz1 hz3 rfl (by decide) _ 0 [] rfl hown ad n c rvs rfl hl1 hcell1 h1 (by unfold maxLen; omega) (by omega) (by omega) ?_; intro v' w' g1 g2 g3 g4)
    have hb2 : Below w.heap.size w w' := hb1.grown g2 (by omega) (fun k hk => by have h : some w.heap.size = some k := hk; injection h with h; exact Nat.le_of_eq h)
    rw [Nat.zero_add, List.nil_append] at g1
    have HF := Lib.hid (And.intro g1 (And.intro (HR.out.below (hb2.mono hN)) hb2))
    clear g1 g2 g3 g4 hb1 hb2 hown hcell1 h1 hl1 hsz1
    go_wp2
    go_ret
    exact ⟨_, rfl, rvs, HF.out.1, HF.out.2.1, HF.out.2.2⟩
end Go.Proofs.YtadjgjbkjhallaaDoor
