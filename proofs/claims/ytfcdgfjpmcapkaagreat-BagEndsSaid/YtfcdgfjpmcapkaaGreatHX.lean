/- Walk of Items: a copy of the row, sorted by the library. -/
import Derived.Test.YtfcdgfjpmcapkaaGreatSG
import Derived.Test.YtfcdgfjpmcapkaaGreatHI
import Derived.Shelf.SlSortCmp.WholeK
import Derived.Shelf.SlSortCmp.NoneTotal
import Derived.Shelf.SlicesG.Cmp
import Derived.Shelf.Lay
import Derived.Ground.SlsfProg
import Derived.Ground.SlgcProg
import Derived.Ground.NamesProg
namespace Go.Proofs.YtfcdgfjpmcapkaaGreat
open Go.ChangeShapes Go.WideShapes Go.ChangeAt Go.RowKit Go.Shelf Go.Lib Go.Sort
set_option linter.unusedVariables false


set_option maxHeartbeats 1000000 in
theorem compare_grow (x y : It) (w : World) : Calls Tryz.prog 73 #[.agg #[.int .i64 x.1, .int .i64 x.2], .agg #[.int .i64 y.1, .int .i64 y.2]] w fun e w' => e = .returned (.int .i64 (cmpV x y)) ∧ ∃ q os', w' = Sort.grow (w.drewN q) os' := by
  rw [cmpV_or']
  obtain ⟨x1, x2⟩ := x
  obtain ⟨y1, y2⟩ := y
  go_enter Tryz.func73, Tryz.ntmps73
  go_wp2_with fail
  obtain ⟨o1, ho1⟩ : ∃ o1 : Obj, o1 = .cells #[.int .i64 x1, .int .i64 x2] 74 := ⟨_, rfl⟩
  have a1 : ((w.alloc (.cells #[.int .i64 x1, .int .i64 x2] 74)).alloc (.cells #[.int .i64 y1, .int .i64 y2] 74)).heap[w.heap.size]? = some (.cells #[.int .i64 x1, .int .i64 x2] 74 (0, 0)) := (Below.heap_alloc _ _ _ (by simp)).trans (heap_alloc_new w _)
  have a2 : ((w.alloc (.cells #[.int .i64 x1, .int .i64 x2] 74)).alloc (.cells #[.int .i64 y1, .int .i64 y2] 74)).heap[w.heap.size + 1]? = some (.cells #[.int .i64 y1, .int .i64 y2] 74 (0, 0)) := by have h := heap_alloc_new (w.alloc (.cells #[.int .i64 x1, .int .i64 x2] 74)) (.cells #[.int .i64 y1, .int .i64 y2] 74); rw [World.size_alloc] at h; exact h
  have q1 := cell_of_row _ _ 0 _ 74 (0, 0) a1
  have q2 := cell_of_row _ _ 1 _ 74 (0, 0) a1
  have q3 := cell_of_row _ _ 0 _ 74 (0, 0) a2
  have q4 := cell_of_row _ _ 1 _ 74 (0, 0) a2
  have hgw : ∃ os', (w.alloc (.cells #[.int .i64 x1, .int .i64 x2] 74)).alloc (.cells #[.int .i64 y1, .int .i64 y2] 74) = Sort.grow w os' := ⟨_, by rw [alloc_eq_grow, alloc_eq_grow, grow_grow]⟩
  clear a1 a2
  have HGW := Lib.hid hgw
  clear hgw
  generalize (w.alloc (.cells #[.int .i64 x1, .int .i64 x2] 74)).alloc (.cells #[.int .i64 y1, .int .i64 y2] 74) = w0 at *
  generalize w.heap.size + 1 = B at *
  generalize hA : w.heap.size = A at q1 q2 ⊢
  clear hA
  go_region_held3 (fun w' => w'.cell? ⟨A, 0, none⟩ = some (.int .i64 x1) ∧ w'.cell? ⟨A, 1, none⟩ = some (.int .i64 x2) ∧ w'.cell? ⟨B, 0, none⟩ = some (.int .i64 y1) ∧ w'.cell? ⟨B, 1, none⟩ = some (.int .i64 y2)) (first | exact ⟨q1, q2, q3, q4⟩ | (go_keep; done)) (first | (go_at_call 85; refine (cmp1_any _ _ _).mono ?_; rintro e w' ⟨rfl, rfl⟩) | (go_at_call 84; refine (or_new _ _ _ _ rfl).mono ?_; rintro e w' ⟨rfl, rfl⟩))
  go_wp2_with fail
  go_ret
  obtain ⟨os', hos⟩ := HGW.out
  refine ⟨rfl, 1, os' ++ #[.cells #[.int .i64 (cmp1 x1 y1), .int .i64 (cmp1 x2 y2)] 3], ?_⟩
  rw [hos, alloc_eq_grow, grow_grow]
  rfl

theorem cmp_lays (blk off size : Nat) (w : World) : CmpLays Tryz.prog 73 #[] enc 2 cmpV blk off size w := fun _ _ _ _ x y => compare_grow x y _

theorem lt_eq (x y : It) : ltOf cmpV x y = !le y x := cmpV_neg x y
theorem swo : SWO (ltOf cmpV) where
  irrefl x := by rw [lt_eq, le_rfl]; rfl
  trans x y z h1 h2 := by
    rw [lt_eq] at *
    simp only [Bool.not_eq_true'] at *
    rw [le_false] at *
    omega
  ntrans x y z h1 h2 := by
    rw [lt_eq] at *
    simp only [Bool.not_eq_false'] at *
    exact le_trans h2 h1
theorem parts (x y : It) (h1 : ltOf cmpV x y = false) (h2 : ltOf cmpV y x = false) : x = y := by
  rw [lt_eq] at h1 h2
  simp only [Bool.not_eq_false'] at h1 h2
  exact le_anti h2 h1
theorem merge_srt (L : List It) : (L.mergeSort fun x y => !(ltOf cmpV) y x) = srt L := by
  have e : (fun x y => !(ltOf cmpV) y x) = le := by
    funext x y
    rw [lt_eq, Bool.not_not]
  rw [e]
  have h1 : Srt (L.mergeSort le) := List.pairwise_mergeSort (le := le) (fun a b c h k => le_trans h k) (fun a b => by rcases le_total a b with h | h <;> simp [h]) L
  exact h1.eq (srt_srt L) ((List.mergeSort_perm L le).trans (srt_perm L).symm)

/-! ### the sort's words of a row, this text's words of one -/
theorem flatK_flat (L : List It) : flatK enc 2 L.toArray = (flat L).toArray := by
  apply Array.ext
  · simp [flat_len]
  · intro i h1 h2
    have hi : i < L.length * 2 := by simpa using h1
    have hk : i / 2 < L.length := by omega
    obtain ⟨f1, f2⟩ := flat_at L (i / 2) hk
    have hg := get_flatK enc 2 L.toArray i (by simpa using hi)
    rw [getElem!_pos _ i h1] at hg
    rw [hg, getElem!_pos _ (i / 2) (by simpa using hk)]
    simp only [List.getElem_toArray]
    have hm : i % 2 = 0 ∨ i % 2 = 1 := by omega
    rcases hm with hm | hm
    · have e : i / 2 * 2 = i := by omega
      rw [e] at f1
      have := (List.getElem?_eq_some_iff.1 f1).2
      rw [this, hm]
      rfl
    · have e : i / 2 * 2 + 1 = i := by omega
      rw [e] at f2
      have := (List.getElem?_eq_some_iff.1 f2).2
      rw [this, hm]
      rfl

theorem holds_row {w : World} {g n : Nat} {cur : Array Value} {e : TypeId} {L : List It} (hb : w.heap[g]? = some (.cells cur e (0, 0))) (hn : n = L.length) (ht : cur.toList.take (n * 2) = flat L) : HoldsK enc 2 w g 0 L.toArray := by
  unfold HoldsK
  rw [flatK_flat]
  intro j hj
  have hj' : j < (flat L).length := by simpa using hj
  have hj2 : j < n * 2 := by rw [flat_len] at hj'; omega
  refine ⟨?_, by simp [World.frozen?, hb]⟩
  have h1 : (cur.toList.take (n * 2))[j]? = (flat L)[j]? := by rw [ht]
  rw [List.getElem?_take_of_lt hj2] at h1
  simp only [World.cell?, hb, Nat.zero_add]
  simp only [Option.isSome_none, Bool.false_eq_true, if_false]
  rw [← Array.getElem?_toList, h1]
  simp [hj']

theorem heap_sort {w : World} {g n : Nat} {os : Array Obj} {cur : Array Value} {e : TypeId} {fr : Nat × Nat} (d : Array It) (hb : w.heap[g]? = some (.cells cur e fr)) :
    (sortWorldK enc 2 w g 0 n d os).heap[g]? = some (.cells (putCells id 0 (flatK enc 2 d) cur) e fr) := by
  have hg : g < w.heap.size := (Array.getElem?_eq_some_iff.1 hb).1
  unfold sortWorldK putRowK
  rw [heap_grow_old _ _ (by simpa using hg)]
  simp [putRow, mapBlock, Sort.ahead, Array.getElem?_modify, hb, onCells]
theorem grown_sort {w : World} {g n : Nat} {os : Array Obj} (d : Array It) : w.grownBy (sortWorldK enc 2 w g 0 n d os) (some g) := by
  refine ⟨rfl, rfl, rfl, by simp [sortWorldK, putRowK], fun k hk hne => ?_⟩
  unfold sortWorldK putRowK
  rw [heap_grow_old _ _ (by simpa using hk)]
  have : g ≠ k := fun e => hne (by rw [e])
  simp [putRow, mapBlock, Sort.ahead, Array.getElem?_modify, this]
theorem take_put (cur : Array Value) (F : List Value) (h : F.length ≤ cur.size) : (putCells id 0 F.toArray cur).toList.take F.length = F := by
  apply List.ext_getElem?
  intro j
  by_cases hj : j < F.length
  · rw [List.getElem?_take_of_lt hj, Array.getElem?_toList]
    simp [putCells, hj, show j < cur.size by omega]
  · rw [List.getElem?_take_eq_none (by omega), List.getElem?_eq_none (by omega)]

def ItemsR (L : List It) (w : World) (e : Ending) (w' : World) : Prop := ∃ v, e = .returned v ∧ w'.ownsRow w.heap.size 74 2 v L.length (flat (srt L)) ∧ Below w.heap.size w w'

/-- the library's sort at a row of its own -/
theorem sort_own {w : World} {base n c : Nat} {v : Value} {L : List It} (h : w.ownsRow base 74 2 v L.length (flat L)) (hl : L.length ≤ 1000000) :
    Calls Tryz.prog 72 #[v, .func (.func 73) #[] #[]] w fun e w' => e = .returned (.tuple #[]) ∧ w'.ownsRow base 74 2 v L.length (flat (srt L)) ∧ Keep (fun k => v.ownBlock ≠ some k) w w' := by
  rcases h.2 with ⟨rfl, h0⟩ | ⟨g, cap, cur, rfl, hb, hg, h1, h2, h3, h4⟩
  · have e0 : L = [] := List.eq_nil_of_length_eq_zero h0
    subst e0
    exact (AnyF.slices_SortFunc_none Tryz.sortIt none 0 (.func (.func 73) #[] #[]) w).mono fun e w' ⟨he, hw⟩ => ⟨he, by rw [hw]; exact h, by rw [hw]; exact Keep.refl _ _⟩
  · have eg : ∀ args w, (callFunc 73 args).run Tryz.prog w = .ok (.enter 73 args) w := enters_of Tryz.func73 (by kernel_rfl) rfl
    have hH := holds_row hg rfl h4
    have hcon := AnyQ.slices_SortFunc_total Tryz.sortIt 2 Tryz.isAgg74 Tryz.sizeOf74 enc (fun _ => rfl) (fun x v hv => by simp [enc] at hv; rcases hv with rfl | rfl <;> rfl) cmpV swo 73 #[] g 0 cap L.toArray w eg (cmp_lays g 0 L.toArray.size w) hH (Array.getElem?_eq_some_iff.1 hg).1 (by simp; omega) parts
    simp only [List.size_toArray, merge_srt] at hcon
    refine hcon.mono ?_
    rintro e w' ⟨rfl, n', os, rfl⟩
    refine ⟨rfl, ⟨by rw [flat_len, srt_len], .inr ⟨g, cap, _, rfl, hb, heap_sort _ hg, h1, h2, by simp [putCells, h3], ?_⟩⟩, Keep.of_grown (grown_sort _) fun k _ hk e => hk e.symm⟩
    rw [flatK_flat]
    have hle : (flat (srt L)).length ≤ cur.size := by rw [flat_len, srt_len]; omega
    have := take_put cur (flat (srt L)) hle
    rw [flat_len, srt_len] at this
    exact this
end Go.Proofs.YtfcdgfjpmcapkaaGreat
