/- The index is written: a row opened. -/
import Derived.Test.YtfcdgfjpmcapkaaGreatBE
import Derived.Test.YtfcdgfjpmcapkaaGreatBS
namespace Go.Proofs.YtfcdgfjpmcapkaaGreat
open Go.ChangeShapes Go.WideShapes Go.ChangeAt Go.RowKit Go.Maps
set_option linter.unusedVariables false

variable {w : World} {b mr mp : Nat} {Ks : List (ByteArray × Nat)} {E : List En} {n hb : Nat}

theorem off_rows {Ks : List (ByteArray × Nat)} {k : ByteArray} (h : ∀ p ∈ Ks, p.1 ≠ k) : off (key k) (Ks.map rowV) = Ks.map rowV := by
  unfold off
  rw [List.filter_eq_self]
  intro p hp
  obtain ⟨q, hq, rfl⟩ := List.mem_map.1 hp
  simp only [rowV, same_key]
  simp [h q hq]

theorem new2_block (w : World) (a : Obj) (v : Array Value) (t : TypeId) : ((w.alloc a).alloc (.cells v t)).heap[w.heap.size + 1]? = some (.cells v t (0, 0)) := by
  have h := heap_alloc_new (w.alloc a) (.cells v t)
  rw [World.size_alloc] at h
  exact h
theorem frozen_of_row {w : World} {g : Nat} {cs : Array Value} {t : TypeId} (h : w.heap[g]? = some (.cells cs t (0, 0))) (k : Nat) : w.frozen? ⟨g, k, none⟩ = false := by simp [World.frozen?, h]
theorem local2 {w w3 : World} {a : Obj} {u v : Value} {t : TypeId} (h : Below ((w.alloc a).alloc (.cells #[u, v] t)).heap.size ((w.alloc a).alloc (.cells #[u, v] t)) w3) :
    w3.heap[w.heap.size + 1]? = some (.cells #[u, v] t (0, 0)) ∧ w.heap.size + 1 < w3.heap.size ∧ w3.cell? ⟨w.heap.size + 1, 0, none⟩ = some u ∧ w3.cell? ⟨w.heap.size + 1, 1, none⟩ = some v ∧ w3.frozen? ⟨w.heap.size + 1, 0, none⟩ = false ∧ w3.frozen? ⟨w.heap.size + 1, 1, none⟩ = false := by
  have x := (h.block (w.heap.size + 1) (by simp)).trans (new2_block w a #[u, v] t)
  exact ⟨x, (Array.getElem?_eq_some_iff.1 x).1, cell_of_row _ _ 0 _ t (0, 0) x, cell_of_row _ _ 1 _ t (0, 0) x, frozen_of_row x 0, frozen_of_row x 1⟩
theorem wp_gen {P : Program} {c : Code} {Q : Exit → Act → World → Prop} {a : Act} {w : World} (R : World → Prop) (h : R w) (k : ∀ W, R W → c.wp P Q a W) : c.wp P Q a w := k w h
theorem Ix.opened {W w6 : World} (h : Ix W b mr mp Ks E n hb) {k : ByteArray} {c A : Nat} (hk : Keep (fun j => j ≠ mr ∧ j ≠ A) W w6) (hM : Mp w6 mr 9 (rowV (k, c) :: Ks.map rowV)) (hc : Mp w6 c 3 []) (hlt : ∀ j, IxO b mr mp Ks j → j < c ∧ j ≠ A) (hu : under E k = []) : Ix w6 b mr mp ((k, c) :: Ks) E n hb := by
  have l1 := hlt mr (.inr (.inl rfl))
  have l2 := hlt mp (.inr (.inr (.inl rfl)))
  have hbm : b ≠ mr := by
    rintro rfl
    obtain ⟨es, cl, hm⟩ := h.rows.isMap
    have := h.blk
    rw [hm] at this
    cases this
  refine ⟨(hk.block b (h.lt (.inl rfl)) ⟨hbm, (hlt b (.inl rfl)).2⟩).trans h.blk, hM, h.places.keep hk ⟨h.mm.symm, l2.2⟩, ?_, ?_, h.mm, ?_, ?_, h.wf, h.one, h.len⟩
  · intro p hp
    rcases List.mem_cons.1 hp with rfl | hp
    · simp only [hu]
      exact hc
    · exact (h.row p hp).keep hk ⟨(h.m2 p hp).1, (hlt p.2 (.inr (.inr (.inr ⟨p, hp, rfl⟩)))).2⟩
  · intro e he
    obtain ⟨p, hp, e1⟩ := h.has e he
    exact ⟨p, by simp [hp], e1⟩
  · intro p hp
    rcases List.mem_cons.1 hp with rfl | hp
    · simp only
      omega
    · exact h.m2 p hp
  · rw [List.map_cons, List.nodup_cons]
    refine ⟨fun hin => ?_, h.nod⟩
    obtain ⟨p, hp, e⟩ := List.mem_map.1 hin
    have := (hlt p.2 (.inr (.inr (.inr ⟨p, hp, rfl⟩)))).1
    simp only at e
    omega
/-- a row is opened -/
def OpenR (b mr mp : Nat) (Ks : List (ByteArray × Nat)) (E : List En) (n hb : Nat) (k : ByteArray) (w : World) (e : Ending) (w' : World) : Prop :=
  ∃ Ks' c, e = .returned (.agg #[.string k, .map (some c)]) ∧ (k, c) ∈ Ks' ∧ Ix w' b mr mp Ks' E n hb ∧ Keep (fun j => ¬ IxO b mr mp Ks j) w w' ∧ (∀ p ∈ Ks', p ∈ Ks ∨ w.heap.size ≤ p.2) ∧ (∀ p ∈ Ks, p ∈ Ks') ∧ Ks'.length ≤ Ks.length + 1

theorem open_same {k : ByteArray} {c : Nat} {w' : World} (h : Ix w b mr mp Ks E n hb) (hm : (k, c) ∈ Ks) (hB : Below w.heap.size w w') : OpenR b mr mp Ks E n hb k w (.returned (.agg #[.string k, .map (some c)])) w' :=
  ⟨Ks, c, rfl, hm, h.below hB, Keep.of_below hB, fun p hp => .inl hp, fun p hp => hp, by omega⟩

set_option maxRecDepth 100000 in
theorem open_bag (h : Ix w b mr mp Ks E n hb) (k : ByteArray) (hk : k.size ≤ 140737488355328) (hn : Ks.length ≤ 1073741824) : Calls Tryz.prog 47 #[.pointer (some ⟨b, 1, none⟩), .string k] w (OpenR b mr mp Ks E n hb k w) := by
  have H := Lib.hid h
  obtain ⟨c0, c1, c2, c3, c4, f3, f4⟩ := h.cells
  have hM : MpO w (some mr) 9 (Ks.map rowV) := h.rows
  obtain ⟨s, o, hs, hM2, hcase⟩ := h.rowOf k
  have hlb := h.lt (.inl rfl)
  have hkm : k.size ≤ maxLen := by unfold maxLen; omega
  have HM := Lib.hid hM
  have HM2 := Lib.hid hM2
  rcases hcase with ⟨rfl, hi, hu, hno⟩ | ⟨c, rfl, rfl, hm, hi⟩
  · have E0 := Lib.hid hs
    have E1 := Lib.hid hi
    have HU := Lib.hid hu
    have HNO := Lib.hid hno
    clear hs hi hu hno hM hM2 h
    have hmm := @run_makeMap Tryz.prog
    go_enter Tryz.func47, Tryz.ntmps47
    go_upto_region 4 with (first
      | (at_lookup; refine wpList_mp_look_ok rfl _ _ 58 rfl 91 law9 Tryz.underlying58 (zero91 _) (some mr) rfl (HM.out.alloc _) _ _ rfl (hkey9 k hkm) _ _ E0.out E1.out ?_)
      | (go_at_call 69; refine (textClone_any k _ hk).mono ?_; rintro e w3 ⟨rfl, hb3⟩; obtain ⟨x5, hl5, k0, k1, q0, q1⟩ := local2 hb3; have HB3 := Lib.hid hb3; have X5 := Lib.hid x5; clear hb3 x5))
    refine wp_gen (fun W => Below w.heap.size w W ∧ W.heap[w.heap.size]? = some (.cells #[.string ⟨#[]⟩, .map none] 91 (0, 0)) ∧ W.heap[w.heap.size + 1]? = some (.cells #[.string k, .map (some w3.heap.size)] 91 (0, 0)) ∧ Mp W w3.heap.size 3 []) ?_ ?_
    · have x0 : w3.heap[w.heap.size]? = some (.cells #[.string ⟨#[]⟩, .map none] 91 (0, 0)) := (HB3.out.block _ (by simp; omega)).trans ((Below.heap_alloc _ _ _ (by simp)).trans (heap_alloc_new w _))
      refine ⟨?_, ?_, ?_, ?_⟩
      · exact ((((((Below.refl _ w).alloc (Nat.le_refl _) _).alloc (by simp) _).trans (HB3.out.mono (by simp; omega))).setCell (by simp) _).setCell (by simp) _).alloc (by simp; omega) _
      · refine (Below.heap_alloc _ _ _ (by simp; omega)).trans ?_
        rw [Below.heap_setCell _ _ _ _ (by simp), Below.heap_setCell _ _ _ _ (by simp)]
        exact x0
      · refine (Below.heap_alloc _ _ _ (by simp; omega)).trans ?_
        simp [World.setCell, Array.getElem?_modify, X5.out]
      · have h := Mp.made ((w3.setCell ⟨w.heap.size + 1, 0, none⟩ (.string k)).setCell ⟨w.heap.size + 1, 1, none⟩ (.map (some w3.heap.size))) 3
        rw [World.size_setCell, World.size_setCell] at h
        exact h
    · rintro W ⟨hbW, y0, y1, hMc⟩
      have hH := H.out.below hbW
      obtain ⟨c0, c1, c2, c3, c4, f3, f4⟩ := hH.cells
      have d0 := cell_of_row _ _ 0 _ 91 (0, 0) y1
      have d1 := cell_of_row _ _ 1 _ 91 (0, 0) y1
      have hMr := hH.rows
      obtain ⟨c, hc⟩ : ∃ c, w3.heap.size = c := ⟨_, rfl⟩
      have hcw : w.heap.size + 1 < c := by omega
      rw [hc] at d1 hMc y1
      rw [hc]
      have HBW := Lib.hid hbW
      have HH := Lib.hid hH
      have HMR := Lib.hid hMr
      have HMC := Lib.hid hMc
      have Y0 := Lib.hid y0
      have Y1 := Lib.hid y1
      have hlbW := hH.lt (.inl rfl)
      clear hbW hH hMr hMc y0 y1 hc k0 k1 q0 q1 HB3 X5 hl5
      go_still_tail 7, (by kernel_rfl)
      change wpList _ _ _ _ _ W.drew
      have HMR' := Lib.hid (show Mp W.drew mr 9 (Ks.map rowV) from HMR.out)
      have HKK := Lib.hid (show Keep (fun _ => True) W W.drew from Keep.of_below ((Below.refl _ _).drew))
      clear c0 c1 c2 c3 c4 f3 f4 d0 d1
      generalize W.drew = W2 at *
      go_upto_region 5 with (at_mapUpdate; refine wpList_mp_store rfl _ _ _ 58 rfl 91 law9 Tryz.underlying58 rfl HMR'.out (by simp; unfold maxLen; omega) _ _ (key k) rfl rfl (hkey9 k hkm) ?_; intro w5 hM5 ht5; have HM5 := Lib.hid hM5; have HT5 := Lib.hid ht5; clear hM5 ht5)
      have hmr : mr < w.heap.size := H.out.lt (.inr (.inl rfl))
      have hk5 : Keep (fun j => j ≠ mr) W w5 := (HKK.out.mono fun _ _ _ => trivial).trans (turned_keep HT5.out) fun _ _ h => h
      have hsz5 : W.heap.size ≤ w5.heap.size := hk5.size
      have z0 := (hk5.block _ (Array.getElem?_eq_some_iff.1 Y0.out).1 (by omega)).trans Y0.out
      have z1 := (hk5.block _ (Array.getElem?_eq_some_iff.1 Y1.out).1 (by omega)).trans Y1.out
      have d0 := cell_of_row _ _ 0 _ 91 (0, 0) z1
      have d1 := cell_of_row _ _ 1 _ 91 (0, 0) z1
      have a0 := cell_of_row _ _ 0 _ 91 (0, 0) z0
      have a1 := cell_of_row _ _ 1 _ 91 (0, 0) z0
      have q0 := frozen_of_row z0 0
      have q1 := frozen_of_row z0 1
      have HK5 := Lib.hid hk5
      have hz9 : ((w5.setCell ⟨w.heap.size, 0, none⟩ (.string k)).setCell ⟨w.heap.size, 1, none⟩ (.map (some c))).heap[w.heap.size]? = some (.cells #[.string k, .map (some c)] 91 (0, 0)) := by simp [World.setCell, Array.getElem?_modify, z0]
      have r0 := cell_of_row _ _ 0 _ 91 (0, 0) hz9
      have r1 := cell_of_row _ _ 1 _ 91 (0, 0) hz9
      have R0 := Lib.hid r0
      have R1 := Lib.hid r1
      clear hk5 z0 z1 hz9 r0 r1
      go_wp2
      have r0 := R0.out
      have r1 := R1.out
      refine bodyPost_ret (v := .agg #[.string k, .map (some c)]) (by simp [results, Tryz.results47, go_sem, r0, r1]) rfl ?_
      have hk6 : Keep (fun j => j ≠ mr ∧ j ≠ w.heap.size) W ((w5.setCell ⟨w.heap.size, 0, none⟩ (.string k)).setCell ⟨w.heap.size, 1, none⟩ (.map (some c))) :=
        ((HK5.out.mono fun _ _ h => h.1).setCell _ _ fun _ _ h => h.2).setCell _ _ fun _ _ h => h.2
      have hc6 : Mp ((w5.setCell ⟨w.heap.size, 0, none⟩ (.string k)).setCell ⟨w.heap.size, 1, none⟩ (.map (some c))) c 3 [] := HMC.out.keep hk6 ⟨by omega, by omega⟩
      have hM6 := (HM5.out.setCell ⟨w.heap.size, 0, none⟩ (by simp; omega) (.string k)).setCell ⟨w.heap.size, 1, none⟩ (by simp; omega) (.map (some c))
      rw [off_rows HNO.out] at hM6
      have hI := HH.out.opened (k := k) (c := c) (hk6) hM6 hc6 (fun j hj => by have := H.out.lt hj; omega) HU.out
      refine ⟨(k, c) :: Ks, c, rfl, by simp, hI, ?_, ?_, fun p hp => by simp [hp], by simp⟩
      · exact (Keep.of_below HBW.out).trans hk6 fun i hi h => ⟨fun e => h (.inr (.inl e)), by omega⟩
      · intro p hp
        rcases List.mem_cons.1 hp with rfl | hp
        · exact .inr (by simp; omega)
        · exact .inl hp
  · have E0 := Lib.hid hs
    have E1 := Lib.hid hi
    have HMM := Lib.hid hm
    clear hs hi hm hM hM2 h
    go_enter Tryz.func47, Tryz.ntmps47
    go_wp2_with (first
      | (at_lookup; refine wpList_mp_look_ok rfl _ _ 58 rfl 91 law9 Tryz.underlying58 (zero91 _) (some mr) rfl (HM.out.alloc _) _ _ rfl (hkey9 s hkm) _ _ E0.out E1.out ?_))
    refine bodyPost_ret (v := .agg #[.string s, .map (some c)]) (by simp [results, Tryz.results47, go_sem]) rfl ?_
    refine open_same H.out HMM.out ?_
    go_grown
end Go.Proofs.YtfcdgfjpmcapkaaGreat
