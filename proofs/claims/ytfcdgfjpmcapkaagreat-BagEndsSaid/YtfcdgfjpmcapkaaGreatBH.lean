/- Walk: an entry set. -/
import Derived.Test.YtfcdgfjpmcapkaaGreatBG
namespace Go.Proofs.YtfcdgfjpmcapkaaGreat
open Go.ChangeShapes Go.WideShapes Go.ChangeAt Go.RowKit Go.Maps
set_option linter.unusedVariables false

variable {w : World} {b mr mp : Nat} {Ks : List (ByteArray × Nat)} {E : List En} {n hb : Nat}

theorem Ix.keyOne (h : Ix w b mr mp Ks E n hb) {p q : ByteArray × Nat} (hp : p ∈ Ks) (hq : q ∈ Ks) (e : p.1 = q.1) : p = q := by
  have ha := h.rows.apart law9
  rw [List.pairwise_map] at ha
  clear h
  induction Ks with
  | nil => simp at hp
  | cons a r ih =>
    obtain ⟨a1, a2⟩ := List.pairwise_cons.1 ha
    rcases List.mem_cons.1 hp with ep | hp'
    · rcases List.mem_cons.1 hq with eq | hq'
      · rw [ep, eq]
      · subst ep; exact absurd (by simp [rowV, e]) (a1 q hq')
    · rcases List.mem_cons.1 hq with eq | hq'
      · subst eq; exact absurd (by simp [rowV, e]) (a1 p hp')
      · exact ih hp' hq' a2
theorem Ix.nemap (h : Ix w b mr mp Ks E n hb) {j : Nat} (hj : ∃ es cl, w.heap[j]? = some (.map es cl)) : j ≠ b := by
  rintro rfl
  obtain ⟨es, cl, hm⟩ := hj
  have := h.blk
  rw [hm] at this
  cases this
/-- what is known between two steps of a setting -/
structure SetS (b mr mp hb A c : Nat) (k : ByteArray) (Ks : List (ByteArray × Nat)) (n : Nat) (W : World) (P1 C1 : List (Lit × Value)) (w : World) : Prop where
  blk : w.heap[b]? = some (.cells #[.pointer (some ⟨b, 0, none⟩), .map (some mr), .map (some mp), .int .i64 (n : Int), .pointer (some ⟨hb, 0, none⟩)] 66 (0, 0))
  loc : w.heap[A]? = some (.cells #[.string k, .map (some c)] 91 (0, 0))
  pl : Mp w mp 3 P1
  ro : Mp w c 3 C1
  kp : Keep (fun j => j ≠ b ∧ j ≠ mp ∧ j ≠ c) W w

theorem SetS.drew {A c : Nat} {k : ByteArray} {W : World} {P1 C1 : List (Lit × Value)} (h : SetS b mr mp hb A c k Ks n W P1 C1 w) : SetS b mr mp hb A c k Ks n W P1 C1 w.drew := ⟨h.blk, h.loc, h.pl, h.ro, h.kp.drew⟩
theorem SetS.cells {A c : Nat} {k : ByteArray} {W : World} {P1 C1 : List (Lit × Value)} (h : SetS b mr mp hb A c k Ks n W P1 C1 w) :
    w.cell? ⟨b, 1, none⟩ = some (.map (some mr)) ∧ w.cell? ⟨b, 2, none⟩ = some (.map (some mp)) ∧ w.cell? ⟨b, 3, none⟩ = some (.int .i64 (n : Int)) ∧ w.frozen? ⟨b, 3, none⟩ = false ∧ w.cell? ⟨A, 0, none⟩ = some (.string k) ∧ w.cell? ⟨A, 1, none⟩ = some (.map (some c)) ∧ b < w.heap.size ∧ A < w.heap.size := by
  have h1 := h.blk
  have h2 := h.loc
  refine ⟨?_, ?_, ?_, ?_, ?_, ?_, (Array.getElem?_eq_some_iff.1 h1).1, (Array.getElem?_eq_some_iff.1 h2).1⟩ <;> simp [World.cell?, World.frozen?, h1, h2]

theorem SetS.place {A c : Nat} {k : ByteArray} {W w' : World} {P1 C1 P2 : List (Lit × Value)} (h : SetS b mr mp hb A c k Ks n W P1 C1 w) (h2 : Mp w' mp 3 P2) (ht : w.mapTurned w' mp) (n1 : b ≠ mp) (n2 : A ≠ mp) (n3 : c ≠ mp) : SetS b mr mp hb A c k Ks n W P2 C1 w' :=
  ⟨((turned_keep ht).block b h.cells.2.2.2.2.2.2.1 n1).trans h.blk, ((turned_keep ht).block A h.cells.2.2.2.2.2.2.2 n2).trans h.loc, h2, h.ro.keep (turned_keep ht) n3, h.kp.trans (turned_keep ht) fun _ _ hj => hj.2.1⟩
theorem SetS.under {A c : Nat} {k : ByteArray} {W w' : World} {P1 C1 C2 : List (Lit × Value)} (h : SetS b mr mp hb A c k Ks n W P1 C1 w) (h2 : Mp w' c 3 C2) (ht : w.mapTurned w' c) (n1 : b ≠ c) (n2 : A ≠ c) (n3 : mp ≠ c) : SetS b mr mp hb A c k Ks n W P1 C2 w' :=
  ⟨((turned_keep ht).block b h.cells.2.2.2.2.2.2.1 n1).trans h.blk, ((turned_keep ht).block A h.cells.2.2.2.2.2.2.2 n2).trans h.loc, h.pl.keep (turned_keep ht) n3, h2, h.kp.trans (turned_keep ht) fun _ _ hj => hj.2.2⟩
theorem SetS.last {A c : Nat} {k : ByteArray} {W : World} {P1 C1 : List (Lit × Value)} (h : SetS b mr mp hb A c k Ks n W P1 C1 w) (n1 : b ≠ mp) (n2 : A ≠ b) (n3 : b ≠ c) {z : Int} (hz : z = ((n + 1 : Nat) : Int)) : SetS b mr mp hb A c k Ks (n + 1) W P1 C1 (w.setCell ⟨b, 3, none⟩ (.int .i64 z)) := by
  subst hz
  refine ⟨?_, (Below.heap_setCell _ _ _ _ n2).trans h.loc, h.pl.setCell _ n1.symm _, h.ro.setCell _ n3.symm _, h.kp.setCell _ _ fun _ _ hj => hj.1⟩
  have hb := h.blk
  simp [World.setCell, Array.getElem?_modify, hb]

theorem Ix.fresh (h : Ix w b mr mp Ks E n hb) (x : Et) : off (.int .i64 ((n : Int) + 1)) ((othE x E).map placeV) = (othE x E).map placeV := by
  rw [off_place, List.filter_eq_self.2 fun e he => by
    have := (h.wf e (List.mem_filter.1 he).1).2.2.2
    simp
    omega]
theorem lt_max {a : Nat} (h : a ≤ 1073741824) : a < maxLen := by unfold maxLen; omega
set_option maxRecDepth 100000 in
set_option maxHeartbeats 1000000 in
theorem set_bag (h : Ix w b mr mp Ks E n hb) (k : ByteArray) (v t : Int) (hks : k.size ≤ 140737488355328) (hv : (Lit.int .i64 v).wf = true) (hkl : Ks.length ≤ 1073741824) (hn : n ≤ 1073741824) : Calls Tryz.prog 33 #[.pointer (some ⟨b, 1, none⟩), .string k, .int .i64 v, .int .i64 t] w (SetR b mr mp Ks E n hb (k, v, t) w) := by
  have H := Lib.hid h
  have hkm : k.size ≤ maxLen := by unfold maxLen; omega
  clear h
  go_enter Tryz.func33, Tryz.ntmps33
  go_upto_region 2 with (go_at_call 47; refine (open_bag H.out k hks hkl).mono ?_; rintro e w1 ⟨Ks', c, rfl, hm, hI, hkp, hnew, hsub, hlen⟩; have HI := Lib.hid hI; have HM := Lib.hid hm; have HKP := Lib.hid hkp; have HNEW := Lib.hid hnew; have HLEN := Lib.hid hlen; clear hm hI hkp hnew hsub hlen)
  have hIA : Ix (w1.alloc (.cells #[.string k, .map (some c)] 91)) b mr mp Ks' E n hb := HI.out.below ((Below.refl _ _).alloc (Nat.le_refl _) _)
  have HIA := Lib.hid hIA
  obtain ⟨A, hA⟩ : ∃ A, w1.heap.size = A := ⟨_, rfl⟩
  obtain ⟨W1, hW1⟩ : ∃ W1, w1.alloc (.cells #[.string k, .map (some c)] 91) = W1 := ⟨_, rfl⟩
  have hloc : W1.heap[A]? = some (.cells #[.string k, .map (some c)] 91 (0, 0)) := by rw [← hW1, ← hA]; exact heap_alloc_new _ _
  have hkpW : Keep (fun j => ¬ IxO b mr mp Ks j) w W1 := by rw [← hW1]; exact HKP.out.alloc _
  have hAb : ∀ j, IxO b mr mp Ks' j → j ≠ A := fun j hj => by have := HI.out.lt hj; omega
  have hAw : w.heap.size ≤ A := by rw [← hA]; exact HKP.out.size
  rw [hA, hW1]
  rw [hW1] at HIA
  have HKW := Lib.hid hkpW
  have HAB := Lib.hid hAb
  have hr := HIA.out.row _ HM.out
  have hs0 : SetS b mr mp hb A c k Ks' n W1 (E.map placeV) ((under E k).map stayV) W1 := ⟨HIA.out.blk, hloc, HIA.out.places, hr, Keep.refl _ _⟩
  have HS0 := Lib.hid hs0
  clear hIA hW1 hloc hkpW hAb hr hs0
  obtain ⟨x, y, hxy⟩ : ∃ x y, fiV (fi E k v) = .agg #[.int .i64 x, .int .i64 y] := by cases fi E k v <;> exact ⟨_, _, rfl⟩
  have HST := Lib.hid (HIA.out.struck k v hxy)
  have hyw := HIA.out.fwf (by omega) k v hxy
  have hlk : (Instr.lookup 89 (.map (some c)) (.int .i64 v) false).run Tryz.prog W1.drew = .ok (.agg #[.int .i64 x, .int .i64 y]) W1.drew := by
    have := Mp.look_at (w := W1.drew) HS0.out.drew.ro law3 Tryz.underlying89 (zero68 _) (hkey3 v hv)
    rw [look_under_get, hxy] at this
    exact this
  obtain ⟨d1, d2, d3, d4, d5, d6, d7, d8⟩ := HS0.out.cells
  have q68 := field68
  clear hxy
  go_still_tail 9, (by kernel_rfl)
  change wpList _ _ _ _ _ W1.drew
  have hs1 := HS0.out.drew
  have HS1 := Lib.hid hs1
  clear d1 d2 d3 d4 d5 d6 d7 d8 hlk HS0 hs1
  generalize W1.drew = W2 at *
  go_upto_region 3 with (at_delete; refine wpList_mp_delete rfl _ _ 59 rfl 80 law3 Tryz.underlying59 rfl HS1.out.pl _ (.int .i64 y) rfl (hkey3 y hyw) ?_; intro w3 hM3 ht3; have HM3 := Lib.hid hM3; have HT3 := Lib.hid ht3; clear hM3 ht3)
  have n1 : b ≠ mp := (HI.out.nemap HI.out.places.isMap).symm
  have n2 : A ≠ mp := (HAB.out mp (.inr (.inr (.inl rfl)))).symm
  have n3 : c ≠ mp := (HI.out.m2 _ HM.out).2
  have n4 : A ≠ b := (HAB.out b (.inl rfl)).symm
  have n5 : b ≠ c := (HI.out.nemap (HI.out.row _ HM.out).isMap).symm
  have n6 : A ≠ c := (HAB.out c (.inr (.inr (.inr ⟨_, HM.out, rfl⟩)))).symm
  have hs3 := HS1.out.place HM3.out HT3.out n1 n2 n3
  rw [HST.out] at hs3
  have hs4 := hs3.last n1 n4 n5 (z := (n : Int) + 1) (by omega)
  have HS3 := Lib.hid hs3
  have HS4 := Lib.hid hs4
  obtain ⟨d1, d2, d3, d4, d5, d6, d7, d8⟩ := hs3.cells
  clear hs3 hs4 HS1 HM3 HT3 hyw HST
  go_upto_region 4 with (fail)
  obtain ⟨W4, hW4⟩ : ∃ W4, w3.setCell ⟨b, 3, none⟩ (.int .i64 ((n : Int) + 1)) = W4 := ⟨_, rfl⟩
  rw [hW4]
  rw [hW4] at HS4
  clear hW4 d1 d2 d3 d4 d5 d6 d7 d8
  obtain ⟨d1, d2, d3, d4, d5, d6, d7, d8⟩ := HS4.out.cells
  go_still_tail 9, (by kernel_rfl)
  change wpList _ _ _ _ _ W4.drew
  have HS5 := Lib.hid HS4.out.drew
  clear d1 d2 d3 d4 d5 d6 d7 d8 HS4
  generalize W4.drew = W5 at *
  have hnn : ((n + 1 : Nat) : Int) = (n : Int) + 1 := by omega
  have HNN := Lib.hid hnn
  have hul : ((under E k).map stayV).length < maxLen := by
    have h1 := HI.out.len
    have h2 : (under E k).length ≤ E.length := List.length_filter_le _ _
    rw [List.length_map]
    exact lt_max (by omega)
  have hol : ((othE (k, v, 0) E).map placeV).length < maxLen := by
    have h1 := HI.out.len
    have h2 : (othE (k, v, 0) E).length ≤ E.length := List.length_filter_le _ _
    rw [List.length_map]
    exact lt_max (by omega)
  have HUL := Lib.hid hul
  have HOL := Lib.hid hol
  clear hul hol hnn HS3 hA
  go_upto_region 5 with (at_mapUpdate; refine wpList_mp_store rfl _ _ _ 89 rfl 68 law3 Tryz.underlying89 rfl HS5.out.ro HUL.out _ _ (.int .i64 v) rfl rfl (hkey3 v hv) ?_; intro w6 hM6 ht6; have HM6 := Lib.hid hM6; have HT6 := Lib.hid ht6; clear hM6 ht6)
  have hs6 := HS5.out.under HM6.out HT6.out n5 n6 n3.symm
  have HS6 := Lib.hid hs6
  obtain ⟨d1, d2, d3, d4, d5, d6, d7, d8⟩ := hs6.cells
  rw [HNN.out] at d3
  clear hs6 HS5 HM6 HT6 HUL
  go_still_tail 12, (by kernel_rfl)
  change wpList _ _ _ _ _ w6.drew
  have HS7 := Lib.hid HS6.out.drew
  clear d1 d2 d3 d4 d5 d6 d7 d8 HS6
  generalize w6.drew = W7 at *
  have hn1w : (Lit.int .i64 ((n : Int) + 1)).wf = true := WalkArith.wf_i64 (by omega)
  go_upto_region 6 with (at_mapUpdate; refine wpList_mp_store rfl _ _ _ 59 rfl 80 law3 Tryz.underlying59 rfl HS7.out.pl HOL.out _ _ (.int .i64 ((n : Int) + 1)) rfl rfl (hkey3 _ hn1w) ?_; intro w8 hM8 ht8; have HM8 := Lib.hid hM8; have HT8 := Lib.hid ht8; clear hM8 ht8)
  have hs8 := HS7.out.place HM8.out HT8.out n1 n2 n3
  have HS8 := Lib.hid hs8
  obtain ⟨d1, d2, d3, d4, d5, d6, d7, d8⟩ := hs8.cells
  rw [HNN.out] at d3
  clear hs8 HS7 HM8 HT8 HOL
  go_wp2_with fail
  go_ret
  have eoff := HI.out.fresh (k, v, 0)
  have hfin := HS8.out
  rw [eoff] at hfin
  have e1 := othE_sp (x := (k, v, 0)) (y := (k, v, t)) (by simp [sp]) E
  have hpl := hfin.pl
  have hro := hfin.ro
  rw [off_under] at hro
  rw [e1] at hpl hro
  have hI := HIA.out.set (t := t) HM.out (fun p hp e => by have := HIA.out.keyOne hp HM.out e; rw [this]) hfin.blk hfin.kp hpl hro hkm hv
  refine ⟨Ks', rfl, hI, ?_, HNEW.out, HLEN.out⟩
  refine HKW.out.trans hfin.kp fun i hi h => ⟨fun e => h (.inl e), fun e => h (.inr (.inr (.inl e))), fun e => ?_⟩
  rcases HNEW.out _ HM.out with h1 | h1
  · exact h (.inr (.inr (.inr ⟨_, h1, e.symm⟩)))
  · simp only at h1
    omega
end Go.Proofs.YtfcdgfjpmcapkaaGreat
