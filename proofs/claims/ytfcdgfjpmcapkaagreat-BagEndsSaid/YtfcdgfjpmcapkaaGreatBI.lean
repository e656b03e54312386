/- Walk: an entry removed. -/
import Derived.Test.YtfcdgfjpmcapkaaGreatBH
namespace Go.Proofs.YtfcdgfjpmcapkaaGreat
open Go.ChangeShapes Go.WideShapes Go.ChangeAt Go.RowKit Go.Maps
set_option linter.unusedVariables false

variable {w : World} {b mr mp : Nat} {Ks : List (ByteArray × Nat)} {E : List En} {n hb : Nat}

def RemR (b mr mp : Nat) (Ks : List (ByteArray × Nat)) (E : List En) (n hb : Nat) (k : ByteArray) (v : Int) (w : World) (e : Ending) (w' : World) : Prop :=
  e = .returned (.bool (fi E k v).isSome) ∧ ∃ Ks', Ix w' b mr mp Ks' (othE (k, v, 0) E) n hb ∧ Keep (fun j => ¬ IxO b mr mp Ks j) w w' ∧ (∀ p ∈ Ks', p ∈ Ks) ∧ Ks'.length ≤ Ks.length

theorem under_oth {E : List En} {k q : ByteArray} {v : Int} (h : q ≠ k) : under (othE (k, v, 0) E) q = under E q := by
  unfold under othE
  rw [List.filter_filter]
  apply List.filter_congr
  intro x _
  by_cases hx : x.1.1 = q
  · have : sp x.1 (k, v, 0) = false := by
      rw [sp_no]
      rintro ⟨h1, _⟩
      exact h (hx.symm.trans h1)
    simp [hx, this]
  · simp [hx]
theorem Ix.rem {W w4 : World} (h : Ix W b mr mp Ks E n hb) {k : ByteArray} {c : Nat} {v : Int} (hc : (k, c) ∈ Ks) (hk : Keep (fun j => j ≠ mp ∧ j ≠ c) W w4) (hp : Mp w4 mp 3 ((othE (k, v, 0) E).map placeV)) (hr : Mp w4 c 3 ((under (othE (k, v, 0) E) k).map stayV)) : Ix w4 b mr mp Ks (othE (k, v, 0) E) n hb := by
  have hcm := h.m2 _ hc
  refine ⟨(hk.block b (h.lt (.inl rfl)) ⟨(h.nemap h.places.isMap).symm, (h.nemap (h.row _ hc).isMap).symm⟩).trans h.blk, h.rows.keep hk ⟨h.mm, hcm.1.symm⟩, hp, ?_, ?_, h.mm, h.m2, h.nod, ?_, h.one.filter _, ?_⟩
  · intro p hpm
    by_cases e : p.1 = k
    · have e2 := h.keyOne hpm hc e
      subst e2
      exact hr
    · rw [under_oth e]
      exact (h.row p hpm).keep hk ⟨(h.m2 p hpm).2, fun ec => e (by rw [nodup_snd h.nod hpm hc ec])⟩
  · intro e he
    exact h.has e (List.mem_filter.1 he).1
  · intro e he
    exact h.wf e (List.mem_filter.1 he).1
  · have := h.len
    have := List.length_filter_le (fun e : En => !sp e.1 (k, v, 0)) E
    unfold othE
    omega
theorem off_row (k : ByteArray) (Ks : List (ByteArray × Nat)) : off (key k) (Ks.map rowV) = (Ks.filter fun p => !decide (p.1 = k)).map rowV := by
  unfold off
  rw [List.filter_map]
  congr 1
  apply List.filter_congr
  intro p _
  simp only [Function.comp, rowV, same_key]
theorem Ix.unrow {w' : World} (h : Ix w b mr mp Ks E n hb) {k : ByteArray} (hu : under E k = []) (hk : Keep (fun j => j ≠ mr) w w') (hM : Mp w' mr 9 ((Ks.filter fun p => !decide (p.1 = k)).map rowV)) : Ix w' b mr mp (Ks.filter fun p => !decide (p.1 = k)) E n hb := by
  refine ⟨(hk.block b (h.lt (.inl rfl)) (h.nemap h.rows.isMap).symm).trans h.blk, hM, h.places.keep hk h.mm.symm, ?_, ?_, h.mm, fun p hp => h.m2 p (List.mem_filter.1 hp).1, ?_, h.wf, h.one, h.len⟩
  · intro p hp
    have hp1 := (List.mem_filter.1 hp).1
    exact (h.row p hp1).keep hk (h.m2 p hp1).1
  · intro e he
    obtain ⟨p, hp, e1⟩ := h.has e he
    refine ⟨p, List.mem_filter.2 ⟨hp, ?_⟩, e1⟩
    have : ¬ p.1 = k := by
      intro ek
      have : e ∈ under E k := List.mem_filter.2 ⟨he, by simp [← ek, e1]⟩
      rw [hu] at this
      cases this
    simp [this]
  · exact h.nod.sublist (List.filter_sublist.map _)

set_option maxRecDepth 100000 in
set_option maxHeartbeats 1000000 in
theorem remove_bag (h : Ix w b mr mp Ks E n hb) (k : ByteArray) (v : Int) (hks : k.size ≤ maxLen) (hv : (Lit.int .i64 v).wf = true) (hn : n ≤ 1073741824) : Calls Tryz.prog 37 #[.pointer (some ⟨b, 1, none⟩), .string k, .int .i64 v] w (RemR b mr mp Ks E n hb k v w) := by
  have H := Lib.hid h
  have hlb := h.lt (.inl rfl)
  obtain ⟨x, y, hxy⟩ : ∃ x y, fiV (fi E k v) = .agg #[.int .i64 x, .int .i64 y] := by cases fi E k v <;> exact ⟨_, _, rfl⟩
  have HF := Lib.hid (find_bag h k v hks hv)
  cases hc : fi E k v with
  | none =>
    have HC := Lib.hid hc
    clear h hc hxy
    rw [HC.out] at HF
    go_enter Tryz.func37, Tryz.ntmps37
    go_wp2_with (go_at_call 32; refine HF.out.mono ?_; simp only [fiV, Option.isSome_none]; rintro e w1 ⟨rfl, hb1⟩; have HB1 := Lib.hid hb1; clear hb1)
    go_ret
    refine ⟨by rw [HC.out]; rfl, Ks, ?_, ?_, fun p hp => hp, Nat.le_refl _⟩
    · rw [fi_none HC.out]
      refine H.out.below ?_
      exact HB1.out.alloc HB1.out.size _
    · exact Keep.of_below (HB1.out.alloc HB1.out.size _)
  | some e0 =>
    have HC := Lib.hid hc
    have HST := Lib.hid (h.struck k v hxy)
    have hyw := h.fwf (by omega) k v hxy
    have hxy2 : fiV (some e0) = .agg #[.int .i64 x, .int .i64 y] := by rw [← hc]; exact hxy
    have HXY := Lib.hid hxy2
    obtain ⟨s, o, hs, hM2, hcase⟩ := h.rowOf k
    rcases hcase with ⟨rfl, hi, hu, hno⟩ | ⟨c, rfl, rfl, hm, hi⟩
    · exfalso
      have h1 := fi_some hc
      have : e0 ∈ under E k := List.mem_filter.2 ⟨h1.1, by simpa using (sp_iff.1 h1.2).1⟩
      rw [hu] at this
      cases this
    have E0 := Lib.hid hs
    have HM := Lib.hid hm
    rw [hc] at HF
    clear h hc hxy hxy2 hs hM2 hi hm
    go_enter Tryz.func37, Tryz.ntmps37
    go_upto_region 4 with (go_at_call 32; refine HF.out.mono ?_; rw [HXY.out]; simp only [Option.isSome_some]; rintro e w1 ⟨rfl, hb1⟩; have HB1 := Lib.hid hb1; clear hb1)
    obtain ⟨A, hA⟩ : ∃ A, w1.heap.size = A := ⟨_, rfl⟩
    obtain ⟨W1, hW1⟩ : ∃ W1, w1.alloc (.cells #[.int .i64 x, .int .i64 y] 68) = W1 := ⟨_, rfl⟩
    have hloc : W1.heap[A]? = some (.cells #[.int .i64 x, .int .i64 y] 68 (0, 0)) := by rw [← hW1, ← hA]; exact heap_alloc_new _ _
    have hbW : Below w.heap.size w W1 := by rw [← hW1]; exact HB1.out.alloc HB1.out.size _
    rw [hA, hW1]
    have HI := Lib.hid (H.out.below hbW)
    have HBW := Lib.hid hbW
    obtain ⟨c0, c1, c2, c3, c4, f3, f4⟩ := HI.out.cells
    have d1 := cell_of_row _ _ 1 _ 68 (0, 0) hloc
    have hlbW := HI.out.lt (.inl rfl)
    clear hA hW1 hloc hbW HB1
    go_still_tail 6, (by kernel_rfl)
    change wpList _ _ _ _ _ W1.drew
    have HI2 := Lib.hid (show Ix W1.drew b mr mp Ks E n hb from HI.out.below ((Below.refl _ _).drew))
    have HBW2 := Lib.hid (show Below w.heap.size w W1.drew from HBW.out.drew)
    clear c0 c1 c2 c3 c4 f3 f4 d1 hlbW HI HBW
    generalize W1.drew = W2 at *
    go_upto_region 5 with (at_delete; refine wpList_mp_delete rfl _ _ 59 rfl 80 law3 Tryz.underlying59 rfl HI2.out.places _ (.int .i64 y) rfl (hkey3 y hyw) ?_; intro w3 hM3 ht3; have HM3 := Lib.hid hM3; have HK3 := Lib.hid (turned_keep ht3); clear hM3 ht3)
    have hcm := HI2.out.m2 _ HM.out
    have hmm := HI2.out.mm
    have hbmp : b ≠ mp := (HI2.out.nemap HI2.out.places.isMap).symm
    have hbmr : b ≠ mr := (HI2.out.nemap HI2.out.rows.isMap).symm
    have hbc : b ≠ c := (HI2.out.nemap (HI2.out.row _ HM.out).isMap).symm
    have hblk3 := (HK3.out.block b (HI2.out.lt (.inl rfl)) hbmp).trans HI2.out.blk
    have hR3 : MpO w3 (some mr) 9 (Ks.map rowV) := HI2.out.rows.keep HK3.out hmm
    have hC3 := (HI2.out.row _ HM.out).keep HK3.out hcm.2
    have hM3 := HM3.out
    rw [HST.out] at hM3
    have c1 := cell_of_row _ _ 1 _ 66 (0, 0) hblk3
    have hlb3 := (Array.getElem?_eq_some_iff.1 hblk3).1
    have HR3 := Lib.hid hR3
    have HC3 := Lib.hid hC3
    have HM3' := Lib.hid hM3
    have HB3 := Lib.hid hblk3
    have q91 := field91
    clear hR3 hC3 hM3 hblk3 HM3
    go_upto_region 6 with (first
      | (at_lookup; refine wpList_mp_look rfl _ _ 58 rfl 91 law9 Tryz.underlying58 (zero91 _) (some mr) rfl HR3.out _ _ rfl (hkey9 s hks) _ E0.out ?_)
      | (at_delete; refine wpList_mp_delete rfl _ _ 89 rfl 68 law3 Tryz.underlying89 rfl HC3.out _ (.int .i64 v) rfl (hkey3 v hv) ?_; intro w5 hM5 ht5; have HM5 := Lib.hid hM5; have HK5 := Lib.hid (turned_keep ht5); clear hM5 ht5))
    have hM5 := HM5.out
    rw [off_under] at hM5
    have hR5 : MpO w5 (some mr) 9 (Ks.map rowV) := Mp.keep HR3.out HK5.out hcm.1.symm
    have hP5 := HM3'.out.keep HK5.out hcm.2.symm
    have hblk5 := (HK5.out.block b hlb3 hbc).trans HB3.out
    have hk5 : Keep (fun j => j ≠ mp ∧ j ≠ c) W2 w5 := (HK3.out.mono fun _ _ h => h.1).trans HK5.out fun _ _ h => h.2
    have hI5 := HI2.out.rem HM.out hk5 hP5 hM5
    have hlen := fun ty => hM5.len Tryz.underlying89 ty
    rw [List.length_map] at hlen
    have HI5 := Lib.hid hI5
    have HR5 := Lib.hid hR5
    have HK5' := Lib.hid hk5
    obtain ⟨c0, c1, c2, c3, c4, f3, f4⟩ := hI5.cells
    have hlb5 := hI5.lt (.inl rfl)
    have hsz5 := hk5.size
    clear hM5 hR5 hP5 hblk5 hk5 hI5 HM5 HK5 HC3 HM3' HB3 HR3 HK3 hlb3
    have hul : (under (othE (s, v, 0) E) s).length ≤ 1073741824 := by
      have h1 := HI5.out.len
      have h2 : (under (othE (s, v, 0) E) s).length ≤ (othE (s, v, 0) E).length := List.length_filter_le _ _
      omega
    have hkw : Keep (fun j => ¬ IxO b mr mp Ks j) w w5 := by
      refine (Keep.of_below HBW2.out).trans HK5'.out fun i hi h => ⟨fun e => h (.inr (.inr (.inl e))), fun e => h (.inr (.inr (.inr ⟨_, HM.out, e.symm⟩)))⟩
    have HKW := Lib.hid hkw
    clear hkw
    by_cases hz : (under (othE (s, v, 0) E) s).length = 0
    · have hz' : (((under (othE (s, v, 0) E) s).length : Int) == 0) = true := by simp [hz]
      have HZ := Lib.hid (List.eq_nil_of_length_eq_zero hz)
      clear hz
      go_upto_region 7 with (at_lookup; refine wpList_mp_look rfl _ _ 58 rfl 91 law9 Tryz.underlying58 (zero91 _) (some mr) rfl HR5.out _ _ rfl (hkey9 s hks) _ E0.out ?_)
      go_upto_region 8 with (at_delete; refine wpList_mp_delete rfl _ _ 58 rfl 91 law9 Tryz.underlying58 rfl HI5.out.rows _ (key s) rfl (hkey9 s hks) ?_; intro w6 hM6 ht6; have HM6 := Lib.hid hM6; have HK6 := Lib.hid (turned_keep ht6); clear hM6 ht6)
      go_wp2_with fail
      go_ret
      have hM6 := HM6.out
      rw [off_row] at hM6
      refine ⟨by rw [HC.out]; rfl, _, HI5.out.unrow HZ.out HK6.out hM6, HKW.out.trans HK6.out fun i hi h => fun e => h (.inr (.inl e)), fun p hp => (List.mem_filter.1 hp).1, List.length_filter_le _ _⟩
    · have hz' : (((under (othE (s, v, 0) E) s).length : Int) == 0) = false := by rw [beq_eq_false_iff_ne]; omega
      clear hz
      go_wp2_with (at_lookup; refine wpList_mp_look rfl _ _ 58 rfl 91 law9 Tryz.underlying58 (zero91 _) (some mr) rfl HR5.out _ _ rfl (hkey9 s hks) _ E0.out ?_)
      go_ret
      exact ⟨by rw [HC.out]; rfl, _, HI5.out, HKW.out, fun p hp => hp, Nat.le_refl _⟩
end Go.Proofs.YtfcdgfjpmcapkaaGreat
