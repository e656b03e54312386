/- Walk: a bag is settled. -/
import Derived.Test.YtfcdgfjpmcapkaaGreatBM
namespace Go.Proofs.YtfcdgfjpmcapkaaGreat
open Go.ChangeShapes Go.WideShapes Go.ChangeAt Go.RowKit Go.Maps
set_option linter.unusedVariables false

variable {w : World} {b mr mp hb : Nat} {sv : Value} {Ks : List (ByteArray × Nat)} {E : List En} {n : Nat} {H : List It}

/-- the first end is of an entry that is there -/
def Stl (E : List En) (H : List It) : Prop := 0 < H.length → live E (g H 0) = true
def SetlR (b mr mp hb : Nat) (sv : Value) (Ks : List (ByteArray × Nat)) (E : List En) (n : Nat) (w : World) (e : Ending) (w' : World) : Prop :=
  e = .returned (.tuple #[]) ∧ ∃ hb' sv' H', BgI w' b mr mp hb' sv' Ks E n H' ∧ Stl E H' ∧ Keep (fun k => ¬ BO b mr mp hb sv Ks k) w w' ∧ ∀ k, BO b mr mp hb' sv' Ks k → BO b mr mp hb sv Ks k ∨ w.heap.size ≤ k

/-- how many ends a heap has, as the world tells -/
def lenV : Option Value → Nat
  | some (.slice _ m _) => m
  | _ => 0
def lenH (hb : Nat) (w : World) : Nat := lenV (w.cell? ⟨hb, 1, none⟩)
theorem lenH_eq (h : Hb w hb sv H) : lenH hb w = H.length := by
  obtain ⟨A, c, rfl, _⟩ := row_form h.row
  unfold lenH
  rw [h.cells.2.1]
  rfl

theorem BgI.popped {w' : World} {sv' : Value} {M : List It} (h : BgI w b mr mp hb sv Ks E n H) (h0 : 0 < H.length) (hd : live E (g H 0) = false) (hH : Hb w' hb sv' M) (hp : M.Perm (cutL H)) (hM : Heap M) (hk : Keep (Off hb sv) w w') : BgI w' b mr mp hb sv' Ks E n M := by
  have hc := cut_perm h0
  refine h.turn hH hM hk (fun it hi => hc.mem_iff.1 (List.mem_cons_of_mem _ (hp.mem_iff.1 hi))) (fun e he => ?_) (by rw [hp.length_eq, cut_len]; omega)
  have h1 := hc.mem_iff.2 (h.lnk e he)
  rcases List.mem_cons.1 h1 with h2 | h2
  · rw [← h2, live_of he] at hd
    cases hd
  · exact hp.mem_iff.2 h2

theorem off_bo {k : Nat} (h : ¬ BO b mr mp hb sv Ks k) : Off hb sv k := ⟨fun e => h (.inr (.inl e)), fun e => h (.inr (.inr e))⟩
theorem BgI.wfs (h : BgI w b mr mp hb sv Ks E n H) (hn : n ≤ 1000000) (j : Nat) (hj : j < (srt H).length) : (Lit.int .i64 (g (srt H) j).2).wf = true := by
  have := h.bak _ ((srt_perm H).mem_iff.1 (g_mem hj))
  exact WalkArith.wf_i64 (by omega)
theorem settle_old {W2 : World} {sv1 : Value} {H1 : List It} (h2 : BgI W2 b mr mp hb sv1 Ks E n H1) (hk : Keep (Off hb sv) w W2) (hl : Loc w sv sv1) (hs : Stl E H1) : SetlR b mr mp hb sv Ks E n w (.returned (.tuple #[])) W2 := by
  refine ⟨rfl, hb, sv1, H1, h2, hs, hk.mono fun k _ h => off_bo h, fun k hk => ?_⟩
  rcases hk with h | h | h
  · exact .inl (.inl h)
  · exact .inl (.inr (.inl h))
  · rcases hl k h with h1 | h1
    · exact .inl (.inr (.inr h1))
    · exact .inr h1
theorem Ix.ends (h : Ix w b mr mp Ks E n hb) (hb' : Nat) : Ix (w.setCell ⟨b, 4, none⟩ (.pointer (some ⟨hb', 0, none⟩))) b mr mp Ks E n hb' := by
  have hbl := h.blk
  exact ⟨by simp [World.setCell, Array.getElem?_modify, hbl], h.rows.setCell _ (h.nemap h.rows.isMap) _, h.places.setCell _ (h.nemap h.places.isMap) _, fun p hp => (h.row p hp).setCell _ (h.nemap (h.row p hp).isMap) _, h.has, h.mm, h.m2, h.nod, h.wf, h.one, h.len⟩
theorem rebuilt {W2 w3 w4 w5 : World} {m : Nat} {sv1 v3 : Value} {H1 : List It} {xs : List Value} (h2 : BgI W2 b mr mp hb sv1 Ks E n H1) (hb3 : Below W2.heap.size W2 w3) (hr3 : w3.ownsRow W2.heap.size 74 2 v3 m xs) (hk4 : Keep (fun k => v3.ownBlock ≠ some k) w3 w4) (hb5 : Below w4.heap.size w4 w5) : Keep (fun k => k < W2.heap.size) W2 w5 ∧ W2.heap.size ≤ w4.heap.size := by
  have h34 : Keep (fun k => k < W2.heap.size) W2 w4 := (Keep.of_below hb3 (p := fun k => k < W2.heap.size)).trans hk4 fun i hi h e => by have := (hr3.lt i e).1; omega
  exact ⟨h34.trans (Keep.of_below hb5 (p := fun _ => True)) fun _ _ _ => trivial, h34.size⟩
theorem b4_frozen {W2 w3 w4 w5 : World} {m : Nat} {sv1 v3 : Value} {H1 : List It} {xs : List Value} (h2 : BgI W2 b mr mp hb sv1 Ks E n H1) (hb3 : Below W2.heap.size W2 w3) (hr3 : w3.ownsRow W2.heap.size 74 2 v3 m xs) (hk4 : Keep (fun k => v3.ownBlock ≠ some k) w3 w4) (hb5 : Below w4.heap.size w4 w5) :
    w5.cell? ⟨b, 4, none⟩ = some (.pointer (some ⟨hb, 0, none⟩)) ∧ w5.frozen? ⟨b, 4, none⟩ = false ∧ b < w5.heap.size := by
  obtain ⟨h1, _⟩ := rebuilt h2 hb3 hr3 hk4 hb5
  have hI := h2.ix.keep h1 fun k hk => h2.ix.lt hk
  obtain ⟨c0, c1, c2, c3, c4, f3, f4⟩ := hI.cells
  exact ⟨c4, f4, hI.lt (.inl rfl)⟩
theorem settle_new {W2 w3 w4 w5 : World} {m hb5 : Nat} {sv1 v3 sv5 : Value} {H1 H5 : List It} {xs : List Value} (h : BgI w b mr mp hb sv Ks E n H) (h2 : BgI W2 b mr mp hb sv1 Ks E n H1) (hk : Keep (Off hb sv) w W2) (hl : Loc w sv sv1) (hb3 : Below W2.heap.size W2 w3) (hr3 : w3.ownsRow W2.heap.size 74 2 v3 m xs) (hk4 : Keep (fun k => v3.ownBlock ≠ some k) w3 w4) (hbe : Below w4.heap.size w4 w5)
    (hh : Hb w5 hb5 sv5 H5) (hp : H5.Perm ((srt H1).filter (live E))) (hhp : Heap H5) (hlo : w4.heap.size ≤ hb5) (hro : ∀ g, sv5.ownBlock = some g → w4.heap.size ≤ g) :
    SetlR b mr mp hb sv Ks E n w (.returned (.tuple #[])) (w5.setCell ⟨b, 4, none⟩ (.pointer (some ⟨hb5, 0, none⟩))) := by
  obtain ⟨h1, hsz⟩ := rebuilt h2 hb3 hr3 hk4 hbe
  have hI := h2.ix.keep h1 fun k hk => h2.ix.lt hk
  have hbl := h2.ix.lt (.inl rfl)
  have hm : ∀ it, it ∈ H5 ↔ it ∈ H1 ∧ live E it = true := fun it => by rw [hp.mem_iff, List.mem_filter, (srt_perm H1).mem_iff]
  refine ⟨rfl, hb5, sv5, H5, ⟨hI.ends hb5, ?_, hhp, ?_, ?_, ?_, ?_, h2.klen⟩, ?_, ?_, ?_⟩
  · exact hh.keep (p := fun k => k ≠ b) ((Keep.refl _ w5).setCell _ _ fun _ _ h => h) fun k _ hk => by
      rcases hk with rfl | hk
      · omega
      · have := hro k hk; omega
  · intro e he
    exact (hm _).2 ⟨h2.lnk e he, live_of he _⟩
  · intro it hi
    exact h2.bak it ((hm it).1 hi).1
  · intro it hi
    exact h2.agr it ((hm it).1 hi).1
  · have a1 := hp.length_eq
    have a2 := List.length_filter_le (live E) (srt H1)
    have a3 := srt_len H1
    have a4 := h2.hlen
    omega
  · intro h0
    exact ((hm _).1 (g_mem h0)).2
  · have hkb : Keep (fun k => ¬ BO b mr mp hb sv Ks k) w W2 := hk.mono fun k _ h => off_bo h
    have hb0 : BO b mr mp hb sv Ks b := .inl (.inl rfl)
    have hkw : Keep (fun k => ¬ BO b mr mp hb sv Ks k ∧ k < w.heap.size) w w5 := (hkb.mono fun k _ h => h.1).trans h1 fun i hi h => by have := hk.size; omega
    exact (hkw.mono fun k hk h => ⟨h, hk⟩).setCell _ _ fun k _ h e => h (by rw [e]; exact hb0)
  · intro k hkk
    have hs := hk.size
    rcases hkk with h | h | h
    · exact .inl (.inl h)
    · exact .inr (by omega)
    · exact .inr (by have := hro k h; omega)

set_option maxRecDepth 100000 in
set_option maxHeartbeats 4000000 in
theorem settle_bag (h : BgI w b mr mp hb sv Ks E n H) (hn : n ≤ 1000000) : Calls Tryz.prog 35 #[.pointer (some ⟨b, 0, none⟩)] w (SetlR b mr mp hb sv Ks E n w) := by
  have HB := Lib.hid h
  obtain ⟨c0, c1, c2, c3, c4, f3, f4⟩ := h.ix.cells
  have hlb := h.ix.lt (.inl rfl)
  have hHl := h.hlen
  have hf := first_any h.hp (by unfold maxLen; omega)
  unfold FirstR at hf
  have HF := Lib.hid hf
  clear hf h
  go_enter Tryz.func35, Tryz.ntmps35
  go_upto_region 1 with (go_at_call 41; refine HF.out.mono ?_; rintro e w1 ⟨rfl, hb1⟩; have HB1 := Lib.hid hb1; clear hb1)
  have hz1 := HB1.out.size
  go_loopw [2, 3] (fun p q wr => ∃ (sv1 : Value) (H1 : List It) (A : Nat), BgI wr b mr mp hb sv1 Ks E n H1 ∧ p = .pointer (some ⟨A, 0, none⟩) ∧ q = .bool (decide (0 < H1.length)) ∧ wr.heap[A]? = some (.cells #[.int .i64 (g H1 0).1, .int .i64 (g H1 0).2] 74 (0, 0)) ∧ w.heap.size ≤ A ∧ Off hb sv1 A ∧ Keep (Off hb sv) w wr ∧ Loc w sv sv1) (fun _ _ wr => lenH hb wr)
  case atStart =>
    have hbx := (Below.refl w1.heap.size w1).alloc (Nat.le_refl _) (.cells #[.int .i64 (g H 0).1, .int .i64 (g H 0).2] 74)
    have hby : Below w.heap.size w (w1.alloc (.cells #[.int .i64 (g H 0).1, .int .i64 (g H 0).2] 74)) := HB1.out.alloc hz1 _
    exact ⟨sv, H, w1.heap.size, HB.out.below hby, rfl, rfl, heap_alloc_new _ _, hz1, HB.out.hp.off hz1, Keep.of_below hby, fun g hg => .inl hg⟩
  case round =>
    obtain ⟨sv1, H1, A, hB1, rfl, rfl, hA, hAw, hAo, hk, hloc⟩ := hrel
    have HBR := Lib.hid hB1
    have HA := Lib.hid hA
    have HAO := Lib.hid hAo
    have HK := Lib.hid hk
    have HLOC := Lib.hid hloc
    have hszr := hk.size
    have hHl1 := hB1.hlen
    obtain ⟨c0, c1, c2, c3, c4, f3, f4⟩ := hB1.ix.cells
    have hlbr := hB1.ix.lt (.inl rfl)
    have d0 := cell_of_row _ _ 0 _ 74 (0, 0) hA
    have d1 := cell_of_row _ _ 1 _ 74 (0, 0) hA
    have q0 := frozen_of_row hA 0
    have q1 := frozen_of_row hA 1
    have hlA := (Array.getElem?_eq_some_iff.1 hA).1
    clear hB1 hA hAo hk hloc
    by_cases hd : 0 < H1.length ∧ live E (g H1 0) = false
    · obtain ⟨h0, hlv⟩ := hd
      have hgo := gone_bag HBR.out.ix (g H1 0) (HBR.out.wf hn h0)
      rw [hlv] at hgo
      have hpop : ∀ W, Below wr.heap.size wr W → Calls Tryz.prog 51 #[.pointer (some ⟨hb, 0, none⟩)] W (PopR W hb sv1 H1) := fun W hW => pop_any (HBR.out.hp.below hW) HBR.out.ord (by omega)
      have hpp : ∀ W w3 sv2 M, Below wr.heap.size wr W → Hb w3 hb sv2 M → M.Perm (cutL H1) → Heap M → Keep (Off hb sv1) W w3 → BgI w3 b mr mp hb sv2 Ks E n M := fun W w3 sv2 M hW hH hp hM hk => (HBR.out.below hW).popped h0 hlv hH hp hM hk
      rw [decide_eq_true h0]
      have HGO := Lib.hid hgo
      have HPOP := Lib.hid hpop
      have HPP := Lib.hid hpp
      have H0 := Lib.hid h0
      clear hgo hpop h0 hlv hpp
      unfold PopR at HPOP
      go_wp2_with (first
        | (go_at_call 50; refine HGO.out.mono ?_; simp only [Bool.not_false]; rintro e w2 ⟨rfl, hb2⟩; have c4' := (hb2.cell (p := ⟨b, 4, none⟩) hlbr).trans c4; have HB2 := Lib.hid hb2; have hlb2 : b < w2.heap.size := (by have := hb2.size; omega); clear hb2)
        | (go_at_call 51; refine (HPOP.out _ HB2.out).mono ?_; rintro e w3 ⟨rfl, sv2, M, hh3, hpm3, hhp3, hl3, hk3⟩; have hB3 := HPP.out _ _ _ _ HB2.out hh3 hpm3 hhp3 hk3; obtain ⟨e0, e1, e2, e3, e4, e5, e6⟩ := hB3.ix.cells; have hlb3 := hB3.ix.lt (.inl rfl); have hA3 := (hk3.block A (by have := HB2.out.size; omega) HAO.out).trans ((HB2.out.block A hlA).trans HA.out); have y0 := cell_of_row _ _ 0 _ 74 (0, 0) hA3; have y1 := cell_of_row _ _ 1 _ 74 (0, 0) hA3; have HB3 := Lib.hid hB3; have HPM3 := Lib.hid hpm3; have HL3 := Lib.hid hl3; have HK3 := Lib.hid hk3; clear hh3 hpm3 hhp3 hl3 hk3 hB3 hA3)
        | (go_at_call 41; refine (first_any (HB3.out.hp.below ((Below.refl _ _).alloc (Nat.le_refl _) _)) (by have := HB3.out.hlen; unfold maxLen; omega)).mono ?_; rintro e w5 ⟨rfl, hb5⟩; obtain ⟨x5, hl5, k0, k1, f0, f1⟩ := local0 hb5; have X5 := Lib.hid x5; have HB5 := Lib.hid (below_alloc0 hb5); clear hb5 x5))
      go_roundw
      case rel =>
        have hbf := (HB5.out.setCell (p := ⟨w3.heap.size, 0, none⟩) (Nat.le_refl _) (.int .i64 (g M 0).1)).setCell (p := ⟨w3.heap.size, 1, none⟩) (Nat.le_refl _) (.int .i64 (g M 0).2)
        have hkf : Keep (Off hb sv1) wr ((w5.setCell ⟨w3.heap.size, 0, none⟩ (.int .i64 (g M 0).1)).setCell ⟨w3.heap.size, 1, none⟩ (.int .i64 (g M 0).2)) := ((Keep.of_below HB2.out).trans HK3.out fun _ _ h => h).trans (Keep.of_below hbf (p := Off hb sv1)) fun _ _ h => h
        refine ⟨sv2, M, w3.heap.size, HB3.out.below hbf, rfl, rfl, ?_, ?_, HB3.out.hp.off (Nat.le_refl _), HK.out.off_trans HLOC.out hkf, HLOC.out.trans hszr fun g hg => ?_⟩
        · have := X5.out
          simp [World.setCell, Array.getElem?_modify, this]
        · have := HB2.out.size
          have := HK3.out.size
          omega
        · rcases HL3.out g hg with h | h
          · exact .inl h
          · exact .inr (Nat.le_trans HB2.out.size h)
      case measure =>
        have hbf := (HB5.out.setCell (p := ⟨w3.heap.size, 0, none⟩) (Nat.le_refl _) (.int .i64 (g M 0).1)).setCell (p := ⟨w3.heap.size, 1, none⟩) (Nat.le_refl _) (.int .i64 (g M 0).2)
        rw [lenH_eq (HB3.out.below hbf).hp, lenH_eq HBR.out.hp, HPM3.out.length_eq, cut_len]
        have := H0.out
        omega
    · have hst : Stl E H1 := fun h => by
        cases hl : live E (g H1 0)
        · exact absurd ⟨h, hl⟩ hd
        · rfl
      have hx : decide (0 < H1.length) = false ∨ (decide (0 < H1.length) = true ∧ live E (g H1 0) = true) := by
        by_cases h : 0 < H1.length
        · exact .inr ⟨decide_eq_true h, hst h⟩
        · exact .inl (decide_eq_false h)
      have HST := Lib.hid hst
      clear hd hst
      rcases hx with hz | ⟨hz, hlv⟩
      · rw [hz]
        go_upto_region 6 with (fail)
        refine wp_gen (fun W => BgI W b mr mp hb sv1 Ks E n H1 ∧ Keep (Off hb sv) w W) ⟨HBR.out, HK.out⟩ ?_
        rintro W ⟨hBW, hKW⟩
        clear HBR HA HAO HK c0 c1 c2 c3 c4 f3 f4 d0 d1 q0 q1 hszr hlbr hlA hz
        have HBW := Lib.hid hBW
        have HKW := Lib.hid hKW
        obtain ⟨c0, c1, c2, c3, c4, f3, f4⟩ := hBW.ix.cells
        have hlbW := hBW.ix.lt (.inl rfl)
        obtain ⟨q, hq⟩ : ∃ q, H1.length = q := ⟨_, rfl⟩
        obtain ⟨r, hr⟩ : ∃ r, E.length = r := ⟨_, rfl⟩
        have hrn : r ≤ n := by rw [← hr]; exact hBW.ix.len
        have hqn : q ≤ n := by rw [← hq]; exact hBW.hlen
        have L3 : Calls Tryz.prog 52 #[.pointer (some ⟨hb, 0, none⟩)] W.drew fun e w' => e = .returned (.int .i64 (q : Int)) ∧ w' = W.drew := by
          rw [← hq]
          exact (len_any (hBW.hp.below (Below.refl _ W).drew)).mono fun e w' h => ⟨h.1, h.2.symm⟩
        have L4 : Calls Tryz.prog 38 #[.pointer (some ⟨b, 1, none⟩)] W.drew fun e w' => e = .returned (.int .i64 (r : Int)) ∧ w' = W.drew := by
          rw [← hr]
          exact size_bag (hBW.ix.below (Below.refl _ W).drew)
        have HQ := Lib.hid hq
        have HRR := Lib.hid hr
        have hwr : IntKind.i64.wrap (2 * (r : Int)) = 2 * (r : Int) := IntWalk.i64_in _ (by omega)
        clear hBW hKW hq hr
        go_still_tail 10, (by kernel_rfl)
        still_call L3
        repeat still_step
        still_call L4
        repeat still_step
        try refine wpStill_nil ?_
        change wpList _ _ _ _ _ W.drew
        have HB2 := Lib.hid (show BgI W.drew b mr mp hb sv1 Ks E n H1 from HBW.out.below (Below.refl _ W).drew)
        have HK2 := Lib.hid (show Keep (Off hb sv) w W.drew from HKW.out.drew)
        clear c0 c1 c2 c3 c4 f3 f4 L3 L4 hlbW HBW HKW
        generalize W.drew = W2 at *
        obtain ⟨c0, c1, c2, c3, c4, f3, f4⟩ := HB2.out.ix.cells
        have hlb2 := HB2.out.ix.lt (.inl rfl)
        by_cases hgt : (q : Int) > 2 * (r : Int)
        · have hdec : decide ((q : Int) > 2 * (r : Int)) = true := decide_eq_true hgt
          have hdec2 : decide (2 * (r : Int) < (q : Int)) = true := decide_eq_true hgt
          clear hgt
          go_wp2_with (first
            | (go_at_call 54; refine (items_any HB2.out.hp (by rw [HQ.out]; omega)).mono ?_; rintro e w3 ⟨v3, rfl, hrow3, hb3⟩; rw [← srt_len] at hrow3; have HR3 := Lib.hid hrow3; have HB3 := Lib.hid hb3; clear hrow3 hb3)
            | (go_at_call 53; refine (delete_bag (HB2.out.ix.below HB3.out) HR3.out (HB2.out.wfs hn) (by rw [srt_len, HQ.out]; omega)).mono ?_; rintro e w4 ⟨v4, rfl, hrow4, hk4⟩; have HR4 := Lib.hid hrow4; have HK4 := Lib.hid hk4; clear hrow4 hk4)
            | (go_at_call 30; refine (new_any (PR.of_own HR4.out) (by have := List.length_filter_le (live E) (srt H1); rw [srt_len, HQ.out] at this; omega)).mono ?_; rintro e w5 ⟨hb5, sv5, H5, rfl, hh5, hp5, hhp5, hlo5, hro5, hbe5⟩; have hfr := b4_frozen HB2.out HB3.out HR3.out HK4.out hbe5; obtain ⟨g4, gf4, gl⟩ := hfr; have HH5 := Lib.hid hh5; have HP5 := Lib.hid hp5; have HHP5 := Lib.hid hhp5; have HLO5 := Lib.hid hlo5; have HRO5 := Lib.hid hro5; have HBE5 := Lib.hid hbe5; clear hh5 hp5 hhp5 hlo5 hro5 hbe5))
          refine bodyPost_ret (results_none rfl _ _ _) rfl ?_
          exact settle_new HB.out HB2.out HK2.out HLOC.out HB3.out HR3.out HK4.out HBE5.out HH5.out HP5.out HHP5.out HLO5.out HRO5.out
        · have hdec : decide ((q : Int) > 2 * (r : Int)) = false := decide_eq_false hgt
          have hdec2 : decide (2 * (r : Int) < (q : Int)) = false := decide_eq_false hgt
          clear hgt
          go_wp2_with fail
          refine bodyPost_ret (results_none rfl _ _ _) rfl ?_
          exact settle_old HB2.out HK2.out HLOC.out HST.out
      · rw [hz]
        have hgo := gone_bag HBR.out.ix (g H1 0) (HBR.out.wf hn (of_decide_eq_true hz))
        rw [hlv] at hgo
        have HGO := Lib.hid hgo
        clear hgo hlv
        go_upto_region 6 with (go_at_call 50; refine HGO.out.mono ?_; simp only [Bool.not_true]; rintro e w5 ⟨rfl, hb5⟩; have HB5 := Lib.hid hb5; clear hb5)
        refine wp_gen (fun W => BgI W b mr mp hb sv1 Ks E n H1 ∧ Keep (Off hb sv) w W) ⟨HBR.out.below HB5.out, HK.out.trans (Keep.of_below HB5.out) fun _ _ h => h⟩ ?_
        rintro W ⟨hBW, hKW⟩
        clear HBR HA HAO HK c0 c1 c2 c3 c4 f3 f4 d0 d1 q0 q1 hszr hlbr hlA hz HB5 HGO
        have HBW := Lib.hid hBW
        have HKW := Lib.hid hKW
        obtain ⟨c0, c1, c2, c3, c4, f3, f4⟩ := hBW.ix.cells
        have hlbW := hBW.ix.lt (.inl rfl)
        obtain ⟨q, hq⟩ : ∃ q, H1.length = q := ⟨_, rfl⟩
        obtain ⟨r, hr⟩ : ∃ r, E.length = r := ⟨_, rfl⟩
        have hrn : r ≤ n := by rw [← hr]; exact hBW.ix.len
        have hqn : q ≤ n := by rw [← hq]; exact hBW.hlen
        have L3 : Calls Tryz.prog 52 #[.pointer (some ⟨hb, 0, none⟩)] W.drew fun e w' => e = .returned (.int .i64 (q : Int)) ∧ w' = W.drew := by
          rw [← hq]
          exact (len_any (hBW.hp.below (Below.refl _ W).drew)).mono fun e w' h => ⟨h.1, h.2.symm⟩
        have L4 : Calls Tryz.prog 38 #[.pointer (some ⟨b, 1, none⟩)] W.drew fun e w' => e = .returned (.int .i64 (r : Int)) ∧ w' = W.drew := by
          rw [← hr]
          exact size_bag (hBW.ix.below (Below.refl _ W).drew)
        have HQ := Lib.hid hq
        have HRR := Lib.hid hr
        have hwr : IntKind.i64.wrap (2 * (r : Int)) = 2 * (r : Int) := IntWalk.i64_in _ (by omega)
        clear hBW hKW hq hr
        go_still_tail 10, (by kernel_rfl)
        still_call L3
        repeat still_step
        still_call L4
        repeat still_step
        try refine wpStill_nil ?_
        change wpList _ _ _ _ _ W.drew
        have HB2 := Lib.hid (show BgI W.drew b mr mp hb sv1 Ks E n H1 from HBW.out.below (Below.refl _ W).drew)
        have HK2 := Lib.hid (show Keep (Off hb sv) w W.drew from HKW.out.drew)
        clear c0 c1 c2 c3 c4 f3 f4 L3 L4 hlbW HBW HKW
        generalize W.drew = W2 at *
        obtain ⟨c0, c1, c2, c3, c4, f3, f4⟩ := HB2.out.ix.cells
        have hlb2 := HB2.out.ix.lt (.inl rfl)
        by_cases hgt : (q : Int) > 2 * (r : Int)
        · have hdec : decide ((q : Int) > 2 * (r : Int)) = true := decide_eq_true hgt
          have hdec2 : decide (2 * (r : Int) < (q : Int)) = true := decide_eq_true hgt
          clear hgt
          go_wp2_with (first
            | (go_at_call 54; refine (items_any HB2.out.hp (by rw [HQ.out]; omega)).mono ?_; rintro e w3 ⟨v3, rfl, hrow3, hb3⟩; rw [← srt_len] at hrow3; have HR3 := Lib.hid hrow3; have HB3 := Lib.hid hb3; clear hrow3 hb3)
            | (go_at_call 53; refine (delete_bag (HB2.out.ix.below HB3.out) HR3.out (HB2.out.wfs hn) (by rw [srt_len, HQ.out]; omega)).mono ?_; rintro e w4 ⟨v4, rfl, hrow4, hk4⟩; have HR4 := Lib.hid hrow4; have HK4 := Lib.hid hk4; clear hrow4 hk4)
            | (go_at_call 30; refine (new_any (PR.of_own HR4.out) (by have := List.length_filter_le (live E) (srt H1); rw [srt_len, HQ.out] at this; omega)).mono ?_; rintro e w5 ⟨hb5, sv5, H5, rfl, hh5, hp5, hhp5, hlo5, hro5, hbe5⟩; have hfr := b4_frozen HB2.out HB3.out HR3.out HK4.out hbe5; obtain ⟨g4, gf4, gl⟩ := hfr; have HH5 := Lib.hid hh5; have HP5 := Lib.hid hp5; have HHP5 := Lib.hid hhp5; have HLO5 := Lib.hid hlo5; have HRO5 := Lib.hid hro5; have HBE5 := Lib.hid hbe5; clear hh5 hp5 hhp5 hlo5 hro5 hbe5))
          refine bodyPost_ret (results_none rfl _ _ _) rfl ?_
          exact settle_new HB.out HB2.out HK2.out HLOC.out HB3.out HR3.out HK4.out HBE5.out HH5.out HP5.out HHP5.out HLO5.out HRO5.out
        · have hdec : decide ((q : Int) > 2 * (r : Int)) = false := decide_eq_false hgt
          have hdec2 : decide (2 * (r : Int) < (q : Int)) = false := decide_eq_false hgt
          clear hgt
          go_wp2_with fail
          refine bodyPost_ret (results_none rfl _ _ _) rfl ?_
          exact settle_old HB2.out HK2.out HLOC.out HST.out
end Go.Proofs.YtfcdgfjpmcapkaaGreat
