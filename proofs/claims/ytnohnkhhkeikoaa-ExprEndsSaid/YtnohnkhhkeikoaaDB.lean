/- ExprDoes: the walk. -/
import Derived.Test.YtnohnkhhkeikoaaDA
import Derived.Test.YtnohnkhhkeikoaaKA
namespace Go.Proofs.Ytnohnkhhkeikoaa
open Go.ChangeShapes Go.WideShapes Go.ChangeAt Go.RowKit
set_option linter.unusedVariables false
set_option linter.unusedSimpArgs false

attribute [local go_sem] Oper.semAt_some

theorem XV.head {N : Nat} {w : World} {k : Int} {l : ByteArray} {kv : Value} {x : X} (h : XV N w (.agg #[.int .i64 k, .string l, kv]) x) : x.kind = k ∧ x.lab = l := by
  obtain ⟨kv', e, _⟩ := h
  injection e with e
  injection e with e
  injection e with e1 e
  injection e with e2 e
  injection e1 with _ e1
  injection e2 with e2
  exact ⟨e1.symm, e2.symm⟩

set_option maxRecDepth 100000 in
set_option maxHeartbeats 16000000 in
theorem does_small {N M : Nat} {w : World} {va vb wv : Value} {a b : X} {word : Wd} (ha : XV N w va a) (hb : XV N w vb b) (hN : N ≤ w.heap.size) (hla : a.lit) (hlb : b.lit) (hw : SR M w wv word) (hM : M ≤ w.heap.size) (hns : ¬ (300 < gsum [a, b] 0 ∨ 30 < word.length)) :
    Calls Try.prog 3 #[va, vb, wv] w fun e w' => e = .returned (.bool true) ∧ Below w.heap.size w w' := by
  obtain ⟨kva, rfl, hra⟩ := ha
  obtain ⟨kvb, rfl, hrb⟩ := hb
  obtain ⟨A2, c2, rfl, hw2⟩ := hw
  obtain ⟨n, hn⟩ : ∃ n, word.length = n := ⟨_, rfl⟩
  generalize hka : a.kind = ka at *
  generalize hkl : a.lab = la at *
  generalize hkb : b.kind = kb at *
  generalize hkl2 : b.lab = lb at *
  obtain ⟨W0, hW0⟩ : ∃ W0, (w.alloc (.cells #[.int .i64 ka, .string la, kva] 25)).alloc (.cells #[.int .i64 kb, .string lb, kvb] 25) = W0 := ⟨_, rfl⟩
  have hz0 : W0.heap.size = w.heap.size + 2 := by rw [← hW0]; simp
  have hb0 : Below w.heap.size w W0 := by rw [← hW0]; exact ((Below.refl _ w).alloc (Nat.le_refl _) _).alloc (by simp) _
  have hc3 : W0.heap[w.heap.size]? = some (.cells #[.int .i64 ka, .string la, kva] 25) := by rw [← hW0, Below.heap_alloc _ _ _ (by simp)]; exact at_push _ _
  have hc4 : W0.heap[w.heap.size + 1]? = some (.cells #[.int .i64 kb, .string lb, kvb] 25) := by
    rw [← hW0]
    have := at_push (w.alloc (.cells #[.int .i64 ka, .string la, kva] 25)) (.cells #[.int .i64 kb, .string lb, kvb] 25)
    rwa [World.size_alloc] at this
  have hxa : XV W0.heap.size W0 (.agg #[.int .i64 ka, .string la, kva]) a := (XV.bel ⟨kva, by rw [hka, hkl], hra⟩ (hb0.mono hN)).mono (by omega)
  have hxb : XV W0.heap.size W0 (.agg #[.int .i64 kb, .string lb, kvb]) b := (XV.bel ⟨kvb, by rw [hkb, hkl2], hrb⟩ (hb0.mono hN)).mono (by omega)
  have hsr : SR M W0 (.slice A2 n c2) word := SR.bel ⟨A2, c2, by rw [hn], hw2⟩ (hb0.mono hM)
  have hMs : M ≤ W0.heap.size := by omega
  have HB0 := Lib.hid hb0
  have HZ := Lib.hid hz0
  have HBX := Lib.hid (fun W (h : Below W0.heap.size W0 W) => And.intro (box3 ((h.block _ (by omega)).trans hc3)) (box3 ((h.block _ (by omega)).trans hc4)))
  have HXA := Lib.hid hxa
  have HXB := Lib.hid hxb
  have HSR := Lib.hid (And.intro hsr hMs)
  have HLA := Lib.hid (And.intro hla hlb)
  have HN := Lib.hid hn
  obtain ⟨gr, hgr⟩ : ∃ gr : Bool, gr = decide (300 < gsum [a, b] 0 ∨ 30 < n) := ⟨_, rfl⟩
  have HGE := Lib.hid hgr
  have HGR := Lib.hid (fun (W : World) (h : Below W0.heap.size W0 W) =>
    (show Calls Try.prog 7 #[.slice A2 n c2, .slice (some ⟨W.heap.size, 0, none⟩) 2 2] (W.alloc (.cells #[.int .i64 ka, .string la, kva, .int .i64 kb, .string lb, kvb] 25)) (fun e w' => e = .returned (.bool gr) ∧ Below W0.heap.size W0 w') by
      have hb1 : Below (W.heap.size + 1) (W.alloc (.cells #[.int .i64 ka, .string la, kva, .int .i64 kb, .string lb, kvb] 25)) (W.alloc (.cells #[.int .i64 ka, .string la, kva, .int .i64 kb, .string lb, kvb] 25)) := Below.refl _ _
      obtain ⟨kv, e, hr⟩ := XV.of2 (k := 3) hxa hxb h h.size hb1
      injection e with e
      injection e with e
      injection e with _ e
      injection e with _ e
      injection e with e _
      subst e
      refine (great_any hr (Nat.le_refl _) A2 n c2).mono ?_
      rintro e w1 ⟨rfl, h1⟩
      refine ⟨by rw [hgr]; rfl, h.trans ((((Below.refl _ W).alloc (Nat.le_refl _) _).trans (h1.below.mono (by simp))).mono h.size)⟩))
  have H8 := Lib.hid (fun (W : World) (h : Below W0.heap.size W0 W) => calls_base (awake_any W) h)
  have hszs : gr = false → a.sz + b.sz ≤ 300 ∧ n ≤ 30 := fun h => by
    rw [hgr] at h
    have h1 := of_decide_eq_false h
    have h2 := gsum_eq (xs := [a, b]) (by omega)
    rw [szL_two] at h2
    exact ⟨h2, by omega⟩
  have HSZ := Lib.hid hszs
  clear hra hrb hw2 hb0 hc3 hc4 hxa hxb hsr hla hlb hN hM hz0 hMs hgr hszs
  rw [hn]
  clear hka hkl hkb hkl2 hn
  obtain ⟨⟨d0, d1, d2⟩, d3, d4, d5⟩ := HBX.out W0 (Below.refl _ _)
  have HREFL := Lib.hid (Below.refl W0.heap.size W0)
  have hgr0 : gr = false := by rw [HGE.out]; exact decide_eq_false (by rw [← HN.out]; exact hns)
  obtain ⟨hs1, hn30⟩ := HSZ.out hgr0
  rw [hgr0] at HGR
  clear hgr0 HSZ HGE hns HZ
  have hsa : a.sz ≤ 100000 := by omega
  have hsb : b.sz ≤ 100000 := by omega
  have hka := HXA.out.head
  have hkb := HXB.out.head
  have hC9A := fun W (h : Below W0.heap.size W0 W) => lent9_any a hsa W0.heap.size W _ (HXA.out.bel h) h.size
  have hC9B := fun W (h : Below W0.heap.size W0 W) => lent9_any b hsb W0.heap.size W _ (HXB.out.bel h) h.size
  rw [hka.1, hka.2] at hC9A
  rw [hkb.1, hkb.2] at hC9B
  have HC9A := Lib.hid hC9A
  have HC9B := Lib.hid hC9B
  have HC10 := Lib.hid (fun W (h : Below W0.heap.size W0 W) => (show Calls Try.prog 10 #[.slice A2 n c2] W (fun e w' => ∃ g c, e = .returned (.slice (some ⟨g, 0, none⟩) n c) ∧ (TT word g (fun b => W.heap.size ≤ b ∧ b < w'.heap.size) w' ∧ n + 12 ≤ c) ∧ Below W.heap.size W w') by
    refine (lent_any _ word W (HSR.out.1.bel (h.mono HSR.out.2)) (Nat.le_trans HSR.out.2 h.size) (by have := HN.out; omega)).mono ?_
    rintro e w' ⟨g, c, rfl, ho, hb⟩
    have h1 := TT.of_own ho
    rw [HN.out] at h1 ⊢
    exact ⟨g, c, rfl, h1, hb⟩))
  have HKD := Lib.hid (And.intro hka hkb)
  clear hC9A hC9B hka hkb
  go_enter Try.func3, Try.ntmps3
  go_upto_region 1 with (fail)
  try rw [hW0]
  go_upto_region 3 with (go_at_call 7; refine (HGR.out _ HREFL.out).mono ?_; rintro e w2 ⟨rfl, h2⟩; have H2 := Lib.hid h2; clear h2)
  clear d0 d1 d2 d3 d4 d5 HGR HREFL
  go_cut [7, 8, 9] from 18 to 90 (fun t7 t8 t9 wc => ∃ (E7 E8 : Nat) (kx ky : Value) (g c : Nat), t7 = .pointer (some ⟨E7, 0, none⟩) ∧ t8 = .pointer (some ⟨E8, 0, none⟩) ∧ t9 = .slice (some ⟨g, 0, none⟩) n c ∧ n + 12 ≤ c ∧ F3 W0 wc E7 E8 (.int .i64 ka) (.string la) kx (.int .i64 kb) (.string lb) ky (TX a.kids kx) (TX b.kids ky) (TT word g))
  case first =>
    clear HB0 H8 HXA HXB HSR HLA HN HKD hsa hsb hs1 hn30
    have D0_ := Lib.hid (D3.start H2.out.drew)
    obtain ⟨u0_, hu0⟩ : ∃ x, w2.drew = x := ⟨_, rfl⟩
    refine wp_region_noPanic ?_
    refine wp_region_held_drew (S := fun W => ((W.cell? ⟨w.heap.size, 0, none⟩ = some (.int .i64 ka) ∧ W.cell? ⟨w.heap.size, 1, none⟩ = some (.string la) ∧ W.cell? ⟨w.heap.size, 2, none⟩ = some kva) ∧ W.cell? ⟨w.heap.size + 1, 0, none⟩ = some (.int .i64 kb) ∧ W.cell? ⟨w.heap.size + 1, 1, none⟩ = some (.string lb) ∧ W.cell? ⟨w.heap.size + 1, 2, none⟩ = some kvb)) (by kernel_rfl) (HBX.out _ D0_.out.bel) (fun hHeld => ?_)
    clear hHeld
    rw [hu0] at D0_ ⊢
    clear hu0
    refine wpAnyH_take (i := 0) (v := .agg #[.int .i64 ka, .string la, kva]) rfl (by kernel_rfl) (by kernel_rfl) (by kernel_rfl) (fun _ _ _ h => (h : False).elim) (Or.inl ⟨by rfl, ?_⟩) (HBX.out _ D0_.out.bel) ?_
    · intro w hSw
      obtain ⟨⟨hs0, hs1, hs2⟩, hs3, hs4, hs5⟩ := hSw
      go_simp
    try simp only [Act.put, List.getElem_toArray, List.getElem_cons_zero, List.getElem_cons_succ, List.setIfInBounds_toArray, List.set_cons_zero, List.set_cons_succ]
    refine wpAnyH_take (i := 2) (v := .agg #[.int .i64 kb, .string lb, kvb]) rfl (by kernel_rfl) (by kernel_rfl) (by kernel_rfl) (fun _ _ _ h => (h : False).elim) (Or.inl ⟨by rfl, ?_⟩) (HBX.out _ D0_.out.bel) ?_
    · intro w hSw
      obtain ⟨⟨hs0, hs1, hs2⟩, hs3, hs4, hs5⟩ := hSw
      go_simp
    try simp only [Act.put, List.getElem_toArray, List.getElem_cons_zero, List.getElem_cons_succ, List.setIfInBounds_toArray, List.set_cons_zero, List.set_cons_succ]
    refine wpAnyH_take (i := 4) (v := .slice A2 n c2) rfl (by kernel_rfl) (by kernel_rfl) (by kernel_rfl) (fun _ _ _ h => (h : False).elim) (Or.inl ⟨by rfl, ?_⟩) (HBX.out _ D0_.out.bel) ?_
    · intro w hSw
      obtain ⟨⟨hs0, hs1, hs2⟩, hs3, hs4, hs5⟩ := hSw
      go_simp
    try simp only [Act.put, List.getElem_toArray, List.getElem_cons_zero, List.getElem_cons_succ, List.setIfInBounds_toArray, List.set_cons_zero, List.set_cons_succ]
    refine wpAnyH_ready (rs := [1, 6, 7]) (by kernel_rfl) (by simp) ?_
    refine AllReadyH.cons rfl (fun K hK => ?_) (AllReadyH.cons rfl (fun K hK => ?_) (AllReadyH.cons rfl (fun K hK => ?_) AllReadyH.nil))
    · go_simp
      refine (HC9A.out _ D0_.out.bel).mono ?_
      rintro e u1_ ⟨kv, rfl, hlr, hb⟩
      obtain ⟨ga, ca, rfl, _, _⟩ := hlr.form
      have D1_ := Lib.hid (D0_.out.ca hb (T := TX a.kids (.slice (some ⟨ga, 0, none⟩) a.kids.length ca)) (TX.keep _ _) hlr (fun b hb => hb))
      clear hlr hb
      refine hK.out _ _ (HBX.out _ D1_.out.bel) (fun _ => ?_)
      clear hK
      try simp only [Act.put, List.getElem_toArray, List.getElem_cons_zero, List.getElem_cons_succ, List.setIfInBounds_toArray, List.set_cons_zero, List.set_cons_succ]
      refine wpAnyH_ready (rs := [3, 6, 7]) (by kernel_rfl) (by simp) ?_
      refine AllReadyH.cons rfl (fun K hK => ?_) (AllReadyH.cons rfl (fun K hK => ?_) (AllReadyH.cons rfl (fun K hK => ?_) AllReadyH.nil))
      · go_simp
        refine (HC9B.out _ D1_.out.bel).mono ?_
        rintro e u2_ ⟨kv, rfl, hlr, hb⟩
        obtain ⟨gb, cb, rfl, _, _⟩ := hlr.form
        have D2_ := Lib.hid (D1_.out.cb hb (T := TX b.kids (.slice (some ⟨gb, 0, none⟩) b.kids.length cb)) (TX.keep _ _) hlr (fun b hb => hb))
        clear hlr hb
        refine hK.out _ _ (HBX.out _ D2_.out.bel) (fun _ => ?_)
        clear hK
        try simp only [Act.put, List.getElem_toArray, List.getElem_cons_zero, List.getElem_cons_succ, List.setIfInBounds_toArray, List.set_cons_zero, List.set_cons_succ]
        refine wpAnyH_ready (rs := [5, 6, 7]) (by kernel_rfl) (by simp) ?_
        refine AllReadyH.cons rfl (fun K hK => ?_) (AllReadyH.cons rfl (fun K hK => ?_) (AllReadyH.cons rfl (fun K hK => ?_) AllReadyH.nil))
        · go_simp
          refine (HC10.out _ D2_.out.bel).mono ?_
          rintro e u3_ ⟨g, c, rfl, ⟨htt, hcn⟩, hb⟩
          have D3_ := Lib.hid (D2_.out.cw hb (T := TT word g) (TT.keep _ _) htt (fun b hb => hb))
          clear htt hb
          refine hK.out _ _ (HBX.out _ D3_.out.bel) (fun _ => ?_)
          clear hK
          try simp only [Act.put, List.getElem_toArray, List.getElem_cons_zero, List.getElem_cons_succ, List.setIfInBounds_toArray, List.set_cons_zero, List.set_cons_succ]
          refine wpAnyH_ready (rs := [6, 7]) (by kernel_rfl) (by simp) ?_
          refine AllReadyH.cons rfl (fun K hK => ?_) (AllReadyH.cons rfl (fun K hK => ?_) AllReadyH.nil)
          · go_simp
            have hd := D3_.out.a7
            refine hK.out _ _ (HBX.out _ hd.bel) (fun _ => ?_)
            clear hK
            try simp only [Act.put, List.getElem_toArray, List.getElem_cons_zero, List.getElem_cons_succ, List.setIfInBounds_toArray, List.set_cons_zero, List.set_cons_succ]
            obtain ⟨E7, hE7⟩ : ∃ E7, u3_.heap.size = E7 := ⟨_, rfl⟩
            obtain ⟨u4_, hu4_⟩ : ∃ x, u3_.alloc (.cells #[.int .i64 0, .string ⟨#[]⟩, .slice none 0 0] 25) = x := ⟨_, rfl⟩
            have D4_ := Lib.hid (show D3 W0 u4_ (some E7) none (some (TX a.kids (.slice (some ⟨ga, 0, none⟩) a.kids.length ca))) (some (TX b.kids (.slice (some ⟨gb, 0, none⟩) b.kids.length cb))) (some (TT word g)) by rw [← hu4_, ← hE7]; exact hd)
            rw [hu4_, hE7]
            clear hd hu4_ hE7
            refine wpAnyH_ready (rs := [7]) (by kernel_rfl) (by simp) ?_
            refine AllReadyH.cons rfl (fun K hK => ?_) AllReadyH.nil
            · go_simp
              have hd := D4_.out.a8
              refine hK.out _ _ (HBX.out _ hd.bel) (fun _ => ?_)
              clear hK
              try simp only [Act.put, List.getElem_toArray, List.getElem_cons_zero, List.getElem_cons_succ, List.setIfInBounds_toArray, List.set_cons_zero, List.set_cons_succ]
              obtain ⟨E8, hE8⟩ : ∃ E8, u4_.heap.size = E8 := ⟨_, rfl⟩
              obtain ⟨u5_, hu5_⟩ : ∃ x, u4_.alloc (.cells #[.int .i64 0, .string ⟨#[]⟩, .slice none 0 0] 25) = x := ⟨_, rfl⟩
              have D5_ := Lib.hid (show D3 W0 u5_ (some E7) (some E8) (some (TX a.kids (.slice (some ⟨ga, 0, none⟩) a.kids.length ca))) (some (TX b.kids (.slice (some ⟨gb, 0, none⟩) b.kids.length cb))) (some (TT word g)) by rw [← hu5_, ← hE8]; exact hd)
              rw [hu5_, hE8]
              clear hd hu5_ hE8
              refine wpAnyH_ready (rs := [8]) (by kernel_rfl) (by simp) ?_
              refine AllReadyH.cons rfl (fun K hK => ?_) AllReadyH.nil
              obtain ⟨⟨z0, z1, z2⟩, f0, f1, f2⟩ := z25_cells (D5_.out.z7 _ rfl).2
              go_simp
              refine hK.out _ _ (HBX.out _ (set3_below D5_.out.bel (D5_.out.z7 _ rfl).1 (.int .i64 ka) (.string la) (.slice (some ⟨ga, 0, none⟩) a.kids.length ca))) (fun _ => ?_)
              clear hK z0 z1 z2 f0 f1 f2
              try simp only [Act.put, List.getElem_toArray, List.getElem_cons_zero, List.getElem_cons_succ, List.setIfInBounds_toArray, List.set_cons_zero, List.set_cons_succ]
              obtain ⟨u8, hu8⟩ : ∃ u8, set3 u5_ E7 (.int .i64 ka) (.string la) (.slice (some ⟨ga, 0, none⟩) a.kids.length ca) = u8 := ⟨_, rfl⟩
              have hq8 := hu8
              unfold set3 at hq8
              rw [hq8]
              have B8 := Lib.hid (show Below W0.heap.size W0 u8 by rw [← hu8]; exact set3_below D5_.out.bel (D5_.out.z7 _ rfl).1 _ _ _)
              have e8 : u8.heap[E8]? = some z25 := by rw [← hu8, set3_other _ _ _ (fun e => D5_.out.ne E7 rfl (by rw [e]))]; exact (D5_.out.z8 _ rfl).2
              refine wpAnyH_ready (rs := [9]) (by kernel_rfl) (by simp) ?_
              refine AllReadyH.cons rfl (fun K hK => ?_) AllReadyH.nil
              obtain ⟨⟨z0, z1, z2⟩, f0, f1, f2⟩ := z25_cells e8
              clear e8 hq8
              go_simp
              have B9 := Lib.hid (set3_below B8.out (D5_.out.z8 _ rfl).1 (.int .i64 kb) (.string lb) (.slice (some ⟨gb, 0, none⟩) b.kids.length cb))
              refine hK.out _ _ (HBX.out _ B9.out) (fun _ => ?_)
              clear hK z0 z1 z2 f0 f1 f2
              try simp only [Act.put, List.getElem_toArray, List.getElem_cons_zero, List.getElem_cons_succ, List.setIfInBounds_toArray, List.set_cons_zero, List.set_cons_succ]
              refine wpAnyH_take (i := 10) (v := .slice (some ⟨g, 0, none⟩) n c) rfl (by kernel_rfl) (by kernel_rfl) (by kernel_rfl) (fun _ _ _ h => (h : False).elim) (Or.inl ⟨by rfl, ?_⟩) (HBX.out _ B9.out) ?_
              · intro w hSw
                obtain ⟨⟨hs0, hs1, hs2⟩, hs3, hs4, hs5⟩ := hSw
                go_simp
              try simp only [Act.put, List.getElem_toArray, List.getElem_cons_zero, List.getElem_cons_succ, List.setIfInBounds_toArray, List.set_cons_zero, List.set_cons_succ]
              refine ⟨by kernel_rfl, ?_⟩
              refine NoPanic.normal ?_
              go_wp2_with fail
              go_meet
              exact ⟨E7, E8, _, _, g, c, rfl, rfl, rfl, hcn, by rw [← hu8]; exact D5_.out.fin (.int .i64 ka) (.string la) (.slice (some ⟨ga, 0, none⟩) a.kids.length ca) (.int .i64 kb) (.string lb) (.slice (some ⟨gb, 0, none⟩) b.kids.length cb) (TX.mono _ _) (TX.mono _ _) (TT.mono _ _)⟩
          · go_simp
            have hd := D3_.out.a8
            refine hK.out _ _ (HBX.out _ hd.bel) (fun _ => ?_)
            clear hK
            try simp only [Act.put, List.getElem_toArray, List.getElem_cons_zero, List.getElem_cons_succ, List.setIfInBounds_toArray, List.set_cons_zero, List.set_cons_succ]
            obtain ⟨E8, hE8⟩ : ∃ E8, u3_.heap.size = E8 := ⟨_, rfl⟩
            obtain ⟨u6_, hu6_⟩ : ∃ x, u3_.alloc (.cells #[.int .i64 0, .string ⟨#[]⟩, .slice none 0 0] 25) = x := ⟨_, rfl⟩
            have D6_ := Lib.hid (show D3 W0 u6_ none (some E8) (some (TX a.kids (.slice (some ⟨ga, 0, none⟩) a.kids.length ca))) (some (TX b.kids (.slice (some ⟨gb, 0, none⟩) b.kids.length cb))) (some (TT word g)) by rw [← hu6_, ← hE8]; exact hd)
            rw [hu6_, hE8]
            clear hd hu6_ hE8
            refine wpAnyH_ready (rs := [6]) (by kernel_rfl) (by simp) ?_
            refine AllReadyH.cons rfl (fun K hK => ?_) AllReadyH.nil
            · go_simp
              have hd := D6_.out.a7
              refine hK.out _ _ (HBX.out _ hd.bel) (fun _ => ?_)
              clear hK
              try simp only [Act.put, List.getElem_toArray, List.getElem_cons_zero, List.getElem_cons_succ, List.setIfInBounds_toArray, List.set_cons_zero, List.set_cons_succ]
              obtain ⟨E7, hE7⟩ : ∃ E7, u6_.heap.size = E7 := ⟨_, rfl⟩
              obtain ⟨u7_, hu7_⟩ : ∃ x, u6_.alloc (.cells #[.int .i64 0, .string ⟨#[]⟩, .slice none 0 0] 25) = x := ⟨_, rfl⟩
              have D7_ := Lib.hid (show D3 W0 u7_ (some E7) (some E8) (some (TX a.kids (.slice (some ⟨ga, 0, none⟩) a.kids.length ca))) (some (TX b.kids (.slice (some ⟨gb, 0, none⟩) b.kids.length cb))) (some (TT word g)) by rw [← hu7_, ← hE7]; exact hd)
              rw [hu7_, hE7]
              clear hd hu7_ hE7
              refine wpAnyH_ready (rs := [8]) (by kernel_rfl) (by simp) ?_
              refine AllReadyH.cons rfl (fun K hK => ?_) AllReadyH.nil
              obtain ⟨⟨z0, z1, z2⟩, f0, f1, f2⟩ := z25_cells (D7_.out.z7 _ rfl).2
              go_simp
              refine hK.out _ _ (HBX.out _ (set3_below D7_.out.bel (D7_.out.z7 _ rfl).1 (.int .i64 ka) (.string la) (.slice (some ⟨ga, 0, none⟩) a.kids.length ca))) (fun _ => ?_)
              clear hK z0 z1 z2 f0 f1 f2
              try simp only [Act.put, List.getElem_toArray, List.getElem_cons_zero, List.getElem_cons_succ, List.setIfInBounds_toArray, List.set_cons_zero, List.set_cons_succ]
              obtain ⟨u8, hu8⟩ : ∃ u8, set3 u7_ E7 (.int .i64 ka) (.string la) (.slice (some ⟨ga, 0, none⟩) a.kids.length ca) = u8 := ⟨_, rfl⟩
              have hq8 := hu8
              unfold set3 at hq8
              rw [hq8]
              have B8 := Lib.hid (show Below W0.heap.size W0 u8 by rw [← hu8]; exact set3_below D7_.out.bel (D7_.out.z7 _ rfl).1 _ _ _)
              have e8 : u8.heap[E8]? = some z25 := by rw [← hu8, set3_other _ _ _ (fun e => D7_.out.ne E7 rfl (by rw [e]))]; exact (D7_.out.z8 _ rfl).2
              refine wpAnyH_ready (rs := [9]) (by kernel_rfl) (by simp) ?_
              refine AllReadyH.cons rfl (fun K hK => ?_) AllReadyH.nil
              obtain ⟨⟨z0, z1, z2⟩, f0, f1, f2⟩ := z25_cells e8
              clear e8 hq8
              go_simp
              have B9 := Lib.hid (set3_below B8.out (D7_.out.z8 _ rfl).1 (.int .i64 kb) (.string lb) (.slice (some ⟨gb, 0, none⟩) b.kids.length cb))
              refine hK.out _ _ (HBX.out _ B9.out) (fun _ => ?_)
              clear hK z0 z1 z2 f0 f1 f2
              try simp only [Act.put, List.getElem_toArray, List.getElem_cons_zero, List.getElem_cons_succ, List.setIfInBounds_toArray, List.set_cons_zero, List.set_cons_succ]
              refine wpAnyH_take (i := 10) (v := .slice (some ⟨g, 0, none⟩) n c) rfl (by kernel_rfl) (by kernel_rfl) (by kernel_rfl) (fun _ _ _ h => (h : False).elim) (Or.inl ⟨by rfl, ?_⟩) (HBX.out _ B9.out) ?_
              · intro w hSw
                obtain ⟨⟨hs0, hs1, hs2⟩, hs3, hs4, hs5⟩ := hSw
                go_simp
              try simp only [Act.put, List.getElem_toArray, List.getElem_cons_zero, List.getElem_cons_succ, List.setIfInBounds_toArray, List.set_cons_zero, List.set_cons_succ]
              refine ⟨by kernel_rfl, ?_⟩
              refine NoPanic.normal ?_
              go_wp2_with fail
              go_meet
              exact ⟨E7, E8, _, _, g, c, rfl, rfl, rfl, hcn, by rw [← hu8]; exact D7_.out.fin (.int .i64 ka) (.string la) (.slice (some ⟨ga, 0, none⟩) a.kids.length ca) (.int .i64 kb) (.string lb) (.slice (some ⟨gb, 0, none⟩) b.kids.length cb) (TX.mono _ _) (TX.mono _ _) (TT.mono _ _)⟩
        · go_simp
          have hd := D2_.out.a7
          refine hK.out _ _ (HBX.out _ hd.bel) (fun _ => ?_)
          clear hK
          try simp only [Act.put, List.getElem_toArray, List.getElem_cons_zero, List.getElem_cons_succ, List.setIfInBounds_toArray, List.set_cons_zero, List.set_cons_succ]
          obtain ⟨E7, hE7⟩ : ∃ E7, u2_.heap.size = E7 := ⟨_, rfl⟩
          obtain ⟨u8_, hu8_⟩ : ∃ x, u2_.alloc (.cells #[.int .i64 0, .string ⟨#[]⟩, .slice none 0 0] 25) = x := ⟨_, rfl⟩
          have D8_ := Lib.hid (show D3 W0 u8_ (some E7) none (some (TX a.kids (.slice (some ⟨ga, 0, none⟩) a.kids.length ca))) (some (TX b.kids (.slice (some ⟨gb, 0, none⟩) b.kids.length cb))) none by rw [← hu8_, ← hE7]; exact hd)
          rw [hu8_, hE7]
          clear hd hu8_ hE7
          refine wpAnyH_ready (rs := [5, 7]) (by kernel_rfl) (by simp) ?_
          refine AllReadyH.cons rfl (fun K hK => ?_) (AllReadyH.cons rfl (fun K hK => ?_) AllReadyH.nil)
          · go_simp
            refine (HC10.out _ D8_.out.bel).mono ?_
            rintro e u9_ ⟨g, c, rfl, ⟨htt, hcn⟩, hb⟩
            have D9_ := Lib.hid (D8_.out.cw hb (T := TT word g) (TT.keep _ _) htt (fun b hb => hb))
            clear htt hb
            refine hK.out _ _ (HBX.out _ D9_.out.bel) (fun _ => ?_)
            clear hK
            try simp only [Act.put, List.getElem_toArray, List.getElem_cons_zero, List.getElem_cons_succ, List.setIfInBounds_toArray, List.set_cons_zero, List.set_cons_succ]
            refine wpAnyH_ready (rs := [7]) (by kernel_rfl) (by simp) ?_
            refine AllReadyH.cons rfl (fun K hK => ?_) AllReadyH.nil
            · go_simp
              have hd := D9_.out.a8
              refine hK.out _ _ (HBX.out _ hd.bel) (fun _ => ?_)
              clear hK
              try simp only [Act.put, List.getElem_toArray, List.getElem_cons_zero, List.getElem_cons_succ, List.setIfInBounds_toArray, List.set_cons_zero, List.set_cons_succ]
              obtain ⟨E8, hE8⟩ : ∃ E8, u9_.heap.size = E8 := ⟨_, rfl⟩
              obtain ⟨u10_, hu10_⟩ : ∃ x, u9_.alloc (.cells #[.int .i64 0, .string ⟨#[]⟩, .slice none 0 0] 25) = x := ⟨_, rfl⟩
              have D10_ := Lib.hid (show D3 W0 u10_ (some E7) (some E8) (some (TX a.kids (.slice (some ⟨ga, 0, none⟩) a.kids.length ca))) (some (TX b.kids (.slice (some ⟨gb, 0, none⟩) b.kids.length cb))) (some (TT word g)) by rw [← hu10_, ← hE8]; exact hd)
              rw [hu10_, hE8]
              clear hd hu10_ hE8
              refine wpAnyH_ready (rs := [8]) (by kernel_rfl) (by simp) ?_
              refine AllReadyH.cons rfl (fun K hK => ?_) AllReadyH.nil
              obtain ⟨⟨z0, z1, z2⟩, f0, f1, f2⟩ := z25_cells (D10_.out.z7 _ rfl).2
              go_simp
              refine hK.out _ _ (HBX.out _ (set3_below D10_.out.bel (D10_.out.z7 _ rfl).1 (.int .i64 ka) (.string la) (.slice (some ⟨ga, 0, none⟩) a.kids.length ca))) (fun _ => ?_)
              clear hK z0 z1 z2 f0 f1 f2
              try simp only [Act.put, List.getElem_toArray, List.getElem_cons_zero, List.getElem_cons_succ, List.setIfInBounds_toArray, List.set_cons_zero, List.set_cons_succ]
              obtain ⟨u8, hu8⟩ : ∃ u8, set3 u10_ E7 (.int .i64 ka) (.string la) (.slice (some ⟨ga, 0, none⟩) a.kids.length ca) = u8 := ⟨_, rfl⟩
              have hq8 := hu8
              unfold set3 at hq8
              rw [hq8]
              have B8 := Lib.hid (show Below W0.heap.size W0 u8 by rw [← hu8]; exact set3_below D10_.out.bel (D10_.out.z7 _ rfl).1 _ _ _)
              have e8 : u8.heap[E8]? = some z25 := by rw [← hu8, set3_other _ _ _ (fun e => D10_.out.ne E7 rfl (by rw [e]))]; exact (D10_.out.z8 _ rfl).2
              refine wpAnyH_ready (rs := [9]) (by kernel_rfl) (by simp) ?_
              refine AllReadyH.cons rfl (fun K hK => ?_) AllReadyH.nil
              obtain ⟨⟨z0, z1, z2⟩, f0, f1, f2⟩ := z25_cells e8
              clear e8 hq8
              go_simp
              have B9 := Lib.hid (set3_below B8.out (D10_.out.z8 _ rfl).1 (.int .i64 kb) (.string lb) (.slice (some ⟨gb, 0, none⟩) b.kids.length cb))
              refine hK.out _ _ (HBX.out _ B9.out) (fun _ => ?_)
              clear hK z0 z1 z2 f0 f1 f2
              try simp only [Act.put, List.getElem_toArray, List.getElem_cons_zero, List.getElem_cons_succ, List.setIfInBounds_toArray, List.set_cons_zero, List.set_cons_succ]
              refine wpAnyH_take (i := 10) (v := .slice (some ⟨g, 0, none⟩) n c) rfl (by kernel_rfl) (by kernel_rfl) (by kernel_rfl) (fun _ _ _ h => (h : False).elim) (Or.inl ⟨by rfl, ?_⟩) (HBX.out _ B9.out) ?_
              · intro w hSw
                obtain ⟨⟨hs0, hs1, hs2⟩, hs3, hs4, hs5⟩ := hSw
                go_simp
              try simp only [Act.put, List.getElem_toArray, List.getElem_cons_zero, List.getElem_cons_succ, List.setIfInBounds_toArray, List.set_cons_zero, List.set_cons_succ]
              refine ⟨by kernel_rfl, ?_⟩
              refine NoPanic.normal ?_
              go_wp2_with fail
              go_meet
              exact ⟨E7, E8, _, _, g, c, rfl, rfl, rfl, hcn, by rw [← hu8]; exact D10_.out.fin (.int .i64 ka) (.string la) (.slice (some ⟨ga, 0, none⟩) a.kids.length ca) (.int .i64 kb) (.string lb) (.slice (some ⟨gb, 0, none⟩) b.kids.length cb) (TX.mono _ _) (TX.mono _ _) (TT.mono _ _)⟩
          · go_simp
            have hd := D8_.out.a8
            refine hK.out _ _ (HBX.out _ hd.bel) (fun _ => ?_)
            clear hK
            try simp only [Act.put, List.getElem_toArray, List.getElem_cons_zero, List.getElem_cons_succ, List.setIfInBounds_toArray, List.set_cons_zero, List.set_cons_succ]
            obtain ⟨E8, hE8⟩ : ∃ E8, u8_.heap.size = E8 := ⟨_, rfl⟩
            obtain ⟨u11_, hu11_⟩ : ∃ x, u8_.alloc (.cells #[.int .i64 0, .string ⟨#[]⟩, .slice none 0 0] 25) = x := ⟨_, rfl⟩
            have D11_ := Lib.hid (show D3 W0 u11_ (some E7) (some E8) (some (TX a.kids (.slice (some ⟨ga, 0, none⟩) a.kids.length ca))) (some (TX b.kids (.slice (some ⟨gb, 0, none⟩) b.kids.length cb))) none by rw [← hu11_, ← hE8]; exact hd)
            rw [hu11_, hE8]
            clear hd hu11_ hE8
            refine wpAnyH_ready (rs := [5]) (by kernel_rfl) (by simp) ?_
            refine AllReadyH.cons rfl (fun K hK => ?_) AllReadyH.nil
            · go_simp
              refine (HC10.out _ D11_.out.bel).mono ?_
              rintro e u12_ ⟨g, c, rfl, ⟨htt, hcn⟩, hb⟩
              have D12_ := Lib.hid (D11_.out.cw hb (T := TT word g) (TT.keep _ _) htt (fun b hb => hb))
              clear htt hb
              refine hK.out _ _ (HBX.out _ D12_.out.bel) (fun _ => ?_)
              clear hK
              try simp only [Act.put, List.getElem_toArray, List.getElem_cons_zero, List.getElem_cons_succ, List.setIfInBounds_toArray, List.set_cons_zero, List.set_cons_succ]
              refine wpAnyH_ready (rs := [8]) (by kernel_rfl) (by simp) ?_
              refine AllReadyH.cons rfl (fun K hK => ?_) AllReadyH.nil
              obtain ⟨⟨z0, z1, z2⟩, f0, f1, f2⟩ := z25_cells (D12_.out.z7 _ rfl).2
              go_simp
              refine hK.out _ _ (HBX.out _ (set3_below D12_.out.bel (D12_.out.z7 _ rfl).1 (.int .i64 ka) (.string la) (.slice (some ⟨ga, 0, none⟩) a.kids.length ca))) (fun _ => ?_)
              clear hK z0 z1 z2 f0 f1 f2
              try simp only [Act.put, List.getElem_toArray, List.getElem_cons_zero, List.getElem_cons_succ, List.setIfInBounds_toArray, List.set_cons_zero, List.set_cons_succ]
              obtain ⟨u8, hu8⟩ : ∃ u8, set3 u12_ E7 (.int .i64 ka) (.string la) (.slice (some ⟨ga, 0, none⟩) a.kids.length ca) = u8 := ⟨_, rfl⟩
              have hq8 := hu8
              unfold set3 at hq8
              rw [hq8]
              have B8 := Lib.hid (show Below W0.heap.size W0 u8 by rw [← hu8]; exact set3_below D12_.out.bel (D12_.out.z7 _ rfl).1 _ _ _)
              have e8 : u8.heap[E8]? = some z25 := by rw [← hu8, set3_other _ _ _ (fun e => D12_.out.ne E7 rfl (by rw [e]))]; exact (D12_.out.z8 _ rfl).2
              refine wpAnyH_ready (rs := [9]) (by kernel_rfl) (by simp) ?_
              refine AllReadyH.cons rfl (fun K hK => ?_) AllReadyH.nil
              obtain ⟨⟨z0, z1, z2⟩, f0, f1, f2⟩ := z25_cells e8
              clear e8 hq8
              go_simp
              have B9 := Lib.hid (set3_below B8.out (D12_.out.z8 _ rfl).1 (.int .i64 kb) (.string lb) (.slice (some ⟨gb, 0, none⟩) b.kids.length cb))
              refine hK.out _ _ (HBX.out _ B9.out) (fun _ => ?_)
              clear hK z0 z1 z2 f0 f1 f2
              try simp only [Act.put, List.getElem_toArray, List.getElem_cons_zero, List.getElem_cons_succ, List.setIfInBounds_toArray, List.set_cons_zero, List.set_cons_succ]
              refine wpAnyH_take (i := 10) (v := .slice (some ⟨g, 0, none⟩) n c) rfl (by kernel_rfl) (by kernel_rfl) (by kernel_rfl) (fun _ _ _ h => (h : False).elim) (Or.inl ⟨by rfl, ?_⟩) (HBX.out _ B9.out) ?_
              · intro w hSw
                obtain ⟨⟨hs0, hs1, hs2⟩, hs3, hs4, hs5⟩ := hSw
                go_simp
              try simp only [Act.put, List.getElem_toArray, List.getElem_cons_zero, List.getElem_cons_succ, List.setIfInBounds_toArray, List.set_cons_zero, List.set_cons_succ]
              refine ⟨by kernel_rfl, ?_⟩
              refine NoPanic.normal ?_
              go_wp2_with fail
              go_meet
              exact ⟨E7, E8, _, _, g, c, rfl, rfl, rfl, hcn, by rw [← hu8]; exact D12_.out.fin (.int .i64 ka) (.string la) (.slice (some ⟨ga, 0, none⟩) a.kids.length ca) (.int .i64 kb) (.string lb) (.slice (some ⟨gb, 0, none⟩) b.kids.length cb) (TX.mono _ _) (TX.mono _ _) (TT.mono _ _)⟩
        · go_simp
          have hd := D2_.out.a8
          refine hK.out _ _ (HBX.out _ hd.bel) (fun _ => ?_)
          clear hK
          try simp only [Act.put, List.getElem_toArray, List.getElem_cons_zero, List.getElem_cons_succ, List.setIfInBounds_toArray, List.set_cons_zero, List.set_cons_succ]
          obtain ⟨E8, hE8⟩ : ∃ E8, u2_.heap.size = E8 := ⟨_, rfl⟩
          obtain ⟨u13_, hu13_⟩ : ∃ x, u2_.alloc (.cells #[.int .i64 0, .string ⟨#[]⟩, .slice none 0 0] 25) = x := ⟨_, rfl⟩
          have D13_ := Lib.hid (show D3 W0 u13_ none (some E8) (some (TX a.kids (.slice (some ⟨ga, 0, none⟩) a.kids.length ca))) (some (TX b.kids (.slice (some ⟨gb, 0, none⟩) b.kids.length cb))) none by rw [← hu13_, ← hE8]; exact hd)
          rw [hu13_, hE8]
          clear hd hu13_ hE8
          refine wpAnyH_ready (rs := [5, 6]) (by kernel_rfl) (by simp) ?_
          refine AllReadyH.cons rfl (fun K hK => ?_) (AllReadyH.cons rfl (fun K hK => ?_) AllReadyH.nil)
          · go_simp
            refine (HC10.out _ D13_.out.bel).mono ?_
            rintro e u14_ ⟨g, c, rfl, ⟨htt, hcn⟩, hb⟩
            have D14_ := Lib.hid (D13_.out.cw hb (T := TT word g) (TT.keep _ _) htt (fun b hb => hb))
            clear htt hb
            refine hK.out _ _ (HBX.out _ D14_.out.bel) (fun _ => ?_)
            clear hK
            try simp only [Act.put, List.getElem_toArray, List.getElem_cons_zero, List.getElem_cons_succ, List.setIfInBounds_toArray, List.set_cons_zero, List.set_cons_succ]
            refine wpAnyH_ready (rs := [6]) (by kernel_rfl) (by simp) ?_
            refine AllReadyH.cons rfl (fun K hK => ?_) AllReadyH.nil
            · go_simp
              have hd := D14_.out.a7
              refine hK.out _ _ (HBX.out _ hd.bel) (fun _ => ?_)
              clear hK
              try simp only [Act.put, List.getElem_toArray, List.getElem_cons_zero, List.getElem_cons_succ, List.setIfInBounds_toArray, List.set_cons_zero, List.set_cons_succ]
              obtain ⟨E7, hE7⟩ : ∃ E7, u14_.heap.size = E7 := ⟨_, rfl⟩
              obtain ⟨u15_, hu15_⟩ : ∃ x, u14_.alloc (.cells #[.int .i64 0, .string ⟨#[]⟩, .slice none 0 0] 25) = x := ⟨_, rfl⟩
              have D15_ := Lib.hid (show D3 W0 u15_ (some E7) (some E8) (some (TX a.kids (.slice (some ⟨ga, 0, none⟩) a.kids.length ca))) (some (TX b.kids (.slice (some ⟨gb, 0, none⟩) b.kids.length cb))) (some (TT word g)) by rw [← hu15_, ← hE7]; exact hd)
              rw [hu15_, hE7]
              clear hd hu15_ hE7
              refine wpAnyH_ready (rs := [8]) (by kernel_rfl) (by simp) ?_
              refine AllReadyH.cons rfl (fun K hK => ?_) AllReadyH.nil
              obtain ⟨⟨z0, z1, z2⟩, f0, f1, f2⟩ := z25_cells (D15_.out.z7 _ rfl).2
              go_simp
              refine hK.out _ _ (HBX.out _ (set3_below D15_.out.bel (D15_.out.z7 _ rfl).1 (.int .i64 ka) (.string la) (.slice (some ⟨ga, 0, none⟩) a.kids.length ca))) (fun _ => ?_)
              clear hK z0 z1 z2 f0 f1 f2
              try simp only [Act.put, List.getElem_toArray, List.getElem_cons_zero, List.getElem_cons_succ, List.setIfInBounds_toArray, List.set_cons_zero, List.set_cons_succ]
              obtain ⟨u8, hu8⟩ : ∃ u8, set3 u15_ E7 (.int .i64 ka) (.string la) (.slice (some ⟨ga, 0, none⟩) a.kids.length ca) = u8 := ⟨_, rfl⟩
              have hq8 := hu8
              unfold set3 at hq8
              rw [hq8]
              have B8 := Lib.hid (show Below W0.heap.size W0 u8 by rw [← hu8]; exact set3_below D15_.out.bel (D15_.out.z7 _ rfl).1 _ _ _)
              have e8 : u8.heap[E8]? = some z25 := by rw [← hu8, set3_other _ _ _ (fun e => D15_.out.ne E7 rfl (by rw [e]))]; exact (D15_.out.z8 _ rfl).2
              refine wpAnyH_ready (rs := [9]) (by kernel_rfl) (by simp) ?_
              refine AllReadyH.cons rfl (fun K hK => ?_) AllReadyH.nil
              obtain ⟨⟨z0, z1, z2⟩, f0, f1, f2⟩ := z25_cells e8
              clear e8 hq8
              go_simp
              have B9 := Lib.hid (set3_below B8.out (D15_.out.z8 _ rfl).1 (.int .i64 kb) (.string lb) (.slice (some ⟨gb, 0, none⟩) b.kids.length cb))
              refine hK.out _ _ (HBX.out _ B9.out) (fun _ => ?_)
              clear hK z0 z1 z2 f0 f1 f2
              try simp only [Act.put, List.getElem_toArray, List.getElem_cons_zero, List.getElem_cons_succ, List.setIfInBounds_toArray, List.set_cons_zero, List.set_cons_succ]
              refine wpAnyH_take (i := 10) (v := .slice (some ⟨g, 0, none⟩) n c) rfl (by kernel_rfl) (by kernel_rfl) (by kernel_rfl) (fun _ _ _ h => (h : False).elim) (Or.inl ⟨by rfl, ?_⟩) (HBX.out _ B9.out) ?_
              · intro w hSw
                obtain ⟨⟨hs0, hs1, hs2⟩, hs3, hs4, hs5⟩ := hSw
                go_simp
              try simp only [Act.put, List.getElem_toArray, List.getElem_cons_zero, List.getElem_cons_succ, List.setIfInBounds_toArray, List.set_cons_zero, List.set_cons_succ]
              refine ⟨by kernel_rfl, ?_⟩
              refine NoPanic.normal ?_
              go_wp2_with fail
              go_meet
              exact ⟨E7, E8, _, _, g, c, rfl, rfl, rfl, hcn, by rw [← hu8]; exact D15_.out.fin (.int .i64 ka) (.string la) (.slice (some ⟨ga, 0, none⟩) a.kids.length ca) (.int .i64 kb) (.string lb) (.slice (some ⟨gb, 0, none⟩) b.kids.length cb) (TX.mono _ _) (TX.mono _ _) (TT.mono _ _)⟩
          · go_simp
            have hd := D13_.out.a7
            refine hK.out _ _ (HBX.out _ hd.bel) (fun _ => ?_)
            clear hK
            try simp only [Act.put, List.getElem_toArray, List.getElem_cons_zero, List.getElem_cons_succ, List.setIfInBounds_toArray, List.set_cons_zero, List.set_cons_succ]
            obtain ⟨E7, hE7⟩ : ∃ E7, u13_.heap.size = E7 := ⟨_, rfl⟩
            obtain ⟨u16_, hu16_⟩ : ∃ x, u13_.alloc (.cells #[.int .i64 0, .string ⟨#[]⟩, .slice none 0 0] 25) = x := ⟨_, rfl⟩
            have D16_ := Lib.hid (show D3 W0 u16_ (some E7) (some E8) (some (TX a.kids (.slice (some ⟨ga, 0, none⟩) a.kids.length ca))) (some (TX b.kids (.slice (some ⟨gb, 0, none⟩) b.kids.length cb))) none by rw [← hu16_, ← hE7]; exact hd)
            rw [hu16_, hE7]
            clear hd hu16_ hE7
            refine wpAnyH_ready (rs := [5]) (by kernel_rfl) (by simp) ?_
            refine AllReadyH.cons rfl (fun K hK => ?_) AllReadyH.nil
            · go_simp
              refine (HC10.out _ D16_.out.bel).mono ?_
              rintro e u17_ ⟨g, c, rfl, ⟨htt, hcn⟩, hb⟩
              have D17_ := Lib.hid (D16_.out.cw hb (T := TT word g) (TT.keep _ _) htt (fun b hb => hb))
              clear htt hb
              refine hK.out _ _ (HBX.out _ D17_.out.bel) (fun _ => ?_)
              clear hK
              try simp only [Act.put, List.getElem_toArray, List.getElem_cons_zero, List.getElem_cons_succ, List.setIfInBounds_toArray, List.set_cons_zero, List.set_cons_succ]
              refine wpAnyH_ready (rs := [8]) (by kernel_rfl) (by simp) ?_
              refine AllReadyH.cons rfl (fun K hK => ?_) AllReadyH.nil
              obtain ⟨⟨z0, z1, z2⟩, f0, f1, f2⟩ := z25_cells (D17_.out.z7 _ rfl).2
              go_simp
              refine hK.out _ _ (HBX.out _ (set3_below D17_.out.bel (D17_.out.z7 _ rfl).1 (.int .i64 ka) (.string la) (.slice (some ⟨ga, 0, none⟩) a.kids.length ca))) (fun _ => ?_)
              clear hK z0 z1 z2 f0 f1 f2
              try simp only [Act.put, List.getElem_toArray, List.getElem_cons_zero, List.getElem_cons_succ, List.setIfInBounds_toArray, List.set_cons_zero, List.set_cons_succ]
              obtain ⟨u8, hu8⟩ : ∃ u8, set3 u17_ E7 (.int .i64 ka) (.string la) (.slice (some ⟨ga, 0, none⟩) a.kids.length ca) = u8 := ⟨_, rfl⟩
              have hq8 := hu8
              unfold set3 at hq8
              rw [hq8]
              have B8 := Lib.hid (show Below W0.heap.size W0 u8 by rw [← hu8]; exact set3_below D17_.out.bel (D17_.out.z7 _ rfl).1 _ _ _)
              have e8 : u8.heap[E8]? = some z25 := by rw [← hu8, set3_other _ _ _ (fun e => D17_.out.ne E7 rfl (by rw [e]))]; exact (D17_.out.z8 _ rfl).2
              refine wpAnyH_ready (rs := [9]) (by kernel_rfl) (by simp) ?_
              refine AllReadyH.cons rfl (fun K hK => ?_) AllReadyH.nil
              obtain ⟨⟨z0, z1, z2⟩, f0, f1, f2⟩ := z25_cells e8
              clear e8 hq8
              go_simp
              have B9 := Lib.hid (set3_below B8.out (D17_.out.z8 _ rfl).1 (.int .i64 kb) (.string lb) (.slice (some ⟨gb, 0, none⟩) b.kids.length cb))
              refine hK.out _ _ (HBX.out _ B9.out) (fun _ => ?_)
              clear hK z0 z1 z2 f0 f1 f2
              try simp only [Act.put, List.getElem_toArray, List.getElem_cons_zero, List.getElem_cons_succ, List.setIfInBounds_toArray, List.set_cons_zero, List.set_cons_succ]
              refine wpAnyH_take (i := 10) (v := .slice (some ⟨g, 0, none⟩) n c) rfl (by kernel_rfl) (by kernel_rfl) (by kernel_rfl) (fun _ _ _ h => (h : False).elim) (Or.inl ⟨by rfl, ?_⟩) (HBX.out _ B9.out) ?_
              · intro w hSw
                obtain ⟨⟨hs0, hs1, hs2⟩, hs3, hs4, hs5⟩ := hSw
                go_simp
              try simp only [Act.put, List.getElem_toArray, List.getElem_cons_zero, List.getElem_cons_succ, List.setIfInBounds_toArray, List.set_cons_zero, List.set_cons_succ]
              refine ⟨by kernel_rfl, ?_⟩
              refine NoPanic.normal ?_
              go_wp2_with fail
              go_meet
              exact ⟨E7, E8, _, _, g, c, rfl, rfl, rfl, hcn, by rw [← hu8]; exact D17_.out.fin (.int .i64 ka) (.string la) (.slice (some ⟨ga, 0, none⟩) a.kids.length ca) (.int .i64 kb) (.string lb) (.slice (some ⟨gb, 0, none⟩) b.kids.length cb) (TX.mono _ _) (TX.mono _ _) (TT.mono _ _)⟩
      · go_simp
        have hd := D1_.out.a7
        refine hK.out _ _ (HBX.out _ hd.bel) (fun _ => ?_)
        clear hK
        try simp only [Act.put, List.getElem_toArray, List.getElem_cons_zero, List.getElem_cons_succ, List.setIfInBounds_toArray, List.set_cons_zero, List.set_cons_succ]
        obtain ⟨E7, hE7⟩ : ∃ E7, u1_.heap.size = E7 := ⟨_, rfl⟩
        obtain ⟨u18_, hu18_⟩ : ∃ x, u1_.alloc (.cells #[.int .i64 0, .string ⟨#[]⟩, .slice none 0 0] 25) = x := ⟨_, rfl⟩
        have D18_ := Lib.hid (show D3 W0 u18_ (some E7) none (some (TX a.kids (.slice (some ⟨ga, 0, none⟩) a.kids.length ca))) none none by rw [← hu18_, ← hE7]; exact hd)
        rw [hu18_, hE7]
        clear hd hu18_ hE7
        refine wpAnyH_ready (rs := [3, 7]) (by kernel_rfl) (by simp) ?_
        refine AllReadyH.cons rfl (fun K hK => ?_) (AllReadyH.cons rfl (fun K hK => ?_) AllReadyH.nil)
        · go_simp
          refine (HC9B.out _ D18_.out.bel).mono ?_
          rintro e u19_ ⟨kv, rfl, hlr, hb⟩
          obtain ⟨gb, cb, rfl, _, _⟩ := hlr.form
          have D19_ := Lib.hid (D18_.out.cb hb (T := TX b.kids (.slice (some ⟨gb, 0, none⟩) b.kids.length cb)) (TX.keep _ _) hlr (fun b hb => hb))
          clear hlr hb
          refine hK.out _ _ (HBX.out _ D19_.out.bel) (fun _ => ?_)
          clear hK
          try simp only [Act.put, List.getElem_toArray, List.getElem_cons_zero, List.getElem_cons_succ, List.setIfInBounds_toArray, List.set_cons_zero, List.set_cons_succ]
          refine wpAnyH_ready (rs := [5, 7]) (by kernel_rfl) (by simp) ?_
          refine AllReadyH.cons rfl (fun K hK => ?_) (AllReadyH.cons rfl (fun K hK => ?_) AllReadyH.nil)
          · go_simp
            refine (HC10.out _ D19_.out.bel).mono ?_
            rintro e u20_ ⟨g, c, rfl, ⟨htt, hcn⟩, hb⟩
            have D20_ := Lib.hid (D19_.out.cw hb (T := TT word g) (TT.keep _ _) htt (fun b hb => hb))
            clear htt hb
            refine hK.out _ _ (HBX.out _ D20_.out.bel) (fun _ => ?_)
            clear hK
            try simp only [Act.put, List.getElem_toArray, List.getElem_cons_zero, List.getElem_cons_succ, List.setIfInBounds_toArray, List.set_cons_zero, List.set_cons_succ]
            refine wpAnyH_ready (rs := [7]) (by kernel_rfl) (by simp) ?_
            refine AllReadyH.cons rfl (fun K hK => ?_) AllReadyH.nil
            · go_simp
              have hd := D20_.out.a8
              refine hK.out _ _ (HBX.out _ hd.bel) (fun _ => ?_)
              clear hK
              try simp only [Act.put, List.getElem_toArray, List.getElem_cons_zero, List.getElem_cons_succ, List.setIfInBounds_toArray, List.set_cons_zero, List.set_cons_succ]
              obtain ⟨E8, hE8⟩ : ∃ E8, u20_.heap.size = E8 := ⟨_, rfl⟩
              obtain ⟨u21_, hu21_⟩ : ∃ x, u20_.alloc (.cells #[.int .i64 0, .string ⟨#[]⟩, .slice none 0 0] 25) = x := ⟨_, rfl⟩
              have D21_ := Lib.hid (show D3 W0 u21_ (some E7) (some E8) (some (TX a.kids (.slice (some ⟨ga, 0, none⟩) a.kids.length ca))) (some (TX b.kids (.slice (some ⟨gb, 0, none⟩) b.kids.length cb))) (some (TT word g)) by rw [← hu21_, ← hE8]; exact hd)
              rw [hu21_, hE8]
              clear hd hu21_ hE8
              refine wpAnyH_ready (rs := [8]) (by kernel_rfl) (by simp) ?_
              refine AllReadyH.cons rfl (fun K hK => ?_) AllReadyH.nil
              obtain ⟨⟨z0, z1, z2⟩, f0, f1, f2⟩ := z25_cells (D21_.out.z7 _ rfl).2
              go_simp
              refine hK.out _ _ (HBX.out _ (set3_below D21_.out.bel (D21_.out.z7 _ rfl).1 (.int .i64 ka) (.string la) (.slice (some ⟨ga, 0, none⟩) a.kids.length ca))) (fun _ => ?_)
              clear hK z0 z1 z2 f0 f1 f2
              try simp only [Act.put, List.getElem_toArray, List.getElem_cons_zero, List.getElem_cons_succ, List.setIfInBounds_toArray, List.set_cons_zero, List.set_cons_succ]
              obtain ⟨u8, hu8⟩ : ∃ u8, set3 u21_ E7 (.int .i64 ka) (.string la) (.slice (some ⟨ga, 0, none⟩) a.kids.length ca) = u8 := ⟨_, rfl⟩
              have hq8 := hu8
              unfold set3 at hq8
              rw [hq8]
              have B8 := Lib.hid (show Below W0.heap.size W0 u8 by rw [← hu8]; exact set3_below D21_.out.bel (D21_.out.z7 _ rfl).1 _ _ _)
              have e8 : u8.heap[E8]? = some z25 := by rw [← hu8, set3_other _ _ _ (fun e => D21_.out.ne E7 rfl (by rw [e]))]; exact (D21_.out.z8 _ rfl).2
              refine wpAnyH_ready (rs := [9]) (by kernel_rfl) (by simp) ?_
              refine AllReadyH.cons rfl (fun K hK => ?_) AllReadyH.nil
              obtain ⟨⟨z0, z1, z2⟩, f0, f1, f2⟩ := z25_cells e8
              clear e8 hq8
              go_simp
              have B9 := Lib.hid (set3_below B8.out (D21_.out.z8 _ rfl).1 (.int .i64 kb) (.string lb) (.slice (some ⟨gb, 0, none⟩) b.kids.length cb))
              refine hK.out _ _ (HBX.out _ B9.out) (fun _ => ?_)
              clear hK z0 z1 z2 f0 f1 f2
              try simp only [Act.put, List.getElem_toArray, List.getElem_cons_zero, List.getElem_cons_succ, List.setIfInBounds_toArray, List.set_cons_zero, List.set_cons_succ]
              refine wpAnyH_take (i := 10) (v := .slice (some ⟨g, 0, none⟩) n c) rfl (by kernel_rfl) (by kernel_rfl) (by kernel_rfl) (fun _ _ _ h => (h : False).elim) (Or.inl ⟨by rfl, ?_⟩) (HBX.out _ B9.out) ?_
              · intro w hSw
                obtain ⟨⟨hs0, hs1, hs2⟩, hs3, hs4, hs5⟩ := hSw
                go_simp
              try simp only [Act.put, List.getElem_toArray, List.getElem_cons_zero, List.getElem_cons_succ, List.setIfInBounds_toArray, List.set_cons_zero, List.set_cons_succ]
              refine ⟨by kernel_rfl, ?_⟩
              refine NoPanic.normal ?_
              go_wp2_with fail
              go_meet
              exact ⟨E7, E8, _, _, g, c, rfl, rfl, rfl, hcn, by rw [← hu8]; exact D21_.out.fin (.int .i64 ka) (.string la) (.slice (some ⟨ga, 0, none⟩) a.kids.length ca) (.int .i64 kb) (.string lb) (.slice (some ⟨gb, 0, none⟩) b.kids.length cb) (TX.mono _ _) (TX.mono _ _) (TT.mono _ _)⟩
          · go_simp
            have hd := D19_.out.a8
            refine hK.out _ _ (HBX.out _ hd.bel) (fun _ => ?_)
            clear hK
            try simp only [Act.put, List.getElem_toArray, List.getElem_cons_zero, List.getElem_cons_succ, List.setIfInBounds_toArray, List.set_cons_zero, List.set_cons_succ]
            obtain ⟨E8, hE8⟩ : ∃ E8, u19_.heap.size = E8 := ⟨_, rfl⟩
            obtain ⟨u22_, hu22_⟩ : ∃ x, u19_.alloc (.cells #[.int .i64 0, .string ⟨#[]⟩, .slice none 0 0] 25) = x := ⟨_, rfl⟩
            have D22_ := Lib.hid (show D3 W0 u22_ (some E7) (some E8) (some (TX a.kids (.slice (some ⟨ga, 0, none⟩) a.kids.length ca))) (some (TX b.kids (.slice (some ⟨gb, 0, none⟩) b.kids.length cb))) none by rw [← hu22_, ← hE8]; exact hd)
            rw [hu22_, hE8]
            clear hd hu22_ hE8
            refine wpAnyH_ready (rs := [5]) (by kernel_rfl) (by simp) ?_
            refine AllReadyH.cons rfl (fun K hK => ?_) AllReadyH.nil
            · go_simp
              refine (HC10.out _ D22_.out.bel).mono ?_
              rintro e u23_ ⟨g, c, rfl, ⟨htt, hcn⟩, hb⟩
              have D23_ := Lib.hid (D22_.out.cw hb (T := TT word g) (TT.keep _ _) htt (fun b hb => hb))
              clear htt hb
              refine hK.out _ _ (HBX.out _ D23_.out.bel) (fun _ => ?_)
              clear hK
              try simp only [Act.put, List.getElem_toArray, List.getElem_cons_zero, List.getElem_cons_succ, List.setIfInBounds_toArray, List.set_cons_zero, List.set_cons_succ]
              refine wpAnyH_ready (rs := [8]) (by kernel_rfl) (by simp) ?_
              refine AllReadyH.cons rfl (fun K hK => ?_) AllReadyH.nil
              obtain ⟨⟨z0, z1, z2⟩, f0, f1, f2⟩ := z25_cells (D23_.out.z7 _ rfl).2
              go_simp
              refine hK.out _ _ (HBX.out _ (set3_below D23_.out.bel (D23_.out.z7 _ rfl).1 (.int .i64 ka) (.string la) (.slice (some ⟨ga, 0, none⟩) a.kids.length ca))) (fun _ => ?_)
              clear hK z0 z1 z2 f0 f1 f2
              try simp only [Act.put, List.getElem_toArray, List.getElem_cons_zero, List.getElem_cons_succ, List.setIfInBounds_toArray, List.set_cons_zero, List.set_cons_succ]
              obtain ⟨u8, hu8⟩ : ∃ u8, set3 u23_ E7 (.int .i64 ka) (.string la) (.slice (some ⟨ga, 0, none⟩) a.kids.length ca) = u8 := ⟨_, rfl⟩
              have hq8 := hu8
              unfold set3 at hq8
              rw [hq8]
              have B8 := Lib.hid (show Below W0.heap.size W0 u8 by rw [← hu8]; exact set3_below D23_.out.bel (D23_.out.z7 _ rfl).1 _ _ _)
              have e8 : u8.heap[E8]? = some z25 := by rw [← hu8, set3_other _ _ _ (fun e => D23_.out.ne E7 rfl (by rw [e]))]; exact (D23_.out.z8 _ rfl).2
              refine wpAnyH_ready (rs := [9]) (by kernel_rfl) (by simp) ?_
              refine AllReadyH.cons rfl (fun K hK => ?_) AllReadyH.nil
              obtain ⟨⟨z0, z1, z2⟩, f0, f1, f2⟩ := z25_cells e8
              clear e8 hq8
              go_simp
              have B9 := Lib.hid (set3_below B8.out (D23_.out.z8 _ rfl).1 (.int .i64 kb) (.string lb) (.slice (some ⟨gb, 0, none⟩) b.kids.length cb))
              refine hK.out _ _ (HBX.out _ B9.out) (fun _ => ?_)
              clear hK z0 z1 z2 f0 f1 f2
              try simp only [Act.put, List.getElem_toArray, List.getElem_cons_zero, List.getElem_cons_succ, List.setIfInBounds_toArray, List.set_cons_zero, List.set_cons_succ]
              refine wpAnyH_take (i := 10) (v := .slice (some ⟨g, 0, none⟩) n c) rfl (by kernel_rfl) (by kernel_rfl) (by kernel_rfl) (fun _ _ _ h => (h : False).elim) (Or.inl ⟨by rfl, ?_⟩) (HBX.out _ B9.out) ?_
              · intro w hSw
                obtain ⟨⟨hs0, hs1, hs2⟩, hs3, hs4, hs5⟩ := hSw
                go_simp
              try simp only [Act.put, List.getElem_toArray, List.getElem_cons_zero, List.getElem_cons_succ, List.setIfInBounds_toArray, List.set_cons_zero, List.set_cons_succ]
              refine ⟨by kernel_rfl, ?_⟩
              refine NoPanic.normal ?_
              go_wp2_with fail
              go_meet
              exact ⟨E7, E8, _, _, g, c, rfl, rfl, rfl, hcn, by rw [← hu8]; exact D23_.out.fin (.int .i64 ka) (.string la) (.slice (some ⟨ga, 0, none⟩) a.kids.length ca) (.int .i64 kb) (.string lb) (.slice (some ⟨gb, 0, none⟩) b.kids.length cb) (TX.mono _ _) (TX.mono _ _) (TT.mono _ _)⟩
        · go_simp
          have hd := D18_.out.a8
          refine hK.out _ _ (HBX.out _ hd.bel) (fun _ => ?_)
          clear hK
          try simp only [Act.put, List.getElem_toArray, List.getElem_cons_zero, List.getElem_cons_succ, List.setIfInBounds_toArray, List.set_cons_zero, List.set_cons_succ]
          obtain ⟨E8, hE8⟩ : ∃ E8, u18_.heap.size = E8 := ⟨_, rfl⟩
          obtain ⟨u24_, hu24_⟩ : ∃ x, u18_.alloc (.cells #[.int .i64 0, .string ⟨#[]⟩, .slice none 0 0] 25) = x := ⟨_, rfl⟩
          have D24_ := Lib.hid (show D3 W0 u24_ (some E7) (some E8) (some (TX a.kids (.slice (some ⟨ga, 0, none⟩) a.kids.length ca))) none none by rw [← hu24_, ← hE8]; exact hd)
          rw [hu24_, hE8]
          clear hd hu24_ hE8
          refine wpAnyH_ready (rs := [3]) (by kernel_rfl) (by simp) ?_
          refine AllReadyH.cons rfl (fun K hK => ?_) AllReadyH.nil
          · go_simp
            refine (HC9B.out _ D24_.out.bel).mono ?_
            rintro e u25_ ⟨kv, rfl, hlr, hb⟩
            obtain ⟨gb, cb, rfl, _, _⟩ := hlr.form
            have D25_ := Lib.hid (D24_.out.cb hb (T := TX b.kids (.slice (some ⟨gb, 0, none⟩) b.kids.length cb)) (TX.keep _ _) hlr (fun b hb => hb))
            clear hlr hb
            refine hK.out _ _ (HBX.out _ D25_.out.bel) (fun _ => ?_)
            clear hK
            try simp only [Act.put, List.getElem_toArray, List.getElem_cons_zero, List.getElem_cons_succ, List.setIfInBounds_toArray, List.set_cons_zero, List.set_cons_succ]
            refine wpAnyH_ready (rs := [5]) (by kernel_rfl) (by simp) ?_
            refine AllReadyH.cons rfl (fun K hK => ?_) AllReadyH.nil
            · go_simp
              refine (HC10.out _ D25_.out.bel).mono ?_
              rintro e u26_ ⟨g, c, rfl, ⟨htt, hcn⟩, hb⟩
              have D26_ := Lib.hid (D25_.out.cw hb (T := TT word g) (TT.keep _ _) htt (fun b hb => hb))
              clear htt hb
              refine hK.out _ _ (HBX.out _ D26_.out.bel) (fun _ => ?_)
              clear hK
              try simp only [Act.put, List.getElem_toArray, List.getElem_cons_zero, List.getElem_cons_succ, List.setIfInBounds_toArray, List.set_cons_zero, List.set_cons_succ]
              refine wpAnyH_ready (rs := [8]) (by kernel_rfl) (by simp) ?_
              refine AllReadyH.cons rfl (fun K hK => ?_) AllReadyH.nil
              obtain ⟨⟨z0, z1, z2⟩, f0, f1, f2⟩ := z25_cells (D26_.out.z7 _ rfl).2
              go_simp
              refine hK.out _ _ (HBX.out _ (set3_below D26_.out.bel (D26_.out.z7 _ rfl).1 (.int .i64 ka) (.string la) (.slice (some ⟨ga, 0, none⟩) a.kids.length ca))) (fun _ => ?_)
              clear hK z0 z1 z2 f0 f1 f2
              try simp only [Act.put, List.getElem_toArray, List.getElem_cons_zero, List.getElem_cons_succ, List.setIfInBounds_toArray, List.set_cons_zero, List.set_cons_succ]
              obtain ⟨u8, hu8⟩ : ∃ u8, set3 u26_ E7 (.int .i64 ka) (.string la) (.slice (some ⟨ga, 0, none⟩) a.kids.length ca) = u8 := ⟨_, rfl⟩
              have hq8 := hu8
              unfold set3 at hq8
              rw [hq8]
              have B8 := Lib.hid (show Below W0.heap.size W0 u8 by rw [← hu8]; exact set3_below D26_.out.bel (D26_.out.z7 _ rfl).1 _ _ _)
              have e8 : u8.heap[E8]? = some z25 := by rw [← hu8, set3_other _ _ _ (fun e => D26_.out.ne E7 rfl (by rw [e]))]; exact (D26_.out.z8 _ rfl).2
              refine wpAnyH_ready (rs := [9]) (by kernel_rfl) (by simp) ?_
              refine AllReadyH.cons rfl (fun K hK => ?_) AllReadyH.nil
              obtain ⟨⟨z0, z1, z2⟩, f0, f1, f2⟩ := z25_cells e8
              clear e8 hq8
              go_simp
              have B9 := Lib.hid (set3_below B8.out (D26_.out.z8 _ rfl).1 (.int .i64 kb) (.string lb) (.slice (some ⟨gb, 0, none⟩) b.kids.length cb))
              refine hK.out _ _ (HBX.out _ B9.out) (fun _ => ?_)
              clear hK z0 z1 z2 f0 f1 f2
              try simp only [Act.put, List.getElem_toArray, List.getElem_cons_zero, List.getElem_cons_succ, List.setIfInBounds_toArray, List.set_cons_zero, List.set_cons_succ]
              refine wpAnyH_take (i := 10) (v := .slice (some ⟨g, 0, none⟩) n c) rfl (by kernel_rfl) (by kernel_rfl) (by kernel_rfl) (fun _ _ _ h => (h : False).elim) (Or.inl ⟨by rfl, ?_⟩) (HBX.out _ B9.out) ?_
              · intro w hSw
                obtain ⟨⟨hs0, hs1, hs2⟩, hs3, hs4, hs5⟩ := hSw
                go_simp
              try simp only [Act.put, List.getElem_toArray, List.getElem_cons_zero, List.getElem_cons_succ, List.setIfInBounds_toArray, List.set_cons_zero, List.set_cons_succ]
              refine ⟨by kernel_rfl, ?_⟩
              refine NoPanic.normal ?_
              go_wp2_with fail
              go_meet
              exact ⟨E7, E8, _, _, g, c, rfl, rfl, rfl, hcn, by rw [← hu8]; exact D26_.out.fin (.int .i64 ka) (.string la) (.slice (some ⟨ga, 0, none⟩) a.kids.length ca) (.int .i64 kb) (.string lb) (.slice (some ⟨gb, 0, none⟩) b.kids.length cb) (TX.mono _ _) (TX.mono _ _) (TT.mono _ _)⟩
      · go_simp
        have hd := D1_.out.a8
        refine hK.out _ _ (HBX.out _ hd.bel) (fun _ => ?_)
        clear hK
        try simp only [Act.put, List.getElem_toArray, List.getElem_cons_zero, List.getElem_cons_succ, List.setIfInBounds_toArray, List.set_cons_zero, List.set_cons_succ]
        obtain ⟨E8, hE8⟩ : ∃ E8, u1_.heap.size = E8 := ⟨_, rfl⟩
        obtain ⟨u27_, hu27_⟩ : ∃ x, u1_.alloc (.cells #[.int .i64 0, .string ⟨#[]⟩, .slice none 0 0] 25) = x := ⟨_, rfl⟩
        have D27_ := Lib.hid (show D3 W0 u27_ none (some E8) (some (TX a.kids (.slice (some ⟨ga, 0, none⟩) a.kids.length ca))) none none by rw [← hu27_, ← hE8]; exact hd)
        rw [hu27_, hE8]
        clear hd hu27_ hE8
        refine wpAnyH_ready (rs := [3, 6]) (by kernel_rfl) (by simp) ?_
        refine AllReadyH.cons rfl (fun K hK => ?_) (AllReadyH.cons rfl (fun K hK => ?_) AllReadyH.nil)
        · go_simp
          refine (HC9B.out _ D27_.out.bel).mono ?_
          rintro e u28_ ⟨kv, rfl, hlr, hb⟩
          obtain ⟨gb, cb, rfl, _, _⟩ := hlr.form
          have D28_ := Lib.hid (D27_.out.cb hb (T := TX b.kids (.slice (some ⟨gb, 0, none⟩) b.kids.length cb)) (TX.keep _ _) hlr (fun b hb => hb))
          clear hlr hb
          refine hK.out _ _ (HBX.out _ D28_.out.bel) (fun _ => ?_)
          clear hK
          try simp only [Act.put, List.getElem_toArray, List.getElem_cons_zero, List.getElem_cons_succ, List.setIfInBounds_toArray, List.set_cons_zero, List.set_cons_succ]
          refine wpAnyH_ready (rs := [5, 6]) (by kernel_rfl) (by simp) ?_
          refine AllReadyH.cons rfl (fun K hK => ?_) (AllReadyH.cons rfl (fun K hK => ?_) AllReadyH.nil)
          · go_simp
            refine (HC10.out _ D28_.out.bel).mono ?_
            rintro e u29_ ⟨g, c, rfl, ⟨htt, hcn⟩, hb⟩
            have D29_ := Lib.hid (D28_.out.cw hb (T := TT word g) (TT.keep _ _) htt (fun b hb => hb))
            clear htt hb
            refine hK.out _ _ (HBX.out _ D29_.out.bel) (fun _ => ?_)
            clear hK
            try simp only [Act.put, List.getElem_toArray, List.getElem_cons_zero, List.getElem_cons_succ, List.setIfInBounds_toArray, List.set_cons_zero, List.set_cons_succ]
            refine wpAnyH_ready (rs := [6]) (by kernel_rfl) (by simp) ?_
            refine AllReadyH.cons rfl (fun K hK => ?_) AllReadyH.nil
            · go_simp
              have hd := D29_.out.a7
              refine hK.out _ _ (HBX.out _ hd.bel) (fun _ => ?_)
              clear hK
              try simp only [Act.put, List.getElem_toArray, List.getElem_cons_zero, List.getElem_cons_succ, List.setIfInBounds_toArray, List.set_cons_zero, List.set_cons_succ]
              obtain ⟨E7, hE7⟩ : ∃ E7, u29_.heap.size = E7 := ⟨_, rfl⟩
              obtain ⟨u30_, hu30_⟩ : ∃ x, u29_.alloc (.cells #[.int .i64 0, .string ⟨#[]⟩, .slice none 0 0] 25) = x := ⟨_, rfl⟩
              have D30_ := Lib.hid (show D3 W0 u30_ (some E7) (some E8) (some (TX a.kids (.slice (some ⟨ga, 0, none⟩) a.kids.length ca))) (some (TX b.kids (.slice (some ⟨gb, 0, none⟩) b.kids.length cb))) (some (TT word g)) by rw [← hu30_, ← hE7]; exact hd)
              rw [hu30_, hE7]
              clear hd hu30_ hE7
              refine wpAnyH_ready (rs := [8]) (by kernel_rfl) (by simp) ?_
              refine AllReadyH.cons rfl (fun K hK => ?_) AllReadyH.nil
              obtain ⟨⟨z0, z1, z2⟩, f0, f1, f2⟩ := z25_cells (D30_.out.z7 _ rfl).2
              go_simp
              refine hK.out _ _ (HBX.out _ (set3_below D30_.out.bel (D30_.out.z7 _ rfl).1 (.int .i64 ka) (.string la) (.slice (some ⟨ga, 0, none⟩) a.kids.length ca))) (fun _ => ?_)
              clear hK z0 z1 z2 f0 f1 f2
              try simp only [Act.put, List.getElem_toArray, List.getElem_cons_zero, List.getElem_cons_succ, List.setIfInBounds_toArray, List.set_cons_zero, List.set_cons_succ]
              obtain ⟨u8, hu8⟩ : ∃ u8, set3 u30_ E7 (.int .i64 ka) (.string la) (.slice (some ⟨ga, 0, none⟩) a.kids.length ca) = u8 := ⟨_, rfl⟩
              have hq8 := hu8
              unfold set3 at hq8
              rw [hq8]
              have B8 := Lib.hid (show Below W0.heap.size W0 u8 by rw [← hu8]; exact set3_below D30_.out.bel (D30_.out.z7 _ rfl).1 _ _ _)
              have e8 : u8.heap[E8]? = some z25 := by rw [← hu8, set3_other _ _ _ (fun e => D30_.out.ne E7 rfl (by rw [e]))]; exact (D30_.out.z8 _ rfl).2
              refine wpAnyH_ready (rs := [9]) (by kernel_rfl) (by simp) ?_
              refine AllReadyH.cons rfl (fun K hK => ?_) AllReadyH.nil
              obtain ⟨⟨z0, z1, z2⟩, f0, f1, f2⟩ := z25_cells e8
              clear e8 hq8
              go_simp
              have B9 := Lib.hid (set3_below B8.out (D30_.out.z8 _ rfl).1 (.int .i64 kb) (.string lb) (.slice (some ⟨gb, 0, none⟩) b.kids.length cb))
              refine hK.out _ _ (HBX.out _ B9.out) (fun _ => ?_)
              clear hK z0 z1 z2 f0 f1 f2
              try simp only [Act.put, List.getElem_toArray, List.getElem_cons_zero, List.getElem_cons_succ, List.setIfInBounds_toArray, List.set_cons_zero, List.set_cons_succ]
              refine wpAnyH_take (i := 10) (v := .slice (some ⟨g, 0, none⟩) n c) rfl (by kernel_rfl) (by kernel_rfl) (by kernel_rfl) (fun _ _ _ h => (h : False).elim) (Or.inl ⟨by rfl, ?_⟩) (HBX.out _ B9.out) ?_
              · intro w hSw
                obtain ⟨⟨hs0, hs1, hs2⟩, hs3, hs4, hs5⟩ := hSw
                go_simp
              try simp only [Act.put, List.getElem_toArray, List.getElem_cons_zero, List.getElem_cons_succ, List.setIfInBounds_toArray, List.set_cons_zero, List.set_cons_succ]
              refine ⟨by kernel_rfl, ?_⟩
              refine NoPanic.normal ?_
              go_wp2_with fail
              go_meet
              exact ⟨E7, E8, _, _, g, c, rfl, rfl, rfl, hcn, by rw [← hu8]; exact D30_.out.fin (.int .i64 ka) (.string la) (.slice (some ⟨ga, 0, none⟩) a.kids.length ca) (.int .i64 kb) (.string lb) (.slice (some ⟨gb, 0, none⟩) b.kids.length cb) (TX.mono _ _) (TX.mono _ _) (TT.mono _ _)⟩
          · go_simp
            have hd := D28_.out.a7
            refine hK.out _ _ (HBX.out _ hd.bel) (fun _ => ?_)
            clear hK
            try simp only [Act.put, List.getElem_toArray, List.getElem_cons_zero, List.getElem_cons_succ, List.setIfInBounds_toArray, List.set_cons_zero, List.set_cons_succ]
            obtain ⟨E7, hE7⟩ : ∃ E7, u28_.heap.size = E7 := ⟨_, rfl⟩
            obtain ⟨u31_, hu31_⟩ : ∃ x, u28_.alloc (.cells #[.int .i64 0, .string ⟨#[]⟩, .slice none 0 0] 25) = x := ⟨_, rfl⟩
            have D31_ := Lib.hid (show D3 W0 u31_ (some E7) (some E8) (some (TX a.kids (.slice (some ⟨ga, 0, none⟩) a.kids.length ca))) (some (TX b.kids (.slice (some ⟨gb, 0, none⟩) b.kids.length cb))) none by rw [← hu31_, ← hE7]; exact hd)
            rw [hu31_, hE7]
            clear hd hu31_ hE7
            refine wpAnyH_ready (rs := [5]) (by kernel_rfl) (by simp) ?_
            refine AllReadyH.cons rfl (fun K hK => ?_) AllReadyH.nil
            · go_simp
              refine (HC10.out _ D31_.out.bel).mono ?_
              rintro e u32_ ⟨g, c, rfl, ⟨htt, hcn⟩, hb⟩
              have D32_ := Lib.hid (D31_.out.cw hb (T := TT word g) (TT.keep _ _) htt (fun b hb => hb))
              clear htt hb
              refine hK.out _ _ (HBX.out _ D32_.out.bel) (fun _ => ?_)
              clear hK
              try simp only [Act.put, List.getElem_toArray, List.getElem_cons_zero, List.getElem_cons_succ, List.setIfInBounds_toArray, List.set_cons_zero, List.set_cons_succ]
              refine wpAnyH_ready (rs := [8]) (by kernel_rfl) (by simp) ?_
              refine AllReadyH.cons rfl (fun K hK => ?_) AllReadyH.nil
              obtain ⟨⟨z0, z1, z2⟩, f0, f1, f2⟩ := z25_cells (D32_.out.z7 _ rfl).2
              go_simp
              refine hK.out _ _ (HBX.out _ (set3_below D32_.out.bel (D32_.out.z7 _ rfl).1 (.int .i64 ka) (.string la) (.slice (some ⟨ga, 0, none⟩) a.kids.length ca))) (fun _ => ?_)
              clear hK z0 z1 z2 f0 f1 f2
              try simp only [Act.put, List.getElem_toArray, List.getElem_cons_zero, List.getElem_cons_succ, List.setIfInBounds_toArray, List.set_cons_zero, List.set_cons_succ]
              obtain ⟨u8, hu8⟩ : ∃ u8, set3 u32_ E7 (.int .i64 ka) (.string la) (.slice (some ⟨ga, 0, none⟩) a.kids.length ca) = u8 := ⟨_, rfl⟩
              have hq8 := hu8
              unfold set3 at hq8
              rw [hq8]
              have B8 := Lib.hid (show Below W0.heap.size W0 u8 by rw [← hu8]; exact set3_below D32_.out.bel (D32_.out.z7 _ rfl).1 _ _ _)
              have e8 : u8.heap[E8]? = some z25 := by rw [← hu8, set3_other _ _ _ (fun e => D32_.out.ne E7 rfl (by rw [e]))]; exact (D32_.out.z8 _ rfl).2
              refine wpAnyH_ready (rs := [9]) (by kernel_rfl) (by simp) ?_
              refine AllReadyH.cons rfl (fun K hK => ?_) AllReadyH.nil
              obtain ⟨⟨z0, z1, z2⟩, f0, f1, f2⟩ := z25_cells e8
              clear e8 hq8
              go_simp
              have B9 := Lib.hid (set3_below B8.out (D32_.out.z8 _ rfl).1 (.int .i64 kb) (.string lb) (.slice (some ⟨gb, 0, none⟩) b.kids.length cb))
              refine hK.out _ _ (HBX.out _ B9.out) (fun _ => ?_)
              clear hK z0 z1 z2 f0 f1 f2
              try simp only [Act.put, List.getElem_toArray, List.getElem_cons_zero, List.getElem_cons_succ, List.setIfInBounds_toArray, List.set_cons_zero, List.set_cons_succ]
              refine wpAnyH_take (i := 10) (v := .slice (some ⟨g, 0, none⟩) n c) rfl (by kernel_rfl) (by kernel_rfl) (by kernel_rfl) (fun _ _ _ h => (h : False).elim) (Or.inl ⟨by rfl, ?_⟩) (HBX.out _ B9.out) ?_
              · intro w hSw
                obtain ⟨⟨hs0, hs1, hs2⟩, hs3, hs4, hs5⟩ := hSw
                go_simp
              try simp only [Act.put, List.getElem_toArray, List.getElem_cons_zero, List.getElem_cons_succ, List.setIfInBounds_toArray, List.set_cons_zero, List.set_cons_succ]
              refine ⟨by kernel_rfl, ?_⟩
              refine NoPanic.normal ?_
              go_wp2_with fail
              go_meet
              exact ⟨E7, E8, _, _, g, c, rfl, rfl, rfl, hcn, by rw [← hu8]; exact D32_.out.fin (.int .i64 ka) (.string la) (.slice (some ⟨ga, 0, none⟩) a.kids.length ca) (.int .i64 kb) (.string lb) (.slice (some ⟨gb, 0, none⟩) b.kids.length cb) (TX.mono _ _) (TX.mono _ _) (TT.mono _ _)⟩
        · go_simp
          have hd := D27_.out.a7
          refine hK.out _ _ (HBX.out _ hd.bel) (fun _ => ?_)
          clear hK
          try simp only [Act.put, List.getElem_toArray, List.getElem_cons_zero, List.getElem_cons_succ, List.setIfInBounds_toArray, List.set_cons_zero, List.set_cons_succ]
          obtain ⟨E7, hE7⟩ : ∃ E7, u27_.heap.size = E7 := ⟨_, rfl⟩
          obtain ⟨u33_, hu33_⟩ : ∃ x, u27_.alloc (.cells #[.int .i64 0, .string ⟨#[]⟩, .slice none 0 0] 25) = x := ⟨_, rfl⟩
          have D33_ := Lib.hid (show D3 W0 u33_ (some E7) (some E8) (some (TX a.kids (.slice (some ⟨ga, 0, none⟩) a.kids.length ca))) none none by rw [← hu33_, ← hE7]; exact hd)
          rw [hu33_, hE7]
          clear hd hu33_ hE7
          refine wpAnyH_ready (rs := [3]) (by kernel_rfl) (by simp) ?_
          refine AllReadyH.cons rfl (fun K hK => ?_) AllReadyH.nil
          · go_simp
            refine (HC9B.out _ D33_.out.bel).mono ?_
            rintro e u34_ ⟨kv, rfl, hlr, hb⟩
            obtain ⟨gb, cb, rfl, _, _⟩ := hlr.form
            have D34_ := Lib.hid (D33_.out.cb hb (T := TX b.kids (.slice (some ⟨gb, 0, none⟩) b.kids.length cb)) (TX.keep _ _) hlr (fun b hb => hb))
            clear hlr hb
            refine hK.out _ _ (HBX.out _ D34_.out.bel) (fun _ => ?_)
            clear hK
            try simp only [Act.put, List.getElem_toArray, List.getElem_cons_zero, List.getElem_cons_succ, List.setIfInBounds_toArray, List.set_cons_zero, List.set_cons_succ]
            refine wpAnyH_ready (rs := [5]) (by kernel_rfl) (by simp) ?_
            refine AllReadyH.cons rfl (fun K hK => ?_) AllReadyH.nil
            · go_simp
              refine (HC10.out _ D34_.out.bel).mono ?_
              rintro e u35_ ⟨g, c, rfl, ⟨htt, hcn⟩, hb⟩
              have D35_ := Lib.hid (D34_.out.cw hb (T := TT word g) (TT.keep _ _) htt (fun b hb => hb))
              clear htt hb
              refine hK.out _ _ (HBX.out _ D35_.out.bel) (fun _ => ?_)
              clear hK
              try simp only [Act.put, List.getElem_toArray, List.getElem_cons_zero, List.getElem_cons_succ, List.setIfInBounds_toArray, List.set_cons_zero, List.set_cons_succ]
              refine wpAnyH_ready (rs := [8]) (by kernel_rfl) (by simp) ?_
              refine AllReadyH.cons rfl (fun K hK => ?_) AllReadyH.nil
              obtain ⟨⟨z0, z1, z2⟩, f0, f1, f2⟩ := z25_cells (D35_.out.z7 _ rfl).2
              go_simp
              refine hK.out _ _ (HBX.out _ (set3_below D35_.out.bel (D35_.out.z7 _ rfl).1 (.int .i64 ka) (.string la) (.slice (some ⟨ga, 0, none⟩) a.kids.length ca))) (fun _ => ?_)
              clear hK z0 z1 z2 f0 f1 f2
              try simp only [Act.put, List.getElem_toArray, List.getElem_cons_zero, List.getElem_cons_succ, List.setIfInBounds_toArray, List.set_cons_zero, List.set_cons_succ]
              obtain ⟨u8, hu8⟩ : ∃ u8, set3 u35_ E7 (.int .i64 ka) (.string la) (.slice (some ⟨ga, 0, none⟩) a.kids.length ca) = u8 := ⟨_, rfl⟩
              have hq8 := hu8
              unfold set3 at hq8
              rw [hq8]
              have B8 := Lib.hid (show Below W0.heap.size W0 u8 by rw [← hu8]; exact set3_below D35_.out.bel (D35_.out.z7 _ rfl).1 _ _ _)
              have e8 : u8.heap[E8]? = some z25 := by rw [← hu8, set3_other _ _ _ (fun e => D35_.out.ne E7 rfl (by rw [e]))]; exact (D35_.out.z8 _ rfl).2
              refine wpAnyH_ready (rs := [9]) (by kernel_rfl) (by simp) ?_
              refine AllReadyH.cons rfl (fun K hK => ?_) AllReadyH.nil
              obtain ⟨⟨z0, z1, z2⟩, f0, f1, f2⟩ := z25_cells e8
              clear e8 hq8
              go_simp
              have B9 := Lib.hid (set3_below B8.out (D35_.out.z8 _ rfl).1 (.int .i64 kb) (.string lb) (.slice (some ⟨gb, 0, none⟩) b.kids.length cb))
              refine hK.out _ _ (HBX.out _ B9.out) (fun _ => ?_)
              clear hK z0 z1 z2 f0 f1 f2
              try simp only [Act.put, List.getElem_toArray, List.getElem_cons_zero, List.getElem_cons_succ, List.setIfInBounds_toArray, List.set_cons_zero, List.set_cons_succ]
              refine wpAnyH_take (i := 10) (v := .slice (some ⟨g, 0, none⟩) n c) rfl (by kernel_rfl) (by kernel_rfl) (by kernel_rfl) (fun _ _ _ h => (h : False).elim) (Or.inl ⟨by rfl, ?_⟩) (HBX.out _ B9.out) ?_
              · intro w hSw
                obtain ⟨⟨hs0, hs1, hs2⟩, hs3, hs4, hs5⟩ := hSw
                go_simp
              try simp only [Act.put, List.getElem_toArray, List.getElem_cons_zero, List.getElem_cons_succ, List.setIfInBounds_toArray, List.set_cons_zero, List.set_cons_succ]
              refine ⟨by kernel_rfl, ?_⟩
              refine NoPanic.normal ?_
              go_wp2_with fail
              go_meet
              exact ⟨E7, E8, _, _, g, c, rfl, rfl, rfl, hcn, by rw [← hu8]; exact D35_.out.fin (.int .i64 ka) (.string la) (.slice (some ⟨ga, 0, none⟩) a.kids.length ca) (.int .i64 kb) (.string lb) (.slice (some ⟨gb, 0, none⟩) b.kids.length cb) (TX.mono _ _) (TX.mono _ _) (TT.mono _ _)⟩
    · go_simp
      have hd := D0_.out.a7
      refine hK.out _ _ (HBX.out _ hd.bel) (fun _ => ?_)
      clear hK
      try simp only [Act.put, List.getElem_toArray, List.getElem_cons_zero, List.getElem_cons_succ, List.setIfInBounds_toArray, List.set_cons_zero, List.set_cons_succ]
      obtain ⟨E7, hE7⟩ : ∃ E7, u0_.heap.size = E7 := ⟨_, rfl⟩
      obtain ⟨u36_, hu36_⟩ : ∃ x, u0_.alloc (.cells #[.int .i64 0, .string ⟨#[]⟩, .slice none 0 0] 25) = x := ⟨_, rfl⟩
      have D36_ := Lib.hid (show D3 W0 u36_ (some E7) none none none none by rw [← hu36_, ← hE7]; exact hd)
      rw [hu36_, hE7]
      clear hd hu36_ hE7
      refine wpAnyH_ready (rs := [1, 7]) (by kernel_rfl) (by simp) ?_
      refine AllReadyH.cons rfl (fun K hK => ?_) (AllReadyH.cons rfl (fun K hK => ?_) AllReadyH.nil)
      · go_simp
        refine (HC9A.out _ D36_.out.bel).mono ?_
        rintro e u37_ ⟨kv, rfl, hlr, hb⟩
        obtain ⟨ga, ca, rfl, _, _⟩ := hlr.form
        have D37_ := Lib.hid (D36_.out.ca hb (T := TX a.kids (.slice (some ⟨ga, 0, none⟩) a.kids.length ca)) (TX.keep _ _) hlr (fun b hb => hb))
        clear hlr hb
        refine hK.out _ _ (HBX.out _ D37_.out.bel) (fun _ => ?_)
        clear hK
        try simp only [Act.put, List.getElem_toArray, List.getElem_cons_zero, List.getElem_cons_succ, List.setIfInBounds_toArray, List.set_cons_zero, List.set_cons_succ]
        refine wpAnyH_ready (rs := [3, 7]) (by kernel_rfl) (by simp) ?_
        refine AllReadyH.cons rfl (fun K hK => ?_) (AllReadyH.cons rfl (fun K hK => ?_) AllReadyH.nil)
        · go_simp
          refine (HC9B.out _ D37_.out.bel).mono ?_
          rintro e u38_ ⟨kv, rfl, hlr, hb⟩
          obtain ⟨gb, cb, rfl, _, _⟩ := hlr.form
          have D38_ := Lib.hid (D37_.out.cb hb (T := TX b.kids (.slice (some ⟨gb, 0, none⟩) b.kids.length cb)) (TX.keep _ _) hlr (fun b hb => hb))
          clear hlr hb
          refine hK.out _ _ (HBX.out _ D38_.out.bel) (fun _ => ?_)
          clear hK
          try simp only [Act.put, List.getElem_toArray, List.getElem_cons_zero, List.getElem_cons_succ, List.setIfInBounds_toArray, List.set_cons_zero, List.set_cons_succ]
          refine wpAnyH_ready (rs := [5, 7]) (by kernel_rfl) (by simp) ?_
          refine AllReadyH.cons rfl (fun K hK => ?_) (AllReadyH.cons rfl (fun K hK => ?_) AllReadyH.nil)
          · go_simp
            refine (HC10.out _ D38_.out.bel).mono ?_
            rintro e u39_ ⟨g, c, rfl, ⟨htt, hcn⟩, hb⟩
            have D39_ := Lib.hid (D38_.out.cw hb (T := TT word g) (TT.keep _ _) htt (fun b hb => hb))
            clear htt hb
            refine hK.out _ _ (HBX.out _ D39_.out.bel) (fun _ => ?_)
            clear hK
            try simp only [Act.put, List.getElem_toArray, List.getElem_cons_zero, List.getElem_cons_succ, List.setIfInBounds_toArray, List.set_cons_zero, List.set_cons_succ]
            refine wpAnyH_ready (rs := [7]) (by kernel_rfl) (by simp) ?_
            refine AllReadyH.cons rfl (fun K hK => ?_) AllReadyH.nil
            · go_simp
              have hd := D39_.out.a8
              refine hK.out _ _ (HBX.out _ hd.bel) (fun _ => ?_)
              clear hK
              try simp only [Act.put, List.getElem_toArray, List.getElem_cons_zero, List.getElem_cons_succ, List.setIfInBounds_toArray, List.set_cons_zero, List.set_cons_succ]
              obtain ⟨E8, hE8⟩ : ∃ E8, u39_.heap.size = E8 := ⟨_, rfl⟩
              obtain ⟨u40_, hu40_⟩ : ∃ x, u39_.alloc (.cells #[.int .i64 0, .string ⟨#[]⟩, .slice none 0 0] 25) = x := ⟨_, rfl⟩
              have D40_ := Lib.hid (show D3 W0 u40_ (some E7) (some E8) (some (TX a.kids (.slice (some ⟨ga, 0, none⟩) a.kids.length ca))) (some (TX b.kids (.slice (some ⟨gb, 0, none⟩) b.kids.length cb))) (some (TT word g)) by rw [← hu40_, ← hE8]; exact hd)
              rw [hu40_, hE8]
              clear hd hu40_ hE8
              refine wpAnyH_ready (rs := [8]) (by kernel_rfl) (by simp) ?_
              refine AllReadyH.cons rfl (fun K hK => ?_) AllReadyH.nil
              obtain ⟨⟨z0, z1, z2⟩, f0, f1, f2⟩ := z25_cells (D40_.out.z7 _ rfl).2
              go_simp
              refine hK.out _ _ (HBX.out _ (set3_below D40_.out.bel (D40_.out.z7 _ rfl).1 (.int .i64 ka) (.string la) (.slice (some ⟨ga, 0, none⟩) a.kids.length ca))) (fun _ => ?_)
              clear hK z0 z1 z2 f0 f1 f2
              try simp only [Act.put, List.getElem_toArray, List.getElem_cons_zero, List.getElem_cons_succ, List.setIfInBounds_toArray, List.set_cons_zero, List.set_cons_succ]
              obtain ⟨u8, hu8⟩ : ∃ u8, set3 u40_ E7 (.int .i64 ka) (.string la) (.slice (some ⟨ga, 0, none⟩) a.kids.length ca) = u8 := ⟨_, rfl⟩
              have hq8 := hu8
              unfold set3 at hq8
              rw [hq8]
              have B8 := Lib.hid (show Below W0.heap.size W0 u8 by rw [← hu8]; exact set3_below D40_.out.bel (D40_.out.z7 _ rfl).1 _ _ _)
              have e8 : u8.heap[E8]? = some z25 := by rw [← hu8, set3_other _ _ _ (fun e => D40_.out.ne E7 rfl (by rw [e]))]; exact (D40_.out.z8 _ rfl).2
              refine wpAnyH_ready (rs := [9]) (by kernel_rfl) (by simp) ?_
              refine AllReadyH.cons rfl (fun K hK => ?_) AllReadyH.nil
              obtain ⟨⟨z0, z1, z2⟩, f0, f1, f2⟩ := z25_cells e8
              clear e8 hq8
              go_simp
              have B9 := Lib.hid (set3_below B8.out (D40_.out.z8 _ rfl).1 (.int .i64 kb) (.string lb) (.slice (some ⟨gb, 0, none⟩) b.kids.length cb))
              refine hK.out _ _ (HBX.out _ B9.out) (fun _ => ?_)
              clear hK z0 z1 z2 f0 f1 f2
              try simp only [Act.put, List.getElem_toArray, List.getElem_cons_zero, List.getElem_cons_succ, List.setIfInBounds_toArray, List.set_cons_zero, List.set_cons_succ]
              refine wpAnyH_take (i := 10) (v := .slice (some ⟨g, 0, none⟩) n c) rfl (by kernel_rfl) (by kernel_rfl) (by kernel_rfl) (fun _ _ _ h => (h : False).elim) (Or.inl ⟨by rfl, ?_⟩) (HBX.out _ B9.out) ?_
              · intro w hSw
                obtain ⟨⟨hs0, hs1, hs2⟩, hs3, hs4, hs5⟩ := hSw
                go_simp
              try simp only [Act.put, List.getElem_toArray, List.getElem_cons_zero, List.getElem_cons_succ, List.setIfInBounds_toArray, List.set_cons_zero, List.set_cons_succ]
              refine ⟨by kernel_rfl, ?_⟩
              refine NoPanic.normal ?_
              go_wp2_with fail
              go_meet
              exact ⟨E7, E8, _, _, g, c, rfl, rfl, rfl, hcn, by rw [← hu8]; exact D40_.out.fin (.int .i64 ka) (.string la) (.slice (some ⟨ga, 0, none⟩) a.kids.length ca) (.int .i64 kb) (.string lb) (.slice (some ⟨gb, 0, none⟩) b.kids.length cb) (TX.mono _ _) (TX.mono _ _) (TT.mono _ _)⟩
          · go_simp
            have hd := D38_.out.a8
            refine hK.out _ _ (HBX.out _ hd.bel) (fun _ => ?_)
            clear hK
            try simp only [Act.put, List.getElem_toArray, List.getElem_cons_zero, List.getElem_cons_succ, List.setIfInBounds_toArray, List.set_cons_zero, List.set_cons_succ]
            obtain ⟨E8, hE8⟩ : ∃ E8, u38_.heap.size = E8 := ⟨_, rfl⟩
            obtain ⟨u41_, hu41_⟩ : ∃ x, u38_.alloc (.cells #[.int .i64 0, .string ⟨#[]⟩, .slice none 0 0] 25) = x := ⟨_, rfl⟩
            have D41_ := Lib.hid (show D3 W0 u41_ (some E7) (some E8) (some (TX a.kids (.slice (some ⟨ga, 0, none⟩) a.kids.length ca))) (some (TX b.kids (.slice (some ⟨gb, 0, none⟩) b.kids.length cb))) none by rw [← hu41_, ← hE8]; exact hd)
            rw [hu41_, hE8]
            clear hd hu41_ hE8
            refine wpAnyH_ready (rs := [5]) (by kernel_rfl) (by simp) ?_
            refine AllReadyH.cons rfl (fun K hK => ?_) AllReadyH.nil
            · go_simp
              refine (HC10.out _ D41_.out.bel).mono ?_
              rintro e u42_ ⟨g, c, rfl, ⟨htt, hcn⟩, hb⟩
              have D42_ := Lib.hid (D41_.out.cw hb (T := TT word g) (TT.keep _ _) htt (fun b hb => hb))
              clear htt hb
              refine hK.out _ _ (HBX.out _ D42_.out.bel) (fun _ => ?_)
              clear hK
              try simp only [Act.put, List.getElem_toArray, List.getElem_cons_zero, List.getElem_cons_succ, List.setIfInBounds_toArray, List.set_cons_zero, List.set_cons_succ]
              refine wpAnyH_ready (rs := [8]) (by kernel_rfl) (by simp) ?_
              refine AllReadyH.cons rfl (fun K hK => ?_) AllReadyH.nil
              obtain ⟨⟨z0, z1, z2⟩, f0, f1, f2⟩ := z25_cells (D42_.out.z7 _ rfl).2
              go_simp
              refine hK.out _ _ (HBX.out _ (set3_below D42_.out.bel (D42_.out.z7 _ rfl).1 (.int .i64 ka) (.string la) (.slice (some ⟨ga, 0, none⟩) a.kids.length ca))) (fun _ => ?_)
              clear hK z0 z1 z2 f0 f1 f2
              try simp only [Act.put, List.getElem_toArray, List.getElem_cons_zero, List.getElem_cons_succ, List.setIfInBounds_toArray, List.set_cons_zero, List.set_cons_succ]
              obtain ⟨u8, hu8⟩ : ∃ u8, set3 u42_ E7 (.int .i64 ka) (.string la) (.slice (some ⟨ga, 0, none⟩) a.kids.length ca) = u8 := ⟨_, rfl⟩
              have hq8 := hu8
              unfold set3 at hq8
              rw [hq8]
              have B8 := Lib.hid (show Below W0.heap.size W0 u8 by rw [← hu8]; exact set3_below D42_.out.bel (D42_.out.z7 _ rfl).1 _ _ _)
              have e8 : u8.heap[E8]? = some z25 := by rw [← hu8, set3_other _ _ _ (fun e => D42_.out.ne E7 rfl (by rw [e]))]; exact (D42_.out.z8 _ rfl).2
              refine wpAnyH_ready (rs := [9]) (by kernel_rfl) (by simp) ?_
              refine AllReadyH.cons rfl (fun K hK => ?_) AllReadyH.nil
              obtain ⟨⟨z0, z1, z2⟩, f0, f1, f2⟩ := z25_cells e8
              clear e8 hq8
              go_simp
              have B9 := Lib.hid (set3_below B8.out (D42_.out.z8 _ rfl).1 (.int .i64 kb) (.string lb) (.slice (some ⟨gb, 0, none⟩) b.kids.length cb))
              refine hK.out _ _ (HBX.out _ B9.out) (fun _ => ?_)
              clear hK z0 z1 z2 f0 f1 f2
              try simp only [Act.put, List.getElem_toArray, List.getElem_cons_zero, List.getElem_cons_succ, List.setIfInBounds_toArray, List.set_cons_zero, List.set_cons_succ]
              refine wpAnyH_take (i := 10) (v := .slice (some ⟨g, 0, none⟩) n c) rfl (by kernel_rfl) (by kernel_rfl) (by kernel_rfl) (fun _ _ _ h => (h : False).elim) (Or.inl ⟨by rfl, ?_⟩) (HBX.out _ B9.out) ?_
              · intro w hSw
                obtain ⟨⟨hs0, hs1, hs2⟩, hs3, hs4, hs5⟩ := hSw
                go_simp
              try simp only [Act.put, List.getElem_toArray, List.getElem_cons_zero, List.getElem_cons_succ, List.setIfInBounds_toArray, List.set_cons_zero, List.set_cons_succ]
              refine ⟨by kernel_rfl, ?_⟩
              refine NoPanic.normal ?_
              go_wp2_with fail
              go_meet
              exact ⟨E7, E8, _, _, g, c, rfl, rfl, rfl, hcn, by rw [← hu8]; exact D42_.out.fin (.int .i64 ka) (.string la) (.slice (some ⟨ga, 0, none⟩) a.kids.length ca) (.int .i64 kb) (.string lb) (.slice (some ⟨gb, 0, none⟩) b.kids.length cb) (TX.mono _ _) (TX.mono _ _) (TT.mono _ _)⟩
        · go_simp
          have hd := D37_.out.a8
          refine hK.out _ _ (HBX.out _ hd.bel) (fun _ => ?_)
          clear hK
          try simp only [Act.put, List.getElem_toArray, List.getElem_cons_zero, List.getElem_cons_succ, List.setIfInBounds_toArray, List.set_cons_zero, List.set_cons_succ]
          obtain ⟨E8, hE8⟩ : ∃ E8, u37_.heap.size = E8 := ⟨_, rfl⟩
          obtain ⟨u43_, hu43_⟩ : ∃ x, u37_.alloc (.cells #[.int .i64 0, .string ⟨#[]⟩, .slice none 0 0] 25) = x := ⟨_, rfl⟩
          have D43_ := Lib.hid (show D3 W0 u43_ (some E7) (some E8) (some (TX a.kids (.slice (some ⟨ga, 0, none⟩) a.kids.length ca))) none none by rw [← hu43_, ← hE8]; exact hd)
          rw [hu43_, hE8]
          clear hd hu43_ hE8
          refine wpAnyH_ready (rs := [3]) (by kernel_rfl) (by simp) ?_
          refine AllReadyH.cons rfl (fun K hK => ?_) AllReadyH.nil
          · go_simp
            refine (HC9B.out _ D43_.out.bel).mono ?_
            rintro e u44_ ⟨kv, rfl, hlr, hb⟩
            obtain ⟨gb, cb, rfl, _, _⟩ := hlr.form
            have D44_ := Lib.hid (D43_.out.cb hb (T := TX b.kids (.slice (some ⟨gb, 0, none⟩) b.kids.length cb)) (TX.keep _ _) hlr (fun b hb => hb))
            clear hlr hb
            refine hK.out _ _ (HBX.out _ D44_.out.bel) (fun _ => ?_)
            clear hK
            try simp only [Act.put, List.getElem_toArray, List.getElem_cons_zero, List.getElem_cons_succ, List.setIfInBounds_toArray, List.set_cons_zero, List.set_cons_succ]
            refine wpAnyH_ready (rs := [5]) (by kernel_rfl) (by simp) ?_
            refine AllReadyH.cons rfl (fun K hK => ?_) AllReadyH.nil
            · go_simp
              refine (HC10.out _ D44_.out.bel).mono ?_
              rintro e u45_ ⟨g, c, rfl, ⟨htt, hcn⟩, hb⟩
              have D45_ := Lib.hid (D44_.out.cw hb (T := TT word g) (TT.keep _ _) htt (fun b hb => hb))
              clear htt hb
              refine hK.out _ _ (HBX.out _ D45_.out.bel) (fun _ => ?_)
              clear hK
              try simp only [Act.put, List.getElem_toArray, List.getElem_cons_zero, List.getElem_cons_succ, List.setIfInBounds_toArray, List.set_cons_zero, List.set_cons_succ]
              refine wpAnyH_ready (rs := [8]) (by kernel_rfl) (by simp) ?_
              refine AllReadyH.cons rfl (fun K hK => ?_) AllReadyH.nil
              obtain ⟨⟨z0, z1, z2⟩, f0, f1, f2⟩ := z25_cells (D45_.out.z7 _ rfl).2
              go_simp
              refine hK.out _ _ (HBX.out _ (set3_below D45_.out.bel (D45_.out.z7 _ rfl).1 (.int .i64 ka) (.string la) (.slice (some ⟨ga, 0, none⟩) a.kids.length ca))) (fun _ => ?_)
              clear hK z0 z1 z2 f0 f1 f2
              try simp only [Act.put, List.getElem_toArray, List.getElem_cons_zero, List.getElem_cons_succ, List.setIfInBounds_toArray, List.set_cons_zero, List.set_cons_succ]
              obtain ⟨u8, hu8⟩ : ∃ u8, set3 u45_ E7 (.int .i64 ka) (.string la) (.slice (some ⟨ga, 0, none⟩) a.kids.length ca) = u8 := ⟨_, rfl⟩
              have hq8 := hu8
              unfold set3 at hq8
              rw [hq8]
              have B8 := Lib.hid (show Below W0.heap.size W0 u8 by rw [← hu8]; exact set3_below D45_.out.bel (D45_.out.z7 _ rfl).1 _ _ _)
              have e8 : u8.heap[E8]? = some z25 := by rw [← hu8, set3_other _ _ _ (fun e => D45_.out.ne E7 rfl (by rw [e]))]; exact (D45_.out.z8 _ rfl).2
              refine wpAnyH_ready (rs := [9]) (by kernel_rfl) (by simp) ?_
              refine AllReadyH.cons rfl (fun K hK => ?_) AllReadyH.nil
              obtain ⟨⟨z0, z1, z2⟩, f0, f1, f2⟩ := z25_cells e8
              clear e8 hq8
              go_simp
              have B9 := Lib.hid (set3_below B8.out (D45_.out.z8 _ rfl).1 (.int .i64 kb) (.string lb) (.slice (some ⟨gb, 0, none⟩) b.kids.length cb))
              refine hK.out _ _ (HBX.out _ B9.out) (fun _ => ?_)
              clear hK z0 z1 z2 f0 f1 f2
              try simp only [Act.put, List.getElem_toArray, List.getElem_cons_zero, List.getElem_cons_succ, List.setIfInBounds_toArray, List.set_cons_zero, List.set_cons_succ]
              refine wpAnyH_take (i := 10) (v := .slice (some ⟨g, 0, none⟩) n c) rfl (by kernel_rfl) (by kernel_rfl) (by kernel_rfl) (fun _ _ _ h => (h : False).elim) (Or.inl ⟨by rfl, ?_⟩) (HBX.out _ B9.out) ?_
              · intro w hSw
                obtain ⟨⟨hs0, hs1, hs2⟩, hs3, hs4, hs5⟩ := hSw
                go_simp
              try simp only [Act.put, List.getElem_toArray, List.getElem_cons_zero, List.getElem_cons_succ, List.setIfInBounds_toArray, List.set_cons_zero, List.set_cons_succ]
              refine ⟨by kernel_rfl, ?_⟩
              refine NoPanic.normal ?_
              go_wp2_with fail
              go_meet
              exact ⟨E7, E8, _, _, g, c, rfl, rfl, rfl, hcn, by rw [← hu8]; exact D45_.out.fin (.int .i64 ka) (.string la) (.slice (some ⟨ga, 0, none⟩) a.kids.length ca) (.int .i64 kb) (.string lb) (.slice (some ⟨gb, 0, none⟩) b.kids.length cb) (TX.mono _ _) (TX.mono _ _) (TT.mono _ _)⟩
      · go_simp
        have hd := D36_.out.a8
        refine hK.out _ _ (HBX.out _ hd.bel) (fun _ => ?_)
        clear hK
        try simp only [Act.put, List.getElem_toArray, List.getElem_cons_zero, List.getElem_cons_succ, List.setIfInBounds_toArray, List.set_cons_zero, List.set_cons_succ]
        obtain ⟨E8, hE8⟩ : ∃ E8, u36_.heap.size = E8 := ⟨_, rfl⟩
        obtain ⟨u46_, hu46_⟩ : ∃ x, u36_.alloc (.cells #[.int .i64 0, .string ⟨#[]⟩, .slice none 0 0] 25) = x := ⟨_, rfl⟩
        have D46_ := Lib.hid (show D3 W0 u46_ (some E7) (some E8) none none none by rw [← hu46_, ← hE8]; exact hd)
        rw [hu46_, hE8]
        clear hd hu46_ hE8
        refine wpAnyH_ready (rs := [1]) (by kernel_rfl) (by simp) ?_
        refine AllReadyH.cons rfl (fun K hK => ?_) AllReadyH.nil
        · go_simp
          refine (HC9A.out _ D46_.out.bel).mono ?_
          rintro e u47_ ⟨kv, rfl, hlr, hb⟩
          obtain ⟨ga, ca, rfl, _, _⟩ := hlr.form
          have D47_ := Lib.hid (D46_.out.ca hb (T := TX a.kids (.slice (some ⟨ga, 0, none⟩) a.kids.length ca)) (TX.keep _ _) hlr (fun b hb => hb))
          clear hlr hb
          refine hK.out _ _ (HBX.out _ D47_.out.bel) (fun _ => ?_)
          clear hK
          try simp only [Act.put, List.getElem_toArray, List.getElem_cons_zero, List.getElem_cons_succ, List.setIfInBounds_toArray, List.set_cons_zero, List.set_cons_succ]
          refine wpAnyH_ready (rs := [3]) (by kernel_rfl) (by simp) ?_
          refine AllReadyH.cons rfl (fun K hK => ?_) AllReadyH.nil
          · go_simp
            refine (HC9B.out _ D47_.out.bel).mono ?_
            rintro e u48_ ⟨kv, rfl, hlr, hb⟩
            obtain ⟨gb, cb, rfl, _, _⟩ := hlr.form
            have D48_ := Lib.hid (D47_.out.cb hb (T := TX b.kids (.slice (some ⟨gb, 0, none⟩) b.kids.length cb)) (TX.keep _ _) hlr (fun b hb => hb))
            clear hlr hb
            refine hK.out _ _ (HBX.out _ D48_.out.bel) (fun _ => ?_)
            clear hK
            try simp only [Act.put, List.getElem_toArray, List.getElem_cons_zero, List.getElem_cons_succ, List.setIfInBounds_toArray, List.set_cons_zero, List.set_cons_succ]
            refine wpAnyH_ready (rs := [5]) (by kernel_rfl) (by simp) ?_
            refine AllReadyH.cons rfl (fun K hK => ?_) AllReadyH.nil
            · go_simp
              refine (HC10.out _ D48_.out.bel).mono ?_
              rintro e u49_ ⟨g, c, rfl, ⟨htt, hcn⟩, hb⟩
              have D49_ := Lib.hid (D48_.out.cw hb (T := TT word g) (TT.keep _ _) htt (fun b hb => hb))
              clear htt hb
              refine hK.out _ _ (HBX.out _ D49_.out.bel) (fun _ => ?_)
              clear hK
              try simp only [Act.put, List.getElem_toArray, List.getElem_cons_zero, List.getElem_cons_succ, List.setIfInBounds_toArray, List.set_cons_zero, List.set_cons_succ]
              refine wpAnyH_ready (rs := [8]) (by kernel_rfl) (by simp) ?_
              refine AllReadyH.cons rfl (fun K hK => ?_) AllReadyH.nil
              obtain ⟨⟨z0, z1, z2⟩, f0, f1, f2⟩ := z25_cells (D49_.out.z7 _ rfl).2
              go_simp
              refine hK.out _ _ (HBX.out _ (set3_below D49_.out.bel (D49_.out.z7 _ rfl).1 (.int .i64 ka) (.string la) (.slice (some ⟨ga, 0, none⟩) a.kids.length ca))) (fun _ => ?_)
              clear hK z0 z1 z2 f0 f1 f2
              try simp only [Act.put, List.getElem_toArray, List.getElem_cons_zero, List.getElem_cons_succ, List.setIfInBounds_toArray, List.set_cons_zero, List.set_cons_succ]
              obtain ⟨u8, hu8⟩ : ∃ u8, set3 u49_ E7 (.int .i64 ka) (.string la) (.slice (some ⟨ga, 0, none⟩) a.kids.length ca) = u8 := ⟨_, rfl⟩
              have hq8 := hu8
              unfold set3 at hq8
              rw [hq8]
              have B8 := Lib.hid (show Below W0.heap.size W0 u8 by rw [← hu8]; exact set3_below D49_.out.bel (D49_.out.z7 _ rfl).1 _ _ _)
              have e8 : u8.heap[E8]? = some z25 := by rw [← hu8, set3_other _ _ _ (fun e => D49_.out.ne E7 rfl (by rw [e]))]; exact (D49_.out.z8 _ rfl).2
              refine wpAnyH_ready (rs := [9]) (by kernel_rfl) (by simp) ?_
              refine AllReadyH.cons rfl (fun K hK => ?_) AllReadyH.nil
              obtain ⟨⟨z0, z1, z2⟩, f0, f1, f2⟩ := z25_cells e8
              clear e8 hq8
              go_simp
              have B9 := Lib.hid (set3_below B8.out (D49_.out.z8 _ rfl).1 (.int .i64 kb) (.string lb) (.slice (some ⟨gb, 0, none⟩) b.kids.length cb))
              refine hK.out _ _ (HBX.out _ B9.out) (fun _ => ?_)
              clear hK z0 z1 z2 f0 f1 f2
              try simp only [Act.put, List.getElem_toArray, List.getElem_cons_zero, List.getElem_cons_succ, List.setIfInBounds_toArray, List.set_cons_zero, List.set_cons_succ]
              refine wpAnyH_take (i := 10) (v := .slice (some ⟨g, 0, none⟩) n c) rfl (by kernel_rfl) (by kernel_rfl) (by kernel_rfl) (fun _ _ _ h => (h : False).elim) (Or.inl ⟨by rfl, ?_⟩) (HBX.out _ B9.out) ?_
              · intro w hSw
                obtain ⟨⟨hs0, hs1, hs2⟩, hs3, hs4, hs5⟩ := hSw
                go_simp
              try simp only [Act.put, List.getElem_toArray, List.getElem_cons_zero, List.getElem_cons_succ, List.setIfInBounds_toArray, List.set_cons_zero, List.set_cons_succ]
              refine ⟨by kernel_rfl, ?_⟩
              refine NoPanic.normal ?_
              go_wp2_with fail
              go_meet
              exact ⟨E7, E8, _, _, g, c, rfl, rfl, rfl, hcn, by rw [← hu8]; exact D49_.out.fin (.int .i64 ka) (.string la) (.slice (some ⟨ga, 0, none⟩) a.kids.length ca) (.int .i64 kb) (.string lb) (.slice (some ⟨gb, 0, none⟩) b.kids.length cb) (TX.mono _ _) (TX.mono _ _) (TT.mono _ _)⟩
    · go_simp
      have hd := D0_.out.a8
      refine hK.out _ _ (HBX.out _ hd.bel) (fun _ => ?_)
      clear hK
      try simp only [Act.put, List.getElem_toArray, List.getElem_cons_zero, List.getElem_cons_succ, List.setIfInBounds_toArray, List.set_cons_zero, List.set_cons_succ]
      obtain ⟨E8, hE8⟩ : ∃ E8, u0_.heap.size = E8 := ⟨_, rfl⟩
      obtain ⟨u50_, hu50_⟩ : ∃ x, u0_.alloc (.cells #[.int .i64 0, .string ⟨#[]⟩, .slice none 0 0] 25) = x := ⟨_, rfl⟩
      have D50_ := Lib.hid (show D3 W0 u50_ none (some E8) none none none by rw [← hu50_, ← hE8]; exact hd)
      rw [hu50_, hE8]
      clear hd hu50_ hE8
      refine wpAnyH_ready (rs := [1, 6]) (by kernel_rfl) (by simp) ?_
      refine AllReadyH.cons rfl (fun K hK => ?_) (AllReadyH.cons rfl (fun K hK => ?_) AllReadyH.nil)
      · go_simp
        refine (HC9A.out _ D50_.out.bel).mono ?_
        rintro e u51_ ⟨kv, rfl, hlr, hb⟩
        obtain ⟨ga, ca, rfl, _, _⟩ := hlr.form
        have D51_ := Lib.hid (D50_.out.ca hb (T := TX a.kids (.slice (some ⟨ga, 0, none⟩) a.kids.length ca)) (TX.keep _ _) hlr (fun b hb => hb))
        clear hlr hb
        refine hK.out _ _ (HBX.out _ D51_.out.bel) (fun _ => ?_)
        clear hK
        try simp only [Act.put, List.getElem_toArray, List.getElem_cons_zero, List.getElem_cons_succ, List.setIfInBounds_toArray, List.set_cons_zero, List.set_cons_succ]
        refine wpAnyH_ready (rs := [3, 6]) (by kernel_rfl) (by simp) ?_
        refine AllReadyH.cons rfl (fun K hK => ?_) (AllReadyH.cons rfl (fun K hK => ?_) AllReadyH.nil)
        · go_simp
          refine (HC9B.out _ D51_.out.bel).mono ?_
          rintro e u52_ ⟨kv, rfl, hlr, hb⟩
          obtain ⟨gb, cb, rfl, _, _⟩ := hlr.form
          have D52_ := Lib.hid (D51_.out.cb hb (T := TX b.kids (.slice (some ⟨gb, 0, none⟩) b.kids.length cb)) (TX.keep _ _) hlr (fun b hb => hb))
          clear hlr hb
          refine hK.out _ _ (HBX.out _ D52_.out.bel) (fun _ => ?_)
          clear hK
          try simp only [Act.put, List.getElem_toArray, List.getElem_cons_zero, List.getElem_cons_succ, List.setIfInBounds_toArray, List.set_cons_zero, List.set_cons_succ]
          refine wpAnyH_ready (rs := [5, 6]) (by kernel_rfl) (by simp) ?_
          refine AllReadyH.cons rfl (fun K hK => ?_) (AllReadyH.cons rfl (fun K hK => ?_) AllReadyH.nil)
          · go_simp
            refine (HC10.out _ D52_.out.bel).mono ?_
            rintro e u53_ ⟨g, c, rfl, ⟨htt, hcn⟩, hb⟩
            have D53_ := Lib.hid (D52_.out.cw hb (T := TT word g) (TT.keep _ _) htt (fun b hb => hb))
            clear htt hb
            refine hK.out _ _ (HBX.out _ D53_.out.bel) (fun _ => ?_)
            clear hK
            try simp only [Act.put, List.getElem_toArray, List.getElem_cons_zero, List.getElem_cons_succ, List.setIfInBounds_toArray, List.set_cons_zero, List.set_cons_succ]
            refine wpAnyH_ready (rs := [6]) (by kernel_rfl) (by simp) ?_
            refine AllReadyH.cons rfl (fun K hK => ?_) AllReadyH.nil
            · go_simp
              have hd := D53_.out.a7
              refine hK.out _ _ (HBX.out _ hd.bel) (fun _ => ?_)
              clear hK
              try simp only [Act.put, List.getElem_toArray, List.getElem_cons_zero, List.getElem_cons_succ, List.setIfInBounds_toArray, List.set_cons_zero, List.set_cons_succ]
              obtain ⟨E7, hE7⟩ : ∃ E7, u53_.heap.size = E7 := ⟨_, rfl⟩
              obtain ⟨u54_, hu54_⟩ : ∃ x, u53_.alloc (.cells #[.int .i64 0, .string ⟨#[]⟩, .slice none 0 0] 25) = x := ⟨_, rfl⟩
              have D54_ := Lib.hid (show D3 W0 u54_ (some E7) (some E8) (some (TX a.kids (.slice (some ⟨ga, 0, none⟩) a.kids.length ca))) (some (TX b.kids (.slice (some ⟨gb, 0, none⟩) b.kids.length cb))) (some (TT word g)) by rw [← hu54_, ← hE7]; exact hd)
              rw [hu54_, hE7]
              clear hd hu54_ hE7
              refine wpAnyH_ready (rs := [8]) (by kernel_rfl) (by simp) ?_
              refine AllReadyH.cons rfl (fun K hK => ?_) AllReadyH.nil
              obtain ⟨⟨z0, z1, z2⟩, f0, f1, f2⟩ := z25_cells (D54_.out.z7 _ rfl).2
              go_simp
              refine hK.out _ _ (HBX.out _ (set3_below D54_.out.bel (D54_.out.z7 _ rfl).1 (.int .i64 ka) (.string la) (.slice (some ⟨ga, 0, none⟩) a.kids.length ca))) (fun _ => ?_)
              clear hK z0 z1 z2 f0 f1 f2
              try simp only [Act.put, List.getElem_toArray, List.getElem_cons_zero, List.getElem_cons_succ, List.setIfInBounds_toArray, List.set_cons_zero, List.set_cons_succ]
              obtain ⟨u8, hu8⟩ : ∃ u8, set3 u54_ E7 (.int .i64 ka) (.string la) (.slice (some ⟨ga, 0, none⟩) a.kids.length ca) = u8 := ⟨_, rfl⟩
              have hq8 := hu8
              unfold set3 at hq8
              rw [hq8]
              have B8 := Lib.hid (show Below W0.heap.size W0 u8 by rw [← hu8]; exact set3_below D54_.out.bel (D54_.out.z7 _ rfl).1 _ _ _)
              have e8 : u8.heap[E8]? = some z25 := by rw [← hu8, set3_other _ _ _ (fun e => D54_.out.ne E7 rfl (by rw [e]))]; exact (D54_.out.z8 _ rfl).2
              refine wpAnyH_ready (rs := [9]) (by kernel_rfl) (by simp) ?_
              refine AllReadyH.cons rfl (fun K hK => ?_) AllReadyH.nil
              obtain ⟨⟨z0, z1, z2⟩, f0, f1, f2⟩ := z25_cells e8
              clear e8 hq8
              go_simp
              have B9 := Lib.hid (set3_below B8.out (D54_.out.z8 _ rfl).1 (.int .i64 kb) (.string lb) (.slice (some ⟨gb, 0, none⟩) b.kids.length cb))
              refine hK.out _ _ (HBX.out _ B9.out) (fun _ => ?_)
              clear hK z0 z1 z2 f0 f1 f2
              try simp only [Act.put, List.getElem_toArray, List.getElem_cons_zero, List.getElem_cons_succ, List.setIfInBounds_toArray, List.set_cons_zero, List.set_cons_succ]
              refine wpAnyH_take (i := 10) (v := .slice (some ⟨g, 0, none⟩) n c) rfl (by kernel_rfl) (by kernel_rfl) (by kernel_rfl) (fun _ _ _ h => (h : False).elim) (Or.inl ⟨by rfl, ?_⟩) (HBX.out _ B9.out) ?_
              · intro w hSw
                obtain ⟨⟨hs0, hs1, hs2⟩, hs3, hs4, hs5⟩ := hSw
                go_simp
              try simp only [Act.put, List.getElem_toArray, List.getElem_cons_zero, List.getElem_cons_succ, List.setIfInBounds_toArray, List.set_cons_zero, List.set_cons_succ]
              refine ⟨by kernel_rfl, ?_⟩
              refine NoPanic.normal ?_
              go_wp2_with fail
              go_meet
              exact ⟨E7, E8, _, _, g, c, rfl, rfl, rfl, hcn, by rw [← hu8]; exact D54_.out.fin (.int .i64 ka) (.string la) (.slice (some ⟨ga, 0, none⟩) a.kids.length ca) (.int .i64 kb) (.string lb) (.slice (some ⟨gb, 0, none⟩) b.kids.length cb) (TX.mono _ _) (TX.mono _ _) (TT.mono _ _)⟩
          · go_simp
            have hd := D52_.out.a7
            refine hK.out _ _ (HBX.out _ hd.bel) (fun _ => ?_)
            clear hK
            try simp only [Act.put, List.getElem_toArray, List.getElem_cons_zero, List.getElem_cons_succ, List.setIfInBounds_toArray, List.set_cons_zero, List.set_cons_succ]
            obtain ⟨E7, hE7⟩ : ∃ E7, u52_.heap.size = E7 := ⟨_, rfl⟩
            obtain ⟨u55_, hu55_⟩ : ∃ x, u52_.alloc (.cells #[.int .i64 0, .string ⟨#[]⟩, .slice none 0 0] 25) = x := ⟨_, rfl⟩
            have D55_ := Lib.hid (show D3 W0 u55_ (some E7) (some E8) (some (TX a.kids (.slice (some ⟨ga, 0, none⟩) a.kids.length ca))) (some (TX b.kids (.slice (some ⟨gb, 0, none⟩) b.kids.length cb))) none by rw [← hu55_, ← hE7]; exact hd)
            rw [hu55_, hE7]
            clear hd hu55_ hE7
            refine wpAnyH_ready (rs := [5]) (by kernel_rfl) (by simp) ?_
            refine AllReadyH.cons rfl (fun K hK => ?_) AllReadyH.nil
            · go_simp
              refine (HC10.out _ D55_.out.bel).mono ?_
              rintro e u56_ ⟨g, c, rfl, ⟨htt, hcn⟩, hb⟩
              have D56_ := Lib.hid (D55_.out.cw hb (T := TT word g) (TT.keep _ _) htt (fun b hb => hb))
              clear htt hb
              refine hK.out _ _ (HBX.out _ D56_.out.bel) (fun _ => ?_)
              clear hK
              try simp only [Act.put, List.getElem_toArray, List.getElem_cons_zero, List.getElem_cons_succ, List.setIfInBounds_toArray, List.set_cons_zero, List.set_cons_succ]
              refine wpAnyH_ready (rs := [8]) (by kernel_rfl) (by simp) ?_
              refine AllReadyH.cons rfl (fun K hK => ?_) AllReadyH.nil
              obtain ⟨⟨z0, z1, z2⟩, f0, f1, f2⟩ := z25_cells (D56_.out.z7 _ rfl).2
              go_simp
              refine hK.out _ _ (HBX.out _ (set3_below D56_.out.bel (D56_.out.z7 _ rfl).1 (.int .i64 ka) (.string la) (.slice (some ⟨ga, 0, none⟩) a.kids.length ca))) (fun _ => ?_)
              clear hK z0 z1 z2 f0 f1 f2
              try simp only [Act.put, List.getElem_toArray, List.getElem_cons_zero, List.getElem_cons_succ, List.setIfInBounds_toArray, List.set_cons_zero, List.set_cons_succ]
              obtain ⟨u8, hu8⟩ : ∃ u8, set3 u56_ E7 (.int .i64 ka) (.string la) (.slice (some ⟨ga, 0, none⟩) a.kids.length ca) = u8 := ⟨_, rfl⟩
              have hq8 := hu8
              unfold set3 at hq8
              rw [hq8]
              have B8 := Lib.hid (show Below W0.heap.size W0 u8 by rw [← hu8]; exact set3_below D56_.out.bel (D56_.out.z7 _ rfl).1 _ _ _)
              have e8 : u8.heap[E8]? = some z25 := by rw [← hu8, set3_other _ _ _ (fun e => D56_.out.ne E7 rfl (by rw [e]))]; exact (D56_.out.z8 _ rfl).2
              refine wpAnyH_ready (rs := [9]) (by kernel_rfl) (by simp) ?_
              refine AllReadyH.cons rfl (fun K hK => ?_) AllReadyH.nil
              obtain ⟨⟨z0, z1, z2⟩, f0, f1, f2⟩ := z25_cells e8
              clear e8 hq8
              go_simp
              have B9 := Lib.hid (set3_below B8.out (D56_.out.z8 _ rfl).1 (.int .i64 kb) (.string lb) (.slice (some ⟨gb, 0, none⟩) b.kids.length cb))
              refine hK.out _ _ (HBX.out _ B9.out) (fun _ => ?_)
              clear hK z0 z1 z2 f0 f1 f2
              try simp only [Act.put, List.getElem_toArray, List.getElem_cons_zero, List.getElem_cons_succ, List.setIfInBounds_toArray, List.set_cons_zero, List.set_cons_succ]
              refine wpAnyH_take (i := 10) (v := .slice (some ⟨g, 0, none⟩) n c) rfl (by kernel_rfl) (by kernel_rfl) (by kernel_rfl) (fun _ _ _ h => (h : False).elim) (Or.inl ⟨by rfl, ?_⟩) (HBX.out _ B9.out) ?_
              · intro w hSw
                obtain ⟨⟨hs0, hs1, hs2⟩, hs3, hs4, hs5⟩ := hSw
                go_simp
              try simp only [Act.put, List.getElem_toArray, List.getElem_cons_zero, List.getElem_cons_succ, List.setIfInBounds_toArray, List.set_cons_zero, List.set_cons_succ]
              refine ⟨by kernel_rfl, ?_⟩
              refine NoPanic.normal ?_
              go_wp2_with fail
              go_meet
              exact ⟨E7, E8, _, _, g, c, rfl, rfl, rfl, hcn, by rw [← hu8]; exact D56_.out.fin (.int .i64 ka) (.string la) (.slice (some ⟨ga, 0, none⟩) a.kids.length ca) (.int .i64 kb) (.string lb) (.slice (some ⟨gb, 0, none⟩) b.kids.length cb) (TX.mono _ _) (TX.mono _ _) (TT.mono _ _)⟩
        · go_simp
          have hd := D51_.out.a7
          refine hK.out _ _ (HBX.out _ hd.bel) (fun _ => ?_)
          clear hK
          try simp only [Act.put, List.getElem_toArray, List.getElem_cons_zero, List.getElem_cons_succ, List.setIfInBounds_toArray, List.set_cons_zero, List.set_cons_succ]
          obtain ⟨E7, hE7⟩ : ∃ E7, u51_.heap.size = E7 := ⟨_, rfl⟩
          obtain ⟨u57_, hu57_⟩ : ∃ x, u51_.alloc (.cells #[.int .i64 0, .string ⟨#[]⟩, .slice none 0 0] 25) = x := ⟨_, rfl⟩
          have D57_ := Lib.hid (show D3 W0 u57_ (some E7) (some E8) (some (TX a.kids (.slice (some ⟨ga, 0, none⟩) a.kids.length ca))) none none by rw [← hu57_, ← hE7]; exact hd)
          rw [hu57_, hE7]
          clear hd hu57_ hE7
          refine wpAnyH_ready (rs := [3]) (by kernel_rfl) (by simp) ?_
          refine AllReadyH.cons rfl (fun K hK => ?_) AllReadyH.nil
          · go_simp
            refine (HC9B.out _ D57_.out.bel).mono ?_
            rintro e u58_ ⟨kv, rfl, hlr, hb⟩
            obtain ⟨gb, cb, rfl, _, _⟩ := hlr.form
            have D58_ := Lib.hid (D57_.out.cb hb (T := TX b.kids (.slice (some ⟨gb, 0, none⟩) b.kids.length cb)) (TX.keep _ _) hlr (fun b hb => hb))
            clear hlr hb
            refine hK.out _ _ (HBX.out _ D58_.out.bel) (fun _ => ?_)
            clear hK
            try simp only [Act.put, List.getElem_toArray, List.getElem_cons_zero, List.getElem_cons_succ, List.setIfInBounds_toArray, List.set_cons_zero, List.set_cons_succ]
            refine wpAnyH_ready (rs := [5]) (by kernel_rfl) (by simp) ?_
            refine AllReadyH.cons rfl (fun K hK => ?_) AllReadyH.nil
            · go_simp
              refine (HC10.out _ D58_.out.bel).mono ?_
              rintro e u59_ ⟨g, c, rfl, ⟨htt, hcn⟩, hb⟩
              have D59_ := Lib.hid (D58_.out.cw hb (T := TT word g) (TT.keep _ _) htt (fun b hb => hb))
              clear htt hb
              refine hK.out _ _ (HBX.out _ D59_.out.bel) (fun _ => ?_)
              clear hK
              try simp only [Act.put, List.getElem_toArray, List.getElem_cons_zero, List.getElem_cons_succ, List.setIfInBounds_toArray, List.set_cons_zero, List.set_cons_succ]
              refine wpAnyH_ready (rs := [8]) (by kernel_rfl) (by simp) ?_
              refine AllReadyH.cons rfl (fun K hK => ?_) AllReadyH.nil
              obtain ⟨⟨z0, z1, z2⟩, f0, f1, f2⟩ := z25_cells (D59_.out.z7 _ rfl).2
              go_simp
              refine hK.out _ _ (HBX.out _ (set3_below D59_.out.bel (D59_.out.z7 _ rfl).1 (.int .i64 ka) (.string la) (.slice (some ⟨ga, 0, none⟩) a.kids.length ca))) (fun _ => ?_)
              clear hK z0 z1 z2 f0 f1 f2
              try simp only [Act.put, List.getElem_toArray, List.getElem_cons_zero, List.getElem_cons_succ, List.setIfInBounds_toArray, List.set_cons_zero, List.set_cons_succ]
              obtain ⟨u8, hu8⟩ : ∃ u8, set3 u59_ E7 (.int .i64 ka) (.string la) (.slice (some ⟨ga, 0, none⟩) a.kids.length ca) = u8 := ⟨_, rfl⟩
              have hq8 := hu8
              unfold set3 at hq8
              rw [hq8]
              have B8 := Lib.hid (show Below W0.heap.size W0 u8 by rw [← hu8]; exact set3_below D59_.out.bel (D59_.out.z7 _ rfl).1 _ _ _)
              have e8 : u8.heap[E8]? = some z25 := by rw [← hu8, set3_other _ _ _ (fun e => D59_.out.ne E7 rfl (by rw [e]))]; exact (D59_.out.z8 _ rfl).2
              refine wpAnyH_ready (rs := [9]) (by kernel_rfl) (by simp) ?_
              refine AllReadyH.cons rfl (fun K hK => ?_) AllReadyH.nil
              obtain ⟨⟨z0, z1, z2⟩, f0, f1, f2⟩ := z25_cells e8
              clear e8 hq8
              go_simp
              have B9 := Lib.hid (set3_below B8.out (D59_.out.z8 _ rfl).1 (.int .i64 kb) (.string lb) (.slice (some ⟨gb, 0, none⟩) b.kids.length cb))
              refine hK.out _ _ (HBX.out _ B9.out) (fun _ => ?_)
              clear hK z0 z1 z2 f0 f1 f2
              try simp only [Act.put, List.getElem_toArray, List.getElem_cons_zero, List.getElem_cons_succ, List.setIfInBounds_toArray, List.set_cons_zero, List.set_cons_succ]
              refine wpAnyH_take (i := 10) (v := .slice (some ⟨g, 0, none⟩) n c) rfl (by kernel_rfl) (by kernel_rfl) (by kernel_rfl) (fun _ _ _ h => (h : False).elim) (Or.inl ⟨by rfl, ?_⟩) (HBX.out _ B9.out) ?_
              · intro w hSw
                obtain ⟨⟨hs0, hs1, hs2⟩, hs3, hs4, hs5⟩ := hSw
                go_simp
              try simp only [Act.put, List.getElem_toArray, List.getElem_cons_zero, List.getElem_cons_succ, List.setIfInBounds_toArray, List.set_cons_zero, List.set_cons_succ]
              refine ⟨by kernel_rfl, ?_⟩
              refine NoPanic.normal ?_
              go_wp2_with fail
              go_meet
              exact ⟨E7, E8, _, _, g, c, rfl, rfl, rfl, hcn, by rw [← hu8]; exact D59_.out.fin (.int .i64 ka) (.string la) (.slice (some ⟨ga, 0, none⟩) a.kids.length ca) (.int .i64 kb) (.string lb) (.slice (some ⟨gb, 0, none⟩) b.kids.length cb) (TX.mono _ _) (TX.mono _ _) (TT.mono _ _)⟩
      · go_simp
        have hd := D50_.out.a7
        refine hK.out _ _ (HBX.out _ hd.bel) (fun _ => ?_)
        clear hK
        try simp only [Act.put, List.getElem_toArray, List.getElem_cons_zero, List.getElem_cons_succ, List.setIfInBounds_toArray, List.set_cons_zero, List.set_cons_succ]
        obtain ⟨E7, hE7⟩ : ∃ E7, u50_.heap.size = E7 := ⟨_, rfl⟩
        obtain ⟨u60_, hu60_⟩ : ∃ x, u50_.alloc (.cells #[.int .i64 0, .string ⟨#[]⟩, .slice none 0 0] 25) = x := ⟨_, rfl⟩
        have D60_ := Lib.hid (show D3 W0 u60_ (some E7) (some E8) none none none by rw [← hu60_, ← hE7]; exact hd)
        rw [hu60_, hE7]
        clear hd hu60_ hE7
        refine wpAnyH_ready (rs := [1]) (by kernel_rfl) (by simp) ?_
        refine AllReadyH.cons rfl (fun K hK => ?_) AllReadyH.nil
        · go_simp
          refine (HC9A.out _ D60_.out.bel).mono ?_
          rintro e u61_ ⟨kv, rfl, hlr, hb⟩
          obtain ⟨ga, ca, rfl, _, _⟩ := hlr.form
          have D61_ := Lib.hid (D60_.out.ca hb (T := TX a.kids (.slice (some ⟨ga, 0, none⟩) a.kids.length ca)) (TX.keep _ _) hlr (fun b hb => hb))
          clear hlr hb
          refine hK.out _ _ (HBX.out _ D61_.out.bel) (fun _ => ?_)
          clear hK
          try simp only [Act.put, List.getElem_toArray, List.getElem_cons_zero, List.getElem_cons_succ, List.setIfInBounds_toArray, List.set_cons_zero, List.set_cons_succ]
          refine wpAnyH_ready (rs := [3]) (by kernel_rfl) (by simp) ?_
          refine AllReadyH.cons rfl (fun K hK => ?_) AllReadyH.nil
          · go_simp
            refine (HC9B.out _ D61_.out.bel).mono ?_
            rintro e u62_ ⟨kv, rfl, hlr, hb⟩
            obtain ⟨gb, cb, rfl, _, _⟩ := hlr.form
            have D62_ := Lib.hid (D61_.out.cb hb (T := TX b.kids (.slice (some ⟨gb, 0, none⟩) b.kids.length cb)) (TX.keep _ _) hlr (fun b hb => hb))
            clear hlr hb
            refine hK.out _ _ (HBX.out _ D62_.out.bel) (fun _ => ?_)
            clear hK
            try simp only [Act.put, List.getElem_toArray, List.getElem_cons_zero, List.getElem_cons_succ, List.setIfInBounds_toArray, List.set_cons_zero, List.set_cons_succ]
            refine wpAnyH_ready (rs := [5]) (by kernel_rfl) (by simp) ?_
            refine AllReadyH.cons rfl (fun K hK => ?_) AllReadyH.nil
            · go_simp
              refine (HC10.out _ D62_.out.bel).mono ?_
              rintro e u63_ ⟨g, c, rfl, ⟨htt, hcn⟩, hb⟩
              have D63_ := Lib.hid (D62_.out.cw hb (T := TT word g) (TT.keep _ _) htt (fun b hb => hb))
              clear htt hb
              refine hK.out _ _ (HBX.out _ D63_.out.bel) (fun _ => ?_)
              clear hK
              try simp only [Act.put, List.getElem_toArray, List.getElem_cons_zero, List.getElem_cons_succ, List.setIfInBounds_toArray, List.set_cons_zero, List.set_cons_succ]
              refine wpAnyH_ready (rs := [8]) (by kernel_rfl) (by simp) ?_
              refine AllReadyH.cons rfl (fun K hK => ?_) AllReadyH.nil
              obtain ⟨⟨z0, z1, z2⟩, f0, f1, f2⟩ := z25_cells (D63_.out.z7 _ rfl).2
              go_simp
              refine hK.out _ _ (HBX.out _ (set3_below D63_.out.bel (D63_.out.z7 _ rfl).1 (.int .i64 ka) (.string la) (.slice (some ⟨ga, 0, none⟩) a.kids.length ca))) (fun _ => ?_)
              clear hK z0 z1 z2 f0 f1 f2
              try simp only [Act.put, List.getElem_toArray, List.getElem_cons_zero, List.getElem_cons_succ, List.setIfInBounds_toArray, List.set_cons_zero, List.set_cons_succ]
              obtain ⟨u8, hu8⟩ : ∃ u8, set3 u63_ E7 (.int .i64 ka) (.string la) (.slice (some ⟨ga, 0, none⟩) a.kids.length ca) = u8 := ⟨_, rfl⟩
              have hq8 := hu8
              unfold set3 at hq8
              rw [hq8]
              have B8 := Lib.hid (show Below W0.heap.size W0 u8 by rw [← hu8]; exact set3_below D63_.out.bel (D63_.out.z7 _ rfl).1 _ _ _)
              have e8 : u8.heap[E8]? = some z25 := by rw [← hu8, set3_other _ _ _ (fun e => D63_.out.ne E7 rfl (by rw [e]))]; exact (D63_.out.z8 _ rfl).2
              refine wpAnyH_ready (rs := [9]) (by kernel_rfl) (by simp) ?_
              refine AllReadyH.cons rfl (fun K hK => ?_) AllReadyH.nil
              obtain ⟨⟨z0, z1, z2⟩, f0, f1, f2⟩ := z25_cells e8
              clear e8 hq8
              go_simp
              have B9 := Lib.hid (set3_below B8.out (D63_.out.z8 _ rfl).1 (.int .i64 kb) (.string lb) (.slice (some ⟨gb, 0, none⟩) b.kids.length cb))
              refine hK.out _ _ (HBX.out _ B9.out) (fun _ => ?_)
              clear hK z0 z1 z2 f0 f1 f2
              try simp only [Act.put, List.getElem_toArray, List.getElem_cons_zero, List.getElem_cons_succ, List.setIfInBounds_toArray, List.set_cons_zero, List.set_cons_succ]
              refine wpAnyH_take (i := 10) (v := .slice (some ⟨g, 0, none⟩) n c) rfl (by kernel_rfl) (by kernel_rfl) (by kernel_rfl) (fun _ _ _ h => (h : False).elim) (Or.inl ⟨by rfl, ?_⟩) (HBX.out _ B9.out) ?_
              · intro w hSw
                obtain ⟨⟨hs0, hs1, hs2⟩, hs3, hs4, hs5⟩ := hSw
                go_simp
              try simp only [Act.put, List.getElem_toArray, List.getElem_cons_zero, List.getElem_cons_succ, List.setIfInBounds_toArray, List.set_cons_zero, List.set_cons_succ]
              refine ⟨by kernel_rfl, ?_⟩
              refine NoPanic.normal ?_
              go_wp2_with fail
              go_meet
              exact ⟨E7, E8, _, _, g, c, rfl, rfl, rfl, hcn, by rw [← hu8]; exact D63_.out.fin (.int .i64 ka) (.string la) (.slice (some ⟨ga, 0, none⟩) a.kids.length ca) (.int .i64 kb) (.string lb) (.slice (some ⟨gb, 0, none⟩) b.kids.length cb) (TX.mono _ _) (TX.mono _ _) (TT.mono _ _)⟩
  case rest =>
    obtain ⟨E7, E8, kx, ky, g, c, rfl, rfl, rfl, hcn, hf⟩ := hcut
    obtain ⟨W1, rfl⟩ : ∃ x, x = wc := ⟨_, rfl⟩
    have HF := Lib.hid hf
    have HCN := Lib.hid hcn
    obtain ⟨hbc, hb7, hb8, hla7, hlb8, hlw⟩ := hf
    have HBC := Lib.hid hbc
    have HBW := Lib.hid (fun W (h : Below W1.heap.size W1 W) => And.intro (HBX.out W (hbc.trans (h.mono hbc.size))) (And.intro (box3 ((h.block _ (Array.getElem?_eq_some_iff.1 hb7).1).trans hb7)) (box3 ((h.block _ (Array.getElem?_eq_some_iff.1 hb8).1).trans hb8))))
    have HXX := Lib.hid (show XV W1.heap.size W1 (.agg #[.int .i64 ka, .string la, kx]) a from ⟨kx, by rw [HKD.out.1.1, HKD.out.1.2], LR.xr hla7 (fun b hb => hb)⟩)
    have HXY := Lib.hid (show XV W1.heap.size W1 (.agg #[.int .i64 kb, .string lb, ky]) b from ⟨ky, by rw [HKD.out.2.1, HKD.out.2.2], LR.xr hlb8 (fun b hb => hb)⟩)
    have HWX := Lib.hid (show SR W1.heap.size W1 (.slice (some ⟨g, 0, none⟩) n c) word from ⟨some ⟨g, 0, none⟩, c, by rw [HN.out], fun _ => ⟨⟨g, 0, none⟩, rfl, hlw.1, fun k hk => by
      have h1 := hlw.2 k (by rw [List.length_append]; omega)
      rw [List.getElem_append_left hk] at h1
      rw [at_zero]
      exact h1⟩⟩)
    obtain ⟨⟨⟨d0, d1, d2⟩, d3, d4, d5⟩, ⟨d6, d7, d8⟩, d9, d10, d11⟩ := HBW.out W1 (Below.refl _ _)
    clear hcn hbc hb7 hb8 hla7 hlb8 hlw H2 HC9A HC9B HC10
    go_upto_region 5 with (go_at_call 11; refine (labels11_any HXX.out (Nat.le_refl _) hsa HLA.out.1).mono ?_; rintro e w5 ⟨v5, rfl, ho5, hb5⟩; have H5 := Lib.hid (And.intro ho5 hb5); clear ho5 hb5)
    clear d0 d1 d2 d3 d4 d5 d6 d7 d8 d9 d10 d11
    have hb5 : Below W1.heap.size W1 w5 := H5.out.2
    have hb05 : Below W0.heap.size W0 w5 := HBC.out.trans (hb5.mono HBC.out.size)
    have hl300 : a.labs.length ≤ 1000000 := by have := labs_len a; omega
    obtain ⟨hsl, hslc⟩ := own_SR2 H5.out.1
    have HLS := Lib.hid (fun W (h : Below w5.heap.size w5 W) => hsl.bel h)
    have HLO := Lib.hid (And.intro H5.out.1 (And.intro hb5 (show a.labs.length ≤ 900 by have := labs_len a; omega)))
    obtain ⟨A1, c1, e5⟩ := row_form H5.out.1
    subst e5
    obtain ⟨m, hm⟩ : ∃ m, a.labs.length = m := ⟨_, rfl⟩
    have HM := Lib.hid hm
    rw [hm] at HLS HLO ⊢
    clear hm hsl hslc H5
    obtain ⟨r1, hr1⟩ : ∃ r, a.right = r := ⟨_, rfl⟩
    obtain ⟨s1, hs1'⟩ : ∃ s, sameX a b = s := ⟨_, rfl⟩
    obtain ⟨te, hte⟩ : ∃ t, takesB a [] = t := ⟨_, rfl⟩
    obtain ⟨tw, htw⟩ : ∃ t, takesB a word = t := ⟨_, rfl⟩
    obtain ⟨z, hz⟩ : ∃ z, a.sz = z := ⟨_, rfl⟩
    have hte2 : (a.right && a.emp) = te := by rw [← takes_nil]; exact hte
    have hxx := HXX.out.bel hb5
    have hxy := HXY.out.bel hb5
    have hxa := HXA.out.bel hb05
    have hxb := HXB.out.bel hb05
    have hwx := HWX.out.bel hb5
    have hwd := HSR.out.1.bel (hb05.mono HSR.out.2)
    have hz5 := hb5.size
    have hz05 := hb05.size
    have hMz := Nat.le_trans HSR.out.2 hz05
    have hwl : word.length ≤ 100000 := by have := HN.out; omega
    have HB5 := Lib.hid (fun W (h : Below w5.heap.size w5 W) => HBW.out W (hb5.trans (h.mono hz5)))
    have HR1 := Lib.hid (fun W (h : Below w5.heap.size w5 W) => calls_bool (right12_any (hxx.bel (h.mono hz5)) (Nat.le_trans hz5 h.size) hsa HLA.out.1) h hr1)
    have HR2 := Lib.hid (fun W (h : Below w5.heap.size w5 W) => calls_bool (rright_any (hxa.bel (h.mono hz05)) (Nat.le_trans hz05 h.size) hsa HLA.out.1) h hr1)
    have hZ1 := fun W (h : Below w5.heap.size w5 W) => calls_base (size14_any (hxx.bel (h.mono hz5)) (Nat.le_trans hz5 h.size) hsa) h
    have hZ2 := fun W (h : Below w5.heap.size w5 W) => calls_base (rsize_any a hsa _ W _ (hxa.bel (h.mono hz05)) (Nat.le_trans hz05 h.size)) h
    rw [hz] at hZ1 hZ2
    have HZ1 := Lib.hid hZ1
    have HZ2 := Lib.hid hZ2
    have HS1 := Lib.hid (fun W (h : Below w5.heap.size w5 W) => calls_bool (same16_any (hxx.bel (h.mono hz5)) (hxy.bel (h.mono hz5)) (Nat.le_trans hz5 h.size) hsa) h hs1')
    have HS2 := Lib.hid (fun W (h : Below w5.heap.size w5 W) => calls_bool (rsame_any a hsa b _ W _ _ (hxa.bel (h.mono hz05)) (hxb.bel (h.mono hz05)) (Nat.le_trans hz05 h.size)) h hs1')
    have HE1 := Lib.hid (fun W (h : Below w5.heap.size w5 W) => calls_bool (empty18_any (hxx.bel (h.mono hz5)) (Nat.le_trans hz5 h.size) hsa HLA.out.1) h hte2)
    have HE2 := Lib.hid (fun W (h : Below w5.heap.size w5 W) => calls_bool (rempty_any (hxa.bel (h.mono hz05)) (Nat.le_trans hz05 h.size) hsa HLA.out.1) h hte)
    have HT1 := Lib.hid (fun W (h : Below w5.heap.size w5 W) => calls_bool (takes20_any (hxx.bel (h.mono hz5)) (Nat.le_trans hz5 h.size) hsa HLA.out.1 (hwx.bel (h.mono hz5)) (Nat.le_trans hz5 h.size) hwl) h htw)
    have HT2 := Lib.hid (fun W (h : Below w5.heap.size w5 W) => calls_bool (rtakes_any (hxa.bel (h.mono hz05)) (Nat.le_trans hz05 h.size) hsa HLA.out.1 (hwd.bel (h.mono hMz)) (Nat.le_trans hMz h.size) hwl) h htw)
    have HL2 := Lib.hid (fun W (h : Below w5.heap.size w5 W) => rlabels_any (hxa.bel (h.mono hz05)) (Nat.le_trans hz05 h.size) hsa HLA.out.1)
    clear hr1 hs1' hte hte2 htw hz hxx hxy hxa hxb hwx hwd hZ1 hZ2 hb5 hb05 hz5 hz05 hMz
    go_cut [11] from 26 to 90 (fun t11 wy => t11 = .bool true ∧ Below w5.heap.size w5 wy)
    case first =>
      have GR0 := Lib.hid (Below.refl w5.heap.size w5).drew
      clear HF HCN HBC HBW HXX HXY HWX HLO HM HKD HB0 H8 HBX HXA HXB HSR HLA HN hsa hsb hs1 hn30 hwl
      refine wp_region_noPanic ?_
      refine wp_region_held_drew (S := fun W => ((((W.cell? ⟨w.heap.size, 0, none⟩ = some (.int .i64 ka) ∧ W.cell? ⟨w.heap.size, 1, none⟩ = some (.string la) ∧ W.cell? ⟨w.heap.size, 2, none⟩ = some kva) ∧ W.cell? ⟨w.heap.size + 1, 0, none⟩ = some (.int .i64 kb) ∧ W.cell? ⟨w.heap.size + 1, 1, none⟩ = some (.string lb) ∧ W.cell? ⟨w.heap.size + 1, 2, none⟩ = some kvb)) ∧ (W.cell? ⟨E7, 0, none⟩ = some (.int .i64 ka) ∧ W.cell? ⟨E7, 1, none⟩ = some (.string la) ∧ W.cell? ⟨E7, 2, none⟩ = some kx) ∧ W.cell? ⟨E8, 0, none⟩ = some (.int .i64 kb) ∧ W.cell? ⟨E8, 1, none⟩ = some (.string lb) ∧ W.cell? ⟨E8, 2, none⟩ = some ky)) (by kernel_rfl) (HB5.out _ GR0.out) (fun hHeld => ?_)
      clear hHeld
      refine wpAnyH_take (i := 0) (v := .agg #[.int .i64 ka, .string la, kx]) rfl (by kernel_rfl) (by kernel_rfl) (by kernel_rfl) (fun _ _ _ h => (h : False).elim) (Or.inl ⟨by rfl, ?_⟩) (HB5.out _ GR0.out) ?_
      · intro w hSw
        obtain ⟨⟨⟨hs0, hs1, hs2⟩, hs3, hs4, hs5⟩, ⟨ht0, ht1, ht2⟩, ht3, ht4, ht5⟩ := hSw
        go_simp
      try simp only [Act.put, List.getElem_toArray, List.getElem_cons_zero, List.getElem_cons_succ, List.setIfInBounds_toArray, List.set_cons_zero, List.set_cons_succ]
      refine wpAnyH_take (i := 2) (v := .agg #[.int .i64 ka, .string la, kva]) rfl (by kernel_rfl) (by kernel_rfl) (by kernel_rfl) (fun _ _ _ h => (h : False).elim) (Or.inl ⟨by rfl, ?_⟩) (HB5.out _ GR0.out) ?_
      · intro w hSw
        obtain ⟨⟨⟨hs0, hs1, hs2⟩, hs3, hs4, hs5⟩, ⟨ht0, ht1, ht2⟩, ht3, ht4, ht5⟩ := hSw
        go_simp
      try simp only [Act.put, List.getElem_toArray, List.getElem_cons_zero, List.getElem_cons_succ, List.setIfInBounds_toArray, List.set_cons_zero, List.set_cons_succ]
      refine wpAnyH_ready (rs := [1]) (by kernel_rfl) (by simp) ?_
      refine AllReadyH.cons rfl (fun K hK => ?_) AllReadyH.nil
      go_simp
      refine (HR1.out _ GR0.out).mono ?_
      rintro e y1 ⟨rfl, hq⟩
      have G1 := Lib.hid hq
      clear hq
      refine hK.out _ _ (HB5.out _ G1.out) (fun _ => ?_)
      clear hK
      try simp only [Act.put, List.getElem_toArray, List.getElem_cons_zero, List.getElem_cons_succ, List.setIfInBounds_toArray, List.set_cons_zero, List.set_cons_succ]
      refine wpAnyH_ready (rs := [3]) (by kernel_rfl) (by simp) ?_
      refine AllReadyH.cons rfl (fun K hK => ?_) AllReadyH.nil
      go_simp
      refine (HR2.out _ G1.out).mono ?_
      rintro e y3 ⟨rfl, hq⟩
      have G3 := Lib.hid hq
      clear hq
      refine hK.out _ _ (HB5.out _ G3.out) (fun _ => ?_)
      clear hK
      try simp only [Act.put, List.getElem_toArray, List.getElem_cons_zero, List.getElem_cons_succ, List.setIfInBounds_toArray, List.set_cons_zero, List.set_cons_succ]
      refine wpAnyH_take (i := 4) (v := .bool true) rfl (by kernel_rfl) (by kernel_rfl) (by kernel_rfl) (fun _ _ _ h => (h : False).elim) (Or.inl ⟨by rfl, ?_⟩) (HB5.out _ G3.out) ?_
      · intro w hSw
        obtain ⟨⟨⟨hs0, hs1, hs2⟩, hs3, hs4, hs5⟩, ⟨ht0, ht1, ht2⟩, ht3, ht4, ht5⟩ := hSw
        (go_simp; try simp)
      try simp only [Act.put, List.getElem_toArray, List.getElem_cons_zero, List.getElem_cons_succ, List.setIfInBounds_toArray, List.set_cons_zero, List.set_cons_succ]
      refine wpAnyH_take (i := 5) (v := .bool true) rfl (by kernel_rfl) (by kernel_rfl) (by kernel_rfl) (fun _ _ _ h => (h : False).elim) (Or.inl ⟨by rfl, ?_⟩) (HB5.out _ G3.out) ?_
      · intro w hSw
        obtain ⟨⟨⟨hs0, hs1, hs2⟩, hs3, hs4, hs5⟩, ⟨ht0, ht1, ht2⟩, ht3, ht4, ht5⟩ := hSw
        go_simp
      try simp only [Act.put, List.getElem_toArray, List.getElem_cons_zero, List.getElem_cons_succ, List.setIfInBounds_toArray, List.set_cons_zero, List.set_cons_succ]
      refine wpAnyH_take (i := 6) (v := .agg #[.int .i64 ka, .string la, kx]) rfl (by kernel_rfl) (by kernel_rfl) (by kernel_rfl) (fun _ _ _ h => (h : False).elim) (Or.inl ⟨by rfl, ?_⟩) (HB5.out _ G3.out) ?_
      · intro w hSw
        obtain ⟨⟨⟨hs0, hs1, hs2⟩, hs3, hs4, hs5⟩, ⟨ht0, ht1, ht2⟩, ht3, ht4, ht5⟩ := hSw
        go_simp
      try simp only [Act.put, List.getElem_toArray, List.getElem_cons_zero, List.getElem_cons_succ, List.setIfInBounds_toArray, List.set_cons_zero, List.set_cons_succ]
      refine wpAnyH_take (i := 8) (v := .agg #[.int .i64 ka, .string la, kva]) rfl (by kernel_rfl) (by kernel_rfl) (by kernel_rfl) (fun _ _ _ h => (h : False).elim) (Or.inl ⟨by rfl, ?_⟩) (HB5.out _ G3.out) ?_
      · intro w hSw
        obtain ⟨⟨⟨hs0, hs1, hs2⟩, hs3, hs4, hs5⟩, ⟨ht0, ht1, ht2⟩, ht3, ht4, ht5⟩ := hSw
        go_simp
      try simp only [Act.put, List.getElem_toArray, List.getElem_cons_zero, List.getElem_cons_succ, List.setIfInBounds_toArray, List.set_cons_zero, List.set_cons_succ]
      refine wpAnyH_ready (rs := [7]) (by kernel_rfl) (by simp) ?_
      refine AllReadyH.cons rfl (fun K hK => ?_) AllReadyH.nil
      go_simp
      refine (HZ1.out _ G3.out).mono ?_
      rintro e y7 ⟨rfl, hq⟩
      have G7 := Lib.hid hq
      clear hq
      refine hK.out _ _ (HB5.out _ G7.out) (fun _ => ?_)
      clear hK
      try simp only [Act.put, List.getElem_toArray, List.getElem_cons_zero, List.getElem_cons_succ, List.setIfInBounds_toArray, List.set_cons_zero, List.set_cons_succ]
      refine wpAnyH_ready (rs := [9]) (by kernel_rfl) (by simp) ?_
      refine AllReadyH.cons rfl (fun K hK => ?_) AllReadyH.nil
      go_simp
      refine (HZ2.out _ G7.out).mono ?_
      rintro e y9 ⟨rfl, hq⟩
      have G9 := Lib.hid hq
      clear hq
      refine hK.out _ _ (HB5.out _ G9.out) (fun _ => ?_)
      clear hK
      try simp only [Act.put, List.getElem_toArray, List.getElem_cons_zero, List.getElem_cons_succ, List.setIfInBounds_toArray, List.set_cons_zero, List.set_cons_succ]
      refine wpAnyH_take (i := 10) (v := .bool true) rfl (by kernel_rfl) (by kernel_rfl) (by kernel_rfl) (fun _ _ _ h => (h : False).elim) (Or.inl ⟨by rfl, ?_⟩) (HB5.out _ G9.out) ?_
      · intro w hSw
        obtain ⟨⟨⟨hs0, hs1, hs2⟩, hs3, hs4, hs5⟩, ⟨ht0, ht1, ht2⟩, ht3, ht4, ht5⟩ := hSw
        (go_simp; try simp)
      try simp only [Act.put, List.getElem_toArray, List.getElem_cons_zero, List.getElem_cons_succ, List.setIfInBounds_toArray, List.set_cons_zero, List.set_cons_succ]
      refine wpAnyH_take (i := 11) (v := .bool true) rfl (by kernel_rfl) (by kernel_rfl) (by kernel_rfl) (fun _ _ _ h => (h : False).elim) (Or.inl ⟨by rfl, ?_⟩) (HB5.out _ G9.out) ?_
      · intro w hSw
        obtain ⟨⟨⟨hs0, hs1, hs2⟩, hs3, hs4, hs5⟩, ⟨ht0, ht1, ht2⟩, ht3, ht4, ht5⟩ := hSw
        go_simp
      try simp only [Act.put, List.getElem_toArray, List.getElem_cons_zero, List.getElem_cons_succ, List.setIfInBounds_toArray, List.set_cons_zero, List.set_cons_succ]
      refine wpAnyH_take (i := 12) (v := .bool true) rfl (by kernel_rfl) (by kernel_rfl) (by kernel_rfl) (fun _ _ _ h => (h : False).elim) (Or.inl ⟨by rfl, ?_⟩) (HB5.out _ G9.out) ?_
      · intro w hSw
        obtain ⟨⟨⟨hs0, hs1, hs2⟩, hs3, hs4, hs5⟩, ⟨ht0, ht1, ht2⟩, ht3, ht4, ht5⟩ := hSw
        go_simp
      try simp only [Act.put, List.getElem_toArray, List.getElem_cons_zero, List.getElem_cons_succ, List.setIfInBounds_toArray, List.set_cons_zero, List.set_cons_succ]
      refine wpAnyH_take (i := 13) (v := .agg #[.int .i64 ka, .string la, kx]) rfl (by kernel_rfl) (by kernel_rfl) (by kernel_rfl) (fun _ _ _ h => (h : False).elim) (Or.inl ⟨by rfl, ?_⟩) (HB5.out _ G9.out) ?_
      · intro w hSw
        obtain ⟨⟨⟨hs0, hs1, hs2⟩, hs3, hs4, hs5⟩, ⟨ht0, ht1, ht2⟩, ht3, ht4, ht5⟩ := hSw
        go_simp
      try simp only [Act.put, List.getElem_toArray, List.getElem_cons_zero, List.getElem_cons_succ, List.setIfInBounds_toArray, List.set_cons_zero, List.set_cons_succ]
      refine wpAnyH_take (i := 14) (v := .agg #[.int .i64 kb, .string lb, ky]) rfl (by kernel_rfl) (by kernel_rfl) (by kernel_rfl) (fun _ _ _ h => (h : False).elim) (Or.inl ⟨by rfl, ?_⟩) (HB5.out _ G9.out) ?_
      · intro w hSw
        obtain ⟨⟨⟨hs0, hs1, hs2⟩, hs3, hs4, hs5⟩, ⟨ht0, ht1, ht2⟩, ht3, ht4, ht5⟩ := hSw
        go_simp
      try simp only [Act.put, List.getElem_toArray, List.getElem_cons_zero, List.getElem_cons_succ, List.setIfInBounds_toArray, List.set_cons_zero, List.set_cons_succ]
      refine wpAnyH_take (i := 16) (v := .agg #[.int .i64 ka, .string la, kva]) rfl (by kernel_rfl) (by kernel_rfl) (by kernel_rfl) (fun _ _ _ h => (h : False).elim) (Or.inl ⟨by rfl, ?_⟩) (HB5.out _ G9.out) ?_
      · intro w hSw
        obtain ⟨⟨⟨hs0, hs1, hs2⟩, hs3, hs4, hs5⟩, ⟨ht0, ht1, ht2⟩, ht3, ht4, ht5⟩ := hSw
        go_simp
      try simp only [Act.put, List.getElem_toArray, List.getElem_cons_zero, List.getElem_cons_succ, List.setIfInBounds_toArray, List.set_cons_zero, List.set_cons_succ]
      refine wpAnyH_take (i := 17) (v := .agg #[.int .i64 kb, .string lb, kvb]) rfl (by kernel_rfl) (by kernel_rfl) (by kernel_rfl) (fun _ _ _ h => (h : False).elim) (Or.inl ⟨by rfl, ?_⟩) (HB5.out _ G9.out) ?_
      · intro w hSw
        obtain ⟨⟨⟨hs0, hs1, hs2⟩, hs3, hs4, hs5⟩, ⟨ht0, ht1, ht2⟩, ht3, ht4, ht5⟩ := hSw
        go_simp
      try simp only [Act.put, List.getElem_toArray, List.getElem_cons_zero, List.getElem_cons_succ, List.setIfInBounds_toArray, List.set_cons_zero, List.set_cons_succ]
      refine wpAnyH_ready (rs := [15]) (by kernel_rfl) (by simp) ?_
      refine AllReadyH.cons rfl (fun K hK => ?_) AllReadyH.nil
      go_simp
      refine (HS1.out _ G9.out).mono ?_
      rintro e y15 ⟨rfl, hq⟩
      have G15 := Lib.hid hq
      clear hq
      refine hK.out _ _ (HB5.out _ G15.out) (fun _ => ?_)
      clear hK
      try simp only [Act.put, List.getElem_toArray, List.getElem_cons_zero, List.getElem_cons_succ, List.setIfInBounds_toArray, List.set_cons_zero, List.set_cons_succ]
      refine wpAnyH_ready (rs := [18]) (by kernel_rfl) (by simp) ?_
      refine AllReadyH.cons rfl (fun K hK => ?_) AllReadyH.nil
      go_simp
      refine (HS2.out _ G15.out).mono ?_
      rintro e y18 ⟨rfl, hq⟩
      have G18 := Lib.hid hq
      clear hq
      refine hK.out _ _ (HB5.out _ G18.out) (fun _ => ?_)
      clear hK
      try simp only [Act.put, List.getElem_toArray, List.getElem_cons_zero, List.getElem_cons_succ, List.setIfInBounds_toArray, List.set_cons_zero, List.set_cons_succ]
      refine wpAnyH_take (i := 19) (v := .bool true) rfl (by kernel_rfl) (by kernel_rfl) (by kernel_rfl) (fun _ _ _ h => (h : False).elim) (Or.inl ⟨by rfl, ?_⟩) (HB5.out _ G18.out) ?_
      · intro w hSw
        obtain ⟨⟨⟨hs0, hs1, hs2⟩, hs3, hs4, hs5⟩, ⟨ht0, ht1, ht2⟩, ht3, ht4, ht5⟩ := hSw
        (go_simp; try simp)
      try simp only [Act.put, List.getElem_toArray, List.getElem_cons_zero, List.getElem_cons_succ, List.setIfInBounds_toArray, List.set_cons_zero, List.set_cons_succ]
      refine wpAnyH_take (i := 20) (v := .bool true) rfl (by kernel_rfl) (by kernel_rfl) (by kernel_rfl) (fun _ _ _ h => (h : False).elim) (Or.inl ⟨by rfl, ?_⟩) (HB5.out _ G18.out) ?_
      · intro w hSw
        obtain ⟨⟨⟨hs0, hs1, hs2⟩, hs3, hs4, hs5⟩, ⟨ht0, ht1, ht2⟩, ht3, ht4, ht5⟩ := hSw
        go_simp
      try simp only [Act.put, List.getElem_toArray, List.getElem_cons_zero, List.getElem_cons_succ, List.setIfInBounds_toArray, List.set_cons_zero, List.set_cons_succ]
      refine wpAnyH_take (i := 21) (v := .bool true) rfl (by kernel_rfl) (by kernel_rfl) (by kernel_rfl) (fun _ _ _ h => (h : False).elim) (Or.inl ⟨by rfl, ?_⟩) (HB5.out _ G18.out) ?_
      · intro w hSw
        obtain ⟨⟨⟨hs0, hs1, hs2⟩, hs3, hs4, hs5⟩, ⟨ht0, ht1, ht2⟩, ht3, ht4, ht5⟩ := hSw
        go_simp
      try simp only [Act.put, List.getElem_toArray, List.getElem_cons_zero, List.getElem_cons_succ, List.setIfInBounds_toArray, List.set_cons_zero, List.set_cons_succ]
      refine wpAnyH_take (i := 22) (v := .agg #[.int .i64 ka, .string la, kx]) rfl (by kernel_rfl) (by kernel_rfl) (by kernel_rfl) (fun _ _ _ h => (h : False).elim) (Or.inl ⟨by rfl, ?_⟩) (HB5.out _ G18.out) ?_
      · intro w hSw
        obtain ⟨⟨⟨hs0, hs1, hs2⟩, hs3, hs4, hs5⟩, ⟨ht0, ht1, ht2⟩, ht3, ht4, ht5⟩ := hSw
        go_simp
      try simp only [Act.put, List.getElem_toArray, List.getElem_cons_zero, List.getElem_cons_succ, List.setIfInBounds_toArray, List.set_cons_zero, List.set_cons_succ]
      refine wpAnyH_take (i := 24) (v := .agg #[.int .i64 ka, .string la, kva]) rfl (by kernel_rfl) (by kernel_rfl) (by kernel_rfl) (fun _ _ _ h => (h : False).elim) (Or.inl ⟨by rfl, ?_⟩) (HB5.out _ G18.out) ?_
      · intro w hSw
        obtain ⟨⟨⟨hs0, hs1, hs2⟩, hs3, hs4, hs5⟩, ⟨ht0, ht1, ht2⟩, ht3, ht4, ht5⟩ := hSw
        go_simp
      try simp only [Act.put, List.getElem_toArray, List.getElem_cons_zero, List.getElem_cons_succ, List.setIfInBounds_toArray, List.set_cons_zero, List.set_cons_succ]
      refine wpAnyH_ready (rs := [23]) (by kernel_rfl) (by simp) ?_
      refine AllReadyH.cons rfl (fun K hK => ?_) AllReadyH.nil
      go_simp
      refine (HE1.out _ G18.out).mono ?_
      rintro e y23 ⟨rfl, hq⟩
      have G23 := Lib.hid hq
      clear hq
      refine hK.out _ _ (HB5.out _ G23.out) (fun _ => ?_)
      clear hK
      try simp only [Act.put, List.getElem_toArray, List.getElem_cons_zero, List.getElem_cons_succ, List.setIfInBounds_toArray, List.set_cons_zero, List.set_cons_succ]
      refine wpAnyH_ready (rs := [25]) (by kernel_rfl) (by simp) ?_
      refine AllReadyH.cons rfl (fun K hK => ?_) AllReadyH.nil
      go_simp
      refine (HE2.out _ G23.out).mono ?_
      rintro e y25 ⟨rfl, hq⟩
      have G25 := Lib.hid hq
      clear hq
      refine hK.out _ _ (HB5.out _ G25.out) (fun _ => ?_)
      clear hK
      try simp only [Act.put, List.getElem_toArray, List.getElem_cons_zero, List.getElem_cons_succ, List.setIfInBounds_toArray, List.set_cons_zero, List.set_cons_succ]
      refine wpAnyH_take (i := 26) (v := .bool true) rfl (by kernel_rfl) (by kernel_rfl) (by kernel_rfl) (fun _ _ _ h => (h : False).elim) (Or.inl ⟨by rfl, ?_⟩) (HB5.out _ G25.out) ?_
      · intro w hSw
        obtain ⟨⟨⟨hs0, hs1, hs2⟩, hs3, hs4, hs5⟩, ⟨ht0, ht1, ht2⟩, ht3, ht4, ht5⟩ := hSw
        (go_simp; try simp)
      try simp only [Act.put, List.getElem_toArray, List.getElem_cons_zero, List.getElem_cons_succ, List.setIfInBounds_toArray, List.set_cons_zero, List.set_cons_succ]
      refine wpAnyH_take (i := 27) (v := .bool true) rfl (by kernel_rfl) (by kernel_rfl) (by kernel_rfl) (fun _ _ _ h => (h : False).elim) (Or.inl ⟨by rfl, ?_⟩) (HB5.out _ G25.out) ?_
      · intro w hSw
        obtain ⟨⟨⟨hs0, hs1, hs2⟩, hs3, hs4, hs5⟩, ⟨ht0, ht1, ht2⟩, ht3, ht4, ht5⟩ := hSw
        go_simp
      try simp only [Act.put, List.getElem_toArray, List.getElem_cons_zero, List.getElem_cons_succ, List.setIfInBounds_toArray, List.set_cons_zero, List.set_cons_succ]
      refine wpAnyH_take (i := 28) (v := .bool true) rfl (by kernel_rfl) (by kernel_rfl) (by kernel_rfl) (fun _ _ _ h => (h : False).elim) (Or.inl ⟨by rfl, ?_⟩) (HB5.out _ G25.out) ?_
      · intro w hSw
        obtain ⟨⟨⟨hs0, hs1, hs2⟩, hs3, hs4, hs5⟩, ⟨ht0, ht1, ht2⟩, ht3, ht4, ht5⟩ := hSw
        go_simp
      try simp only [Act.put, List.getElem_toArray, List.getElem_cons_zero, List.getElem_cons_succ, List.setIfInBounds_toArray, List.set_cons_zero, List.set_cons_succ]
      refine wpAnyH_take (i := 29) (v := .agg #[.int .i64 ka, .string la, kx]) rfl (by kernel_rfl) (by kernel_rfl) (by kernel_rfl) (fun _ _ _ h => (h : False).elim) (Or.inl ⟨by rfl, ?_⟩) (HB5.out _ G25.out) ?_
      · intro w hSw
        obtain ⟨⟨⟨hs0, hs1, hs2⟩, hs3, hs4, hs5⟩, ⟨ht0, ht1, ht2⟩, ht3, ht4, ht5⟩ := hSw
        go_simp
      try simp only [Act.put, List.getElem_toArray, List.getElem_cons_zero, List.getElem_cons_succ, List.setIfInBounds_toArray, List.set_cons_zero, List.set_cons_succ]
      refine wpAnyH_take (i := 30) (v := .slice (some ⟨g, 0, none⟩) n c) rfl (by kernel_rfl) (by kernel_rfl) (by kernel_rfl) (fun _ _ _ h => (h : False).elim) (Or.inl ⟨by rfl, ?_⟩) (HB5.out _ G25.out) ?_
      · intro w hSw
        obtain ⟨⟨⟨hs0, hs1, hs2⟩, hs3, hs4, hs5⟩, ⟨ht0, ht1, ht2⟩, ht3, ht4, ht5⟩ := hSw
        go_simp
      try simp only [Act.put, List.getElem_toArray, List.getElem_cons_zero, List.getElem_cons_succ, List.setIfInBounds_toArray, List.set_cons_zero, List.set_cons_succ]
      refine wpAnyH_take (i := 32) (v := .agg #[.int .i64 ka, .string la, kva]) rfl (by kernel_rfl) (by kernel_rfl) (by kernel_rfl) (fun _ _ _ h => (h : False).elim) (Or.inl ⟨by rfl, ?_⟩) (HB5.out _ G25.out) ?_
      · intro w hSw
        obtain ⟨⟨⟨hs0, hs1, hs2⟩, hs3, hs4, hs5⟩, ⟨ht0, ht1, ht2⟩, ht3, ht4, ht5⟩ := hSw
        go_simp
      try simp only [Act.put, List.getElem_toArray, List.getElem_cons_zero, List.getElem_cons_succ, List.setIfInBounds_toArray, List.set_cons_zero, List.set_cons_succ]
      refine wpAnyH_take (i := 33) (v := .slice A2 n c2) rfl (by kernel_rfl) (by kernel_rfl) (by kernel_rfl) (fun _ _ _ h => (h : False).elim) (Or.inl ⟨by rfl, ?_⟩) (HB5.out _ G25.out) ?_
      · intro w hSw
        obtain ⟨⟨⟨hs0, hs1, hs2⟩, hs3, hs4, hs5⟩, ⟨ht0, ht1, ht2⟩, ht3, ht4, ht5⟩ := hSw
        go_simp
      try simp only [Act.put, List.getElem_toArray, List.getElem_cons_zero, List.getElem_cons_succ, List.setIfInBounds_toArray, List.set_cons_zero, List.set_cons_succ]
      refine wpAnyH_ready (rs := [31]) (by kernel_rfl) (by simp) ?_
      refine AllReadyH.cons rfl (fun K hK => ?_) AllReadyH.nil
      go_simp
      refine (HT1.out _ G25.out).mono ?_
      rintro e y31 ⟨rfl, hq⟩
      have G31 := Lib.hid hq
      clear hq
      refine hK.out _ _ (HB5.out _ G31.out) (fun _ => ?_)
      clear hK
      try simp only [Act.put, List.getElem_toArray, List.getElem_cons_zero, List.getElem_cons_succ, List.setIfInBounds_toArray, List.set_cons_zero, List.set_cons_succ]
      refine wpAnyH_ready (rs := [34]) (by kernel_rfl) (by simp) ?_
      refine AllReadyH.cons rfl (fun K hK => ?_) AllReadyH.nil
      go_simp
      refine (HT2.out _ G31.out).mono ?_
      rintro e y34 ⟨rfl, hq⟩
      have G34 := Lib.hid hq
      clear hq
      refine hK.out _ _ (HB5.out _ G34.out) (fun _ => ?_)
      clear hK
      try simp only [Act.put, List.getElem_toArray, List.getElem_cons_zero, List.getElem_cons_succ, List.setIfInBounds_toArray, List.set_cons_zero, List.set_cons_succ]
      refine wpAnyH_take (i := 35) (v := .bool true) rfl (by kernel_rfl) (by kernel_rfl) (by kernel_rfl) (fun _ _ _ h => (h : False).elim) (Or.inl ⟨by rfl, ?_⟩) (HB5.out _ G34.out) ?_
      · intro w hSw
        obtain ⟨⟨⟨hs0, hs1, hs2⟩, hs3, hs4, hs5⟩, ⟨ht0, ht1, ht2⟩, ht3, ht4, ht5⟩ := hSw
        (go_simp; try simp)
      try simp only [Act.put, List.getElem_toArray, List.getElem_cons_zero, List.getElem_cons_succ, List.setIfInBounds_toArray, List.set_cons_zero, List.set_cons_succ]
      refine wpAnyH_take (i := 36) (v := .bool true) rfl (by kernel_rfl) (by kernel_rfl) (by kernel_rfl) (fun _ _ _ h => (h : False).elim) (Or.inl ⟨by rfl, ?_⟩) (HB5.out _ G34.out) ?_
      · intro w hSw
        obtain ⟨⟨⟨hs0, hs1, hs2⟩, hs3, hs4, hs5⟩, ⟨ht0, ht1, ht2⟩, ht3, ht4, ht5⟩ := hSw
        go_simp
      try simp only [Act.put, List.getElem_toArray, List.getElem_cons_zero, List.getElem_cons_succ, List.setIfInBounds_toArray, List.set_cons_zero, List.set_cons_succ]
      refine wpAnyH_take (i := 37) (v := .bool true) rfl (by kernel_rfl) (by kernel_rfl) (by kernel_rfl) (fun _ _ _ h => (h : False).elim) (Or.inl ⟨by rfl, ?_⟩) (HB5.out _ G34.out) ?_
      · intro w hSw
        obtain ⟨⟨⟨hs0, hs1, hs2⟩, hs3, hs4, hs5⟩, ⟨ht0, ht1, ht2⟩, ht3, ht4, ht5⟩ := hSw
        go_simp
      try simp only [Act.put, List.getElem_toArray, List.getElem_cons_zero, List.getElem_cons_succ, List.setIfInBounds_toArray, List.set_cons_zero, List.set_cons_succ]
      refine wpAnyH_take (i := 38) (v := .slice A1 m c1) rfl (by kernel_rfl) (by kernel_rfl) (by kernel_rfl) (fun _ _ _ h => (h : False).elim) (Or.inl ⟨by rfl, ?_⟩) (HB5.out _ G34.out) ?_
      · intro w hSw
        obtain ⟨⟨⟨hs0, hs1, hs2⟩, hs3, hs4, hs5⟩, ⟨ht0, ht1, ht2⟩, ht3, ht4, ht5⟩ := hSw
        go_simp
      try simp only [Act.put, List.getElem_toArray, List.getElem_cons_zero, List.getElem_cons_succ, List.setIfInBounds_toArray, List.set_cons_zero, List.set_cons_succ]
      refine wpAnyH_take (i := 39) (v := .agg #[.int .i64 ka, .string la, kva]) rfl (by kernel_rfl) (by kernel_rfl) (by kernel_rfl) (fun _ _ _ h => (h : False).elim) (Or.inl ⟨by rfl, ?_⟩) (HB5.out _ G34.out) ?_
      · intro w hSw
        obtain ⟨⟨⟨hs0, hs1, hs2⟩, hs3, hs4, hs5⟩, ⟨ht0, ht1, ht2⟩, ht3, ht4, ht5⟩ := hSw
        go_simp
      try simp only [Act.put, List.getElem_toArray, List.getElem_cons_zero, List.getElem_cons_succ, List.setIfInBounds_toArray, List.set_cons_zero, List.set_cons_succ]
      refine wpAnyH_ready (rs := [40]) (by kernel_rfl) (by simp) ?_
      refine AllReadyH.cons rfl (fun K hK => ?_) AllReadyH.nil
      go_simp
      refine (HL2.out _ G34.out).mono ?_
      rintro e y40 ⟨v6, rfl, hsr, hq⟩
      have G40 := Lib.hid (G34.out.trans (hq.mono G34.out.size))
      have HST := Lib.hid (fun W (h : Below y40.heap.size y40 W) => sameT_eq (HLS.out W (G40.out.trans (h.mono G40.out.size))) (hsr.bel h) (Nat.le_trans G40.out.size h.size) h.size hl300)
      clear hq hsr
      refine hK.out _ _ (HB5.out _ G40.out) (fun _ => ?_)
      clear hK
      try simp only [Act.put, List.getElem_toArray, List.getElem_cons_zero, List.getElem_cons_succ, List.setIfInBounds_toArray, List.set_cons_zero, List.set_cons_succ]
      refine wpAnyH_ready (rs := [41]) (by kernel_rfl) (by simp) ?_
      refine AllReadyH.cons rfl (fun K hK => ?_) AllReadyH.nil
      go_simp
      refine (HST.out _ (Below.refl _ _)).mono ?_
      rintro e y41 ⟨rfl, hq⟩
      have G41 := Lib.hid (G40.out.trans (hq.mono G40.out.size))
      clear hq HST
      refine hK.out _ _ (HB5.out _ G41.out) (fun _ => ?_)
      clear hK
      try simp only [Act.put, List.getElem_toArray, List.getElem_cons_zero, List.getElem_cons_succ, List.setIfInBounds_toArray, List.set_cons_zero, List.set_cons_succ]
      refine wpAnyH_take (i := 42) (v := .bool true) rfl (by kernel_rfl) (by kernel_rfl) (by kernel_rfl) (fun _ _ _ h => (h : False).elim) (Or.inl ⟨by rfl, ?_⟩) (HB5.out _ G41.out) ?_
      · intro w hSw
        obtain ⟨⟨⟨hs0, hs1, hs2⟩, hs3, hs4, hs5⟩, ⟨ht0, ht1, ht2⟩, ht3, ht4, ht5⟩ := hSw
        go_simp
      try simp only [Act.put, List.getElem_toArray, List.getElem_cons_zero, List.getElem_cons_succ, List.setIfInBounds_toArray, List.set_cons_zero, List.set_cons_succ]
      refine wpAnyH_take (i := 43) (v := .bool true) rfl (by kernel_rfl) (by kernel_rfl) (by kernel_rfl) (fun _ _ _ h => (h : False).elim) (Or.inl ⟨by rfl, ?_⟩) (HB5.out _ G41.out) ?_
      · intro w hSw
        obtain ⟨⟨⟨hs0, hs1, hs2⟩, hs3, hs4, hs5⟩, ⟨ht0, ht1, ht2⟩, ht3, ht4, ht5⟩ := hSw
        go_simp
      try simp only [Act.put, List.getElem_toArray, List.getElem_cons_zero, List.getElem_cons_succ, List.setIfInBounds_toArray, List.set_cons_zero, List.set_cons_succ]
      refine ⟨by kernel_rfl, ?_⟩
      refine NoPanic.normal ?_
      go_wp2_with fail
      go_meet
      exact ⟨rfl, G41.out⟩
    case rest =>
      obtain ⟨rfl, hb6⟩ := hcut
      have HB6 := Lib.hid hb6
      clear hb6 HB5 HR1 HR2 HZ1 HZ2 HS1 HS2 HE1 HE2 HT1 HT2 HL2 HLS
      have HOV := Lib.hid (show Calls Try.prog 24 #[.slice A1 m c1] wc (fun e w' => e = .returned (.tuple #[]) ∧ Below W1.heap.size wc w') by
        have ho := HLO.out.1.kept (w' := wc) (row := none) ⟨HB6.out.os, HB6.out.tape, HB6.out.output, HB6.out.size, fun i hi _ => HB6.out.block i hi⟩ (by cases hv : Value.ownBlock _ <;> simp)
        exact overT_any ho HLO.out.2.2 (Nat.le_trans HLO.out.2.1.size HB6.out.size))
      have HBD := Lib.hid (show Below W1.heap.size W1 wc from HLO.out.2.1.trans (HB6.out.mono HLO.out.2.1.size))
      go_upto_region 7 with (go_at_call 24; refine HOV.out.mono ?_; rintro e w7 ⟨rfl, h7⟩; have H7 := Lib.hid (HBD.out.trans (h7.mono (Nat.le_refl _))); clear h7)
      obtain ⟨⟨⟨d0, d1, d2⟩, d3, d4, d5⟩, ⟨d6, d7, d8⟩, d9, d10, d11⟩ := HBW.out w7 H7.out
      have hKA := fun W (h : Below W1.heap.size W1 W) => calls_base (kept25_any a hsa (fun b => b < W1.heap.size) W0.heap.size W kx _ (TX.keep _ _ _ _ _ HF.out.la (fun b hb => h.block b hb)) (fun b hb => Nat.lt_of_lt_of_le hb h.size) (HXA.out.bel (HBC.out.trans (h.mono HBC.out.size))) (Nat.le_trans HBC.out.size h.size)) h
      have hKB := fun W (h : Below W1.heap.size W1 W) => calls_base (kept25_any b hsb (fun b => b < W1.heap.size) W0.heap.size W ky _ (TX.keep _ _ _ _ _ HF.out.lb (fun b hb => h.block b hb)) (fun b hb => Nat.lt_of_lt_of_le hb h.size) (HXB.out.bel (HBC.out.trans (h.mono HBC.out.size))) (Nat.le_trans HBC.out.size h.size)) h
      rw [HKD.out.1.1, HKD.out.1.2] at hKA
      rw [HKD.out.2.1, HKD.out.2.2] at hKB
      have hKT := fun W (h : Below W1.heap.size W1 W) => calls_base (keptT_any (w := W) (B := W.heap.size) (g := g) (c := c) (l := word) (fun W' h' j hj => (World.cell?_of_block (a := ⟨g, j, none⟩) ((h.trans (h'.mono h.size)).block g HF.out.lw.1)).trans (HF.out.lw.2 j hj)) (by have := HN.out; have := HCN.out; omega) (HSR.out.1.bel ((HBC.out.trans (h.mono HBC.out.size)).mono HSR.out.2)) (Nat.le_trans HSR.out.2 (Nat.le_trans HBC.out.size h.size)) (Nat.le_refl _) (by have := HN.out; omega)) h
      rw [HN.out] at hKT
      have HKA := Lib.hid hKA
      have HKB := Lib.hid hKB
      have HKT := Lib.hid hKT
      have HAW := Lib.hid (fun W (h : Below W1.heap.size W1 W) => calls_base (awake_any W) h)
      clear hKA hKB hKT HOV HLO HBD HF HXA HXB HSR H8 HBX HXX HXY HWX HKD HLA HM
      go_wp2_with (first
        | (go_at_call 25; first
          | (refine (HKB.out _ K1.out).mono ?_; rintro e x2 ⟨rfl, hq⟩; have K2 := Lib.hid hq; obtain ⟨⟨⟨d0, d1, d2⟩, d3, d4, d5⟩, ⟨d6, d7, d8⟩, d9, d10, d11⟩ := HBW.out _ hq; clear hq)
          | (refine (HKA.out _ H7.out).mono ?_; rintro e x1 ⟨rfl, hq⟩; have K1 := Lib.hid hq; obtain ⟨⟨⟨d0, d1, d2⟩, d3, d4, d5⟩, ⟨d6, d7, d8⟩, d9, d10, d11⟩ := HBW.out _ hq; clear hq))
        | (go_at_call 26; refine (HKT.out _ K2.out).mono ?_; rintro e x3 ⟨rfl, hq⟩; have K3 := Lib.hid hq; clear hq)
        | (go_at_call 8; refine (HAW.out _ K3.out).mono ?_; rintro e x4 ⟨rfl, hq⟩; have K4 := Lib.hid hq; clear hq))
      go_ret
      exact ⟨rfl, HB0.out.trans ((HBC.out.trans (K4.out.mono HBC.out.size)).mono HB0.out.size)⟩

set_option maxRecDepth 100000 in
set_option maxHeartbeats 8000000 in
theorem does_great {N M : Nat} {w : World} {va vb wv : Value} {a b : X} {word : Wd} (ha : XV N w va a) (hb : XV N w vb b) (hN : N ≤ w.heap.size) (hla : a.lit) (hlb : b.lit) (hw : SR M w wv word) (hM : M ≤ w.heap.size) (hns : 300 < gsum [a, b] 0 ∨ 30 < word.length) :
    Calls Try.prog 3 #[va, vb, wv] w fun e w' => e = .returned (.bool true) ∧ Below w.heap.size w w' := by
  obtain ⟨kva, rfl, hra⟩ := ha
  obtain ⟨kvb, rfl, hrb⟩ := hb
  obtain ⟨A2, c2, rfl, hw2⟩ := hw
  obtain ⟨n, hn⟩ : ∃ n, word.length = n := ⟨_, rfl⟩
  generalize hka : a.kind = ka at *
  generalize hkl : a.lab = la at *
  generalize hkb : b.kind = kb at *
  generalize hkl2 : b.lab = lb at *
  obtain ⟨W0, hW0⟩ : ∃ W0, (w.alloc (.cells #[.int .i64 ka, .string la, kva] 25)).alloc (.cells #[.int .i64 kb, .string lb, kvb] 25) = W0 := ⟨_, rfl⟩
  have hz0 : W0.heap.size = w.heap.size + 2 := by rw [← hW0]; simp
  have hb0 : Below w.heap.size w W0 := by rw [← hW0]; exact ((Below.refl _ w).alloc (Nat.le_refl _) _).alloc (by simp) _
  have hc3 : W0.heap[w.heap.size]? = some (.cells #[.int .i64 ka, .string la, kva] 25) := by rw [← hW0, Below.heap_alloc _ _ _ (by simp)]; exact at_push _ _
  have hc4 : W0.heap[w.heap.size + 1]? = some (.cells #[.int .i64 kb, .string lb, kvb] 25) := by
    rw [← hW0]
    have := at_push (w.alloc (.cells #[.int .i64 ka, .string la, kva] 25)) (.cells #[.int .i64 kb, .string lb, kvb] 25)
    rwa [World.size_alloc] at this
  have hxa : XV W0.heap.size W0 (.agg #[.int .i64 ka, .string la, kva]) a := (XV.bel ⟨kva, by rw [hka, hkl], hra⟩ (hb0.mono hN)).mono (by omega)
  have hxb : XV W0.heap.size W0 (.agg #[.int .i64 kb, .string lb, kvb]) b := (XV.bel ⟨kvb, by rw [hkb, hkl2], hrb⟩ (hb0.mono hN)).mono (by omega)
  have hsr : SR M W0 (.slice A2 n c2) word := SR.bel ⟨A2, c2, by rw [hn], hw2⟩ (hb0.mono hM)
  have hMs : M ≤ W0.heap.size := by omega
  have HB0 := Lib.hid hb0
  have HZ := Lib.hid hz0
  have HBX := Lib.hid (fun W (h : Below W0.heap.size W0 W) => And.intro (box3 ((h.block _ (by omega)).trans hc3)) (box3 ((h.block _ (by omega)).trans hc4)))
  have HXA := Lib.hid hxa
  have HXB := Lib.hid hxb
  have HSR := Lib.hid (And.intro hsr hMs)
  have HLA := Lib.hid (And.intro hla hlb)
  have HN := Lib.hid hn
  obtain ⟨gr, hgr⟩ : ∃ gr : Bool, gr = decide (300 < gsum [a, b] 0 ∨ 30 < n) := ⟨_, rfl⟩
  have HGE := Lib.hid hgr
  have HGR := Lib.hid (fun (W : World) (h : Below W0.heap.size W0 W) =>
    (show Calls Try.prog 7 #[.slice A2 n c2, .slice (some ⟨W.heap.size, 0, none⟩) 2 2] (W.alloc (.cells #[.int .i64 ka, .string la, kva, .int .i64 kb, .string lb, kvb] 25)) (fun e w' => e = .returned (.bool gr) ∧ Below W0.heap.size W0 w') by
      have hb1 : Below (W.heap.size + 1) (W.alloc (.cells #[.int .i64 ka, .string la, kva, .int .i64 kb, .string lb, kvb] 25)) (W.alloc (.cells #[.int .i64 ka, .string la, kva, .int .i64 kb, .string lb, kvb] 25)) := Below.refl _ _
      obtain ⟨kv, e, hr⟩ := XV.of2 (k := 3) hxa hxb h h.size hb1
      injection e with e
      injection e with e
      injection e with _ e
      injection e with _ e
      injection e with e _
      subst e
      refine (great_any hr (Nat.le_refl _) A2 n c2).mono ?_
      rintro e w1 ⟨rfl, h1⟩
      refine ⟨by rw [hgr]; rfl, h.trans ((((Below.refl _ W).alloc (Nat.le_refl _) _).trans (h1.below.mono (by simp))).mono h.size)⟩))
  have H8 := Lib.hid (fun (W : World) (h : Below W0.heap.size W0 W) => calls_base (awake_any W) h)
  have hszs : gr = false → a.sz + b.sz ≤ 300 ∧ n ≤ 30 := fun h => by
    rw [hgr] at h
    have h1 := of_decide_eq_false h
    have h2 := gsum_eq (xs := [a, b]) (by omega)
    rw [szL_two] at h2
    exact ⟨h2, by omega⟩
  have HSZ := Lib.hid hszs
  clear hra hrb hw2 hb0 hc3 hc4 hxa hxb hsr hla hlb hN hM hz0 hMs hgr hszs
  rw [hn]
  clear hka hkl hkb hkl2 hn
  obtain ⟨⟨d0, d1, d2⟩, d3, d4, d5⟩ := HBX.out W0 (Below.refl _ _)
  have HREFL := Lib.hid (Below.refl W0.heap.size W0)
  have hgr0 : gr = true := by rw [HGE.out]; exact decide_eq_true (by rw [← HN.out]; exact hns)
  rw [hgr0] at HGR
  clear hgr0 HSZ HGE hns
  go_enter Try.func3, Try.ntmps3
  go_upto_region 1 with (fail)
  try rw [hW0]
  go_wp2_with (first
    | (go_at_call 7; refine (HGR.out _ HREFL.out).mono ?_; rintro e w1 ⟨rfl, h1⟩; have H1 := Lib.hid h1; clear h1)
    | (go_at_call 8; refine (H8.out _ H1.out).mono ?_; rintro e w2 ⟨rfl, h2⟩; have H2 := Lib.hid h2; clear h2))
  go_ret
  exact ⟨rfl, HB0.out.trans (H2.out.mono HB0.out.size)⟩

theorem does_any {N M : Nat} {w : World} {va vb wv : Value} {a b : X} {word : Wd} (ha : XV N w va a) (hb : XV N w vb b) (hN : N ≤ w.heap.size) (hla : a.lit) (hlb : b.lit) (hw : SR M w wv word) (hM : M ≤ w.heap.size) :
    Calls Try.prog 3 #[va, vb, wv] w fun e w' => e = .returned (.bool true) ∧ Below w.heap.size w w' := by
  by_cases hns : 300 < gsum [a, b] 0 ∨ 30 < word.length
  · exact does_great ha hb hN hla hlb hw hM hns
  · exact does_small ha hb hN hla hlb hw hM hns
end Go.Proofs.Ytnohnkhhkeikoaa
