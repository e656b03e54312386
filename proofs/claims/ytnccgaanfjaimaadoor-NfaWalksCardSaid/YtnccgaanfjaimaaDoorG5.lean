/- Texts T3, one behind the other. -/
import Derived.Test.YtnccgaanfjaimaaDoorG4
set_option linter.unusedSimpArgs false
set_option linter.unusedVariables false
namespace Go.Proofs.YtnccgaanfjaimaaDoor
open Go.ChangeShapes Go.WideShapes Go.ChangeAt Go.RowKit
set_option linter.unusedVariables false
set_option linter.unusedSimpArgs false

attribute [local go_sem] Oper.semAt_some

set_option maxRecDepth 100000 in
set_option maxHeartbeats 8000000 in
theorem step_alt {x : X} (hx : x.good) (hk : x.kind = 3 ∨ x.kind = 6) (ih : ∀ y ∈ x.kids, StepC y) : StepC x := by
  intro g P Q fl c s b w hl hsp hc hP
  have hp := x.sz_pos
  obtain ⟨e0, kf, rfl⟩ : ∃ e0 kf, fl = e0 :: kf := List.exists_cons_of_length_pos (by omega)
  rw [SL_cons] at hsp
  have hkl : kf.length = szL x.kids := by rw [X.sz_eq] at hl; simp at hl; omega
  have hsp : SpM w g (P ++ spX e0 x :: (SLs x.kids kf ++ Q)) := by simpa using hsp
  have hb0 : Below w.heap.size w (((w.alloc (.cells #[.string s] 9)).alloc (.cells #[.bool b] 4)).alloc (.cells #[.pointer (some ⟨g, P.length * 5, none⟩)] 110)) := (((Below.refl _ w).alloc (Nat.le_refl _) _).alloc (by simp) _).alloc (by simp; try omega) _
  obtain ⟨W0, hQ0⟩ : ∃ W0, ((w.alloc (.cells #[.string s] 9)).alloc (.cells #[.bool b] 4)).alloc (.cells #[.pointer (some ⟨g, P.length * 5, none⟩)] 110) = W0 := ⟨_, rfl⟩
  rw [hQ0] at hb0
  have hz0 : W0.heap.size = w.heap.size + 3 := by rw [← hQ0]; simp
  have x4 : Boxed W0 w.heap.size 9 (.string s) := by
    unfold Boxed
    rw [← hQ0, Below.heap_alloc _ _ _ (by simp; try omega), Below.heap_alloc _ _ _ (by simp)]; exact World.alloc_heap_new w _
  have x5 : Boxed W0 (w.heap.size + 1) 4 (.bool b) := by
    unfold Boxed
    rw [← hQ0, Below.heap_alloc _ _ _ (by simp)]
    have := World.alloc_heap_new (w.alloc (.cells #[.string s] 9)) (.cells #[.bool b] 4)
    rwa [World.size_alloc] at this
  have x7 : Boxed W0 (w.heap.size + 1 + 1) 110 (.pointer (some ⟨g, P.length * 5, none⟩)) := by
    unfold Boxed
    rw [← hQ0]
    have := World.alloc_heap_new ((w.alloc (.cells #[.string s] 9)).alloc (.cells #[.bool b] 4)) (.cells #[.pointer (some ⟨g, P.length * 5, none⟩)] 110)
    rwa [World.size_alloc, World.size_alloc] at this
  have hsp0 := hsp.bel hb0
  obtain ⟨z0, z1, z2, z3, z4⟩ := hsp0.at0
  simp only [spX] at z0 z1 z2 z3 z4
  have c4 := x4.cell
  have c5 := x5.cell
  have c7 := x7.cell
  have hfz := hsp0.frozen (P.length * 5 + 4)
  have hgl := hsp.lt
  have hn4 : g ≠ w.heap.size := by omega
  have hn5 : g ≠ w.heap.size + 1 := by omega
  have hn7 : g ≠ w.heap.size + 1 + 1 := by omega
  have i1 : (0 : Int) < (x.sz : Int) := by omega
  have hks : x.kids ≠ [] := by
    have hf := hx.fit
    unfold X.fits fitB at hf
    rcases hk with hk | hk
    · rw [if_neg (by omega), if_pos (.inr hk), Bool.and_eq_true] at hf
      have := of_decide_eq_true hf.2
      intro e
      rw [e] at this
      simp at this
    · rw [if_neg (by omega), if_neg (by omega), if_pos (by omega), Bool.and_eq_true] at hf
      have := of_decide_eq_true hf.2
      intro e
      rw [e] at this
      simp at this
  have hfl : stepF s x (e0 :: kf) b = (altS s x.kids kf b false).1 :: (altS s x.kids kf b false).2 := by
    rw [stepF_eq, if_neg (by omega), if_neg (by omega), if_pos hk]
    rfl
  rw [hfl]
  have hxs : x.sz = 1 + szL x.kids := X.sz_eq x
  have hsp1 : SpM (W0.setCell ⟨g, P.length * 5 + 4, none⟩ (.bool false)) g (P ++ spX false x :: (SLs x.kids kf ++ Q)) := by
    have := hsp0.store0 false
    rwa [spX_set] at this
  have hch1 : Ch g w (W0.setCell ⟨g, P.length * 5 + 4, none⟩ (.bool false)) := (Ch.of_below hb0).setCell _ _
  have HX := Lib.hid hxs
  have H1 := Lib.hid (And.intro hsp1 (And.intro hch1 (And.intro x4 (And.intro x5 x7))))
  obtain ⟨kk, hke, hk36⟩ : ∃ k, x.kind = k ∧ (k = 3 ∨ k = 6) := ⟨_, rfl, hk⟩
  rw [hke] at z0
  clear hsp hsp0 hb0 x4 x5 x7 hl hfl hxs hsp1 hch1 hke hk
  generalize hWA : W0.setCell ⟨g, P.length * 5 + 4, none⟩ (.bool false) = WA at *
  have HWA := Lib.hid hWA
  rcases hk36 with rfl | rfl
  · refine (callsIn_wide (n := 12)).1 ?_
    refine callsIn_of_wp_marks Tryd.func63 rfl trivial ?_ rfl
    simp only [Tryd.ntmps63, List.size_toArray, List.length_cons, List.length_nil, Nat.reduceAdd, Nat.reduceSub, Array.replicate_succ, Array.replicate_zero, List.push_toArray, List.append_toArray, List.nil_append, List.cons_append]
    refine wpIn_wide.2 ?_
    go_wp2_with (go_at_call 80; refine (kidsOf_any _ _ _ _).mono ?_; rintro e w2 ⟨rfl, hww⟩)
    try simp only [World.size_alloc] at hww
    have hb2 : Below WA.heap.size WA w2 := by rw [hww]; exact (Below.refl _ WA).alloc (Nat.le_refl _) _
    have hB2 : Boxed w2 WA.heap.size 90 (.slice (some ⟨g, P.length * 5, none⟩) (1 + szL x.kids) c) := by rw [hww, ← HX.out]; exact Boxed.new WA _ _
    have hsp2 := H1.out.1.bel hb2
    have hch2 : Ch g w w2 := H1.out.2.1.trans (Ch.of_below hb2)
    have hwA : w.heap.size + 3 ≤ WA.heap.size := by rw [← HWA.out]; simp [World.setCell, hz0]
    have hw2 : w.heap.size + 3 ≤ w2.heap.size := Nat.le_trans hwA hb2.size
    have hca : Ch g W0 w2 := by
      rw [← HWA.out] at hb2
      exact ((Ch.refl g W0).setCell _ _).trans (Ch.of_below hb2)
    have y4 := hca.boxed H1.out.2.2.1 (fun e => hn4 e.symm)
    have y5 := hca.boxed H1.out.2.2.2.1 (fun e => hn5 e.symm)
    have y7 := hca.boxed H1.out.2.2.2.2 (fun e => hn7 e.symm)
    have hseq := kids_seq 11 (by decide) hB2 (by rw [← HX.out]; exact hc) hks hkl hsp2 (by have := HX.out; omega)
    have HSEQ := Lib.hid hseq
    have HI0 := Lib.hid (And.intro y4 (And.intro y5 (And.intro y7 (And.intro hsp2 hch2))))
    have hww' := hww.symm
    try rw [hww']
    clear hb2 hB2 hsp2 hch2 hca y4 y5 y7 hseq hww hww' z0 z1 z2 z3 z4 c4 c5 c7 hfz
    refine wpIn_wide.1 (?_ : Code.wpIn Fence.wide 12 Tryd.prog _ _ _ _)
    refine wpIn_rangeFunc_X rfl (by omega) (gf := 98) (lb := #[.pointer (some ⟨WA.heap.size, 0, none⟩)]) rfl trivial (enters_of Tryd.func98 (by kernel_rfl) rfl)
      HSEQ.out KpG.trans (fun W' l' o o' hlw hl' ho _ => KpG.putObj W' l' o o' hl' ho) (Below.refl _ _) (fun _ => rfl)
      (fun pre W => (Boxed W w.heap.size 9 (.string s) ∧ Boxed W (w.heap.size + 1) 4 (.bool b) ∧ Boxed W (w.heap.size + 1 + 1) 110 (.pointer (some ⟨g, P.length * 5, none⟩))) ∧ Ch g w W ∧
        (∀ rest, x.kids = pre.map Kd.x ++ rest → SpM W g (P ++ spX (altS s (pre.map Kd.x) kf b false).1 x :: (SLs (pre.map Kd.x) (altS s (pre.map Kd.x) kf b false).2 ++ (SLs rest (kf.drop (szL (pre.map Kd.x))) ++ Q)))))
      (fun _ _ _ => False)
      (OwnQ.and (fun st X Y ⟨h1, h2, h3⟩ hr => ⟨hr.cells h1 (by decide), hr.cells h2 (by decide), hr.cells h3 (by decide)⟩) (OwnQ.and (ownQ_ch (by omega)) (fun st X Y h hr rest e => (h rest e).rel hr))) (fun c st X Y h => h.elim)
      ⟨⟨HI0.out.1, HI0.out.2.1, HI0.out.2.2.1⟩, HI0.out.2.2.2.2, fun rest e => by
        rw [List.map_nil, List.nil_append] at e
        subst e
        rw [List.map_nil, altS_nil, SLs_nil, szL_nil, List.drop_zero, List.nil_append]
        exact HI0.out.2.2.2.1⟩
      (fun k a' W' => a' = { tmps := #[.slice (some ⟨g, P.length * 5, none⟩) x.sz c, .string s, .bool b, undef, .pointer (some ⟨w.heap.size, 0, none⟩), .pointer (some ⟨w.heap.size + 1, 0, none⟩), .bool false, .pointer (some ⟨w.heap.size + 1 + 1, 0, none⟩), k.v g, undef, undef, .slice (some ⟨g, P.length * 5, none⟩) x.sz c, .pointer (some ⟨g, P.length * 5, none⟩), .pointer (some ⟨g, P.length * 5, none⟩), .pointer (some ⟨g, P.length * 5, none⟩), .pointer (some ⟨g, P.length * 5, none⟩), .int .i64 3, .bool false, .bool false, undef, undef, undef, undef, undef, undef, undef, undef, undef, undef, undef, undef, .bool false, .bool false, undef, undef, undef, undef, undef, undef, undef, undef, .bool true, .bool true, undef, .pointer (some ⟨g, P.length * 5, none⟩), .pointer (some ⟨g, P.length * 5, none⟩), .pointer (some ⟨g, P.length * 5 + 4, none⟩), .slice (some ⟨g, P.length * 5, none⟩) x.sz c, .func (.func 98) #[] #[.pointer (some ⟨WA.heap.size, 0, none⟩)], k.v g, undef, undef, undef, undef, undef, undef, undef, undef, undef, undef, undef, undef, undef, undef, undef, undef, undef, undef, undef, undef, undef, undef, undef, undef, undef, undef, undef, undef, undef, undef, undef, undef, undef, undef, undef, undef], defers := [] })
      (fun k a' st X Y h _ => h) ?assign ?body ?done (fun _ _ _ _ _ _ h _ => h.elim)
    case assign =>
      intro l1 pre k W' K hI hpx hK
      have HK := Lib.hid hK
      have HI' := Lib.hid hI
      clear hK hI
      gi_wp2
      exact HK.out _ _ (KeepsFrom.refl _ _) (KpG.refl _ _ _) HI'.out (by simp [encK])
    case body =>
      rintro l1 pre k a' W hwl hloop hpx ⟨⟨h4, h5, h7⟩, hch, hspm⟩ rfl
      obtain ⟨rest, hke, hko, hkc⟩ := kidsAt_pre hpx
      have hm := hspm _ hke
      obtain ⟨m, hmm⟩ : ∃ m, pre.map Kd.x = m := ⟨_, rfl⟩
      obtain ⟨y, hxx⟩ : ∃ y, k.x = y := ⟨_, rfl⟩
      have hpk : (pre ++ [k]).map Kd.x = m ++ [y] := by rw [List.map_append, hmm, ← hxx]; rfl
      simp only [hmm, hxx] at hm hke hko hkc
      have hyg : y.good := hx.kids y (by rw [hke]; simp)
      have hys : StepC y := ih y (by rw [hke]; simp)
      have hmg : goodL m := fun z hz => hx.kids z (by rw [hke]; simp [hz])
      have hszk : szL x.kids = szL m + (y.sz + szL rest) := by rw [hke, szL_app, szL_cons]
      have hXs := HX.out
      obtain ⟨a1, fm, hr⟩ : ∃ a1 fm, altS s m kf b false = (a1, fm) := ⟨_, _, rfl⟩
      have hfm : fm.length = szL m := by
        have h1 : altS s m kf b false = altS s m (kf.take (szL m)) b false := altS_take s m kf b false
        have := altS_len s m hmg (kf.take (szL m)) b false (by rw [List.length_take]; omega)
        rw [← h1, hr] at this
        exact this
      rw [hr] at hm
      simp only at hm
      obtain ⟨f, hf⟩ : ∃ f, (kf.drop (szL m)).take y.sz = f := ⟨_, rfl⟩
      have hfl2 : f.length = y.sz := by rw [← hf, List.length_take, List.length_drop]; omega
      have hkd : (kf.drop (szL m)).drop y.sz = kf.drop (szL (m ++ [y])) := by rw [szL_app, szL_cons, szL_nil, List.drop_drop]; simp
      rw [SLs_cons y rest _ (by rw [List.length_drop]; omega), hf, hkd] at hm
      have hsn := altS_snoc s y m kf b false
      rw [hr, hf] at hsn
      simp only at hsn
      obtain ⟨f', hf'⟩ : ∃ f', stepF s y f b = f' := ⟨_, rfl⟩
      have hfl3 : f'.length = y.sz := by rw [← hf']; exact stepF_len s y hyg f b hfl2
      have hxc := hys g (P ++ spX a1 x :: SLs m fm) (SLs rest (kf.drop (szL (m ++ [y]))) ++ Q) f k.c s b
      have hPl : (P ++ spX a1 x :: SLs m fm).length = k.o := by rw [List.length_append, List.length_cons, SLs_len hfm, hko]; omega
      rw [hf', hPl] at hxc
      rw [hf'] at hsn
      have hm' : SpM W g ((P ++ spX a1 x :: SLs m fm) ++ (SL y f ++ (SLs rest (kf.drop (szL (m ++ [y]))) ++ Q))) := by simpa using hm
      have c4 := h4.cell
      have c5 := h5.cell
      have hg4 := hm'.ne h4 (by decide)
      have hg5 := hm'.ne h5 (by decide)
      have hg7 := hm'.ne h7 (by decide)
      have hcall := hxc W hfl2 hm' (by omega) (by omega)
      have hfin : ∀ W5, SpM W5 g ((P ++ spX a1 x :: SLs m fm) ++ (SL y f' ++ (SLs rest (kf.drop (szL (m ++ [y]))) ++ Q))) → Ch g W W5 →
          (W5.cell? ⟨w.heap.size + 1 + 1, 0, none⟩ = some (.pointer (some ⟨g, P.length * 5, none⟩)) ∧ W5.cell? ⟨g, P.length * 5 + 4, none⟩ = some (.bool a1) ∧ W5.frozen? ⟨g, P.length * 5 + 4, none⟩ = false) ∧
          ∀ u, u = (a1 || hd f') → (W5.setCell ⟨g, P.length * 5 + 4, none⟩ (.bool u)).cell? ⟨w.heap.size + 1 + 1, 0, none⟩ = some (.pointer (some ⟨g, P.length * 5, none⟩)) ∧ (KeepsFrom w2.heap.size W (W5.setCell ⟨g, P.length * 5 + 4, none⟩ (.bool u)) ∧ KpG g (P ++ spX false x :: (SLs x.kids kf ++ Q)).length W (W5.setCell ⟨g, P.length * 5 + 4, none⟩ (.bool u)) ∧
            (Boxed (W5.setCell ⟨g, P.length * 5 + 4, none⟩ (.bool u)) w.heap.size 9 (.string s) ∧ Boxed (W5.setCell ⟨g, P.length * 5 + 4, none⟩ (.bool u)) (w.heap.size + 1) 4 (.bool b) ∧ Boxed (W5.setCell ⟨g, P.length * 5 + 4, none⟩ (.bool u)) (w.heap.size + 1 + 1) 110 (.pointer (some ⟨g, P.length * 5, none⟩))) ∧ Ch g w (W5.setCell ⟨g, P.length * 5 + 4, none⟩ (.bool u)) ∧
            (∀ rest, x.kids = (pre ++ [k]).map Kd.x ++ rest → SpM (W5.setCell ⟨g, P.length * 5 + 4, none⟩ (.bool u)) g (P ++ spX (altS s ((pre ++ [k]).map Kd.x) kf b false).1 x :: (SLs ((pre ++ [k]).map Kd.x) (altS s ((pre ++ [k]).map Kd.x) kf b false).2 ++ (SLs rest (kf.drop (szL ((pre ++ [k]).map Kd.x))) ++ Q))))) := by
        intro W5 hm5 hch5
        have hlist : ∀ e, (P ++ spX e x :: SLs m fm) ++ (SL y f' ++ (SLs rest (kf.drop (szL (m ++ [y]))) ++ Q)) = P ++ spX e x :: (SLs (m ++ [y]) (fm ++ f') ++ (SLs rest (kf.drop (szL (m ++ [y]))) ++ Q)) := fun e => by
          rw [SLs_app m [y] fm f' hfm, SLs_one y f' hfl3]
          simp
        rw [hlist] at hm5
        obtain ⟨-, -, -, -, y4⟩ := hm5.at0
        have b4 := hch5.boxed h4 hg4
        have b5 := hch5.boxed h5 hg5
        have b7 := hch5.boxed h7 hg7
        refine ⟨⟨b7.cell, y4, hm5.frozen _⟩, ?_⟩
        intro u hu
        have hmF := hm5.store0 u
        rw [spX_set] at hmF
        have d7 : Boxed (W5.setCell ⟨g, P.length * 5 + 4, none⟩ (.bool u)) (w.heap.size + 1 + 1) 110 (.pointer (some ⟨g, P.length * 5, none⟩)) := (Below.heap_setCell _ _ _ _ hg7).trans b7
        have hk5 : KeepsFrom w2.heap.size W (W5.setCell ⟨g, P.length * 5 + 4, none⟩ (.bool u)) := (hch5.kf hm').trans ((KeepsOthers.setCell _ _ _).from _)
        rw [hpk, hsn]
        simp only
        refine ⟨d7.cell, hk5, KpG.of_sp hk5.size hm' hmF ?_ ?_, ⟨(Below.heap_setCell _ _ _ _ hg4).trans b4, (Below.heap_setCell _ _ _ _ hg5).trans b5, d7⟩, (hch.trans hch5).setCell _ _, fun rest' e => ?_⟩
        · rw [← hlist]
          simp only [List.map_append, List.map_cons]
          rw [SL_size hfl3 hfl2]
          rfl
        · have l1 : (SLs m fm).length = szL m := SLs_len hfm
          have l2 : (SLs x.kids kf).length = szL x.kids := SLs_len hkl
          have l3 : (SL y f).length = y.sz := SL_len hfl2
          have l4 : (SLs rest (kf.drop (szL (m ++ [y])))).length = szL rest := SLs_len (by rw [List.length_drop, szL_app, szL_cons, szL_nil]; omega)
          simp only [List.length_append, List.length_cons, l1, l2, l3, l4]
          omega
        · have er : rest' = rest := by
            rw [hke] at e
            have : m ++ (y :: rest) = m ++ (y :: rest') := by rw [e]; simp
            have := List.append_cancel_left this
            injection this with _ this
            exact this.symm
          subst er
          rw [← hu]
          exact hmF
      have HFIN := Lib.hid hfin
      have HCALL := Lib.hid hcall
      clear hfin hcall hm hm' hxc hsn hspm h4 h5 h7 hch hpx hke hko hkc hf hf' hr hpk
      simp only [Kd.v, hxx]
      gi_wp2
      refine ⟨trivial, ?_⟩
      refine (CallsIn.inRound l1 (callsIn_wide.2 HCALL.out)).mono ?_
      rintro e W5 ⟨rfl, hm5, hch5⟩
      obtain ⟨⟨k7, ka, kfz⟩, hF⟩ := HFIN.out W5 hm5 hch5
      have HF := Lib.hid hF
      clear hF hm5 hch5
      generalize hd f' = rs at *
      have S5 := Lib.hid (show W5.drew.cell? ⟨w.heap.size + 1 + 1, 0, none⟩ = some (.pointer (some ⟨g, P.length * 5, none⟩)) from k7)
      rcases Bool.eq_false_or_eq_true a1 with rfl | rfl
      · gi_wp2
        refine wpIn_round_held (S := fun w' => w'.cell? ⟨w.heap.size + 1 + 1, 0, none⟩ = some (.pointer (some ⟨g, P.length * 5, none⟩))) (by kernel_rfl) (by kernel_rfl) (fun ⟨_, _, h⟩ => h) S5.out (fun _ => ?_)
        refine wpAnyH_take (i := 0) (v := .pointer (some ⟨g, P.length * 5, none⟩)) rfl (by kernel_rfl) (by kernel_rfl) (by kernel_rfl) (fun _ _ _ h => h) (Or.inl ⟨by rfl, ?_⟩) S5.out ?_
        · intro w hSw
          have hs0 := hSw
          go_simp
        try simp only [Act.put, List.getElem_toArray, List.getElem_cons_zero, List.getElem_cons_succ, List.setIfInBounds_toArray, List.set_cons_zero, List.set_cons_succ]
        refine wpAnyH_take (i := 1) (v := .pointer (some ⟨g, P.length * 5, none⟩)) rfl (by kernel_rfl) (by kernel_rfl) (by kernel_rfl) (fun _ _ _ h => h) (Or.inl ⟨by rfl, ?_⟩) S5.out ?_
        · intro w hSw
          have hs0 := hSw
          go_simp
        try simp only [Act.put, List.getElem_toArray, List.getElem_cons_zero, List.getElem_cons_succ, List.setIfInBounds_toArray, List.set_cons_zero, List.set_cons_succ]
        refine wpAnyH_take (i := 2) (v := .pointer (some ⟨g, P.length * 5, none⟩)) rfl (by kernel_rfl) (by kernel_rfl) (by kernel_rfl) (fun _ _ _ h => h) (Or.inl ⟨by rfl, ?_⟩) S5.out ?_
        · intro w hSw
          have hs0 := hSw
          go_simp
        try simp only [Act.put, List.getElem_toArray, List.getElem_cons_zero, List.getElem_cons_succ, List.setIfInBounds_toArray, List.set_cons_zero, List.set_cons_succ]
        refine wpAnyH_take (i := 3) (v := .pointer (some ⟨g, P.length * 5 + 4, none⟩)) rfl (by kernel_rfl) (by kernel_rfl) (by kernel_rfl) (fun _ _ _ h => h) (Or.inl ⟨by rfl, ?_⟩) S5.out ?_
        · intro w hSw
          have hs0 := hSw
          go_simp
        try simp only [Act.put, List.getElem_toArray, List.getElem_cons_zero, List.getElem_cons_succ, List.setIfInBounds_toArray, List.set_cons_zero, List.set_cons_succ]
        refine wpAnyH_ready (rs := [4]) (by kernel_rfl) (by simp) ?_
        refine AllReadyH.cons rfl (fun K hK => ?_) AllReadyH.nil
        go_simp
        refine hK.out _ _ S5.out (fun _ => ?_)
        try simp only [Act.put, List.getElem_toArray, List.getElem_cons_zero, List.getElem_cons_succ, List.setIfInBounds_toArray, List.set_cons_zero, List.set_cons_succ]
        refine wpAnyH_take (i := 5) (v := .bool true) rfl (by kernel_rfl) (by kernel_rfl) (by kernel_rfl) (fun _ _ _ h => h) (Or.inl ⟨by rfl, ?_⟩) S5.out ?_
        · intro w hSw
          have hs0 := hSw
          go_simp
        try simp only [Act.put, List.getElem_toArray, List.getElem_cons_zero, List.getElem_cons_succ, List.setIfInBounds_toArray, List.set_cons_zero, List.set_cons_succ]
        refine wpAnyH_take (i := 6) (v := undef) rfl (by kernel_rfl) (by kernel_rfl) (by kernel_rfl) (fun _ _ _ h => h) (Or.inr ⟨by rfl, rfl⟩) S5.out ?_
        try simp only [Act.put, List.getElem_toArray, List.getElem_cons_zero, List.getElem_cons_succ, List.setIfInBounds_toArray, List.set_cons_zero, List.set_cons_succ]
        refine wpAnyH_take (i := 7) (v := .bool true) rfl (by kernel_rfl) (by kernel_rfl) (by kernel_rfl) (fun _ _ _ h => h) (Or.inl ⟨by rfl, ?_⟩) S5.out ?_
        · intro w hSw
          have hs0 := hSw
          go_simp
        try simp only [Act.put, List.getElem_toArray, List.getElem_cons_zero, List.getElem_cons_succ, List.setIfInBounds_toArray, List.set_cons_zero, List.set_cons_succ]
        refine wpAnyH_take (i := 8) (v := .pointer (some ⟨g, P.length * 5, none⟩)) rfl (by kernel_rfl) (by kernel_rfl) (by kernel_rfl) (fun _ _ _ h => h) (Or.inl ⟨by rfl, ?_⟩) S5.out ?_
        · intro w hSw
          have hs0 := hSw
          go_simp
        try simp only [Act.put, List.getElem_toArray, List.getElem_cons_zero, List.getElem_cons_succ, List.setIfInBounds_toArray, List.set_cons_zero, List.set_cons_succ]
        refine wpAnyH_take (i := 9) (v := .pointer (some ⟨g, P.length * 5 + 4, none⟩)) rfl (by kernel_rfl) (by kernel_rfl) (by kernel_rfl) (fun _ _ _ h => h) (Or.inl ⟨by rfl, ?_⟩) S5.out ?_
        · intro w hSw
          have hs0 := hSw
          go_simp
        try simp only [Act.put, List.getElem_toArray, List.getElem_cons_zero, List.getElem_cons_succ, List.setIfInBounds_toArray, List.set_cons_zero, List.set_cons_succ]
        refine wpAnyH_ready (rs := [10]) (by kernel_rfl) (by simp) ?_
        refine AllReadyH.cons rfl (fun K hK => ?_) AllReadyH.nil
        go_simp
        refine hK.out _ _ (HF.out true rfl).1 (fun _ => ?_)
        try simp only [Act.put, List.getElem_toArray, List.getElem_cons_zero, List.getElem_cons_succ, List.setIfInBounds_toArray, List.set_cons_zero, List.set_cons_succ]
        refine ⟨by kernel_rfl, ?_⟩
        obtain ⟨r1, r2, r3, r4, r5⟩ := (HF.out true rfl).2
        exact ⟨⟨r1.size, r1.same⟩, ⟨r2.size, r2.sp⟩, r3, ⟨r4.os, r4.tape, r4.output, r4.size, r4.block⟩, r5⟩
      · gi_wp2
        refine wpIn_round_held (S := fun w' => w'.cell? ⟨w.heap.size + 1 + 1, 0, none⟩ = some (.pointer (some ⟨g, P.length * 5, none⟩))) (by kernel_rfl) (by kernel_rfl) (fun ⟨_, _, h⟩ => h) S5.out (fun _ => ?_)
        refine wpAnyH_take (i := 0) (v := .pointer (some ⟨g, P.length * 5, none⟩)) rfl (by kernel_rfl) (by kernel_rfl) (by kernel_rfl) (fun _ _ _ h => h) (Or.inl ⟨by rfl, ?_⟩) S5.out ?_
        · intro w hSw
          have hs0 := hSw
          go_simp
        try simp only [Act.put, List.getElem_toArray, List.getElem_cons_zero, List.getElem_cons_succ, List.setIfInBounds_toArray, List.set_cons_zero, List.set_cons_succ]
        refine wpAnyH_take (i := 1) (v := .pointer (some ⟨g, P.length * 5, none⟩)) rfl (by kernel_rfl) (by kernel_rfl) (by kernel_rfl) (fun _ _ _ h => h) (Or.inl ⟨by rfl, ?_⟩) S5.out ?_
        · intro w hSw
          have hs0 := hSw
          go_simp
        try simp only [Act.put, List.getElem_toArray, List.getElem_cons_zero, List.getElem_cons_succ, List.setIfInBounds_toArray, List.set_cons_zero, List.set_cons_succ]
        refine wpAnyH_take (i := 2) (v := .pointer (some ⟨g, P.length * 5, none⟩)) rfl (by kernel_rfl) (by kernel_rfl) (by kernel_rfl) (fun _ _ _ h => h) (Or.inl ⟨by rfl, ?_⟩) S5.out ?_
        · intro w hSw
          have hs0 := hSw
          go_simp
        try simp only [Act.put, List.getElem_toArray, List.getElem_cons_zero, List.getElem_cons_succ, List.setIfInBounds_toArray, List.set_cons_zero, List.set_cons_succ]
        refine wpAnyH_take (i := 3) (v := .pointer (some ⟨g, P.length * 5 + 4, none⟩)) rfl (by kernel_rfl) (by kernel_rfl) (by kernel_rfl) (fun _ _ _ h => h) (Or.inl ⟨by rfl, ?_⟩) S5.out ?_
        · intro w hSw
          have hs0 := hSw
          go_simp
        try simp only [Act.put, List.getElem_toArray, List.getElem_cons_zero, List.getElem_cons_succ, List.setIfInBounds_toArray, List.set_cons_zero, List.set_cons_succ]
        refine wpAnyH_ready (rs := [4]) (by kernel_rfl) (by simp) ?_
        refine AllReadyH.cons rfl (fun K hK => ?_) AllReadyH.nil
        go_simp
        refine hK.out _ _ S5.out (fun _ => ?_)
        try simp only [Act.put, List.getElem_toArray, List.getElem_cons_zero, List.getElem_cons_succ, List.setIfInBounds_toArray, List.set_cons_zero, List.set_cons_succ]
        refine wpAnyH_take (i := 5) (v := .bool false) rfl (by kernel_rfl) (by kernel_rfl) (by kernel_rfl) (fun _ _ _ h => h) (Or.inl ⟨by rfl, ?_⟩) S5.out ?_
        · intro w hSw
          have hs0 := hSw
          go_simp
        try simp only [Act.put, List.getElem_toArray, List.getElem_cons_zero, List.getElem_cons_succ, List.setIfInBounds_toArray, List.set_cons_zero, List.set_cons_succ]
        refine wpAnyH_take (i := 6) (v := .bool rs) rfl (by kernel_rfl) (by kernel_rfl) (by kernel_rfl) (fun _ _ _ h => h) (Or.inl ⟨by rfl, ?_⟩) S5.out ?_
        · intro w hSw
          have hs0 := hSw
          go_simp
        try simp only [Act.put, List.getElem_toArray, List.getElem_cons_zero, List.getElem_cons_succ, List.setIfInBounds_toArray, List.set_cons_zero, List.set_cons_succ]
        refine wpAnyH_take (i := 7) (v := .bool rs) rfl (by kernel_rfl) (by kernel_rfl) (by kernel_rfl) (fun _ _ _ h => h) (Or.inl ⟨by rfl, ?_⟩) S5.out ?_
        · intro w hSw
          have hs0 := hSw
          go_simp
        try simp only [Act.put, List.getElem_toArray, List.getElem_cons_zero, List.getElem_cons_succ, List.setIfInBounds_toArray, List.set_cons_zero, List.set_cons_succ]
        refine wpAnyH_take (i := 8) (v := .pointer (some ⟨g, P.length * 5, none⟩)) rfl (by kernel_rfl) (by kernel_rfl) (by kernel_rfl) (fun _ _ _ h => h) (Or.inl ⟨by rfl, ?_⟩) S5.out ?_
        · intro w hSw
          have hs0 := hSw
          go_simp
        try simp only [Act.put, List.getElem_toArray, List.getElem_cons_zero, List.getElem_cons_succ, List.setIfInBounds_toArray, List.set_cons_zero, List.set_cons_succ]
        refine wpAnyH_take (i := 9) (v := .pointer (some ⟨g, P.length * 5 + 4, none⟩)) rfl (by kernel_rfl) (by kernel_rfl) (by kernel_rfl) (fun _ _ _ h => h) (Or.inl ⟨by rfl, ?_⟩) S5.out ?_
        · intro w hSw
          have hs0 := hSw
          go_simp
        try simp only [Act.put, List.getElem_toArray, List.getElem_cons_zero, List.getElem_cons_succ, List.setIfInBounds_toArray, List.set_cons_zero, List.set_cons_succ]
        refine wpAnyH_ready (rs := [10]) (by kernel_rfl) (by simp) ?_
        refine AllReadyH.cons rfl (fun K hK => ?_) AllReadyH.nil
        go_simp
        refine hK.out _ _ (HF.out rs rfl).1 (fun _ => ?_)
        try simp only [Act.put, List.getElem_toArray, List.getElem_cons_zero, List.getElem_cons_succ, List.setIfInBounds_toArray, List.set_cons_zero, List.set_cons_succ]
        refine ⟨by kernel_rfl, ?_⟩
        obtain ⟨r1, r2, r3, r4, r5⟩ := (HF.out rs rfl).2
        exact ⟨⟨r1.size, r1.same⟩, ⟨r2.size, r2.sp⟩, r3, ⟨r4.os, r4.tape, r4.output, r4.size, r4.block⟩, r5⟩
    case done =>
      rintro D W hD ⟨⟨h4, h5, h7⟩, hch, hspm⟩ hK
      have hmp : (kidsAt x.kids (P.length + 1) (c - 1)).map Kd.x = x.kids := kidsAt_x x.kids _ _
      rw [hmp] at hspm
      have hm := hspm [] (by simp)
      rw [SLs_nil, List.nil_append] at hm
      have c7 := h7.cell
      obtain ⟨-, -, -, -, y4⟩ := hm.at0
      simp only [spX] at y4
      have HB := Lib.hid (And.intro hm (And.intro hch hK))
      clear h4 h5 h7 hch hspm hm
      go_wp2_with fail
      refine ⟨by simp, .inl ⟨_, _, rfl, run_takeDeferred hK, ?_⟩⟩
      refine ⟨.bool (altS s x.kids kf b false).1, by simp [results, Tryd.f63, go_sem], rfl, ?_, ?_⟩
      · have := HB.out.1.block (W' := W.putObj D (.deferred none)) (World.putObj_heap_other fun e => by
          subst e
          obtain ⟨cur, h, _⟩ := HB.out.1
          rw [hK] at h
          cases h)
        rw [SL_cons]
        simpa using this
      · exact HB.out.2.1.putObj (by omega)
  · refine (callsIn_wide (n := 12)).1 ?_
    refine callsIn_of_wp_marks Tryd.func63 rfl trivial ?_ rfl
    simp only [Tryd.ntmps63, List.size_toArray, List.length_cons, List.length_nil, Nat.reduceAdd, Nat.reduceSub, Array.replicate_succ, Array.replicate_zero, List.push_toArray, List.append_toArray, List.nil_append, List.cons_append]
    refine wpIn_wide.2 ?_
    go_wp2_with (go_at_call 80; refine (kidsOf_any _ _ _ _).mono ?_; rintro e w2 ⟨rfl, hww⟩)
    try simp only [World.size_alloc] at hww
    have hb2 : Below WA.heap.size WA w2 := by rw [hww]; exact (Below.refl _ WA).alloc (Nat.le_refl _) _
    have hB2 : Boxed w2 WA.heap.size 90 (.slice (some ⟨g, P.length * 5, none⟩) (1 + szL x.kids) c) := by rw [hww, ← HX.out]; exact Boxed.new WA _ _
    have hsp2 := H1.out.1.bel hb2
    have hch2 : Ch g w w2 := H1.out.2.1.trans (Ch.of_below hb2)
    have hwA : w.heap.size + 3 ≤ WA.heap.size := by rw [← HWA.out]; simp [World.setCell, hz0]
    have hw2 : w.heap.size + 3 ≤ w2.heap.size := Nat.le_trans hwA hb2.size
    have hca : Ch g W0 w2 := by
      rw [← HWA.out] at hb2
      exact ((Ch.refl g W0).setCell _ _).trans (Ch.of_below hb2)
    have y4 := hca.boxed H1.out.2.2.1 (fun e => hn4 e.symm)
    have y5 := hca.boxed H1.out.2.2.2.1 (fun e => hn5 e.symm)
    have y7 := hca.boxed H1.out.2.2.2.2 (fun e => hn7 e.symm)
    have hseq := kids_seq 11 (by decide) hB2 (by rw [← HX.out]; exact hc) hks hkl hsp2 (by have := HX.out; omega)
    have HSEQ := Lib.hid hseq
    have HI0 := Lib.hid (And.intro y4 (And.intro y5 (And.intro y7 (And.intro hsp2 hch2))))
    have hww' := hww.symm
    try rw [hww']
    clear hb2 hB2 hsp2 hch2 hca y4 y5 y7 hseq hww hww' z0 z1 z2 z3 z4 c4 c5 c7 hfz
    refine wpIn_wide.1 (?_ : Code.wpIn Fence.wide 12 Tryd.prog _ _ _ _)
    refine wpIn_rangeFunc_X rfl (by omega) (gf := 98) (lb := #[.pointer (some ⟨WA.heap.size, 0, none⟩)]) rfl trivial (enters_of Tryd.func98 (by kernel_rfl) rfl)
      HSEQ.out KpG.trans (fun W' l' o o' hlw hl' ho _ => KpG.putObj W' l' o o' hl' ho) (Below.refl _ _) (fun _ => rfl)
      (fun pre W => (Boxed W w.heap.size 9 (.string s) ∧ Boxed W (w.heap.size + 1) 4 (.bool b) ∧ Boxed W (w.heap.size + 1 + 1) 110 (.pointer (some ⟨g, P.length * 5, none⟩))) ∧ Ch g w W ∧
        (∀ rest, x.kids = pre.map Kd.x ++ rest → SpM W g (P ++ spX (altS s (pre.map Kd.x) kf b false).1 x :: (SLs (pre.map Kd.x) (altS s (pre.map Kd.x) kf b false).2 ++ (SLs rest (kf.drop (szL (pre.map Kd.x))) ++ Q)))))
      (fun _ _ _ => False)
      (OwnQ.and (fun st X Y ⟨h1, h2, h3⟩ hr => ⟨hr.cells h1 (by decide), hr.cells h2 (by decide), hr.cells h3 (by decide)⟩) (OwnQ.and (ownQ_ch (by omega)) (fun st X Y h hr rest e => (h rest e).rel hr))) (fun c st X Y h => h.elim)
      ⟨⟨HI0.out.1, HI0.out.2.1, HI0.out.2.2.1⟩, HI0.out.2.2.2.2, fun rest e => by
        rw [List.map_nil, List.nil_append] at e
        subst e
        rw [List.map_nil, altS_nil, SLs_nil, szL_nil, List.drop_zero, List.nil_append]
        exact HI0.out.2.2.2.1⟩
      (fun k a' W' => a' = { tmps := #[.slice (some ⟨g, P.length * 5, none⟩) x.sz c, .string s, .bool b, undef, .pointer (some ⟨w.heap.size, 0, none⟩), .pointer (some ⟨w.heap.size + 1, 0, none⟩), .bool false, .pointer (some ⟨w.heap.size + 1 + 1, 0, none⟩), k.v g, undef, undef, .slice (some ⟨g, P.length * 5, none⟩) x.sz c, .pointer (some ⟨g, P.length * 5, none⟩), .pointer (some ⟨g, P.length * 5, none⟩), .pointer (some ⟨g, P.length * 5, none⟩), .pointer (some ⟨g, P.length * 5, none⟩), .int .i64 6, .bool false, .bool false, undef, undef, undef, undef, undef, undef, undef, undef, undef, undef, undef, undef, .bool false, .bool false, undef, undef, undef, undef, undef, undef, undef, undef, .bool true, .bool false, .bool true, .pointer (some ⟨g, P.length * 5, none⟩), .pointer (some ⟨g, P.length * 5, none⟩), .pointer (some ⟨g, P.length * 5 + 4, none⟩), .slice (some ⟨g, P.length * 5, none⟩) x.sz c, .func (.func 98) #[] #[.pointer (some ⟨WA.heap.size, 0, none⟩)], k.v g, undef, undef, undef, undef, undef, undef, undef, undef, undef, undef, undef, undef, undef, undef, undef, undef, undef, undef, undef, undef, undef, undef, undef, undef, undef, undef, undef, undef, undef, undef, undef, undef, undef, undef, undef, undef], defers := [] })
      (fun k a' st X Y h _ => h) ?assign ?body ?done (fun _ _ _ _ _ _ h _ => h.elim)
    case assign =>
      intro l1 pre k W' K hI hpx hK
      have HK := Lib.hid hK
      have HI' := Lib.hid hI
      clear hK hI
      gi_wp2
      exact HK.out _ _ (KeepsFrom.refl _ _) (KpG.refl _ _ _) HI'.out (by simp [encK])
    case body =>
      rintro l1 pre k a' W hwl hloop hpx ⟨⟨h4, h5, h7⟩, hch, hspm⟩ rfl
      obtain ⟨rest, hke, hko, hkc⟩ := kidsAt_pre hpx
      have hm := hspm _ hke
      obtain ⟨m, hmm⟩ : ∃ m, pre.map Kd.x = m := ⟨_, rfl⟩
      obtain ⟨y, hxx⟩ : ∃ y, k.x = y := ⟨_, rfl⟩
      have hpk : (pre ++ [k]).map Kd.x = m ++ [y] := by rw [List.map_append, hmm, ← hxx]; rfl
      simp only [hmm, hxx] at hm hke hko hkc
      have hyg : y.good := hx.kids y (by rw [hke]; simp)
      have hys : StepC y := ih y (by rw [hke]; simp)
      have hmg : goodL m := fun z hz => hx.kids z (by rw [hke]; simp [hz])
      have hszk : szL x.kids = szL m + (y.sz + szL rest) := by rw [hke, szL_app, szL_cons]
      have hXs := HX.out
      obtain ⟨a1, fm, hr⟩ : ∃ a1 fm, altS s m kf b false = (a1, fm) := ⟨_, _, rfl⟩
      have hfm : fm.length = szL m := by
        have h1 : altS s m kf b false = altS s m (kf.take (szL m)) b false := altS_take s m kf b false
        have := altS_len s m hmg (kf.take (szL m)) b false (by rw [List.length_take]; omega)
        rw [← h1, hr] at this
        exact this
      rw [hr] at hm
      simp only at hm
      obtain ⟨f, hf⟩ : ∃ f, (kf.drop (szL m)).take y.sz = f := ⟨_, rfl⟩
      have hfl2 : f.length = y.sz := by rw [← hf, List.length_take, List.length_drop]; omega
      have hkd : (kf.drop (szL m)).drop y.sz = kf.drop (szL (m ++ [y])) := by rw [szL_app, szL_cons, szL_nil, List.drop_drop]; simp
      rw [SLs_cons y rest _ (by rw [List.length_drop]; omega), hf, hkd] at hm
      have hsn := altS_snoc s y m kf b false
      rw [hr, hf] at hsn
      simp only at hsn
      obtain ⟨f', hf'⟩ : ∃ f', stepF s y f b = f' := ⟨_, rfl⟩
      have hfl3 : f'.length = y.sz := by rw [← hf']; exact stepF_len s y hyg f b hfl2
      have hxc := hys g (P ++ spX a1 x :: SLs m fm) (SLs rest (kf.drop (szL (m ++ [y]))) ++ Q) f k.c s b
      have hPl : (P ++ spX a1 x :: SLs m fm).length = k.o := by rw [List.length_append, List.length_cons, SLs_len hfm, hko]; omega
      rw [hf', hPl] at hxc
      rw [hf'] at hsn
      have hm' : SpM W g ((P ++ spX a1 x :: SLs m fm) ++ (SL y f ++ (SLs rest (kf.drop (szL (m ++ [y]))) ++ Q))) := by simpa using hm
      have c4 := h4.cell
      have c5 := h5.cell
      have hg4 := hm'.ne h4 (by decide)
      have hg5 := hm'.ne h5 (by decide)
      have hg7 := hm'.ne h7 (by decide)
      have hcall := hxc W hfl2 hm' (by omega) (by omega)
      have hfin : ∀ W5, SpM W5 g ((P ++ spX a1 x :: SLs m fm) ++ (SL y f' ++ (SLs rest (kf.drop (szL (m ++ [y]))) ++ Q))) → Ch g W W5 →
          (W5.cell? ⟨w.heap.size + 1 + 1, 0, none⟩ = some (.pointer (some ⟨g, P.length * 5, none⟩)) ∧ W5.cell? ⟨g, P.length * 5 + 4, none⟩ = some (.bool a1) ∧ W5.frozen? ⟨g, P.length * 5 + 4, none⟩ = false) ∧
          ∀ u, u = (a1 || hd f') → (W5.setCell ⟨g, P.length * 5 + 4, none⟩ (.bool u)).cell? ⟨w.heap.size + 1 + 1, 0, none⟩ = some (.pointer (some ⟨g, P.length * 5, none⟩)) ∧ (KeepsFrom w2.heap.size W (W5.setCell ⟨g, P.length * 5 + 4, none⟩ (.bool u)) ∧ KpG g (P ++ spX false x :: (SLs x.kids kf ++ Q)).length W (W5.setCell ⟨g, P.length * 5 + 4, none⟩ (.bool u)) ∧
            (Boxed (W5.setCell ⟨g, P.length * 5 + 4, none⟩ (.bool u)) w.heap.size 9 (.string s) ∧ Boxed (W5.setCell ⟨g, P.length * 5 + 4, none⟩ (.bool u)) (w.heap.size + 1) 4 (.bool b) ∧ Boxed (W5.setCell ⟨g, P.length * 5 + 4, none⟩ (.bool u)) (w.heap.size + 1 + 1) 110 (.pointer (some ⟨g, P.length * 5, none⟩))) ∧ Ch g w (W5.setCell ⟨g, P.length * 5 + 4, none⟩ (.bool u)) ∧
            (∀ rest, x.kids = (pre ++ [k]).map Kd.x ++ rest → SpM (W5.setCell ⟨g, P.length * 5 + 4, none⟩ (.bool u)) g (P ++ spX (altS s ((pre ++ [k]).map Kd.x) kf b false).1 x :: (SLs ((pre ++ [k]).map Kd.x) (altS s ((pre ++ [k]).map Kd.x) kf b false).2 ++ (SLs rest (kf.drop (szL ((pre ++ [k]).map Kd.x))) ++ Q))))) := by
        intro W5 hm5 hch5
        have hlist : ∀ e, (P ++ spX e x :: SLs m fm) ++ (SL y f' ++ (SLs rest (kf.drop (szL (m ++ [y]))) ++ Q)) = P ++ spX e x :: (SLs (m ++ [y]) (fm ++ f') ++ (SLs rest (kf.drop (szL (m ++ [y]))) ++ Q)) := fun e => by
          rw [SLs_app m [y] fm f' hfm, SLs_one y f' hfl3]
          simp
        rw [hlist] at hm5
        obtain ⟨-, -, -, -, y4⟩ := hm5.at0
        have b4 := hch5.boxed h4 hg4
        have b5 := hch5.boxed h5 hg5
        have b7 := hch5.boxed h7 hg7
        refine ⟨⟨b7.cell, y4, hm5.frozen _⟩, ?_⟩
        intro u hu
        have hmF := hm5.store0 u
        rw [spX_set] at hmF
        have d7 : Boxed (W5.setCell ⟨g, P.length * 5 + 4, none⟩ (.bool u)) (w.heap.size + 1 + 1) 110 (.pointer (some ⟨g, P.length * 5, none⟩)) := (Below.heap_setCell _ _ _ _ hg7).trans b7
        have hk5 : KeepsFrom w2.heap.size W (W5.setCell ⟨g, P.length * 5 + 4, none⟩ (.bool u)) := (hch5.kf hm').trans ((KeepsOthers.setCell _ _ _).from _)
        rw [hpk, hsn]
        simp only
        refine ⟨d7.cell, hk5, KpG.of_sp hk5.size hm' hmF ?_ ?_, ⟨(Below.heap_setCell _ _ _ _ hg4).trans b4, (Below.heap_setCell _ _ _ _ hg5).trans b5, d7⟩, (hch.trans hch5).setCell _ _, fun rest' e => ?_⟩
        · rw [← hlist]
          simp only [List.map_append, List.map_cons]
          rw [SL_size hfl3 hfl2]
          rfl
        · have l1 : (SLs m fm).length = szL m := SLs_len hfm
          have l2 : (SLs x.kids kf).length = szL x.kids := SLs_len hkl
          have l3 : (SL y f).length = y.sz := SL_len hfl2
          have l4 : (SLs rest (kf.drop (szL (m ++ [y])))).length = szL rest := SLs_len (by rw [List.length_drop, szL_app, szL_cons, szL_nil]; omega)
          simp only [List.length_append, List.length_cons, l1, l2, l3, l4]
          omega
        · have er : rest' = rest := by
            rw [hke] at e
            have : m ++ (y :: rest) = m ++ (y :: rest') := by rw [e]; simp
            have := List.append_cancel_left this
            injection this with _ this
            exact this.symm
          subst er
          rw [← hu]
          exact hmF
      have HFIN := Lib.hid hfin
      have HCALL := Lib.hid hcall
      clear hfin hcall hm hm' hxc hsn hspm h4 h5 h7 hch hpx hke hko hkc hf hf' hr hpk
      simp only [Kd.v, hxx]
      gi_wp2
      refine ⟨trivial, ?_⟩
      refine (CallsIn.inRound l1 (callsIn_wide.2 HCALL.out)).mono ?_
      rintro e W5 ⟨rfl, hm5, hch5⟩
      obtain ⟨⟨k7, ka, kfz⟩, hF⟩ := HFIN.out W5 hm5 hch5
      have HF := Lib.hid hF
      clear hF hm5 hch5
      generalize hd f' = rs at *
      have S5 := Lib.hid (show W5.drew.cell? ⟨w.heap.size + 1 + 1, 0, none⟩ = some (.pointer (some ⟨g, P.length * 5, none⟩)) from k7)
      rcases Bool.eq_false_or_eq_true a1 with rfl | rfl
      · gi_wp2
        refine wpIn_round_held (S := fun w' => w'.cell? ⟨w.heap.size + 1 + 1, 0, none⟩ = some (.pointer (some ⟨g, P.length * 5, none⟩))) (by kernel_rfl) (by kernel_rfl) (fun ⟨_, _, h⟩ => h) S5.out (fun _ => ?_)
        refine wpAnyH_take (i := 0) (v := .pointer (some ⟨g, P.length * 5, none⟩)) rfl (by kernel_rfl) (by kernel_rfl) (by kernel_rfl) (fun _ _ _ h => h) (Or.inl ⟨by rfl, ?_⟩) S5.out ?_
        · intro w hSw
          have hs0 := hSw
          go_simp
        try simp only [Act.put, List.getElem_toArray, List.getElem_cons_zero, List.getElem_cons_succ, List.setIfInBounds_toArray, List.set_cons_zero, List.set_cons_succ]
        refine wpAnyH_take (i := 1) (v := .pointer (some ⟨g, P.length * 5, none⟩)) rfl (by kernel_rfl) (by kernel_rfl) (by kernel_rfl) (fun _ _ _ h => h) (Or.inl ⟨by rfl, ?_⟩) S5.out ?_
        · intro w hSw
          have hs0 := hSw
          go_simp
        try simp only [Act.put, List.getElem_toArray, List.getElem_cons_zero, List.getElem_cons_succ, List.setIfInBounds_toArray, List.set_cons_zero, List.set_cons_succ]
        refine wpAnyH_take (i := 2) (v := .pointer (some ⟨g, P.length * 5, none⟩)) rfl (by kernel_rfl) (by kernel_rfl) (by kernel_rfl) (fun _ _ _ h => h) (Or.inl ⟨by rfl, ?_⟩) S5.out ?_
        · intro w hSw
          have hs0 := hSw
          go_simp
        try simp only [Act.put, List.getElem_toArray, List.getElem_cons_zero, List.getElem_cons_succ, List.setIfInBounds_toArray, List.set_cons_zero, List.set_cons_succ]
        refine wpAnyH_take (i := 3) (v := .pointer (some ⟨g, P.length * 5 + 4, none⟩)) rfl (by kernel_rfl) (by kernel_rfl) (by kernel_rfl) (fun _ _ _ h => h) (Or.inl ⟨by rfl, ?_⟩) S5.out ?_
        · intro w hSw
          have hs0 := hSw
          go_simp
        try simp only [Act.put, List.getElem_toArray, List.getElem_cons_zero, List.getElem_cons_succ, List.setIfInBounds_toArray, List.set_cons_zero, List.set_cons_succ]
        refine wpAnyH_ready (rs := [4]) (by kernel_rfl) (by simp) ?_
        refine AllReadyH.cons rfl (fun K hK => ?_) AllReadyH.nil
        go_simp
        refine hK.out _ _ S5.out (fun _ => ?_)
        try simp only [Act.put, List.getElem_toArray, List.getElem_cons_zero, List.getElem_cons_succ, List.setIfInBounds_toArray, List.set_cons_zero, List.set_cons_succ]
        refine wpAnyH_take (i := 5) (v := .bool true) rfl (by kernel_rfl) (by kernel_rfl) (by kernel_rfl) (fun _ _ _ h => h) (Or.inl ⟨by rfl, ?_⟩) S5.out ?_
        · intro w hSw
          have hs0 := hSw
          go_simp
        try simp only [Act.put, List.getElem_toArray, List.getElem_cons_zero, List.getElem_cons_succ, List.setIfInBounds_toArray, List.set_cons_zero, List.set_cons_succ]
        refine wpAnyH_take (i := 6) (v := undef) rfl (by kernel_rfl) (by kernel_rfl) (by kernel_rfl) (fun _ _ _ h => h) (Or.inr ⟨by rfl, rfl⟩) S5.out ?_
        try simp only [Act.put, List.getElem_toArray, List.getElem_cons_zero, List.getElem_cons_succ, List.setIfInBounds_toArray, List.set_cons_zero, List.set_cons_succ]
        refine wpAnyH_take (i := 7) (v := .bool true) rfl (by kernel_rfl) (by kernel_rfl) (by kernel_rfl) (fun _ _ _ h => h) (Or.inl ⟨by rfl, ?_⟩) S5.out ?_
        · intro w hSw
          have hs0 := hSw
          go_simp
        try simp only [Act.put, List.getElem_toArray, List.getElem_cons_zero, List.getElem_cons_succ, List.setIfInBounds_toArray, List.set_cons_zero, List.set_cons_succ]
        refine wpAnyH_take (i := 8) (v := .pointer (some ⟨g, P.length * 5, none⟩)) rfl (by kernel_rfl) (by kernel_rfl) (by kernel_rfl) (fun _ _ _ h => h) (Or.inl ⟨by rfl, ?_⟩) S5.out ?_
        · intro w hSw
          have hs0 := hSw
          go_simp
        try simp only [Act.put, List.getElem_toArray, List.getElem_cons_zero, List.getElem_cons_succ, List.setIfInBounds_toArray, List.set_cons_zero, List.set_cons_succ]
        refine wpAnyH_take (i := 9) (v := .pointer (some ⟨g, P.length * 5 + 4, none⟩)) rfl (by kernel_rfl) (by kernel_rfl) (by kernel_rfl) (fun _ _ _ h => h) (Or.inl ⟨by rfl, ?_⟩) S5.out ?_
        · intro w hSw
          have hs0 := hSw
          go_simp
        try simp only [Act.put, List.getElem_toArray, List.getElem_cons_zero, List.getElem_cons_succ, List.setIfInBounds_toArray, List.set_cons_zero, List.set_cons_succ]
        refine wpAnyH_ready (rs := [10]) (by kernel_rfl) (by simp) ?_
        refine AllReadyH.cons rfl (fun K hK => ?_) AllReadyH.nil
        go_simp
        refine hK.out _ _ (HF.out true rfl).1 (fun _ => ?_)
        try simp only [Act.put, List.getElem_toArray, List.getElem_cons_zero, List.getElem_cons_succ, List.setIfInBounds_toArray, List.set_cons_zero, List.set_cons_succ]
        refine ⟨by kernel_rfl, ?_⟩
        obtain ⟨r1, r2, r3, r4, r5⟩ := (HF.out true rfl).2
        exact ⟨⟨r1.size, r1.same⟩, ⟨r2.size, r2.sp⟩, r3, ⟨r4.os, r4.tape, r4.output, r4.size, r4.block⟩, r5⟩
      · gi_wp2
        refine wpIn_round_held (S := fun w' => w'.cell? ⟨w.heap.size + 1 + 1, 0, none⟩ = some (.pointer (some ⟨g, P.length * 5, none⟩))) (by kernel_rfl) (by kernel_rfl) (fun ⟨_, _, h⟩ => h) S5.out (fun _ => ?_)
        refine wpAnyH_take (i := 0) (v := .pointer (some ⟨g, P.length * 5, none⟩)) rfl (by kernel_rfl) (by kernel_rfl) (by kernel_rfl) (fun _ _ _ h => h) (Or.inl ⟨by rfl, ?_⟩) S5.out ?_
        · intro w hSw
          have hs0 := hSw
          go_simp
        try simp only [Act.put, List.getElem_toArray, List.getElem_cons_zero, List.getElem_cons_succ, List.setIfInBounds_toArray, List.set_cons_zero, List.set_cons_succ]
        refine wpAnyH_take (i := 1) (v := .pointer (some ⟨g, P.length * 5, none⟩)) rfl (by kernel_rfl) (by kernel_rfl) (by kernel_rfl) (fun _ _ _ h => h) (Or.inl ⟨by rfl, ?_⟩) S5.out ?_
        · intro w hSw
          have hs0 := hSw
          go_simp
        try simp only [Act.put, List.getElem_toArray, List.getElem_cons_zero, List.getElem_cons_succ, List.setIfInBounds_toArray, List.set_cons_zero, List.set_cons_succ]
        refine wpAnyH_take (i := 2) (v := .pointer (some ⟨g, P.length * 5, none⟩)) rfl (by kernel_rfl) (by kernel_rfl) (by kernel_rfl) (fun _ _ _ h => h) (Or.inl ⟨by rfl, ?_⟩) S5.out ?_
        · intro w hSw
          have hs0 := hSw
          go_simp
        try simp only [Act.put, List.getElem_toArray, List.getElem_cons_zero, List.getElem_cons_succ, List.setIfInBounds_toArray, List.set_cons_zero, List.set_cons_succ]
        refine wpAnyH_take (i := 3) (v := .pointer (some ⟨g, P.length * 5 + 4, none⟩)) rfl (by kernel_rfl) (by kernel_rfl) (by kernel_rfl) (fun _ _ _ h => h) (Or.inl ⟨by rfl, ?_⟩) S5.out ?_
        · intro w hSw
          have hs0 := hSw
          go_simp
        try simp only [Act.put, List.getElem_toArray, List.getElem_cons_zero, List.getElem_cons_succ, List.setIfInBounds_toArray, List.set_cons_zero, List.set_cons_succ]
        refine wpAnyH_ready (rs := [4]) (by kernel_rfl) (by simp) ?_
        refine AllReadyH.cons rfl (fun K hK => ?_) AllReadyH.nil
        go_simp
        refine hK.out _ _ S5.out (fun _ => ?_)
        try simp only [Act.put, List.getElem_toArray, List.getElem_cons_zero, List.getElem_cons_succ, List.setIfInBounds_toArray, List.set_cons_zero, List.set_cons_succ]
        refine wpAnyH_take (i := 5) (v := .bool false) rfl (by kernel_rfl) (by kernel_rfl) (by kernel_rfl) (fun _ _ _ h => h) (Or.inl ⟨by rfl, ?_⟩) S5.out ?_
        · intro w hSw
          have hs0 := hSw
          go_simp
        try simp only [Act.put, List.getElem_toArray, List.getElem_cons_zero, List.getElem_cons_succ, List.setIfInBounds_toArray, List.set_cons_zero, List.set_cons_succ]
        refine wpAnyH_take (i := 6) (v := .bool rs) rfl (by kernel_rfl) (by kernel_rfl) (by kernel_rfl) (fun _ _ _ h => h) (Or.inl ⟨by rfl, ?_⟩) S5.out ?_
        · intro w hSw
          have hs0 := hSw
          go_simp
        try simp only [Act.put, List.getElem_toArray, List.getElem_cons_zero, List.getElem_cons_succ, List.setIfInBounds_toArray, List.set_cons_zero, List.set_cons_succ]
        refine wpAnyH_take (i := 7) (v := .bool rs) rfl (by kernel_rfl) (by kernel_rfl) (by kernel_rfl) (fun _ _ _ h => h) (Or.inl ⟨by rfl, ?_⟩) S5.out ?_
        · intro w hSw
          have hs0 := hSw
          go_simp
        try simp only [Act.put, List.getElem_toArray, List.getElem_cons_zero, List.getElem_cons_succ, List.setIfInBounds_toArray, List.set_cons_zero, List.set_cons_succ]
        refine wpAnyH_take (i := 8) (v := .pointer (some ⟨g, P.length * 5, none⟩)) rfl (by kernel_rfl) (by kernel_rfl) (by kernel_rfl) (fun _ _ _ h => h) (Or.inl ⟨by rfl, ?_⟩) S5.out ?_
        · intro w hSw
          have hs0 := hSw
          go_simp
        try simp only [Act.put, List.getElem_toArray, List.getElem_cons_zero, List.getElem_cons_succ, List.setIfInBounds_toArray, List.set_cons_zero, List.set_cons_succ]
        refine wpAnyH_take (i := 9) (v := .pointer (some ⟨g, P.length * 5 + 4, none⟩)) rfl (by kernel_rfl) (by kernel_rfl) (by kernel_rfl) (fun _ _ _ h => h) (Or.inl ⟨by rfl, ?_⟩) S5.out ?_
        · intro w hSw
          have hs0 := hSw
          go_simp
        try simp only [Act.put, List.getElem_toArray, List.getElem_cons_zero, List.getElem_cons_succ, List.setIfInBounds_toArray, List.set_cons_zero, List.set_cons_succ]
        refine wpAnyH_ready (rs := [10]) (by kernel_rfl) (by simp) ?_
        refine AllReadyH.cons rfl (fun K hK => ?_) AllReadyH.nil
        go_simp
        refine hK.out _ _ (HF.out rs rfl).1 (fun _ => ?_)
        try simp only [Act.put, List.getElem_toArray, List.getElem_cons_zero, List.getElem_cons_succ, List.setIfInBounds_toArray, List.set_cons_zero, List.set_cons_succ]
        refine ⟨by kernel_rfl, ?_⟩
        obtain ⟨r1, r2, r3, r4, r5⟩ := (HF.out rs rfl).2
        exact ⟨⟨r1.size, r1.same⟩, ⟨r2.size, r2.sp⟩, r3, ⟨r4.os, r4.tape, r4.output, r4.size, r4.block⟩, r5⟩
    case done =>
      rintro D W hD ⟨⟨h4, h5, h7⟩, hch, hspm⟩ hK
      have hmp : (kidsAt x.kids (P.length + 1) (c - 1)).map Kd.x = x.kids := kidsAt_x x.kids _ _
      rw [hmp] at hspm
      have hm := hspm [] (by simp)
      rw [SLs_nil, List.nil_append] at hm
      have c7 := h7.cell
      obtain ⟨-, -, -, -, y4⟩ := hm.at0
      simp only [spX] at y4
      have HB := Lib.hid (And.intro hm (And.intro hch hK))
      clear h4 h5 h7 hch hspm hm
      go_wp2_with fail
      refine ⟨by simp, .inl ⟨_, _, rfl, run_takeDeferred hK, ?_⟩⟩
      refine ⟨.bool (altS s x.kids kf b false).1, by simp [results, Tryd.f63, go_sem], rfl, ?_, ?_⟩
      · have := HB.out.1.block (W' := W.putObj D (.deferred none)) (World.putObj_heap_other fun e => by
          subst e
          obtain ⟨cur, h, _⟩ := HB.out.1
          rw [hK] at h
          cases h)
        rw [SL_cons]
        simpa using this
      · exact HB.out.2.1.putObj (by omega)
end Go.Proofs.YtnccgaanfjaimaaDoor
