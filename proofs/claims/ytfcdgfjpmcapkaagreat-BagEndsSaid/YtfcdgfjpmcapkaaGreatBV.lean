/- Walk: all that end are cut. -/
import Derived.Test.YtfcdgfjpmcapkaaGreatBW
namespace Go.Proofs.YtfcdgfjpmcapkaaGreat
open Go.ChangeShapes Go.WideShapes Go.ChangeAt Go.RowKit Go.Maps Go.Shelf
set_option linter.unusedVariables false

attribute [local go_sem] Oper.semAt_some

variable {w : World} {b : Nat} {O : Nat → Prop} {S : List Et} {n : Nat}

section
variable {mr mp hb : Nat} {sv : Value} {Ks Ks' : List (ByteArray × Nat)} {E : List En} {H M : List It} {S1 : List Et} {c : Int} {W W' : World} {x : It} {row : Option Nat}

theorem CutS.keeps (h : CutS w b mr mp hb O S c Ks E S1 sv W) (hh : Hb W hb sv H) (hg : W.grownBy W' row) (hr : ∀ r, row = some r → w.heap.size + 3 ≤ r ∧ ∃ o : Obj, W.heap[r]? = some o ∧ o.isCells = false) :
    Keep (fun k => row ≠ some k) W W' ∧ (∀ k, BO b mr mp hb sv Ks k → row ≠ some k) ∧ CutS w b mr mp hb O S c Ks E S1 sv W' := by
  have hk : Keep (fun k => row ≠ some k) W W' := Keep.of_grown hg fun k _ hp e => hp e.symm
  have hlow : ∀ k, k < w.heap.size + 3 → row ≠ some k := fun k hk e => by have := (hr k e).1; omega
  refine ⟨hk, fun k hkk => ?_, { h with kp := h.kp.trans hk fun i hi _ => hlow i (by omega), b0 := ?_, b1 := ?_, b2 := ?_ }⟩
  · rcases hkk with hkk | rfl | hkk
    · exact hlow k (by have := (h.ixl k hkk).1; omega)
    · exact hlow k (by have := h.hbl.1; omega)
    · intro e
      obtain ⟨_, o, ho, hc⟩ := hr k e
      rcases hh.row.2 with ⟨rfl, _⟩ | ⟨g, cap, cur, rfl, _, hg2, _⟩
      · simp [Value.ownBlock] at hkk
      · obtain rfl : g = k := by simpa [Value.ownBlock] using hkk
        rw [hg2] at ho
        cases ho
        cases hc
  · exact (hk.block _ h.b0.lt (hlow _ (by omega))).trans h.b0
  · exact (hk.block _ h.b1.lt (hlow _ (by omega))).trans h.b1
  · exact (hk.block _ h.b2.lt (hlow _ (by omega))).trans h.b2
theorem CutS.below (h : CutS w b mr mp hb O S c Ks E S1 sv W) (hb' : Below W.heap.size W W') : CutS w b mr mp hb O S c Ks E S1 sv W' :=
  { h with kp := h.kp.trans (Keep.of_below hb') fun _ _ h => h, b0 := (hb'.block _ h.b0.lt).trans h.b0, b1 := (hb'.block _ h.b1.lt).trans h.b1, b2 := (hb'.block _ h.b2.lt).trans h.b2 }
/-- an end is taken from the heap -/
theorem CutS.pop {sv' : Value} (h : CutS w b mr mp hb O S c Ks E S1 sv W) (hh : Hb W hb sv H) (hk : Keep (Off hb sv) W W') (hl : Loc W sv sv') : CutS w b mr mp hb O S c Ks E S1 sv' W' := by
  have hz := h.kp.size
  have hoff : ∀ k t v, Boxed W k t v → t ≠ 74 → t ≠ 102 → Off hb sv k := fun k t v hB h1 h2 => ⟨fun e => by
    subst e
    have := hh.blk
    rw [show W.heap[k]? = _ from hB] at this
    injection this with this
    injection this with h3 h4
    exact h2 h4, fun e => hB.not_row h1 hh.row e.symm⟩
  refine { h with svl := fun g hg => ?_, kp := ?_, b0 := (hk.block _ h.b0.lt (hoff _ _ _ h.b0 (by decide) (by decide))).trans h.b0, b1 := (hk.block _ h.b1.lt (hoff _ _ _ h.b1 (by decide) (by decide))).trans h.b1, b2 := (hk.block _ h.b2.lt (hoff _ _ _ h.b2 (by decide) (by decide))).trans h.b2 }
  · rcases hl g hg with h1 | h1
    · exact h.svl g h1
    · exact .inr (by omega)
  · refine h.kp.trans (hk.mono (q := fun k => ¬ O k ∧ k < w.heap.size) fun k _ hk => ⟨fun e => hk.1 (e ▸ h.hbl.2), fun e => ?_⟩) fun i hi hp => ⟨hp, hi⟩
    rcases h.svl k e with h1 | h1
    · exact hk.1 h1
    · omega
/-- an entry is removed -/
theorem CutS.remove {e0 : En} (h : CutS w b mr mp hb O S c Ks E S1 sv W) (hs : Sd S) (he : e0 ∈ E) (hc : e0.1.2.2 ≤ c) (hk : Keep (fun j => ¬ IxO b mr mp Ks j) W W') (hsub : ∀ p ∈ Ks', p ∈ Ks) : CutS w b mr mp hb O S c Ks' (othE (e0.1.1, e0.1.2.1, 0) E) (dropS S1 e0.1.1 e0.1.2.1) sv W' := by
  have hlow : ∀ k, w.heap.size ≤ k → ¬ IxO b mr mp Ks k := fun k hk hi => by have := (h.ixl k hi).1; omega
  refine { pm := ?_, sd := sd_drop h.sd _ _, s1 := fun x hx => h.s1 x (List.mem_filter.1 hx).1, s2 := fun x hx hcx => ?_, ixl := fun k hkk => h.ixl k ?_, hbl := h.hbl, svl := h.svl, kp := ?_, b0 := (hk.block _ h.b0.lt (hlow _ (by omega))).trans h.b0, b1 := (hk.block _ h.b1.lt (hlow _ (by omega))).trans h.b1, b2 := (hk.block _ h.b2.lt (hlow _ (by omega))).trans h.b2 }
  · rw [othE_map]
    exact h.pm.filter _
  · refine List.mem_filter.2 ⟨h.s2 x hx hcx, ?_⟩
    cases hsp : sp x (e0.1.1, e0.1.2.1, 0)
    · rfl
    · exfalso
      have h1 : e0.1 ∈ S := h.s1 _ (h.pm.mem_iff.1 (List.mem_map.2 ⟨e0, he, rfl⟩))
      have h2 : sp x e0.1 = true := by
        rw [sp_iff] at hsp ⊢
        exact hsp
      have := hs.one hx h1 h2
      rw [this] at hcx
      omega
  · rcases hkk with h1 | h1 | h1 | ⟨p, hp, h1⟩
    · exact .inl h1
    · exact .inr (.inl h1)
    · exact .inr (.inr (.inl h1))
    · exact .inr (.inr (.inr ⟨p, hsub p hp, h1⟩))
  · exact h.kp.trans (hk.mono (q := fun k => ¬ O k) fun k _ hk hi => hk (h.ixl k hi).2) fun _ _ hp => hp
/-- no more are to be cut -/
theorem CutS.done (h : CutS w b mr mp hb O S c Ks E S1 sv W) (hs : Sd S) (hB : BgI W b mr mp hb sv Ks E n H) (hd : 0 < H.length → c < (g H 0).1) : S1 = cutS S c := by
  refine h.sd.ext (sd_cut hs c) fun x => ⟨fun hx => List.mem_filter.2 ⟨h.s1 x hx, ?_⟩, fun hx => ?_⟩
  · obtain ⟨e, he, rfl⟩ := List.mem_map.1 (h.pm.mem_iff.2 hx)
    obtain ⟨j, hj, e3⟩ := g_mem' (hB.lnk e he)
    have h1 := heap_root hB.ord j hj
    have h2 := hd (by omega)
    rw [e3, le_iff] at h1
    simp only at h1
    simp
    omega
  · obtain ⟨h1, h2⟩ := List.mem_filter.1 hx
    exact h.s2 x h1 (by simpa using h2)
end

theorem endS3_next {w w1 w2 : World} {r r' i j : Nat} {u v : Value} (h : w1.cell? ⟨r, i, none⟩ = some u ∧ w1.cell? ⟨r', j, none⟩ = some v ∧ Below w.heap.size w w1) (hr : r < w.heap.size) (hr' : r' < w.heap.size) (hb : Below w1.heap.size w1 w2) : w2.cell? ⟨r, i, none⟩ = some u ∧ w2.cell? ⟨r', j, none⟩ = some v ∧ Below w.heap.size w w2 :=
  ⟨(hb.cell (p := ⟨r, i, none⟩) (by have := h.2.2.size; show r < _; omega)).trans h.1, (hb.cell (p := ⟨r', j, none⟩) (by have := h.2.2.size; show r' < _; omega)).trans h.2.1, h.2.2.trans (hb.mono h.2.2.size)⟩
theorem endS3_set {w w1 : World} {r r' i j g k : Nat} {u v : Value} (h : w1.cell? ⟨r, i, none⟩ = some u ∧ w1.cell? ⟨r', j, none⟩ = some v ∧ Below w.heap.size w w1) (hr : r < w.heap.size) (hr' : r' < w.heap.size) (hg : w.heap.size ≤ g) (z : Value) : (w1.setCell ⟨g, k, none⟩ z).cell? ⟨r, i, none⟩ = some u ∧ (w1.setCell ⟨g, k, none⟩ z).cell? ⟨r', j, none⟩ = some v ∧ Below w.heap.size w (w1.setCell ⟨g, k, none⟩ z) :=
  ⟨(World.cell?_of_block (a := ⟨r, i, none⟩) (Below.heap_setCell _ _ _ _ (by show r ≠ g; omega))).trans h.1, (World.cell?_of_block (a := ⟨r', j, none⟩) (Below.heap_setCell _ _ _ _ (by show r' ≠ g; omega))).trans h.2.1, h.2.2.setCell hg _⟩
def CutI (w : World) (b mr mp hb : Nat) (O : Nat → Prop) (S : List Et) (n : Nat) (c : Int) (m : Nat) (W : World) : Prop := ∃ sv Ks E H S1, H.length = m ∧ BgI W b mr mp hb sv Ks E n H ∧ CutS w b mr mp hb O S c Ks E S1 sv W
def CutY (w : World) (b mr mp hb : Nat) (O : Nat → Prop) (S : List Et) (n : Nat) (c : Int) (m : Nat) (x : It) (W : World) : Prop := ∃ sv Ks E H S1, H.length + 1 = m ∧ x.1 ≤ c ∧ BgY W b mr mp hb sv Ks E n H x ∧ CutS w b mr mp hb O S c Ks E S1 sv W
def CutD (w : World) (b mr mp hb : Nat) (O : Nat → Prop) (S : List Et) (n : Nat) (c : Int) (W : World) : Prop := ∃ sv Ks E H S1, BgI W b mr mp hb sv Ks E n H ∧ CutS w b mr mp hb O S c Ks E S1 sv W ∧ (0 < H.length → c < (g H 0).1)
def cfrm (z b hb : Nat) (c : Int) (q : Nat) (u v : Value) : Act := { tmps := #[.pointer (some ⟨b, 0, none⟩), .int .i64 c, .pointer (some ⟨z, 0, none⟩), undef, .int .i64 0, .int .i64 q, u, undef, undef, .pointer (some ⟨b, 0, none⟩), .bool true, .bool false, .pointer (some ⟨b, 0, none⟩), .pointer (some ⟨b, 0, none⟩), .pointer (some ⟨b, 1, none⟩), .int .i64 q, .pointer (some ⟨b, 0, none⟩), .pointer (some ⟨b, 0, none⟩), .pointer (some ⟨b, 4, none⟩), .pointer (some ⟨hb, 0, none⟩), .int .i64 c,
  .func (.func 55) #[] #[.pointer (some ⟨z + 1, 0, none⟩), .pointer (some ⟨z + 1 + 1, 0, none⟩)], v, undef, undef, undef, undef, undef, undef, undef, undef, undef, undef, undef, undef, undef, undef, undef, undef, undef, undef, undef, undef, undef, undef, undef, undef, undef, undef, undef], defers := [] }
def CutA (w : World) (b mr mp hb : Nat) (O : Nat → Prop) (S : List Et) (n : Nat) (c : Int) (q : Nat) (m : Nat) (x : It) (a' : Act) (W : World) : Prop := ∃ bx, a' = cfrm w.heap.size b hb c q (.pointer (some ⟨bx, 0, none⟩)) (.agg #[.int .i64 x.1, .int .i64 x.2]) ∧ w.heap.size + 1 + 1 < bx ∧ W.heap[bx]? = some (.cells #[.int .i64 x.1, .int .i64 x.2] 74 (0, 0)) ∧ CutY w b mr mp hb O S n c m x W
theorem boxed_off2 {W : World} {B hb : Nat} {t : TypeId} {u sv : Value} {L : List It} (h : Boxed W B t u) (h1 : t ≠ 74) (h2 : t ≠ 102) (hH : Hb W hb sv L) : Off hb sv B := ⟨fun e => by
    subst e
    have := hH.blk
    rw [show W.heap[B]? = _ from h] at this
    injection this with this
    injection this with h3 h4
    exact h2 h4, fun e => h.not_row h1 hH.row e.symm⟩

/-- all that end are cut -/
def CutR (b : Nat) (O : Nat → Prop) (S : List Et) (n : Nat) (c : Int) (w : World) (e : Ending) (w' : World) : Prop :=
  e = .returned (.int .i64 ((S.length : Int) - ((cutS S c).length : Int))) ∧ Bag w' b (grw O w w') (cutS S c) n ∧ Keep (fun k => ¬ O k) w w'

set_option maxRecDepth 100000 in
set_option maxHeartbeats 4000000 in
theorem cut_bag (h : Bag w b O S n) (hn : n ≤ 1000000) (c : Int) (hcw : (Lit.int .i64 c).wf = true) : Calls Tryz.prog 16 #[.pointer (some ⟨b, 0, none⟩), .int .i64 c] w (CutR b O S n c w) := by
  obtain ⟨mr, mp, hb, sv, Ks, E, H, h1, h2, h3, h4, h5, h6⟩ := h
  have hl : E.length = S.length := by have := h3.length_eq; simpa using this
  have H1 := Lib.hid h1
  have H3 := Lib.hid h3
  have H4 := Lib.hid h4
  have H5 := Lib.hid h5
  have H6 := Lib.hid h6
  have HL := Lib.hid hl
  clear h1 h2 h3 h4 h5 h6 hl
  refine (callsIn_wide (n := 9)).1 ?_
  refine callsIn_of_wp_marks Tryz.func16 rfl trivial ?_ rfl
  simp only [Tryz.ntmps16, List.size_toArray, List.length_cons, List.length_nil, Nat.reduceAdd, Nat.reduceSub, Array.replicate_succ, Array.replicate_zero, List.push_toArray, List.append_toArray, List.nil_append, List.cons_append]
  refine wpIn_wide.2 ?_
  obtain ⟨c0, c1, c2, c3, c4, f3, f4⟩ := H1.out.ix.cells
  have hlb := H1.out.ix.lt (.inl rfl)
  go_wp2_with fail
  go_step3
  go_wp2_with (first
    | (go_at_call 31; refine (made_bag (H1.out.ix.below ((Below.refl _ _).alloc (Nat.le_refl _) _))).mono ?_; rintro e w1 ⟨rfl, hww⟩; rw [hww]; clear hww)
    | (go_at_call 38; refine (size_bag (H1.out.ix.below ((Below.refl _ _).alloc (Nat.le_refl _) _))).mono ?_; rintro e w1 ⟨rfl, hww⟩; rw [hww]; clear hww))
  go_step3
  go_wp2_with (go_at_call 39; refine (upto_any hb c _).mono ?_; rintro e w1 ⟨rfl, hw1⟩)
  have hcs : CutS w b mr mp hb O S c Ks E S sv w1 := by
    rw [hw1]
    refine ⟨H3.out, H4.out, fun x hx => hx, fun x hx _ => hx, fun k hk => ⟨H1.out.ix.lt hk, H5.out k (.inl hk)⟩, ⟨H1.out.hp.ltb, H5.out hb (.inr (.inl rfl))⟩, fun g hg => .inl (H5.out g (.inr (.inr hg))), Keep.of_below ((((Below.refl _ w).alloc (Nat.le_refl _) _).alloc (by simp) _).alloc (by simp; omega) _), ?_, ?_, ?_⟩
    · exact ((Boxed.new w _ _).alloc _).alloc _
    · have := (Boxed.new (w.alloc (.cells #[.pointer (some ⟨b, 0, none⟩)] 25)) 63 (.pointer (some ⟨hb, 0, none⟩))).alloc (.cells #[.int .i64 c] 3)
      rw [World.size_alloc] at this
      exact this
    · have := Boxed.new ((w.alloc (.cells #[.pointer (some ⟨b, 0, none⟩)] 25)).alloc (.cells #[.pointer (some ⟨hb, 0, none⟩)] 63)) 3 (.int .i64 c)
      rw [World.size_alloc, World.size_alloc] at this
      exact this
  have hbw : Below w.heap.size w w1 := by rw [hw1]; exact (((Below.refl _ w).alloc (Nat.le_refl _) _).alloc (by simp) _).alloc (by simp; omega) _
  have hz : w1.heap.size = w.heap.size + 3 := by rw [hw1]; simp
  have HCS := Lib.hid hcs
  have HB1 := Lib.hid (H1.out.below hbw)
  have HZ := Lib.hid hz
  have HBW := Lib.hid hbw
  have hw1' := hw1
  clear hcs hbw hz hw1
  rw [← hw1']
  clear hw1' c0 c1 c2 c3 c4 f3 f4 hlb
  refine wpIn_wide.1 (?_ : Code.wpIn Fence.wide 9 Tryz.prog _ _ _ _)
  refine wpIn_rangeFunc_dir rfl (by decide) (gf := 55) (lb := #[.pointer (some ⟨w.heap.size + 1, 0, none⟩), .pointer (some ⟨w.heap.size + 1 + 1, 0, none⟩)]) rfl trivial (enters_of Tryz.func55 (by kernel_rfl) rfl)
    (encs := fun x : It => #[.agg #[.int .i64 x.1, .int .i64 x.2]])
    (CutI w b mr mp hb O S n c) (CutY w b mr mp hb O S n c) (CutD w b mr mp hb O S n c) (fun _ _ => False) (CutA w b mr mp hb O S n c E.length)
    (up_seq _ hb _ _ c _ _ _ ?hI) (fun _ => rfl) ?aI ?aX ?aD ?aA H.length ?h0 ?assign ?body ?done ?stop
  case hI =>
    rintro m W ⟨sv1, Ks1, E1, H1, S1, hm, hB, hC⟩
    refine ⟨sv1, H1, hC.b1.cell, hC.b2.cell, hB.hp, boxed_off2 hC.b2 (by decide) (by decide) hB.hp, hB.ord, by have := hB.hlen; omega, ?_, ?_⟩
    · intro hx W' hb'
      exact ⟨sv1, Ks1, E1, H1, S1, hB.below hb', hC.below hb', hx⟩
    · rintro h0 hk W' ⟨sv2, M, h1, h2, h3, h4, h5⟩
      exact ⟨sv2, Ks1, E1, M, S1, by rw [h2.length_eq, cut_len]; omega, hk, hB.taken h0 h1 h2 h3 h5, hC.pop hB.hp h5 h4⟩
  case aI =>
    rintro m _ W W' row ⟨sv1, Ks1, E1, H1, S1, hm, hB, hC⟩ hg hr
    obtain ⟨h1, h2, h3⟩ := hC.keeps hB.hp hg fun r e => by rw [← HZ.out]; exact hr r e
    exact ⟨sv1, Ks1, E1, H1, S1, hm, hB.keep h1 h2, h3⟩
  case aX => exact fun _ _ _ _ _ h _ _ => h
  case aD =>
    rintro _ W W' row ⟨sv1, Ks1, E1, H1, S1, hB, hC, hd⟩ hg hr
    obtain ⟨h1, h2, h3⟩ := hC.keeps hB.hp hg fun r e => by rw [← HZ.out]; exact hr r e
    exact ⟨sv1, Ks1, E1, H1, S1, hB.keep h1 h2, h3, hd⟩
  case aA =>
    rintro m x a' _ W W' row ⟨bx, ha, hbx, hc, sv1, Ks1, E1, H1, S1, hm, hx, hB, hC⟩ hg hr
    obtain ⟨h1, h2, h3⟩ := hC.keeps hB.hp hg fun r e => by rw [← HZ.out]; exact hr r e
    refine ⟨bx, ha, hbx, (hg.block bx (Array.getElem?_eq_some_iff.1 hc).1 ?_).trans hc, sv1, Ks1, E1, H1, S1, hm, hx, hB.keep h1 h2, h3⟩
    intro e
    obtain ⟨_, o, ho, hco⟩ := hr bx e.symm
    rw [hc] at ho
    cases ho
    cases hco
  case h0 => exact ⟨sv, Ks, E, H, S, rfl, HB1.out, HCS.out⟩
  case assign =>
    rintro l m x W K hY hK
    have HK := Lib.hid hK
    have HY := Lib.hid hY
    clear hK hY
    gi_wp2
    have hbw : Below W.heap.size W (W.alloc (.cells #[.int .i64 x.1, .int .i64 x.2] 74)) := (Below.refl _ W).alloc (Nat.le_refl _) _
    obtain ⟨sv1, Ks1, E1, H1, S1, hm, hx, hB, hC⟩ := HY.out
    refine HK.out _ _ ((below_others hbw).from _) ⟨W.heap.size, rfl, hC.b2.lt, heap_alloc_new W _, sv1, Ks1, E1, H1, S1, hm, hx, hB.below hbw, hC.below hbw⟩
  case body =>
    rintro l m x a' W hwl ⟨bx, rfl, hbx, hxc, sv1, Ks1, E1, H1, S1, hm, hx, hB, hC⟩
    have HY := Lib.hid hB
    have HC := Lib.hid hC
    obtain ⟨x0, x1, -, -⟩ := res_cells hxc
    have hc := hC.b0.cell
    have hwl0 := hC.b0.lt
    have hbxl : bx < W.heap.size := (Array.getElem?_eq_some_iff.1 hxc).1
    have hxw : (Lit.int .i64 x.2).wf = true := WalkArith.wf_i64 (by have := hB.xbk; omega)
    obtain ⟨cc, hcc⟩ : ∃ c, (atN E1 x.2).isSome = c := ⟨_, rfl⟩
    obtain ⟨s, v, hsv⟩ : ∃ s v, atV (atN E1 x.2) = .agg #[.string s, .int .i64 v] := by cases atN E1 x.2 <;> exact ⟨_, _, rfl⟩
    have HCC := Lib.hid hcc
    have HSV := Lib.hid hsv
    have hat : ∀ W', Below W.heap.size W W' → CallsIn (Fence.wide.inRound l) 6 Tryz.prog 40 #[.pointer (some ⟨b, 1, none⟩), .int .i64 x.2] W' fun e w' => e = .returned (.tuple #[.agg #[.string s, .int .i64 v], .bool cc]) ∧ Below W'.heap.size W' w' := fun W' hW => by
      have := at_bag (hB.ix.below hW) x.2 hxw
      rw [hcc, hsv] at this
      exact CallsIn.inRound l (callsIn_wide.2 this)
    have hatc : ∀ W', Below W.heap.size W W' → Calls Tryz.prog 40 #[.pointer (some ⟨b, 1, none⟩), .int .i64 x.2] W' fun e w' => e = .returned (.tuple #[.agg #[.string s, .int .i64 v], .bool cc]) ∧ Below W'.heap.size W' w' := fun W' hW => by
      have := at_bag (hB.ix.below hW) x.2 hxw
      rw [hcc, hsv] at this
      exact this
    have HATC := Lib.hid hatc
    have HAT := Lib.hid hat
    clear hB hC hxc hcc hsv hat
    unfold cfrm
    gi_wp2
    gi_cut [7, 8] from 23 (fun t7 t8 wc => ∃ A7, t7 = .pointer (some ⟨A7, 0, none⟩) ∧ t8 = .bool cc ∧ wc.heap[A7]? = some (.cells #[.string s, .int .i64 v] 80 (0, 0)) ∧ Below W.heap.size W wc ∧ w.heap.size ≤ A7)
    case first =>
      have S0 := Lib.hid (show W.drew.cell? ⟨w.heap.size, 0, none⟩ = some (.pointer (some ⟨b, 0, none⟩)) ∧ W.drew.cell? ⟨bx, 1, none⟩ = some (.int .i64 x.2) ∧ Below W.heap.size W W.drew from ⟨hc, x1, (Below.refl _ _).drew⟩)
      refine wpIn_round_held (S := fun w' => w'.cell? ⟨w.heap.size, 0, none⟩ = some (.pointer (some ⟨b, 0, none⟩)) ∧ w'.cell? ⟨bx, 1, none⟩ = some (.int .i64 x.2) ∧ Below W.heap.size W w') (by kernel_rfl) (by kernel_rfl) (fun ⟨_, _, h⟩ => h) S0.out (fun _ => ?_)
      refine wpAnyH_take (i := 0) (v := .pointer (some ⟨b, 0, none⟩)) rfl (by kernel_rfl) (by kernel_rfl) (by kernel_rfl) (fun _ _ _ h => h) (Or.inl ⟨by rfl, ?_⟩) S0.out ?_
      · intro w hSw
        obtain ⟨hs0, hs1, hs2⟩ := hSw
        go_simp
      try simp only [Act.put, List.setIfInBounds_toArray, List.set_cons_zero, List.set_cons_succ]
      refine wpAnyH_take (i := 1) (v := .pointer (some ⟨b, 0, none⟩)) rfl (by kernel_rfl) (by kernel_rfl) (by kernel_rfl) (fun _ _ _ h => h) (Or.inl ⟨by rfl, ?_⟩) S0.out ?_
      · intro w hSw
        obtain ⟨hs0, hs1, hs2⟩ := hSw
        go_simp
      try simp only [Act.put, List.setIfInBounds_toArray, List.set_cons_zero, List.set_cons_succ]
      refine wpAnyH_take (i := 2) (v := .pointer (some ⟨b, 1, none⟩)) rfl (by kernel_rfl) (by kernel_rfl) (by kernel_rfl) (fun _ _ _ h => h) (Or.inl ⟨by rfl, ?_⟩) S0.out ?_
      · intro w hSw
        obtain ⟨hs0, hs1, hs2⟩ := hSw
        go_simp
      try simp only [Act.put, List.setIfInBounds_toArray, List.set_cons_zero, List.set_cons_succ]
      refine wpAnyH_take (i := 3) (v := .pointer (some ⟨bx, 1, none⟩)) rfl (by kernel_rfl) (by kernel_rfl) (by kernel_rfl) (fun _ _ _ h => h) (Or.inl ⟨by rfl, ?_⟩) S0.out ?_
      · intro w hSw
        obtain ⟨hs0, hs1, hs2⟩ := hSw
        go_simp
      try simp only [Act.put, List.setIfInBounds_toArray, List.set_cons_zero, List.set_cons_succ]
      refine wpAnyH_take (i := 4) (v := .int .i64 x.2) rfl (by kernel_rfl) (by kernel_rfl) (by kernel_rfl) (fun _ _ _ h => h) (Or.inl ⟨by rfl, ?_⟩) S0.out ?_
      · intro w hSw
        obtain ⟨hs0, hs1, hs2⟩ := hSw
        go_simp
      try simp only [Act.put, List.setIfInBounds_toArray, List.set_cons_zero, List.set_cons_succ]
      refine wpAnyH_ready (rs := [5, 9]) (by kernel_rfl) (by simp) ?_
      refine AllReadyH.cons rfl (fun K hK => ?_) (AllReadyH.cons rfl (fun K hK => ?_) AllReadyH.nil)
      · go_simp
        refine (HATC.out _ (Below.refl _ _).drew).mono ?_
        rintro e w3 ⟨rfl, hb3⟩
        have S3 := Lib.hid (endS3_next S0.out hwl0 hbxl hb3)
        have S4 := Lib.hid (endS3_next S3.out hwl0 hbxl ((Below.refl w3.heap.size w3).alloc (Nat.le_refl _) (.cells #[.string ⟨#[]⟩, .int .i64 0] 80)))
        have S5 := Lib.hid (endS3_next S3.out hwl0 hbxl ((Below.refl w3.heap.size w3).alloc (Nat.le_refl _) (.cells #[.string s, .int .i64 v] 80)))
        clear hb3
        refine hK.out _ _ S3.out (fun _ => ?_)
        try simp only [Act.put, List.setIfInBounds_toArray, List.set_cons_zero, List.set_cons_succ]
        refine wpAnyH_take (i := 6) (v := .tuple #[.agg #[.string s, .int .i64 v], .bool cc]) rfl (by kernel_rfl) (by kernel_rfl) (by kernel_rfl) (fun _ _ _ h => h) (Or.inl ⟨by rfl, ?_⟩) S3.out ?_
        · intro w hSw
          obtain ⟨hs0, hs1, hs2⟩ := hSw
          go_simp
        try simp only [Act.put, List.setIfInBounds_toArray, List.set_cons_zero, List.set_cons_succ]
        refine wpAnyH_take (i := 7) (v := .agg #[.string s, .int .i64 v]) rfl (by kernel_rfl) (by kernel_rfl) (by kernel_rfl) (fun _ _ _ h => h) (Or.inl ⟨by rfl, ?_⟩) S3.out ?_
        · intro w hSw
          obtain ⟨hs0, hs1, hs2⟩ := hSw
          go_simp
        try simp only [Act.put, List.setIfInBounds_toArray, List.set_cons_zero, List.set_cons_succ]
        refine wpAnyH_take (i := 8) (v := .bool cc) rfl (by kernel_rfl) (by kernel_rfl) (by kernel_rfl) (fun _ _ _ h => h) (Or.inl ⟨by rfl, ?_⟩) S3.out ?_
        · intro w hSw
          obtain ⟨hs0, hs1, hs2⟩ := hSw
          go_simp
        try simp only [Act.put, List.setIfInBounds_toArray, List.set_cons_zero, List.set_cons_succ]
        refine wpAnyH_ready (rs := [9]) (by kernel_rfl) (by simp) ?_
        refine AllReadyH.cons rfl (fun K hK => ?_) AllReadyH.nil
        go_simp
        refine hK.out _ _ S4.out (fun _ => ?_)
        try simp only [Act.put, List.setIfInBounds_toArray, List.set_cons_zero, List.set_cons_succ]
        refine wpAnyH_ready (rs := [10]) (by kernel_rfl) (by simp) ?_
        refine AllReadyH.cons rfl (fun K hK => ?_) AllReadyH.nil
        go_simp
        refine hK.out _ _ S5.out (fun _ => ?_)
        try simp only [Act.put, List.setIfInBounds_toArray, List.set_cons_zero, List.set_cons_succ]
        refine wpAnyH_take (i := 11) (v := .bool cc) rfl (by kernel_rfl) (by kernel_rfl) (by kernel_rfl) (fun _ _ _ h => h) (Or.inl ⟨by rfl, ?_⟩) S5.out ?_
        · intro w hSw
          obtain ⟨hs0, hs1, hs2⟩ := hSw
          go_simp
        try simp only [Act.put, List.setIfInBounds_toArray, List.set_cons_zero, List.set_cons_succ]
        refine ⟨by kernel_rfl, ?_⟩
        simp only [List.getElem_toArray, List.getElem_cons_succ, List.getElem_cons_zero, Act.put, List.setIfInBounds_toArray, List.set_cons_zero, List.set_cons_succ]
        gi_wp2
        gi_meet
        exact ⟨_, rfl, rfl, heap_alloc_new _ _, S5.out.2.2, Nat.le_trans (Nat.le_of_lt hwl0) S3.out.2.2.size⟩
      · go_simp
        have S1 := Lib.hid (endS3_next S0.out hwl0 hbxl ((Below.refl W.drew.heap.size W.drew).alloc (Nat.le_refl _) (.cells #[.string ⟨#[]⟩, .int .i64 0] 80)))
        refine hK.out _ _ S1.out (fun _ => ?_)
        try simp only [Act.put, List.setIfInBounds_toArray, List.set_cons_zero, List.set_cons_succ]
        refine wpAnyH_ready (rs := [5]) (by kernel_rfl) (by simp) ?_
        refine AllReadyH.cons rfl (fun K hK => ?_) AllReadyH.nil
        go_simp
        refine (HATC.out _ ((Below.refl _ _).drew.alloc (Nat.le_refl _) _)).mono ?_
        rintro e w4 ⟨rfl, hb4⟩
        obtain ⟨x5, hl5, k0, k1, q0, q1⟩ := local1 hb4
        have X5 := Lib.hid x5
        have S3 := Lib.hid (endS3_next S1.out hwl0 hbxl hb4)
        have S5 := Lib.hid (endS3_set (endS3_set (k := 0) S3.out hwl0 hbxl (Nat.le_refl _) (.string s)) (k := 1) hwl0 hbxl (Nat.le_refl _) (.int .i64 v))
        clear hb4 x5
        refine hK.out _ _ S3.out (fun _ => ?_)
        try simp only [Act.put, List.setIfInBounds_toArray, List.set_cons_zero, List.set_cons_succ]
        refine wpAnyH_take (i := 6) (v := .tuple #[.agg #[.string s, .int .i64 v], .bool cc]) rfl (by kernel_rfl) (by kernel_rfl) (by kernel_rfl) (fun _ _ _ h => h) (Or.inl ⟨by rfl, ?_⟩) S3.out ?_
        · intro w hSw
          obtain ⟨hs0, hs1, hs2⟩ := hSw
          go_simp
        try simp only [Act.put, List.setIfInBounds_toArray, List.set_cons_zero, List.set_cons_succ]
        refine wpAnyH_take (i := 7) (v := .agg #[.string s, .int .i64 v]) rfl (by kernel_rfl) (by kernel_rfl) (by kernel_rfl) (fun _ _ _ h => h) (Or.inl ⟨by rfl, ?_⟩) S3.out ?_
        · intro w hSw
          obtain ⟨hs0, hs1, hs2⟩ := hSw
          go_simp
        try simp only [Act.put, List.setIfInBounds_toArray, List.set_cons_zero, List.set_cons_succ]
        refine wpAnyH_take (i := 8) (v := .bool cc) rfl (by kernel_rfl) (by kernel_rfl) (by kernel_rfl) (fun _ _ _ h => h) (Or.inl ⟨by rfl, ?_⟩) S3.out ?_
        · intro w hSw
          obtain ⟨hs0, hs1, hs2⟩ := hSw
          go_simp
        try simp only [Act.put, List.setIfInBounds_toArray, List.set_cons_zero, List.set_cons_succ]
        refine wpAnyH_ready (rs := [10]) (by kernel_rfl) (by simp) ?_
        refine AllReadyH.cons rfl (fun K hK => ?_) AllReadyH.nil
        go_simp
        refine hK.out _ _ S5.out (fun _ => ?_)
        try simp only [Act.put, List.setIfInBounds_toArray, List.set_cons_zero, List.set_cons_succ]
        refine wpAnyH_take (i := 11) (v := .bool cc) rfl (by kernel_rfl) (by kernel_rfl) (by kernel_rfl) (fun _ _ _ h => h) (Or.inl ⟨by rfl, ?_⟩) S5.out ?_
        · intro w hSw
          obtain ⟨hs0, hs1, hs2⟩ := hSw
          go_simp
        try simp only [Act.put, List.setIfInBounds_toArray, List.set_cons_zero, List.set_cons_succ]
        refine ⟨by kernel_rfl, ?_⟩
        simp only [List.getElem_toArray, List.getElem_cons_succ, List.getElem_cons_zero, Act.put, List.setIfInBounds_toArray, List.set_cons_zero, List.set_cons_succ]
        gi_wp2
        gi_meet
        exact ⟨_, rfl, rfl, by have := X5.out; simp [World.setCell, Array.getElem?_modify, this], S5.out.2.2, Nat.le_of_lt hwl0⟩
    case rest =>
      obtain ⟨A7, rfl, rfl, hl7, hbc, hA7⟩ := hcut
      have e0 := cell_of_row _ _ 0 _ 80 (0, 0) hl7
      have e1 := cell_of_row _ _ 1 _ 80 (0, 0) hl7
      have hc' := (hbc.cell (p := ⟨w.heap.size, 0, none⟩) hwl0).trans hc
      have HBC := Lib.hid hbc
      have hlA7 := (Array.getElem?_eq_some_iff.1 hl7).1
      have hwc0 : w.heap.size < wc.heap.size := Nat.lt_of_lt_of_le hwl0 hbc.size
      clear hl7 hbc hc x0 x1
      cases hat0 : atN E1 x.2 with
      | none =>
        obtain rfl : cc = false := by rw [← HCC.out, hat0]; rfl
        have HAT0 := Lib.hid hat0
        clear hat0
        gi_wp2
        exact ⟨(below_others HBC.out).from _, H1.length, by omega, sv1, Ks1, E1, H1, S1, rfl, (HY.out.below HBC.out).dead HAT0.out, HC.out.below HBC.out⟩
      | some e0' =>
        obtain rfl : cc = true := by rw [← HCC.out, hat0]; rfl
        have HAT0 := Lib.hid hat0
        have h1 := HSV.out
        rw [hat0] at h1
        simp only [atV, Value.agg.injEq, Array.mk.injEq, List.cons.injEq, Value.string.injEq, Value.int.injEq, true_and, and_true] at h1
        obtain ⟨h1, h2⟩ := h1
        have hem := List.mem_of_find?_eq_some hat0
        have hnm : (e0'.2 : Int) = x.2 := by simpa using List.find?_some hat0
        have hwf := HY.out.ix.wf e0' hem
        rw [h1, h2] at hwf
        have HE := Lib.hid (And.intro hem (And.intro hnm (And.intro h1 h2)))
        clear hat0 h1 h2 hem hnm
        gi_wp2
        have S0 := Lib.hid (show wc.drew.cell? ⟨w.heap.size, 0, none⟩ = some (.pointer (some ⟨b, 0, none⟩)) ∧ wc.drew.cell? ⟨A7, 0, none⟩ = some (.string s) ∧ wc.drew.cell? ⟨A7, 1, none⟩ = some (.int .i64 v) from ⟨hc', e0, e1⟩)
        refine wpIn_round_held (S := fun w' => w'.cell? ⟨w.heap.size, 0, none⟩ = some (.pointer (some ⟨b, 0, none⟩)) ∧ w'.cell? ⟨A7, 0, none⟩ = some (.string s) ∧ w'.cell? ⟨A7, 1, none⟩ = some (.int .i64 v)) (by kernel_rfl) (by kernel_rfl) (fun ⟨_, _, h⟩ => h) S0.out (fun _ => ?_)
        refine wpAnyH_take (i := 0) (v := .pointer (some ⟨b, 0, none⟩)) rfl (by kernel_rfl) (by kernel_rfl) (by kernel_rfl) (fun _ _ _ h => h) (Or.inl ⟨by rfl, ?_⟩) S0.out ?_
        · intro w hSw
          obtain ⟨hs0, hs1, hs2⟩ := hSw
          go_simp
        try simp only [Act.put, List.setIfInBounds_toArray, List.set_cons_zero, List.set_cons_succ]
        refine wpAnyH_take (i := 1) (v := .pointer (some ⟨b, 0, none⟩)) rfl (by kernel_rfl) (by kernel_rfl) (by kernel_rfl) (fun _ _ _ h => h) (Or.inl ⟨by rfl, ?_⟩) S0.out ?_
        · intro w hSw
          obtain ⟨hs0, hs1, hs2⟩ := hSw
          go_simp
        try simp only [Act.put, List.setIfInBounds_toArray, List.set_cons_zero, List.set_cons_succ]
        refine wpAnyH_take (i := 2) (v := .pointer (some ⟨b, 1, none⟩)) rfl (by kernel_rfl) (by kernel_rfl) (by kernel_rfl) (fun _ _ _ h => h) (Or.inl ⟨by rfl, ?_⟩) S0.out ?_
        · intro w hSw
          obtain ⟨hs0, hs1, hs2⟩ := hSw
          go_simp
        try simp only [Act.put, List.setIfInBounds_toArray, List.set_cons_zero, List.set_cons_succ]
        refine wpAnyH_take (i := 3) (v := .pointer (some ⟨A7, 0, none⟩)) rfl (by kernel_rfl) (by kernel_rfl) (by kernel_rfl) (fun _ _ _ h => h) (Or.inl ⟨by rfl, ?_⟩) S0.out ?_
        · intro w hSw
          obtain ⟨hs0, hs1, hs2⟩ := hSw
          go_simp
        try simp only [Act.put, List.setIfInBounds_toArray, List.set_cons_zero, List.set_cons_succ]
        refine wpAnyH_take (i := 4) (v := .string s) rfl (by kernel_rfl) (by kernel_rfl) (by kernel_rfl) (fun _ _ _ h => h) (Or.inl ⟨by rfl, ?_⟩) S0.out ?_
        · intro w hSw
          obtain ⟨hs0, hs1, hs2⟩ := hSw
          go_simp
        try simp only [Act.put, List.setIfInBounds_toArray, List.set_cons_zero, List.set_cons_succ]
        refine wpAnyH_take (i := 5) (v := .pointer (some ⟨A7, 1, none⟩)) rfl (by kernel_rfl) (by kernel_rfl) (by kernel_rfl) (fun _ _ _ h => h) (Or.inl ⟨by rfl, ?_⟩) S0.out ?_
        · intro w hSw
          obtain ⟨hs0, hs1, hs2⟩ := hSw
          go_simp
        try simp only [Act.put, List.setIfInBounds_toArray, List.set_cons_zero, List.set_cons_succ]
        refine wpAnyH_take (i := 6) (v := .int .i64 v) rfl (by kernel_rfl) (by kernel_rfl) (by kernel_rfl) (fun _ _ _ h => h) (Or.inl ⟨by rfl, ?_⟩) S0.out ?_
        · intro w hSw
          obtain ⟨hs0, hs1, hs2⟩ := hSw
          go_simp
        try simp only [Act.put, List.setIfInBounds_toArray, List.set_cons_zero, List.set_cons_succ]
        refine wpAnyH_ready (rs := [7]) (by kernel_rfl) (by simp) ?_
        refine AllReadyH.cons rfl (fun K hK => ?_) AllReadyH.nil
        go_simp
        refine (remove_bag (HY.out.ix.below (HBC.out.drew)) s v hwf.1 hwf.2.1 (by omega)).mono ?_
        rintro e w3 ⟨rfl, Ks3, hI3, hk3, hsub3, hlen3⟩
        have hnix : ∀ k, w.heap.size ≤ k → ¬ IxO b mr mp Ks1 k := fun k hk hi => by have := (HC.out.ixl k hi).1; omega
        have hw3 : wc.heap.size ≤ w3.heap.size := hk3.size
        refine hK.out _ _ ⟨(World.cell?_of_block (a := ⟨w.heap.size, 0, none⟩) (hk3.block _ hwc0 (hnix _ (Nat.le_refl _)))).trans hc', (World.cell?_of_block (a := ⟨A7, 0, none⟩) (hk3.block _ hlA7 (hnix _ ?_))).trans e0, (World.cell?_of_block (a := ⟨A7, 1, none⟩) (hk3.block _ hlA7 (hnix _ ?_))).trans e1⟩ (fun _ => ?_)
        · exact hA7
        · exact hA7
        refine ⟨by kernel_rfl, ?_⟩
        obtain ⟨hem, hnm, hs0, hv0⟩ := HE.out
        subst hs0 hv0
        have hk4 : Keep (fun j => ¬ IxO b mr mp Ks1 j) wc w3 := (Keep.of_below (Below.refl _ _).drew).trans hk3 fun _ _ h => h
        refine ⟨⟨Nat.le_trans HBC.out.size hw3, fun k o hk hh _ => ?_⟩, H1.length, by omega, sv1, Ks3, othE (e0'.1.1, e0'.1.2.1, 0) E1, H1, dropS S1 e0'.1.1 e0'.1.2.1, rfl, (HY.out.below HBC.out).gone HAT0.out hI3 hk4 hlen3, (HC.out.below HBC.out).remove H4.out hem ?_ hk4 hsub3⟩
        · have hkl := (Array.getElem?_eq_some_iff.1 hh).1
          have h1 := HBC.out.block k hkl
          refine (hk3.block k (Nat.lt_of_lt_of_le hkl HBC.out.size) (hnix k ?_)).trans (h1.trans hh)
          have := HBW.out.size
          omega
        · have := HY.out.xag _ hem hnm
          omega
  case done =>
    rintro D W hD ⟨sv1, Ks1, E1, H1', S1, hB, hC, hd⟩ hK
    have hSc : S1 = cutS S c := hC.done H4.out hB hd
    subst hSc
    have hc := hC.b0.cell
    have hl0 := hC.b0.lt
    have HC := Lib.hid hC
    have HST := Lib.hid (settle_bag hB hn)
    have hE2 : (cutS S c).length ≤ S.length := List.length_filter_le _ _
    have hE3 : S.length ≤ n := by rw [← HL.out]; exact H1.out.ix.len
    have hnbo : ¬ BO b mr mp hb sv1 Ks1 w.heap.size := fun h => by
      rcases h with h | h | h
      · exact Nat.lt_irrefl _ (hC.ixl _ h).1
      · exact Nat.lt_irrefl _ (h ▸ hC.hbl.1)
      · exact hC.b0.not_row (by decide) hB.hp.row h.symm
    have hnbd : ¬ BO b mr mp hb sv1 Ks1 D := fun h => by
      have hDz := HZ.out
      rcases h with h | h | h
      · have := (hC.ixl _ h).1; omega
      · have := hC.hbl.1; omega
      · rcases hB.hp.row.2 with ⟨rfl, _⟩ | ⟨g, cap, cur, rfl, _, hg2, _⟩
        · simp [Value.ownBlock] at h
        · obtain rfl : g = D := by simpa [Value.ownBlock] using h
          rw [hg2] at hK
          cases hK
    have hDl := (Array.getElem?_eq_some_iff.1 hK).1
    have HNB := Lib.hid hnbo
    have HND := Lib.hid hnbd
    have HLE := Lib.hid (show E1.length = (cutS S c).length by simpa using hC.pm.length_eq)
    have HK := Lib.hid hK
    clear hB hC hd hnbo hnbd hK
    go_wp2_with (first
      | (go_at_call 35; refine HST.out.mono ?_; rintro e w3 ⟨rfl, hb3, sv3, H3', hB3, hS3, hk3, hbo3⟩; have hc3 := (World.cell?_of_block (a := ⟨w.heap.size, 0, none⟩) (hk3.block _ hl0 HNB.out)).trans hc; have HB3 := Lib.hid hB3; have HS3 := Lib.hid hS3; have HK3 := Lib.hid hk3; have HBO3 := Lib.hid hbo3; have hc4 := HB3.out.ix.cells; clear hB3 hS3 hk3 hbo3)
      | (go_at_call 38; refine (size_bag HB3.out.ix).mono ?_; rintro e w4 ⟨rfl, hww⟩; rw [hww]; clear hww))
    have hwr : IntKind.i64.wrap ((E.length : Int) - (E1.length : Int)) = (S.length : Int) - ((cutS S c).length : Int) := by
      rw [HL.out, HLE.out]
      exact IntWalk.i64_in _ (by omega)
    have hwr' : wrap64 ((E.length : Int) - (E1.length : Int)) = (S.length : Int) - ((cutS S c).length : Int) := by rw [← IntWalk.i64_left]; exact hwr
    rw [hwr']
    have hK3 := (HK3.out.block D hDl HND.out).trans HK.out
    refine ⟨by simp, .inl ⟨_, _, rfl, run_takeDeferred hK3, ?_⟩⟩
    refine ⟨.int .i64 ((S.length : Int) - ((cutS S c).length : Int)), by simp [results, Tryz.f16, go_sem], rfl, ?_, ?_⟩
    · have hkD : Keep (fun k => (some D : Option Nat) ≠ some k) w3 (w3.putObj D (.deferred none)) := Keep.of_grown (grownBy_putObj' _ D (.deferred none)) fun k _ hp e => hp e.symm
      have hsz := (HC.out.kp.size)
      have hsz3 := HK3.out.size
      refine ⟨mr, mp, hb3, sv3, Ks1, E1, H3', HB3.out.keep hkD fun k hkk e => ?_, HS3.out, HC.out.pm, HC.out.sd, fun k hkk => ?_, fun k hkk => ?_⟩
      · cases e
        rcases HBO3.out D hkk with h | h
        · exact HND.out h
        · omega
      · have hl := HB3.out.lt hkk
        have hnew : w.heap.size ≤ k → grw O w (w3.putObj D (.deferred none)) k := fun h => .inr ⟨h, by simpa using hl⟩
        rcases HBO3.out k hkk with (h | h | h) | h
        · exact .inl (HC.out.ixl k h).2
        · exact .inl (h ▸ HC.out.hbl.2)
        · rcases HC.out.svl k h with h | h
          · exact .inl h
          · exact hnew h
        · exact hnew (by omega)
      · rcases hkk with h | h
        · have := H6.out k h
          simp
          omega
        · exact h.2
    · have hDz : w1.heap.size ≤ D := hD
      have hz := HZ.out
      refine (HC.out.kp.trans HK3.out fun k hk hnO hh => hnO ?_).trans (Keep.of_grown (p := fun k => (some D : Option Nat) ≠ some k) (grownBy_putObj' _ D (.deferred none)) fun k _ hp e => hp e.symm) fun k hk _ e => ?_
      · rcases hh with h | h | h
        · exact (HC.out.ixl k h).2
        · exact h ▸ HC.out.hbl.2
        · rcases HC.out.svl k h with h | h
          · exact h
          · omega
      · cases e
        omega
  case stop => exact fun _ _ _ _ h _ => h.elim
end Go.Proofs.YtfcdgfjpmcapkaaGreat
