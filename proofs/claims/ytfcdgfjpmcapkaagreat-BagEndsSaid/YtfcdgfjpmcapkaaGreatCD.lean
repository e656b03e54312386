/- All: the entries, key by key. -/
import Derived.Test.YtfcdgfjpmcapkaaGreatCC
namespace Go.Proofs.YtfcdgfjpmcapkaaGreat
open Go.ChangeShapes Go.WideShapes Go.ChangeAt Go.RowKit Go.Maps Go.Shelf
set_option linter.unusedVariables false

attribute [local go_sem] Oper.semAt_some

theorem app_box2 {W w1 : World} {n₁ e sz : Nat} {v : Value} {k : Nat} {xs : List Value} {tmp : Obj}
    (hn : n₁ ≤ W.heap.size) (hrow : W.ownsRow n₁ e sz v k xs) (hgrow : (W.alloc tmp).grownBy w1 v.ownBlock) :
    Below n₁ W w1 ∧ KeepsOthers W w1 ∧ ∀ B' t' u, t' ≠ e → Boxed W B' t' u → Boxed w1 B' t' u := by
  have hlt : ∀ j, v.ownBlock = some j → n₁ ≤ j := fun j e => (hrow.lt j e).1
  have hb : Below n₁ W w1 := ((Below.refl n₁ W).alloc hn tmp).grown hgrow (by simp; omega) hlt
  refine ⟨hb, ?_, fun B' t' u ht hb' => ?_⟩
  · refine (KeepsOthers.alloc W tmp).trans (KeepsOthers.of_grownBy hgrow fun j o ej hj => ?_)
    rcases (hrow.alloc tmp).2 with ⟨rfl, _⟩ | ⟨g, cap, cur, rfl, _, hgb, _⟩
    · simp [Value.ownBlock] at ej
    · obtain rfl : g = j := by simpa [Value.ownBlock] using ej
      rw [hgb] at hj; cases hj; rfl
  · have hne := hb'.not_row ht hrow
    exact (hb'.alloc tmp).kept hgrow hne

theorem Mp.keys9 {w : World} {b : Nat} {C : List (Lit × Value)} (h : Mp w b 9 C) : ∀ p ∈ C, ∃ s : ByteArray, p.1 = key s ∧ s.size ≤ maxLen := by
  obtain ⟨es, h1, h2⟩ := h
  obtain ⟨es', e, hk⟩ := h1.keysOf
  cases e
  intro p hp
  obtain ⟨v, hv⟩ := hk (hd p) (h2.mem_iff.2 (List.mem_map.2 ⟨p, hp, rfl⟩))
  obtain ⟨s, _, e2, hs⟩ := WideMaps.string_of_keyOf Tryz.underlying9 hv
  exact ⟨s, e2, hs⟩

variable {w : World} {b : Nat} {O : Nat → Prop} {S : List Et} {m : Nat}

set_option maxRecDepth 100000 in
set_option maxHeartbeats 4000000 in
theorem all_any (h : Bag w b O S m) (hm : m ≤ 1000000) : Calls Tryz.prog 24 #[.pointer (some ⟨b, 0, none⟩)] w (RowR S w) := by
  obtain ⟨mr, mp, hb, sv, Ks, E, H, h1, -, h3, h4, -, -⟩ := h
  have hkl := h1.klen
  have hl : E.length = S.length := by have := h3.length_eq; simpa using this
  have hlm : S.length ≤ 1000000 := by have := h1.ix.len; omega
  have hmd := made_bag h1.ix
  have hsz := size_bag h1.ix
  rw [hl] at hsz
  obtain ⟨c0, c1, -⟩ := h1.ix.cells
  have hlb : b < w.heap.size := h1.ix.lt (.inl rfl)
  have HI := Lib.hid h1.ix
  have HM := Lib.hid (And.intro hmd hsz)
  have H3 := Lib.hid (And.intro h3 h4)
  clear hmd hsz h1 h3 h4 hl
  refine (callsIn_wide (n := 12)).1 ?_
  refine callsIn_of_wp_marks Tryz.func24 rfl trivial ?_ rfl
  simp only [Tryz.ntmps24, List.size_toArray, List.length_cons, List.length_nil, Nat.reduceAdd, Nat.reduceSub, Array.replicate_succ, Array.replicate_zero, List.push_toArray, List.append_toArray, List.nil_append, List.cons_append]
  refine wpIn_wide.2 ?_
  obtain ⟨i0, hi, hy0, hy1, hy2⟩ := info_parts info38
  go_wp2_with (first
    | (go_at_call 31; refine HM.out.1.mono ?_; rintro e w1 ⟨rfl, hww⟩; obtain rfl : w = w1 := hww.symm)
    | (go_at_call 38; refine HM.out.2.mono ?_; rintro e w1 ⟨rfl, hww⟩; obtain rfl : w = w1 := hww.symm)
    | (at_make; refine wpList_make_own _ rfl _ _ 31 rfl w.heap.size 38 i0 _ 3 Tryz.underlying31 hi hy0 hy1 _ _ _ S.length rfl rfl rfl (by rw [hy2]; omega) (by unfold maxLen; omega) (by simp) ?_; intro w2 hown2 hg2; have hb2 : Below w.heap.size w w2 := (Below.refl _ w).grown hg2 (Nat.le_refl _) (fun _ e => by cases e); have c1' := (hb2.cell (p := ⟨b, 1, none⟩) hlb).trans c1; have hlb2 : b < w2.heap.size := Nat.lt_of_lt_of_le hlb hb2.size)
    | (go_at_call 42; refine (renS_any (some mr) _).mono ?_; rintro e w1 ⟨rfl, hww⟩))
  have hz1 : w1.heap.size = w2.heap.size + 2 := by rw [hww]; simp
  have hB1 : Below w.heap.size w w1 := by
    rw [hww]; exact (hb2.alloc hb2.size _).alloc (by have := hb2.size; simp; omega) _
  have b3 : Boxed w1 w2.heap.size 31 (.slice (some ⟨w.heap.size, 0, none⟩) 0 S.length) := by
    rw [hww]; exact (Boxed.new w2 31 _).alloc _
  have bm : Boxed w1 (w2.heap.size + 1) 58 (.map (some mr)) := by
    rw [hww]; exact Boxed.new2 _ 58 _ _ (by simp)
  have hrow1 : w1.ownsRow w.heap.size 38 3 (.slice (some ⟨w.heap.size, 0, none⟩) 0 S.length) 0 [] := by
    rw [hww]; exact (hown2.alloc _).alloc _
  have hix1 := HI.out.below hB1
  obtain ⟨Kl, k1, k2, k3, k4⟩ := xsS_of (Mp.apart hix1.rows law9) (.agg #[.string ⟨#[]⟩, .map none])
  have hall : allS S Kl = S := allS_eq H3.out.1 H3.out.2 hix1.has k2 k3
  have hseq := risingS 11 (by decide) (w2.heap.size + 1) (some mr) (Ks.map rowV) w1 hix1.rows bm.cell bm.lt (by simp; omega) hix1.rows.keys9
  rw [k4] at hseq
  have HSEQ := Lib.hid (show SeqX Fence.wide 11 Tryz.prog 56 #[.pointer (some ⟨w2.heap.size + 1, 0, none⟩)] (fun x : ByteArray × Nat => #[.string x.1, .agg #[.string x.1, .map (some x.2)]]) KpS Kl w1 from SeqX.map (f := fun x : ByteArray × Nat => ((.string x.1, .agg #[.string x.1, .map (some x.2)]) : Value × Value)) (encs := encP) hseq)
  have HB1 := Lib.hid hB1
  have HZ := Lib.hid hz1
  have HZ2 := Lib.hid hb2.size
  have HB := Lib.hid (And.intro b3 hrow1)
  have HK := Lib.hid (And.intro k1 hall)
  have HIX := Lib.hid hix1
  rw [← hww]
  clear hww hz1 hB1 b3 bm hrow1 hseq k1 k2 k3 k4 hall hown2 hg2 hix1 c1' hb2
  refine wpIn_wide.1 (?_ : Code.wpIn Fence.wide 12 Tryz.prog _ _ _ _)
  refine wpIn_rangeFunc_X rfl (by decide) (gf := 56) (lb := #[.pointer (some ⟨w2.heap.size + 1, 0, none⟩)]) rfl trivial (enters_of Tryz.func56 (by kernel_rfl) rfl)
    HSEQ.out KpS.trans (fun W l o o' _ hl ho _ => KpS.putObj W l o o' hl ho) (Below.refl _ _) (fun _ => rfl)
    (fun pre W => (((∃ v, Boxed W w2.heap.size 31 v ∧ W.ownsRow w.heap.size 38 3 v (allS S pre).length (flatE (allS S pre)) ∧ True) ∧ w1.heap.size ≤ W.heap.size) ∧ Below w.heap.size w W))
    (fun _ _ _ => False)
    (OwnFrom.and (OwnFrom.and (Own.from (holdsRow_own w.heap.size w2.heap.size 31 38 3 (fun pre => (allS S pre).length) (fun pre => flatE (allS S pre)) (fun _ _ => True)) _) (fun _ _ _ _ hs hg _ => Nat.le_trans hs hg.size)) (ownFrom_below (Nat.le_refl _) HB1.out.size))
    (fun c s A B row h => h.elim)
    ⟨⟨⟨_, HB.out.1, HB.out.2, trivial⟩, Nat.le_refl _⟩, HB1.out⟩
    (fun x a' W => ∃ A4 A5, a' = { tmps := #[.pointer (some ⟨b, 0, none⟩), undef, .slice none 0 0, .pointer (some ⟨w2.heap.size, 0, none⟩), .pointer (some ⟨A4, 0, none⟩), .pointer (some ⟨A5, 0, none⟩), undef, undef, .pointer (some ⟨b, 0, none⟩), .bool true, .bool false, .pointer (some ⟨b, 0, none⟩), .pointer (some ⟨b, 0, none⟩), .pointer (some ⟨b, 1, none⟩), .int .i64 (S.length : Int), .slice (some ⟨w.heap.size, 0, none⟩) 0 S.length, .pointer (some ⟨b, 0, none⟩), .pointer (some ⟨b, 0, none⟩), .pointer (some ⟨b, 1, none⟩), .pointer (some ⟨b, 1, none⟩), .map (some mr), .func (.func 56) #[] #[.pointer (some ⟨w2.heap.size + 1, 0, none⟩)], .string x.1, .agg #[.string x.1, .map (some x.2)], undef, undef, undef, undef, undef, undef, undef, undef, undef, undef, undef, undef, undef, undef], defers := [] } ∧ Boxed W A4 9 (.string x.1) ∧ W.heap[A5]? = some (.cells #[.string x.1, .map (some x.2)] 91 (0, 0))) ?hA ?assign ?body ?done ?stop
  case hA =>
    rintro x a' _ A B row ⟨A4, A5, rfl, h4, hc⟩ hg hr
    refine ⟨A4, A5, rfl, h4.kept hg (fun e => ?_), (hg.block A5 (Array.getElem?_eq_some_iff.1 hc).1 ?_).trans hc⟩
    · obtain ⟨_, o', ho, hco⟩ := hr A4 e.symm
      rw [show A.heap[A4]? = _ from h4] at ho
      cases ho
      cases hco
    · intro e
      obtain ⟨_, o', ho, hco⟩ := hr A5 e.symm
      rw [hc] at ho
      cases ho
      cases hco
  case assign =>
    intro l1 pre x W' K hI hpx hK
    have HKK := Lib.hid hK
    have HI' := Lib.hid hI
    clear hK hI
    gi_wp2
    have hbw : Below W'.heap.size W' ((W'.alloc (.cells #[.string x.1] 9)).alloc (.cells #[.string x.1, .map (some x.2)] 91)) := ((Below.refl _ W').alloc (Nat.le_refl _) _).alloc (by simp) _
    obtain ⟨⟨⟨v, hv, hrow, _⟩, hsz⟩, hB⟩ := HI'.out
    exact HKK.out _ _ ((below_others hbw).from _) (KpS.of_below hbw) ⟨⟨⟨v, (hv.alloc _).alloc _, (hrow.alloc _).alloc _, trivial⟩, Nat.le_trans hsz hbw.size⟩, hB.trans (hbw.mono hB.size)⟩ ⟨_, _, rfl, (Boxed.new W' 9 _).alloc _, new2_block W' _ _ 91⟩
  case body =>
    rintro l1 pre x a' W hwl hloop hpx ⟨⟨hv, hsz⟩, hB⟩ ⟨A4, A5, rfl, h4, hc⟩
    have hxK : x ∈ Ks := HK.out.1 x (hpx.subset (by simp))
    have hixW := HI.out.below hB
    have hMx := hixW.row x hxK
    have hkx : x.1.size ≤ maxLen := by
      obtain ⟨s, e1, e2⟩ := hixW.rows.keys9 (rowV x) (List.mem_map.2 ⟨x, hxK, rfl⟩)
      obtain rfl := key_inj e1
      exact e2
    obtain ⟨N, hN⟩ := xs_of (k := x.1) H3.out.1 H3.out.2 (.agg #[.int .i64 0, .int .i64 0])
    have hu : (under E x.1).length ≤ E.length := List.length_filter_le _ _
    have hul : E.length ≤ m := HI.out.len
    have hwf := HI.out.wf
    have x0 := cell_of_row _ _ 1 _ 91 (0, 0) hc
    have HV := Lib.hid hv
    have HBW := Lib.hid (And.intro hsz hB)
    have H4 := Lib.hid h4
    have HMX := Lib.hid hMx
    have HN := Lib.hid hN
    have HWF := Lib.hid hwf
    have HC := Lib.hid hc
    obtain ⟨rl, hrl⟩ := hloop
    have HRL := Lib.hid hrl
    clear hv hsz hB hMx hN hwf hc h4 hixW hrl
    gi_wp2
    refine ⟨trivial, ?_⟩
    refine (CallsIn.inRound l1 (callsIn_wide.2 (renI_any (some x.2) W))).mono ?_
    rintro e Wc ⟨rfl, hWc⟩
    have hBc : Below W.heap.size W Wc := by rw [hWc]; exact (Below.refl _ W).alloc (Nat.le_refl _) _
    have hzc : Wc.heap.size = W.heap.size + 1 := by rw [hWc]; simp
    have hbi : Boxed Wc W.heap.size 89 (.map (some x.2)) := by rw [hWc]; exact Boxed.new W 89 _
    have hseq2 := risingI 9 (by decide) W.heap.size (some x.2) _ Wc (MpO.below (o := some x.2) HMX.out hBc) hbi.cell hbi.lt (by simp; omega) (fun p hp => by
      obtain ⟨e, he, rfl⟩ := List.mem_map.1 hp
      exact ⟨e.1.2.1, rfl, (HWF.out e (List.mem_filter.1 he).1).2.1⟩)
    rw [HN.out] at hseq2
    have HSEQ2 := Lib.hid (show SeqX Fence.wide 9 Tryz.prog 60 #[.pointer (some ⟨W.heap.size, 0, none⟩)] (fun y : Et => #[.int .i64 y.2.1, .agg #[.int .i64 y.2.2, .int .i64 (N y)]]) KpS (ofS S x.1) Wc from SeqX.map (f := fun y : Et => ((.int .i64 y.2.1, .agg #[.int .i64 y.2.2, .int .i64 (N y)]) : Value × Value)) (encs := encP) hseq2)
    have hlc : Wc.heap[l1]? = some (.loop rl) := (hBc.block _ (Array.getElem?_eq_some_iff.1 HRL.out).1).trans HRL.out
    have hfl : Hid (∀ y ∈ ofS S x.1, y.1 = x.1) := Lib.hid fun y hy => by simpa using (List.mem_filter.1 hy).2
    have h4c : Boxed Wc A4 9 (.string x.1) := (hBc.block _ H4.out.lt).trans H4.out
    have hszc : w1.heap.size ≤ Wc.heap.size := Nat.le_trans HBW.out.1 hBc.size
    have hBwc : Below w.heap.size w Wc := HBW.out.2.trans (hBc.mono HBW.out.2.size)
    have hvc : ∃ v, Boxed Wc w2.heap.size 31 v ∧ Wc.ownsRow w.heap.size 38 3 v (allS S pre ++ []).length (flatE (allS S pre ++ [])) ∧ True := by
      rw [List.append_nil, hWc]
      obtain ⟨v, hv, hr, _⟩ := HV.out
      exact ⟨v, hv.alloc _, hr.alloc _, trivial⟩
    have HVC := Lib.hid (And.intro hvc (And.intro h4c (And.intro hszc hBwc)))
    have hkf : KeepsFrom w1.heap.size W Wc ∧ KpS W Wc := ⟨(below_others hBc).from _, KpS.of_below hBc⟩
    have HKF := Lib.hid hkf
    have HZC := Lib.hid hzc
    clear hBc hbi hseq2 hvc h4c hszc hBwc hkf hzc
    have hKK : ∀ {β : Type}, OwnFrom Wc.heap.size (fun (_ : β) W' => KeepsFrom w1.heap.size W W' ∧ KpS W W') := by
      intro β s A B row h hg hr
      have hne : ∀ k (o : Obj), W.heap[k]? = some o → some k ≠ row := fun k o hk e => by
        have h1 := (Array.getElem?_eq_some_iff.1 hk).1
        have h2 := (hr k e.symm).1
        have h3 := HZC.out
        omega
      refine ⟨⟨Nat.le_trans h.1.size hg.size, fun k o hB hk hc => ?_⟩, Nat.le_trans h.2.1 hg.size, fun k v t fr hk ht => ?_⟩
      · have h9 := h.1.same k o hB hk hc
        exact (hg.block k (Array.getElem?_eq_some_iff.1 h9).1 (hne k _ hk)).trans h9
      · have h9 := h.2.2 k v t fr hk ht
        exact (hg.block k (Array.getElem?_eq_some_iff.1 h9).1 (hne k _ hk)).trans h9
    clear hWc
    gi_wp2
    refine wpIn_rangeFunc_XN (l₀ := l1) (r₀ := rl) rfl hlc (by decide) (gf := 60) (lb := #[.pointer (some ⟨W.heap.size, 0, none⟩)]) rfl trivial (enters_of Tryz.func60 (by kernel_rfl) rfl)
      (HSEQ2.out.inRound l1) KpS.trans (fun W l o o' _ hl ho _ => KpS.putObj W l o o' hl ho) (Below.refl _ _) (fun _ => rfl)
      (fun pre2 W' => ((∃ v, Boxed W' w2.heap.size 31 v ∧ W'.ownsRow w.heap.size 38 3 v (allS S pre ++ pre2).length (flatE (allS S pre ++ pre2)) ∧ True) ∧ Boxed W' A4 9 (.string x.1) ∧ w1.heap.size ≤ W'.heap.size ∧ Below w.heap.size w W') ∧ (KeepsFrom w1.heap.size W W' ∧ KpS W W'))
      (fun _ _ _ => False)
      (OwnFrom.and (OwnFrom.and (Own.from (holdsRow_own w.heap.size w2.heap.size 31 38 3 (fun pre2 => (allS S pre ++ pre2).length) (fun pre2 => flatE (allS S pre ++ pre2)) (fun _ _ => True)) _) (OwnFrom.and (Own.from (boxed_own _ _ (fun _ => _)) _) (OwnFrom.and (fun _ _ _ _ hs hg _ => Nat.le_trans hs hg.size) (ownFrom_below (Nat.le_refl _) HVC.out.2.2.2.size)))) hKK)
      (fun c s A B row h => h.elim)
      ⟨HVC.out, HKF.out⟩
      (fun y a' W' => ∃ A7, a' = { tmps := #[.pointer (some ⟨b, 0, none⟩), undef, .slice none 0 0, .pointer (some ⟨w2.heap.size, 0, none⟩), .pointer (some ⟨A4, 0, none⟩), .pointer (some ⟨A5, 0, none⟩), .int .i64 y.2.1, .pointer (some ⟨A7, 0, none⟩), .pointer (some ⟨b, 0, none⟩), .bool true, .bool false, .pointer (some ⟨b, 0, none⟩), .pointer (some ⟨b, 0, none⟩), .pointer (some ⟨b, 1, none⟩), .int .i64 (S.length : Int), .slice (some ⟨w.heap.size, 0, none⟩) 0 S.length, .pointer (some ⟨b, 0, none⟩), .pointer (some ⟨b, 0, none⟩), .pointer (some ⟨b, 1, none⟩), .pointer (some ⟨b, 1, none⟩), .map (some mr), .func (.func 56) #[] #[.pointer (some ⟨w2.heap.size + 1, 0, none⟩)], .string x.1, .agg #[.string x.1, .map (some x.2)], .pointer (some ⟨A5, 1, none⟩), .map (some x.2), .func (.func 60) #[] #[.pointer (some ⟨W.heap.size, 0, none⟩)], .int .i64 y.2.1, .agg #[.int .i64 y.2.2, .int .i64 (N y)], undef, undef, undef, undef, undef, undef, undef, undef, undef], defers := [] } ∧ W'.heap[A7]? = some (.cells #[.int .i64 y.2.2, .int .i64 (N y)] 68 (0, 0))) ?hA2 ?assign2 ?body2 ?done2 ?stop2
    case hA2 =>
      rintro y a' _ A B row ⟨A7, rfl, hc⟩ hg hr
      refine ⟨A7, rfl, (hg.block A7 (Array.getElem?_eq_some_iff.1 hc).1 ?_).trans hc⟩
      intro e
      obtain ⟨_, o', ho, hco⟩ := hr A7 e.symm
      rw [hc] at ho
      cases ho
      cases hco
    case assign2 =>
      intro l2 pre2 y W' K hI hpx2 hK
      have HKK := Lib.hid hK
      have HI' := Lib.hid hI
      clear hK hI
      gi_wp2
      have hbw : Below W'.heap.size W' (W'.alloc (.cells #[.int .i64 y.2.2, .int .i64 (N y)] 68)) := (Below.refl _ W').alloc (Nat.le_refl _) _
      obtain ⟨⟨⟨v, hv, hrow, _⟩, h4', hsz, hB⟩, hk1, hk2⟩ := HI'.out
      exact HKK.out _ _ ((below_others hbw).from _) (KpS.alloc _ _) ⟨⟨⟨v, hv.alloc _, hrow.alloc _, trivial⟩, h4'.alloc _, Nat.le_trans hsz hbw.size, hB.trans (hbw.mono hB.size)⟩, hk1.trans ((below_others hbw).from _), hk2.trans (KpS.alloc _ _)⟩ ⟨_, rfl, heap_alloc_new W' _⟩
    case body2 =>
      rintro l2 pre2 y a' W' hwl2 hloop2 hpx2 ⟨⟨⟨v, hv, hrow, _⟩, h4', hsz, hB⟩, hk1, hk2⟩ ⟨A7, rfl, hc⟩
      have hyS : y ∈ ofS S x.1 := hpx2.subset (by simp)
      have hyk : y.1 = x.1 := hfl.out y hyS
      have hpl : (allS S pre ++ pre2).length < S.length := by
        have e1 : (allS S (pre ++ [x])).length ≤ S.length := by
          have : (allS S (pre ++ [x])).length ≤ (allS S Kl).length := by
            obtain ⟨t, ht⟩ := hpx
            have e0 : allS S (pre ++ [x] ++ t) = allS S (pre ++ [x]) ++ allS S t := by simp [allS]
            rw [← ht, e0, List.length_append]
            omega
          rw [HK.out.2] at this
          exact this
        rw [allS_snoc, List.length_append] at e1
        have e2 := hpx2.length_le
        simp at e2
        rw [List.length_append]
        omega
      have hcv := hv.cell
      have hc4 := h4'.cell
      have x7 := cell_of_row _ _ 0 _ 68 (0, 0) hc
      have HV' := Lib.hid hv
      have HR := Lib.hid (And.intro h4' (And.intro hsz (And.intro hk1 hk2)))
      have HBW' := Lib.hid hB
      obtain ⟨A, q, rfl⟩ := row_form2 hrow
      have HROW := Lib.hid hrow
      have HC7 := Lib.hid hc
      obtain ⟨Lc, hLc⟩ : ∃ Lc, (allS S pre ++ pre2).length = Lc := ⟨_, rfl⟩
      rw [hLc] at HROW HV' hpl hcv
      have HLC := Lib.hid hLc
      have hyw : w.heap.size ≤ W'.heap.size := hB.size
      clear hv h4' hsz hB hrow hk1 hk2 hLc hc
      gi_wp2_with (gi_at_builtin; refine wpListIn_append_own _ rfl _ _ 31 rfl w.heap.size 38 i0 (.agg #[.string ⟨#[]⟩, .int .i64 0, .int .i64 0]) 3 32 Tryz.underlying31 hi hy0 hy1 hy2 rfl (by decide) _ _ _ rfl (HROW.out.alloc _) ⟨W'.heap.size, 0, none⟩ 1 1 [.string x.1, .int .i64 y.2.1, .int .i64 y.2.2] rfl rfl (cell_three_new _ _ _ _ _) (by simp [Value.oneCell']) (by unfold maxLen; omega) (by omega) (by simp; omega) ?_; intro v' w3 hown' hgrow _; obtain ⟨g', cap', rfl⟩ := ownsRow_succ hown'; obtain ⟨hb2, hk2, hbx⟩ := app_box2 hyw HROW.out hgrow; have hv1 := hbx _ _ _ (by decide) HV'.out; have hkp := kps_app (v' := .slice (some ⟨g', 0, none⟩) (Lc + 1) cap') HV'.out HROW.out hgrow; have hc1 := hv1.cell; have hf1 := hv1.frozen)
      have h1 := hv1.set (.slice (some ⟨g', 0, none⟩) (Lc + 1) cap')
      have hne : some w2.heap.size ≠ (Value.slice (some ⟨g', 0, none⟩) (Lc + 1) cap').ownBlock := hv1.not_row (by decide) hown'
      have h3 := ownsRow_setCell_other hown' (a := ⟨w2.heap.size, 0, none⟩) hne.symm (.slice (some ⟨g', 0, none⟩) (Lc + 1) cap')
      have hfx : flatE (allS S pre ++ (pre2 ++ [y])) = flatE (allS S pre ++ pre2) ++ [.string x.1, .int .i64 y.2.1, .int .i64 y.2.2] := by rw [← List.append_assoc, flatE_app, flatE_cons, hyk]; rfl
      have hfl2 : (allS S pre ++ (pre2 ++ [y])).length = Lc + 1 := by rw [← HLC.out]; simp; omega
      have hne4 : A4 ≠ w2.heap.size := by
        rintro rfl
        have e := (show W'.heap[w2.heap.size]? = _ from HR.out.1).symm.trans (show W'.heap[w2.heap.size]? = _ from HV'.out)
        injection e with e
        injection e with _ e
        exact absurd e (by decide)
      have hkf : KeepsFrom w1.heap.size W' (w3.setCell ⟨w2.heap.size, 0, none⟩ (.slice (some ⟨g', 0, none⟩) (Lc + 1) cap')) := (hk2.trans (KeepsOthers.setCell _ _ _)).from _
      refine ⟨(hk2.trans (KeepsOthers.setCell _ _ _)).from _, hkp, ⟨⟨_, h1, (by rw [hfl2, hfx]; exact h3 : World.ownsRow _ w.heap.size 38 3 _ (allS S pre ++ (pre2 ++ [y])).length (flatE (allS S pre ++ (pre2 ++ [y])))), trivial⟩, (hbx _ _ _ (by decide) HR.out.1).other hne4 _, Nat.le_trans HR.out.2.1 hkf.size, (HBW'.out.trans hb2).setCell (by have := HZ2.out; simp; omega) _⟩, HR.out.2.2.1.trans hkf, HR.out.2.2.2.trans hkp⟩
    case done2 =>
      intro W' hI
      have HI2 := Lib.hid hI
      clear hI
      gi_wp2
      obtain ⟨⟨hv, _, hsz, hB⟩, hk1, hk2⟩ := HI2.out
      exact ⟨hk1, hk2, ⟨(by rw [allS_snoc]; exact hv : ∃ v, Boxed W' w2.heap.size 31 v ∧ W'.ownsRow w.heap.size 38 3 v (allS S (pre ++ [x])).length (flatE (allS S (pre ++ [x]))) ∧ True), hsz⟩, hB⟩
    case stop2 => exact fun _ _ _ _ h => h.elim
  case done =>
    rintro D W hD ⟨⟨⟨v, hv, hrow, _⟩, hsz⟩, hB⟩ hK
    rw [HK.out.2] at hrow
    obtain ⟨A, q, rfl⟩ := row_form2 hrow
    have hc := hv.cell
    have HBW := Lib.hid hB
    have HROW := Lib.hid hrow
    clear hv hB hrow
    go_wp2_with fail
    refine ⟨by simp, .inl ⟨_, _, rfl, run_takeDeferred hK, ?_⟩⟩
    have hz := HZ.out
    refine ⟨.slice A S.length q, by simp [results, Tryz.f24, go_sem], .slice A S.length q, rfl, ownsRow_putObj HROW.out (.deferred none) hK rfl, HBW.out.trans (belowK_b (w := w1) HB1.out.size _ D _ _ hD hK rfl rfl)⟩
  case stop => exact fun _ _ _ _ _ _ h _ => h.elim
end Go.Proofs.YtfcdgfjpmcapkaaGreat
