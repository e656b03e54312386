/- Of: a key's values and ends, as a function to range over. -/
import Derived.Test.YtfcdgfjpmcapkaaGreatBX
namespace Go.Proofs.YtfcdgfjpmcapkaaGreat
open Go.ChangeShapes Go.WideShapes Go.ChangeAt Go.RowKit Go.Maps Go.Shelf
set_option linter.unusedVariables false

attribute [local go_sem] Oper.semAt_some

variable {b : Nat} {O : Nat → Prop} {S : List Et} {m : Nat}

def encO (x : Et) : Array Value := #[.int .i64 x.2.1, .int .i64 x.2.2]

set_option maxRecDepth 100000 in
set_option maxHeartbeats 4000000 in
theorem of_seq {w0 : World} (n : Nat) (hn : 2 ≤ n) (h : Bag w0 b O S m) (hm : m ≤ 1000000) (k : ByteArray) (hk : k.size ≤ maxLen) {Bb Bk : Nat} (hB : Boxed w0 Bb 25 (.pointer (some ⟨b, 0, none⟩))) (hK : Boxed w0 Bk 9 (.string k)) :
    SeqX Fence.wide n Tryz.prog 64 #[.pointer (some ⟨Bb, 0, none⟩), .pointer (some ⟨Bk, 0, none⟩)] encO KpS (ofS S k) w0 := by
  intro l J Jx W hW hJ hJx hY h0
  obtain ⟨mr, mp, hb, sv, Ks, E, H, h1, -, h3, h4, -, -⟩ := h
  obtain ⟨N, hN⟩ := xs_of (k := k) h3 h4 (.agg #[.int .i64 0, .int .i64 0])
  have hwf := h1.ix.wf
  have hlen := h1.ix.len
  have HI := Lib.hid (h1.ix.below hW)
  have hBW : Boxed W Bb 25 (.pointer (some ⟨b, 0, none⟩)) := (hW.block _ hB.lt).trans hB
  have hKW : Boxed W Bk 9 (.string k) := (hW.block _ hK.lt).trans hK
  have cb := hBW.cell
  have ck := hKW.cell
  have lb := hBW.lt
  have lk := hKW.lt
  have HY := Lib.hid hY
  have HJ := Lib.hid hJ
  have HJX := Lib.hid hJx
  have HJ0 := Lib.hid h0
  have HN := Lib.hid hN
  have HWF := Lib.hid hwf
  clear hY hJ hJx h0 hN hwf h1 hB hK hW h3 h4 hBW hKW
  refine callsIn_of_wp_marks Tryz.func64 rfl trivial ?_ rfl
  simp only [Tryz.ntmps64, List.size_toArray, List.length_cons, List.length_nil, Nat.reduceAdd, Nat.reduceSub, Array.replicate_succ, Array.replicate_zero, List.push_toArray, List.append_toArray, List.nil_append, List.cons_append]
  refine wpIn_wide.2 ?_
  go_wp2_with (first
    | (go_at_call 31; refine (made_bag (HI.out.below ((Below.refl _ _).alloc (Nat.le_refl _) _))).mono ?_; rintro e w1 ⟨rfl, hww⟩; rw [hww]; clear hww))
  have hw1 : Below W.heap.size W (W.alloc (.cells #[.func (.yield l) #[] #[]] 121)) := (Below.refl _ _).alloc (Nat.le_refl _) _
  obtain ⟨W1, hW1⟩ : ∃ W1, W.alloc (.cells #[.func (.yield l) #[] #[]] 121) = W1 := ⟨_, rfl⟩
  have hbY : Boxed W1 W.heap.size 121 (.func (.yield l) #[] #[]) := by rw [← hW1]; exact Boxed.new W _ _
  rw [hW1] at hw1 ⊢
  have d0 := (hw1.cell (p := ⟨Bb, 0, none⟩) lb).trans cb
  have d1 := (hw1.cell (p := ⟨Bk, 0, none⟩) lk).trans ck
  have HJ1 := Lib.hid (HJ.out [] W W1 none HJ0.out (grown_of_below hw1) (fun r e => by cases e))
  have HI1 := Lib.hid (HI.out.below hw1)
  have HW1 := Lib.hid hw1
  have HBY := Lib.hid hbY
  clear hw1 hbY hW1 cb ck
  go_cut [13] from 9 (fun t13 wc => ∃ o, t13 = .func (.func 60) #[] #[.pointer (some ⟨W1.heap.size, 0, none⟩)] ∧ Boxed wc W1.heap.size 89 (.map o) ∧ Below W1.heap.size W1 wc ∧ MpO wc o 3 ((under E k).map stayV))
  case first =>
    have S0 := Lib.hid (show W1.drew.cell? ⟨Bb, 0, none⟩ = some (.pointer (some ⟨b, 0, none⟩)) ∧ W1.drew.cell? ⟨Bk, 0, none⟩ = some (.string k) from ⟨d0, d1⟩)
    have hl1 : Bb < W1.heap.size ∧ Bk < W1.heap.size := by have := HW1.out.size; omega
    go_region_held3 (fun w' => w'.cell? ⟨Bb, 0, none⟩ = some (.pointer (some ⟨b, 0, none⟩)) ∧ w'.cell? ⟨Bk, 0, none⟩ = some (.string k)) (first | exact S0.out | exact HS3.out | (go_keep; done))
      (first | (go_at_call 65; refine (values_bag (HI1.out.below (Below.refl _ _).drew) k hk).mono ?_; rintro e w3 ⟨o, rfl, hw3, hM3⟩; have hb3 : Below W1.drew.heap.size W1.drew w3 := (by rw [hw3]; exact (Below.refl _ _).alloc (Nat.le_refl _) _); have HS3 := Lib.hid (And.intro ((hb3.cell (p := ⟨Bb, 0, none⟩) hl1.1).trans S0.out.1) ((hb3.cell (p := ⟨Bk, 0, none⟩) hl1.2).trans S0.out.2)); have HX3 := Lib.hid (show Boxed w3 W1.heap.size 89 (.map o) ∧ Below W1.heap.size W1 w3 ∧ MpO w3 o 3 ((under E k).map stayV) from ⟨(by rw [hw3]; exact Boxed.new W1.drew _ _), (Below.refl _ W1).drew.trans hb3, MpO.below hM3 hb3⟩); clear hb3 hw3 hM3))
    all_goals go_wp2_with fail
    all_goals go_meet
    all_goals exact ⟨_, rfl, HX3.out⟩
  case rest =>
    obtain ⟨o, rfl, hbc, hbw, hMc⟩ := hcut
    have hyc : Boxed wc W.heap.size 121 (.func (.yield l) #[] #[]) := (hbw.block _ HBY.out.lt).trans HBY.out
    have hjc : J [] wc := HJ.out [] W1 wc none HJ1.out (grown_of_below hbw) (fun r e => by cases e)
    have hzc : W.heap.size ≤ wc.heap.size := Nat.le_trans HW1.out.size hbw.size
    have hu : (under E k).length ≤ E.length := List.length_filter_le _ _
    have hseq := risingI (n - 1) (by omega) W1.heap.size o _ wc hMc hbc.cell hbc.lt (by simp; omega) (fun p hp => by
      obtain ⟨e, he, rfl⟩ := List.mem_map.1 hp
      exact ⟨e.1.2.1, rfl, (HWF.out e (List.mem_filter.1 he).1).2.1⟩)
    rw [HN.out] at hseq
    have HSEQ := Lib.hid (show SeqX Fence.wide (n - 1) Tryz.prog 60 #[.pointer (some ⟨W1.heap.size, 0, none⟩)] (fun x : Et => #[.int .i64 x.2.1, .agg #[.int .i64 x.2.2, .int .i64 (N x)]]) KpS (ofS S k) wc from SeqX.map (f := fun x : Et => ((.int .i64 x.2.1, .agg #[.int .i64 x.2.2, .int .i64 (N x)]) : Value × Value)) (encs := encP) hseq)
    have HYC := Lib.hid hyc
    have HJC := Lib.hid hjc
    clear hbw hbc hMc hyc hjc hseq
    go_wp2
    refine wpIn_wide.1 (?_ : Code.wpIn Fence.wide n Tryz.prog _ _ _ _)
    refine wpIn_rangeFunc_X rfl (by omega) (gf := 60) (lb := #[.pointer (some ⟨W1.heap.size, 0, none⟩)]) rfl trivial (enters_of Tryz.func60 (by kernel_rfl) rfl)
      HSEQ.out KpS.trans (fun W l o o' _ hl ho _ => KpS.putObj W l o o' hl ho) (Below.refl _ _) (fun _ => rfl)
      (fun pre W' => J pre W' ∧ Boxed W' W.heap.size 121 (.func (.yield l) #[] #[]) ∧ W.heap.size ≤ W'.heap.size) (fun c pre W' => c = .ret ∧ Jx pre W') ?hI ?hX ⟨HJC.out, HYC.out, hzc⟩
      (fun x a' W' => ∃ A, a' = { tmps := #[.func (.yield l) #[] #[], .pointer (some ⟨Bb, 0, none⟩), .pointer (some ⟨Bk, 0, none⟩), .pointer (some ⟨W.heap.size, 0, none⟩), .int .i64 x.2.1, .pointer (some ⟨A, 0, none⟩), .pointer (some ⟨b, 0, none⟩), .bool true, .bool false, u9, u10, u11, u12, .func (.func 60) #[] #[.pointer (some ⟨W1.heap.size, 0, none⟩)], .int .i64 x.2.1, .agg #[.int .i64 x.2.2, .int .i64 (N x)], u16, u17, u18, u19, u20, u21], defers := [] } ∧ W'.heap[A]? = some (.cells #[.int .i64 x.2.2, .int .i64 (N x)] 68 (0, 0))) ?hA ?assign ?body ?done ?stop
    case hI =>
      rintro s A B row ⟨hj, hy, hz⟩ hg hr
      exact ⟨HJ.out s A B row hj hg fun r e => ⟨Nat.le_trans hzc (hr r e).1, (hr r e).2⟩, hy.kept hg fun e => by have := (hr _ e.symm).1; have := HYC.out.lt; omega, Nat.le_trans hz hg.size⟩
    case hX =>
      rintro c s A B row ⟨rfl, hj⟩ hg hr
      exact ⟨rfl, HJX.out s A B row hj hg fun r e => ⟨Nat.le_trans hzc (hr r e).1, (hr r e).2⟩⟩
    case hA =>
      rintro x a' _ A B row ⟨A5, rfl, hc⟩ hg hr
      refine ⟨A5, rfl, (hg.block A5 (Array.getElem?_eq_some_iff.1 hc).1 ?_).trans hc⟩
      intro e
      obtain ⟨_, o', ho, hco⟩ := hr A5 e.symm
      rw [hc] at ho
      cases ho
      cases hco
    case assign =>
      intro l1 pre x W' K hI hpx hK
      have HK := Lib.hid hK
      have HI' := Lib.hid hI
      clear hK hI
      gi_wp2
      have hbw : Below W'.heap.size W' (W'.alloc (.cells #[.int .i64 x.2.2, .int .i64 (N x)] 68)) := (Below.refl _ W').alloc (Nat.le_refl _) _
      obtain ⟨hj, hy, hz⟩ := HI'.out
      exact HK.out _ _ ((below_others hbw).from _) (KpS.alloc _ _) ⟨HJ.out pre W' _ none hj (grown_of_below hbw) (fun r e => by cases e), hy.alloc _, Nat.le_trans hz hbw.size⟩ ⟨_, rfl, heap_alloc_new W' _⟩
    case body =>
      rintro l1 pre x a' W' hwl hloop hpx ⟨hj, hy, hz⟩ ⟨A, rfl, hc⟩
      have cy := hy.cell
      have x0 := cell_of_row _ _ 0 _ 68 (0, 0) hc
      obtain ⟨fn, tmps, assign, body, hy', hR⟩ := yield_round (l1 := l1) (m' := n - 1 - 1 - 1) (HY.out pre x W' hpx hz hj)
      simp only [encO] at hy'
      gi_wp2
      refine ⟨fun h => (by cases h), ?_⟩
      refine hR.mono ?_
      rintro e W4 ⟨hkf, (⟨rfl, hJ4, hk4⟩ | ⟨rfl, hJx4⟩)⟩
      · have R4 := Lib.hid (show KeepsFrom wc.heap.size W' W4 ∧ KpS W' W4 ∧ J (pre ++ [x]) W4 ∧ Boxed W4 W.heap.size 121 (.func (.yield l) #[] #[]) ∧ W.heap.size ≤ W4.heap.size from ⟨kf_mono hkf hzc, hk4, hJ4, hk4.2 _ _ _ _ hy rfl, Nat.le_trans hz hkf.size⟩)
        clear hkf hJ4 hk4
        gi_wp2
        exact R4.out
      · have R4 := Lib.hid (show KeepsFrom wc.heap.size W' W4 ∧ Code.ret = Code.ret ∧ Jx (pre ++ [x]) W4 from ⟨kf_mono hkf hzc, rfl, hJx4⟩)
        clear hkf hJx4
        gi_wp2
        exact ⟨R4.out.1, rfl, R4.out.2.2⟩
    case done =>
      rintro D W' hD ⟨hj, hy, hz⟩ hK
      have R := Lib.hid (HJ.out.putObj (.deferred none) hj (Nat.le_trans hzc hD) hK rfl)
      clear hj hy
      go_wp2
      refine ⟨by simp, .inl ⟨_, _, rfl, run_takeDeferred hK, ?_⟩⟩
      exact ⟨_, results_none rfl _ _ _, ⟨_, rfl⟩, .inl R.out⟩
    case stop =>
      rintro D c pre W' hD hpre ⟨rfl, hj⟩ hK
      have R := Lib.hid (HJX.out.putObj (.deferred none) hj (Nat.le_trans hzc hD) hK rfl)
      clear hj
      gi_wp2
      refine ⟨by simp, .inl ⟨_, _, rfl, run_takeDeferred hK, ?_⟩⟩
      exact ⟨_, results_none rfl _ _ _, ⟨_, rfl⟩, .inr ⟨pre, hpre, R.out⟩⟩
end Go.Proofs.YtfcdgfjpmcapkaaGreat
