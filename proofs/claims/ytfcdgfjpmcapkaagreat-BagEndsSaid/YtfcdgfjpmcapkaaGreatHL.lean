/- Walk of UpTo's rounds. -/
import Derived.Test.YtfcdgfjpmcapkaaGreatHK
namespace Go.Proofs.YtfcdgfjpmcapkaaGreat
open Go.ChangeShapes Go.WideShapes Go.ChangeAt Go.RowKit Go.Shelf
set_option linter.unusedVariables false

attribute [local go_sem] Oper.semAt_some

theorem Turn.pre {w W w' : World} {b : Nat} {sv : Value} {L M : List It} (h : Turn W b sv M w') (hb : Below w.heap.size w W) : Turn w b sv M w' := by
  obtain ⟨sv1, N, h1, h2, h3, h4, h5⟩ := h
  exact ⟨sv1, N, h1, h2, h3, fun g hg => by rcases h4 g hg with k | k; exact .inl k; exact .inr (Nat.le_trans hb.size k), (Keep.of_below hb).trans h5 fun _ _ h => h⟩

theorem Turn.others {w W : World} {b : Nat} {sv : Value} {L M : List It} (h : Turn w b sv M W) (hb : Hb w b sv L) : KeepsOthers w W := by
  obtain ⟨sv1, N, h1, h2, h3, h4, h5⟩ := h
  refine ⟨h5.size, fun k o hk ho => (h5.block k (Array.getElem?_eq_some_iff.1 hk).1 ⟨?_, ?_⟩).trans hk⟩
  · rintro rfl
    rw [hb.blk] at hk
    cases hk
    cases ho
  · intro e
    rcases hb.row.2 with ⟨rfl, _⟩ | ⟨g, cap, cur, rfl, _, hh, _⟩
    · simp [Value.ownBlock] at e
    · obtain rfl : g = k := by simpa [Value.ownBlock] using e
      rw [hh] at hk
      cases hk
      cases ho
theorem below_others {w W : World} (h : Below w.heap.size w W) : KeepsOthers w W := ⟨h.size, fun k o hk _ => (h.block k (Array.getElem?_eq_some_iff.1 hk).1).trans hk⟩

set_option maxRecDepth 100000 in
set_option maxHeartbeats 1000000 in
theorem up_seq (n b bh bk : Nat) (key : Int) (I : Nat → World → Prop) (Y : Nat → It → World → Prop) (Dn : World → Prop)
    (hI : ∀ m W, I m W → ∃ sv L, W.cell? ⟨bh, 0, none⟩ = some (.pointer (some ⟨b, 0, none⟩)) ∧ W.cell? ⟨bk, 0, none⟩ = some (.int .i64 key) ∧ Hb W b sv L ∧ Off b sv bk ∧ Heap L ∧ L.length ≤ 1000000 ∧
      ((0 < L.length → key < (g L 0).1) → ∀ W', Below W.heap.size W W' → Dn W') ∧ (0 < L.length → (g L 0).1 ≤ key → ∀ W', Turn W b sv (cutL L) W' → Y m (g L 0) W')) :
    SeqDir Fence.wide n Tryz.prog 55 #[.pointer (some ⟨bh, 0, none⟩), .pointer (some ⟨bk, 0, none⟩)] (fun x : It => #[.agg #[.int .i64 x.1, .int .i64 x.2]]) I Y Dn := by
  intro l G Jx W m hG hY h0 hg0
  have HY := Lib.hid hY
  have HI := Lib.hid hI
  have HG := Lib.hid hG
  clear hY hI hG
  refine callsIn_of_wp Tryz.func55 rfl trivial ?_ rfl
  simp only [Tryz.ntmps55, List.size_toArray, List.length_cons, List.length_nil, Nat.reduceAdd, Nat.reduceSub, Array.replicate_succ, Array.replicate_zero, List.push_toArray, List.append_toArray, List.nil_append, List.cons_append]
  gi_wp2
  gi_loopw [] (fun wr => ∃ m, I m wr ∧ G wr) (fun wr => mu I wr)
  case atStart => exact ⟨m, h0, hg0⟩
  case round =>
    obtain ⟨m1, hi1, hg1⟩ := hrel
    obtain ⟨him, _⟩ := mu_spec hi1
    obtain ⟨sv, L, cbh, cbk, hb, hofk, hh, hl, hd, hy⟩ := HI.out _ _ him
    have HGR := Lib.hid hg1
    have HB := Lib.hid hb
    have HH := Lib.hid hh
    have HD := Lib.hid hd
    have HYY := Lib.hid hy
    have HL := Lib.hid hl
    have hfst := first_any hb (by unfold maxLen; omega)
    unfold FirstR at hfst
    have hbkl : bk < wr.heap.size := by
      obtain ⟨o, ho, _⟩ := cells_of_cell cbk
      exact (Array.getElem?_eq_some_iff.1 ho).1
    have hbhl : bh < wr.heap.size := by
      obtain ⟨o, ho, _⟩ := cells_of_cell cbh
      exact (Array.getElem?_eq_some_iff.1 ho).1
    clear hi1 hg1 him hb hh hd hy hl
    by_cases h0 : L.length = 0
    · have e : decide (0 < L.length) = false := decide_eq_false (by omega)
      rw [e] at hfst
      clear e
      gi_wp2
      refine ⟨trivial, (fun h => nomatch h), ?_⟩
      refine (callsIn_wide.2 hfst).mono ?_
      rintro e w1 ⟨rfl, hb1⟩
      have HB1 := Lib.hid hb1
      clear hb1 hfst
      gi_wp2
      refine bodyPost_ret (results_none rfl _ _ _) rfl ?_
      have hbw : Below wr.heap.size wr (w1.alloc (.cells #[.int .i64 (g L 0).1, .int .i64 (g L 0).2] 74)) := HB1.out.alloc HB1.out.size _
      exact ⟨⟨_, rfl⟩, .inl ⟨HD.out (by omega) _ hbw, HG.out _ _ HGR.out (below_others hbw)⟩⟩
    · have hpos : 0 < L.length := by omega
      have e : decide (0 < L.length) = true := decide_eq_true hpos
      rw [e] at hfst
      clear e h0
      obtain ⟨x, hx⟩ : ∃ x, g L 0 = x := ⟨_, rfl⟩
      rw [hx] at hfst HD HYY
      have HX := Lib.hid hx
      clear hx
      by_cases hk : key < x.1
      · gi_wp2
        refine ⟨trivial, (fun h => nomatch h), ?_⟩
        refine (callsIn_wide.2 hfst).mono ?_
        rintro e w1 ⟨rfl, hb1⟩
        have HB1 := Lib.hid hb1
        have cbk1 := (hb1.cell (p := ⟨bk, 0, none⟩) hbkl).trans cbk
        have hz1 : bk < w1.heap.size := Nat.lt_of_lt_of_le hbkl hb1.size
        clear hb1 hfst
        gi_wp2
        refine bodyPost_ret (results_none rfl _ _ _) rfl ?_
        have hbw : Below wr.heap.size wr (w1.alloc (.cells #[.int .i64 x.1, .int .i64 x.2] 74)) := HB1.out.alloc HB1.out.size _
        exact ⟨⟨_, rfl⟩, .inl ⟨HD.out (fun _ => hk) _ hbw, HG.out _ _ HGR.out (below_others hbw)⟩⟩
      · have hk' : x.1 ≤ key := by omega
        gi_wp2
        refine ⟨trivial, (fun h => nomatch h), ?_⟩
        refine (callsIn_wide.2 hfst).mono ?_
        rintro e w1 ⟨rfl, hb1⟩
        have cbk1 := (hb1.cell (p := ⟨bk, 0, none⟩) hbkl).trans cbk
        have cbh1 := (hb1.cell (p := ⟨bh, 0, none⟩) hbhl).trans cbh
        have hz1 : bk < w1.heap.size := Nat.lt_of_lt_of_le hbkl hb1.size
        have hz2 : bh < w1.heap.size := Nat.lt_of_lt_of_le hbhl hb1.size
        have HB1 := Lib.hid hb1
        clear hb1 hfst
        gi_wp2
        refine ⟨trivial, (fun h => nomatch h), ?_⟩
        have hbw : Below wr.heap.size wr (w1.alloc (.cells #[.int .i64 x.1, .int .i64 x.2] 74)) := HB1.out.alloc HB1.out.size _
        have hbl : (w1.alloc (.cells #[.int .i64 x.1, .int .i64 x.2] 74)).heap[w1.heap.size]? = some (.cells #[.int .i64 x.1, .int .i64 x.2] 74 (0, 0)) := heap_alloc_new w1 _
        have hsz : w1.heap.size < (w1.alloc (.cells #[.int .i64 x.1, .int .i64 x.2] 74)).heap.size := by simp
        have HBL := Lib.hid hbl
        have HBW := Lib.hid hbw
        have HSZ := Lib.hid hsz
        clear hbl hbw hsz
        generalize w1.alloc (.cells #[.int .i64 x.1, .int .i64 x.2] 74) = W2 at *
        refine (callsIn_wide.2 (pop_any (HB.out.below HBW.out) HH.out HL.out)).mono ?_
        rintro e w3 ⟨rfl, ht⟩
        have HT := Lib.hid ht
        obtain ⟨sv1, M1, _, _, _, _, hk5⟩ := ht
        have hbl3 := (hk5.block _ HSZ.out (HB.out.off HB1.out.size)).trans HBL.out
        obtain ⟨r0, r1, r2, r3⟩ := res_cells hbl3
        have ht0 : Turn wr b sv (cutL L) w3 := Turn.pre (L := L) HT.out HBW.out
        have hg3 := HG.out _ _ HGR.out (ht0.others HB.out)
        obtain ⟨fn, tmps, assign, body, hy, hR⟩ := HY.out _ x w3 (HYY.out hpos hk' _ ht0) hg3
        clear hbl3 hg3 hk5 ht0 cbk1 cbh1 hz1 hz2
        gi_wp2
        refine ⟨(fun h => nomatch h), ?_⟩
        refine hR.mono ?_
        rintro e W3 (⟨rfl, m', hm', hI3, hG3⟩ | ⟨rfl, hJx3⟩)
        · gi_wp2
          go_roundw
          case rel => exact ⟨m', hI3, hG3⟩
          case measure =>
            have := (mu_spec hI3).2
            omega
        · gi_wp2
          refine bodyPost_ret (results_none rfl _ _ _) rfl ?_
          exact ⟨⟨_, rfl⟩, .inr hJx3⟩
end Go.Proofs.YtfcdgfjpmcapkaaGreat
