/- The reference's book: texts that come. -/
import Derived.Test.YtepelfigcoohiaaR
import Derived.Test.YtepelfigcoohiaaM
import Derived.Deep.RegionHeld3
import Derived.Deep.AppendLies
import Derived.Deep.RegionLaw
import Derived.Laws.AppendOwn
import Derived.OwnWalk
namespace Go.Proofs.Ytepelfigcoohiaa
open Go.ChangeShapes Go.WideShapes Go.ChangeAt Go.RowKit Go.Maps Go.Shelf
set_option linter.unusedVariables false

theorem frS_pre (L F : List ByteArray) (s : ByteArray) : ∃ M, frS L F s = F ++ M := by
  unfold frS; split
  · exact ⟨[], by simp⟩
  · exact ⟨[s], rfl⟩
theorem foldl_pre (L : List ByteArray) : ∀ (l F : List ByteArray), ∃ M, l.foldl (frS L) F = F ++ M
  | [], F => ⟨[], by simp⟩
  | s :: l, F => by
    obtain ⟨M1, h1⟩ := frS_pre L F s
    obtain ⟨M2, h2⟩ := foldl_pre L l (frS L F s)
    exact ⟨M1 ++ M2, by rw [List.foldl_cons, h2, h1, List.append_assoc]⟩
theorem fr_pre (L l : List ByteArray) (k : Nat) : ∃ M, fr L l = fr L (l.take k) ++ M := by
  have h : l = l.take k ++ l.drop k := (List.take_append_drop k l).symm
  unfold fr
  conv => enter [1, M, 1]; rw [h, List.foldl_append]
  exact foldl_pre L _ _

/-- the number of the text at place k, as it is told then -/
theorem num_then (L l : List ByteArray) (k : Nat) (h : k < l.length) :
    numOf (bookL L l) l[k] = (if l[k] ∈ L ++ fr L (l.take k) then numOf (L ++ fr L (l.take k)) l[k] else (L ++ fr L (l.take k)).length) ∧
      L ++ fr L (l.take (k + 1)) = (if l[k] ∈ L ++ fr L (l.take k) then L ++ fr L (l.take k) else (L ++ fr L (l.take k)) ++ [l[k]]) := by
  obtain ⟨M, hM⟩ := fr_pre L l (k + 1)
  have hs := fr_succ L l k h
  have e2 : L ++ fr L (l.take (k + 1)) = (if l[k] ∈ L ++ fr L (l.take k) then L ++ fr L (l.take k) else (L ++ fr L (l.take k)) ++ [l[k]]) := by
    rw [hs]
    by_cases hm : l[k] ∈ L ++ fr L (l.take k)
    · rw [if_pos hm, frS_old (List.mem_append.1 hm)]
    · rw [if_neg hm]
      rw [List.mem_append, not_or] at hm
      rw [frS_new hm.1 hm.2, List.append_assoc]
  refine ⟨?_, e2⟩
  have e3 : bookL L l = (L ++ fr L (l.take (k + 1))) ++ M := by unfold bookL; rw [hM, List.append_assoc]
  rw [e3, e2]
  by_cases hm : l[k] ∈ L ++ fr L (l.take k)
  · rw [if_pos hm, if_pos hm, numOf_app hm]
  · rw [if_neg hm, if_neg hm, numOf_app (by simp), numOf_new hm]

theorem run_app_nil {P : Program} {w : World} (base : Nat) (t ty e : TypeId) (i : TypeInfo) (size : Nat) (ht : P.underlying t = some (.slice e)) (hi : P.info? e = some i) (v : Value) (n : Nat) (xs : List Value) (hown : w.ownsRow base e size v n xs) (c : Nat) :
    (Builtin.append_ #[t, t] ty #[v, .slice none 0 c]).run P w = .ok v w := by
  rcases hown.2 with ⟨rfl, rfl⟩ | ⟨g, cap, cur, rfl, _, _, hnc, _⟩
  · simp [Builtin.append_, run_underlying ht, sizeOf, typeInfo, hi, Builtin.lenOf, Builtin.firstCells]
  · simp [Builtin.append_, run_underlying ht, sizeOf, typeInfo, hi, Builtin.lenOf, Builtin.firstCells, hnc, storeCells]

/-- append of a row of texts, whatever its address -/
theorem wpList_append_sr {w : World} {ops : Array Oper} {rest : List Oper} {o : Oper} {a : Act} {Q : Exit → Act → World → Prop} (hgd : o.guard = none) (s x : Operand)
    (ho : o.op = .call { callee := .builtin .append, args := #[s, x], argTypes := #[30, 30] })
    (base : Nat) (v : Value) (n : Nat) (xs : List Value) (hs : a.eval s = v) (hown : w.ownsRow base 9 1 v n xs) (A : Option Addr) (c : Nat) (l : List ByteArray) (hx : a.eval x = .slice A l.length c) (hr : SR w (.slice A l.length c) l)
    (hn : n + l.length ≤ 4398046511104) (hbase : base ≤ w.heap.size)
    (h : ∀ v' w', w'.ownsRow base 9 1 v' (n + l.length) (xs ++ l.map Value.string) → w.grownBy w' v.ownBlock → (v'.ownBlock = v.ownBlock ∨ v'.ownBlock = some w.heap.size) → wpList Try.prog ops Q rest (a.put o.dst v') w') : wpList Try.prog ops Q (o :: rest) a w := by
  obtain ⟨i9, hi9, hz9, hs9, hb9⟩ := info_parts info9
  cases A with
  | none =>
    have hl : l = [] := by
      obtain ⟨A', c', e, hc⟩ := hr
      rcases Nat.eq_zero_or_pos l.length with h0 | h0
      · exact List.eq_nil_of_length_eq_zero h0
      · obtain ⟨ad, e2, _⟩ := hc h0
        injection e with e3
        rw [e2] at e3
        cases e3
    subst hl
    refine wpList_plain hgd fun K hK => ?_
    have hrun := run_app_nil (P := Try.prog) base 30 o.type 9 i9 1 Try.underlying30 hi9 v n xs hown c
    unfold Oper.wp
    simp [execOp, ho, resolve, invoke, builtin, hs, hx, hrun, Result.andThen]
    exact hK _ _ (h _ _ (by simpa using hown) ⟨rfl, rfl, rfl, Nat.le_refl _, fun _ _ _ => rfl⟩ (.inl rfl))
  | some ad =>
    refine wpList_append_own_at _ hgd s x 30 ho base 9 i9 (.string ⟨#[]⟩) 1 16 Try.underlying30 hi9 hz9 hs9 hb9 rfl (by decide) v n xs hs hown ad l.length c (l.map Value.string) hx (by simp) ?_ (by simp [Value.oneCell']) (by unfold maxLen; omega) (by omega) hbase (fun v' w' h1 h2 _ h4 => h v' w' h1 h2 h4)
    intro j u hu
    obtain ⟨A', c', e, hc⟩ := hr
    have hj : j < l.length := by have := (List.getElem?_eq_some_iff.1 hu).1; simpa using this
    obtain ⟨ad', e2, _, hcell⟩ := hc (by omega)
    injection e with e3
    rw [e2] at e3
    injection e3 with e3
    subst e3
    rw [hcell j hj]
    simp [hj] at hu
    rw [hu]

theorem nums_len2 (L l : List ByteArray) : (numsL L l).length = l.length := by simp [numsL]
theorem nums_get2 (L l : List ByteArray) (j : Nat) (h : j < l.length) : (numsL L l)[j]'(by simpa [numsL] using h) = (numOf (bookL L l) l[j] : Int) := by simp [numsL]

/-- what stands at the head of each round -/
structure RI (n0 mb : Nat) (Lk : List ByteArray) (mv ov : Value) (nk : List Int) (w : World) : Prop where
  blk : w.heap[mb]? = some (.cells #[mv] 44 (0, 0))
  row : w.ownsRow n0 9 1 mv Lk.length (Lk.map Value.string)
  out : w.ownsRow n0 3 1 ov nk.length (nk.map (Value.int .i64))

theorem rows_ne {w : World} {b1 b2 e1 e2 n1 n2 : Nat} {v1 v2 : Value} {x1 x2 : List Value} (h1 : w.ownsRow b1 e1 1 v1 n1 x1) (h2 : w.ownsRow b2 e2 1 v2 n2 x2) (hne : e1 ≠ e2) : v1.ownBlock = none ∨ v1.ownBlock ≠ v2.ownBlock := by
  rcases h1.2 with ⟨rfl, _⟩ | ⟨g, cap, cur, rfl, _, hh, _⟩
  · exact .inl rfl
  · right
    intro e
    rcases h2.2 with ⟨rfl, _⟩ | ⟨g2, cap2, cur2, rfl, _, hh2, _⟩
    · simp [Value.ownBlock] at e
    · obtain rfl : g = g2 := by simpa [Value.ownBlock] using e
      rw [hh] at hh2
      simp at hh2
      exact hne hh2.2
theorem row_blk_ne {w : World} {b e n mb t : Nat} {v : Value} {x : List Value} {cs : Array Value} (h : w.ownsRow b e 1 v n x) (hb : w.heap[mb]? = some (.cells cs t (0, 0))) (hne : e ≠ t) : some mb ≠ v.ownBlock := by
  intro e0
  rcases h.2 with ⟨rfl, _⟩ | ⟨g, cap, cur, rfl, _, hh, _⟩
  · simp [Value.ownBlock] at e0
  · obtain rfl : mb = g := by simpa [Value.ownBlock] using e0
    rw [hb] at hh
    simp at hh
    exact hne hh.2.symm

theorem ri_out {n0 mb : Nat} {Lk : List ByteArray} {mv ov ov' : Value} {nk : List Int} {x : Int} {w wr w' : World} {o : Obj} (h : RI n0 mb Lk mv ov nk wr) (hb : Below n0 w wr) (hn : n0 ≤ wr.heap.size)
    (hown : w'.ownsRow n0 3 1 ov' (nk.length + 1) (nk.map (Value.int .i64) ++ [.int .i64 x])) (hg : (wr.alloc o).grownBy w' ov.ownBlock) : RI n0 mb Lk mv ov' (nk ++ [x]) w' ∧ Below n0 w w' := by
  have hlt := (Array.getElem?_eq_some_iff.1 h.blk).1
  refine ⟨⟨?_, ?_, ?_⟩, (hb.alloc hn o).grown hg (by simp; omega) fun g e => (h.out.lt g e).1⟩
  · exact ((hg.block mb (by simp; omega) (row_blk_ne h.out h.blk (by decide))).trans (Below.heap_alloc _ _ _ hlt)).trans h.blk
  · exact (h.row.alloc o).kept hg (rows_ne h.row h.out (by decide))
  · simpa using hown

theorem ri_row {n0 mb : Nat} {Lk : List ByteArray} {mv mv' ov : Value} {nk : List Int} {s : ByteArray} {w wr w' : World} {o : Obj} (h : RI n0 mb Lk mv ov nk wr) (hb : Below n0 w wr) (hn : n0 ≤ wr.heap.size) (hm : n0 ≤ mb)
    (hown : w'.ownsRow n0 9 1 mv' (Lk.length + 1) (Lk.map Value.string ++ [.string s])) (hg : (wr.alloc o).grownBy w' mv.ownBlock) : RI n0 mb (Lk ++ [s]) mv' ov nk (w'.setCell ⟨mb, 0, none⟩ mv') ∧ Below n0 w (w'.setCell ⟨mb, 0, none⟩ mv') := by
  have hlt := (Array.getElem?_eq_some_iff.1 h.blk).1
  have hb' : w'.heap[mb]? = some (.cells #[mv] 44 (0, 0)) := ((hg.block mb (by simp; omega) (row_blk_ne h.row h.blk (by decide))).trans (Below.heap_alloc _ _ _ hlt)).trans h.blk
  have hout : w'.ownsRow n0 3 1 ov nk.length (nk.map (Value.int .i64)) := (h.out.alloc o).kept hg (rows_ne h.out h.row (by decide))
  refine ⟨⟨?_, ?_, ?_⟩, ((hb.alloc hn o).grown hg (by simp; omega) fun g e => (h.row.lt g e).1).setCell (by simp; omega) _⟩
  · simp [World.setCell, Array.getElem?_modify, hb']
  · have := hown.kept (grown_set w' ⟨mb, 0, none⟩ mv') (.inr (Ne.symm (row_blk_ne hown hb' (by decide))))
    simpa using this
  · exact hout.kept (grown_set w' ⟨mb, 0, none⟩ mv') (.inr (Ne.symm (row_blk_ne hout hb' (by decide))))

/-- what the reference tells of texts that come -/
def ROfR (r : Nat) (L l : List ByteArray) (w : World) (e : Ending) (w' : World) : Prop :=
  (L.length + (fr L l).length ≤ 65536 ∧ ∃ ov sv, e = .returned (.tuple #[ov, .int .i64 0]) ∧ w'.ownsRow w.heap.size 3 1 ov l.length ((numsL L l).map (Value.int .i64)) ∧ RB w.heap.size w' r sv (bookL L l) ∧ Keep (fun k => k ≠ r) w w') ∨
  (65536 < L.length + (fr L l).length ∧ e = .returned (.tuple #[.slice none 0 0, .int .i64 3]) ∧ Below w.heap.size w w')

set_option maxHeartbeats 2000000 in
theorem rOf_any {n0 : Nat} {w : World} {r : Nat} {sv : Value} {L : List ByteArray} (h : RB n0 w r sv L) (v : Value) (l : List ByteArray) (hv : SR w v l) (hlen : L.length ≤ 65536) (hll : l.length ≤ 1000000) :
    Calls Try.prog 16 #[.pointer (some ⟨r, 0, none⟩), v] w (ROfR r L l w) := by
  obtain ⟨i9, hi9, hz9, hs9, hb9⟩ := info_parts info9
  obtain ⟨i3, hi3, hz3', hs3, hb3⟩ := info_parts info3
  obtain ⟨c0, f0⟩ := h.cells
  have HRB := Lib.hid h
  have HV := Lib.hid hv
  obtain ⟨A, c, rfl, hv2⟩ := hv
  have HVB := Lib.hid (fun ad (e : A = some ad) (h0 : 0 < l.length) => (show ad.block < w.heap.size by obtain ⟨ad2, e2, h2, _⟩ := hv2 h0; rw [e] at e2; injection e2 with e2; subst e2; exact h2))
  have hrl := h.lt
  have HR0 := Lib.hid h.row
  obtain ⟨A0, q0, rfl, _⟩ := h.sr
  have HS0 := Lib.hid h.sr
  clear hv2 h
  go_enter Try.func16, Try.ntmps16
  go_wp2_with (at_builtin; refine wpList_append_sr rfl _ _ rfl w.heap.size (.slice (some ⟨w.heap.size, 0, none⟩) 0 0) 0 [] rfl (World.ownsRow_made w #[] 0 (Nat.le_refl _) (by unfold maxLen; omega) rfl) A0 q0 L rfl (HS0.out.below ((Below.refl _ _).alloc (Nat.le_refl _) _)) (by omega) (by simp) ?_; intro mv w1 hown1 hgrow1 hloc1; obtain ⟨Am, cm, rfl⟩ := row_form2 hown1)
  have hB1 : Below w.heap.size w w1 := ((Below.refl _ w).alloc (Nat.le_refl _) _).grown hgrow1 (by simp) (fun k hk => by simp [Value.ownBlock] at hk; omega)
  have HB1 := Lib.hid hB1
  have HOWN1 := Lib.hid hown1
  have hz1 := hB1.size
  obtain ⟨mb, hmb⟩ : ∃ mb, w1.heap.size = mb := ⟨_, rfl⟩
  have HMB := Lib.hid hmb
  rw [hmb]
  rw [hmb] at hz1
  clear hgrow1 hloc1 hown1 hB1 hmb
  go_loopw [7, 8] (fun ov i wr => ∃ k : Nat, k ≤ l.length ∧ i = .int .i64 k ∧ ∃ mv, RI w.heap.size mb (L ++ fr L (l.take k)) mv ov ((numsL L l).take k) wr ∧ Below w.heap.size w wr) (fun _ i _ => l.length - (intOf i).toNat)
  case atStart =>
    refine ⟨0, Nat.zero_le _, rfl, .slice Am L.length cm, ⟨?_, ?_, World.ownsRow_nil _ _ _ _⟩, HB1.out.alloc (by rw [HMB.out]; exact hz1) _⟩
    · have := heap_alloc_new w1 (.cells #[.slice Am L.length cm] 44)
      rwa [HMB.out] at this
    · have := HOWN1.out.alloc (.cells #[.slice Am L.length cm] 44)
      simpa [fr] using this
  case round =>
    obtain ⟨k, hk, rfl, mv, hri, hbe⟩ := hrel
    have HRI := Lib.hid hri
    have HBE := Lib.hid hbe
    have hzr := hbe.size
    clear hri hbe
    by_cases hlt : k < l.length
    · obtain ⟨A', c', hA, hr3⟩ := HV.out.below HBE.out
      injection hA with hA1 hA2 hA3
      subst hA1
      subst hA3
      obtain ⟨ad, hadE, hg3, hc3⟩ := hr3 (by omega)
      have hadw := HVB.out ad hadE (by omega)
      subst hadE
      have hck := hc3 k hlt
      have HTH := Lib.hid (num_then L l k hlt)
      have hkn : k < (numsL L l).length := by rw [nums_len2]; exact hlt
      have HTN := Lib.hid (List.take_succ_eq_append_getElem hkn)
      have HNG := Lib.hid (nums_get2 L l k hlt)
      have hlb : (L ++ fr L (l.take k)).length ≤ 200000 + 1000000 := by rw [List.length_append]; have := fr_length L (l.take k); rw [List.length_take] at this; omega
      obtain ⟨s, hs⟩ : ∃ s, l[k] = s := ⟨_, rfl⟩
      rw [hs] at hck HTH HNG
      obtain ⟨Lk, hLk⟩ : ∃ Lk, L ++ fr L (l.take k) = Lk := ⟨_, rfl⟩
      rw [hLk] at HTH HRI hlb
      have hrb : RB w.heap.size wr mb mv Lk := ⟨HRI.out.blk, HRI.out.row⟩
      obtain ⟨cm0, fm0⟩ := hrb.cells
      obtain ⟨Av, cv, rfl⟩ := row_form2 HRI.out.row
      have HRB2 := Lib.hid hrb
      clear hc3 hr3 hs hLk hrb
      by_cases hin : s ∈ Lk
      · have HIN := Lib.hid hin
        clear hin
        go_wp2_with fail
        refine (rFind_any HRB2.out s (by omega)).mono ?_
        rintro e w' ⟨rfl, rfl⟩
        rw [decide_eq_true HIN.out]
        obtain ⟨y, hy⟩ : ∃ y : Int, (numOf Lk s : Int) = y := ⟨_, rfl⟩
        have HY := Lib.hid hy
        rw [hy]
        clear hy
        go_wp2_with (at_builtin; refine wpList_append_own_at _ rfl _ _ 32 rfl w.heap.size 3 i3 (.int .i64 0) 1 8 Try.underlying32 hi3 hz3' hs3 hb3 rfl (by decide) _ _ _ rfl (HRI.out.out.alloc _) ⟨wr.heap.size, 0, none⟩ 1 1 [.int .i64 y] rfl rfl (cell_one_new _ _ _) (by simp [Value.oneCell']) (by rw [List.length_take]; unfold maxLen; omega) (by rw [List.length_take]; omega) (by simp; omega) ?_; intro ov' w2 hown' hgrow hnil hloc)
        have hfin := ri_out HRI.out HBE.out hzr hown' hgrow
        go_roundw
        case rel =>
          refine ⟨k + 1, by omega, by go_num, .slice Av Lk.length cv, ?_, hfin.2⟩
          rw [HTH.out.2, if_pos HIN.out, HTN.out, HNG.out, HTH.out.1, if_pos HIN.out, HY.out]
          exact hfin.1
        case measure => simp [intOf]; omega
      · have HIN := Lib.hid hin
        have hmbz := HRB2.out.lt
        have hk1 : (k : Int) < (l.length : Int) := by omega
        have hk0 : (0 : Int) ≤ (k : Int) := by omega
        have hmne := Lib.hid (row_blk_ne HRI.out.row HRI.out.blk (by decide))
        have htne : some (ad.add k).block ≠ (Value.slice Av Lk.length cv).ownBlock := by
          rw [block_add]
          intro e
          have := (HRI.out.row.lt _ e.symm).1
          omega
        have HTNE := Lib.hid htne
        clear hin htne
        go_wp2_with fail
        refine (rFind_any HRB2.out s (by omega)).mono ?_
        rintro e w' ⟨rfl, rfl⟩
        rw [decide_eq_false HIN.out]
        go_wp2_with fail
        have hrow9 := HRI.out.row
        have HROW9 := Lib.hid hrow9
        clear hrow9
        have hadwr : ad.block < wr.heap.size := by omega
        have hfr1 : ∀ o, (wr.alloc o).drew.frozen? ⟨mb, 0, none⟩ = false := fun o => (World.frozen?_alloc_past o _ _ hmbz).trans fm0
        have hcl1 : ∀ o, (wr.alloc o).drew.cell? ⟨mb, 0, none⟩ = some (.slice Av Lk.length cv) := fun o => (World.cell?_alloc_lt _ _ _ hmbz).trans cm0
        have hct1 : ∀ o, (wr.alloc o).drew.cell? (ad.add k) = some (.string s) := fun o => (World.cell?_alloc_lt _ _ _ (by rw [block_add]; exact hadwr)).trans hck
        have HFR1 := Lib.hid hfr1
        have HCL1 := Lib.hid hcl1
        have HCT1 := Lib.hid hct1
        clear hfr1 hcl1 hct1
        go_region_law ((refine step_append_lies _ rfl (.tmp 45) (.tmp 50) 30 rfl w.heap.size 9 i9 _ 1 16 Try.underlying30 hi9 hz9 hs9 hb9 rfl (by omega) (.slice Av Lk.length cv) Lk.length (Lk.map Value.string) (by simp [Act.eval, Act.put]) ((HROW9.out.alloc _).drew) ⟨wr.heap.size, 0, none⟩ 1 1 [.string s] (by simp [Act.eval, Act.put]) (by rfl) (World.news_of_block (cs := #[.string s]) (t := 9) (fr := (0, 0)) (heap_alloc_new wr _)) (by simp [Value.oneCell']) (by omega) (by unfold maxLen; omega) (by omega) (by simp; omega) (wr.heap.size + 1) (by simp) ?_; intro gg cap w2 hown2 hgrow hat hlt2; have hc2 := (hgrow.cell_far ⟨mb, 0, none⟩ (by simp; omega) hmne.out).trans (HCL1.out _); have hf2 := (hgrow.frozen_far ⟨mb, 0, none⟩ (by simp; omega) hmne.out).trans (HFR1.out _)))
        all_goals
          have hR := ri_row HRI.out HBE.out hzr hz1 hown2 (undrew hgrow)
          generalize w2.setCell ⟨mb, 0, none⟩ (.slice (some ⟨gg, 0, none⟩) (Lk.length + 1) cap) = w3 at hR ⊢
          have HR3 := Lib.hid hR.1
          have HB3 := Lib.hid hR.2
          have hz3 := hR.2.size
          clear hR hc2 hf2 hown2 hgrow hat hlt2
          go_wp2_with (at_builtin; refine wpList_append_own_at _ rfl _ _ 32 rfl w.heap.size 3 i3 (.int .i64 0) 1 8 Try.underlying32 hi3 hz3' hs3 hb3 rfl (by decide) _ _ _ rfl (HR3.out.out.alloc _) ⟨w3.heap.size, 0, none⟩ 1 1 [.int .i64 (Lk.length : Int)] rfl rfl (cell_one_new _ _ _) (by simp [Value.oneCell']) (by rw [List.length_take]; unfold maxLen; omega) (by rw [List.length_take]; omega) (by simp; omega) ?_; intro ov' w4 hown' hgrow' hnil hloc)
          have hfin := ri_out HR3.out HB3.out hz3 hown' hgrow'
          go_roundw
          case rel =>
            refine ⟨k + 1, by omega, by go_num, .slice (some ⟨gg, 0, none⟩) (Lk.length + 1) cap, ?_, hfin.2⟩
            rw [HTH.out.2, if_neg HIN.out, HTN.out, HNG.out, HTH.out.1, if_neg HIN.out]
            exact hfin.1
          case measure => simp [intOf]; omega
    · obtain rfl : k = l.length := by omega
      have hri := HRI.out
      rw [List.take_of_length_le (Nat.le_refl _), List.take_of_length_le (by rw [nums_len2]; exact Nat.le_refl _)] at hri
      have HF := Lib.hid hri
      have hrb : RB w.heap.size wr mb mv (L ++ fr L l) := ⟨hri.blk, hri.row⟩
      obtain ⟨cm0, fm0⟩ := hrb.cells
      obtain ⟨Av, cv, rfl⟩ := row_form2 hri.row
      have cr0 := (HBE.out.cell (p := ⟨r, 0, none⟩) hrl).trans c0
      have fr0 := (HBE.out.frozen (p := ⟨r, 0, none⟩) hrl).trans f0
      have hLL : (L ++ fr L l).length = L.length + (fr L l).length := List.length_append
      obtain ⟨q, hq⟩ : ∃ q, (L ++ fr L l).length = q := ⟨_, rfl⟩
      rw [hq] at cm0 hLL
      have HQ := Lib.hid hq
      clear hri hrb hq
      by_cases hfit : q ≤ 65536
      · have hfi : (q : Int) ≤ 65536 := by omega
        have HLL := Lib.hid hLL
        clear hLL
        go_wp2_with fail
        go_ret2
        refine .inl ⟨by have := HLL.out; omega, _, .slice Av q cv, rfl, ?_, ⟨?_, ?_⟩, ?_⟩
        · have h1 := ownsRow_setCell_below HF.out.out (a := ⟨r, 0, none⟩) (by simp; exact hrl) (.slice Av q cv)
          rw [nums_len2] at h1
          exact h1
        · have h0 := (HBE.out.block r hrl).trans HRB.out.blk
          simp [World.setCell, Array.getElem?_modify, h0]
        · have h1 := ownsRow_setCell_below HF.out.row (a := ⟨r, 0, none⟩) (by simp; exact hrl) (.slice Av q cv)
          rw [HQ.out] at h1
          unfold bookL
          rw [HQ.out]
          exact h1
        · exact (Keep.of_below HBE.out).setCell _ _ fun k hk hp => hp
      · have hfi : (65536 : Int) < q := by omega
        have HLL := Lib.hid hLL
        clear hfit hLL
        go_wp2_with fail
        go_ret2
        exact .inr ⟨by have := HLL.out; omega, rfl, HBE.out⟩

/-- the reference's answer where there is room -/
theorem rOf_yes {n0 : Nat} {w : World} {r : Nat} {sv : Value} {L : List ByteArray} (h : RB n0 w r sv L) (v : Value) (l : List ByteArray) (hv : SR w v l) (hll : l.length ≤ 1000000) (hfit : L.length + (fr L l).length ≤ 65536) :
    Calls Try.prog 16 #[.pointer (some ⟨r, 0, none⟩), v] w fun e w' => ∃ ov sv, e = .returned (.tuple #[ov, .int .i64 0]) ∧ w'.ownsRow w.heap.size 3 1 ov l.length ((numsL L l).map (Value.int .i64)) ∧ RB w.heap.size w' r sv (bookL L l) ∧ Keep (fun k => k ≠ r) w w' := by
  refine (rOf_any h v l hv (by omega) hll).mono ?_
  rintro e w' (⟨_, h⟩ | ⟨hc, _⟩)
  · exact h
  · omega
end Go.Proofs.Ytepelfigcoohiaa
