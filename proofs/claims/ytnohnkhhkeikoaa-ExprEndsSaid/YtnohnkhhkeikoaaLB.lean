/- Labels: the labels of an expression, sorted, each once. -/
import Derived.Test.YtnohnkhhkeikoaaLA
import Derived.Test.YtnohnkhhkeikoaaP
namespace Go.Proofs.Ytnohnkhhkeikoaa
open Go.ChangeShapes Go.WideShapes Go.ChangeAt Go.RowKit Go.Sort
set_option linter.unusedVariables false
set_option linter.unusedSimpArgs false

attribute [local go_sem] Oper.semAt_some

def strs (l : List By) : List Value := l.map encStr
theorem strs_bys (l : List ByteArray) : strs (bys l) = l.map Value.string := by
  unfold strs bys
  rw [List.map_map]
  refine List.map_congr_left fun s _ => ?_
  show Value.string ⟨s.data.toList.toArray⟩ = _
  exact congrArg Value.string (ByteArray.ext (by simp))
theorem strs_unby (l : List By) : (l.map unby).map Value.string = strs l := by
  unfold strs unby
  rw [List.map_map]
  rfl
theorem take_put {cur : Array Value} (l : List By) {m : Nat} (hm : m = l.length) (h : l.length ≤ cur.size) : (putCells encStr 0 l.toArray cur).toList.take m = strs l := by
  subst hm
  apply List.ext_getElem?
  intro j
  by_cases hj : j < l.length
  · rw [List.getElem?_take_of_lt hj, Array.getElem?_toList]
    simp [putCells, hj, show j < cur.size by omega, strs]
  · rw [List.getElem?_take_eq_none (by omega), List.getElem?_eq_none (by simp [strs]; omega)]
theorem take_pre {l : List Value} {m n : Nat} {k : List Value} (h : l.take n = k) (hm : m ≤ n) : l.take m = k.take m := by
  rw [← h, List.take_take, Nat.min_eq_left hm]
theorem own_holds {w : World} {g n cap : Nat} {cur : Array Value} {l : List By} (hb : w.heap[g]? = some (.cells cur 9 (0, 0))) (hn : n = l.length) (ht : cur.toList.take (n * 1) = strs l) : Holds encStr w g 0 l.toArray := by
  intro j hj
  have hj' : j < l.length := by simpa using hj
  refine ⟨?_, by simp [World.frozen?, hb]⟩
  have h1 : (cur.toList.take (n * 1))[j]? = (strs l)[j]? := by rw [ht]
  rw [List.getElem?_take_of_lt (by omega)] at h1
  simp only [World.cell?, hb, Nat.zero_add]
  simp only [Option.isSome_none, Bool.false_eq_true, if_false]
  rw [← Array.getElem?_toList, h1]
  simp [strs, hj']
theorem heap_put {w : World} {g n : Nat} {os : Array Obj} {cur : Array Value} {e : TypeId} {fr : Nat × Nat} (d : Array By) (hb : w.heap[g]? = some (.cells cur e fr)) :
    (grow (putRow encStr (Sort.ahead w n) g 0 d) os).heap[g]? = some (.cells (putCells encStr 0 d cur) e fr) := by
  have hg : g < w.heap.size := (Array.getElem?_eq_some_iff.1 hb).1
  rw [heap_grow_old _ _ (by simpa [putRow, mapBlock, Sort.ahead] using hg)]
  simp [putRow, mapBlock, Sort.ahead, Array.getElem?_modify, hb, onCells]
theorem below_put {w : World} {base g n : Nat} {os : Array Obj} (d : Array By) (hg : base ≤ g) (hbs : base ≤ w.heap.size) : Below base w (grow (putRow encStr (Sort.ahead w n) g 0 d) os) := by
  refine ⟨rfl, rfl, rfl, by simp [grow, putRow, mapBlock, Sort.ahead], fun k hk => ?_⟩
  rw [heap_grow_old _ _ (by simp [putRow, mapBlock, Sort.ahead]; omega)]
  have : g ≠ k := by omega
  simp [putRow, mapBlock, Sort.ahead, Array.getElem?_modify, this]

/-- what is no row of texts lies as it lay -/
def Kp9 (w w' : World) : Prop := ∀ (k : Nat) (o : Obj), w.heap[k]? = some o → (∀ cur fr, o ≠ .cells cur 9 fr) → w'.heap[k]? = some o
theorem Kp9.put {w : World} {g n : Nat} {os : Array Obj} {cur : Array Value} (d : Array By) (hb : w.heap[g]? = some (.cells cur 9 (0, 0))) : Kp9 w (grow (putRow encStr (Sort.ahead w n) g 0 d) os) := by
  intro k o hk ho
  have hne : g ≠ k := fun e => by
    subst e
    rw [hb] at hk
    injection hk with hk
    exact ho _ _ hk.symm
  have hlt := (Array.getElem?_eq_some_iff.1 hk).1
  rw [heap_grow_old _ _ (by simpa [putRow, mapBlock, Sort.ahead] using hlt)]
  simp only [putRow, mapBlock, Sort.ahead, Array.getElem?_modify, hne, if_false]
  exact hk
theorem Kp9.boxed {w w' : World} (h : Kp9 w w') {B : Nat} {t : TypeId} {u : Value} (ht : t ≠ 9) (hb : Boxed w B t u) : Boxed w' B t u := h B _ hb (fun cur fr e => by injection e with _ e _; exact ht e)
/-- Sort at a row of its own -/
theorem sort_own {w : World} {base : Nat} {v : Value} {l : List By} (h : w.ownsRow base 9 1 v l.length (strs l)) (hl : l.length ≤ 1000000) (hbs : base ≤ w.heap.size) :
    Calls Try.prog 35 #[v] w fun e w' => e = .returned (.tuple #[]) ∧ w'.ownsRow base 9 1 v l.length (strs (l.mergeSort leB)) ∧ Below base w w' ∧ Kp9 w w' := by
  rcases h.2 with ⟨rfl, h0⟩ | ⟨g, cap, cur, rfl, hb, hg, h1, h2, h3, h4⟩
  · have e0 : l = [] := List.eq_nil_of_length_eq_zero h0
    subst e0
    exact (Try.slices_Sort_string_none none 0 w).mono fun e w' ⟨he, hw⟩ => ⟨he, by rw [hw, List.mergeSort_nil]; exact h, by rw [hw]; exact Below.refl _ _, fun k o hk _ => by rw [hw]; exact hk⟩
  · have hH : Holds encStr w g 0 l.toArray := own_holds (cap := cap) hg rfl h4
    refine (Try.slices_Sort_string g 0 cap l w hH (Array.getElem?_eq_some_iff.1 hg).1 (by omega)).mono ?_
    rintro e w' ⟨rfl, n', os, rfl⟩
    refine ⟨rfl, ⟨by simp [strs], .inr ⟨g, cap, _, rfl, hb, heap_put _ hg, h1, h2, by simp [putCells, h3], ?_⟩⟩, below_put _ hb hbs, Kp9.put _ hg⟩
    exact take_put (l.mergeSort leB) (by simp) (by simp; omega)
/-- Compact at a row of its own -/
theorem compact_own {w : World} {base : Nat} {v : Value} {l : List By} (h : w.ownsRow base 9 1 v l.length (strs l)) (hl : l.length ≤ 1000000) (hbs : base ≤ w.heap.size) :
    Calls Try.prog 36 #[v] w fun e w' => ∃ v', e = .returned v' ∧ w'.ownsRow base 9 1 v' (Lib.compact l).length (strs (Lib.compact l)) ∧ Below base w w' ∧ Kp9 w w' := by
  rcases h.2 with ⟨rfl, h0⟩ | ⟨g, cap, cur, rfl, hb, hg, h1, h2, h3, h4⟩
  · have e0 : l = [] := List.eq_nil_of_length_eq_zero h0
    subst e0
    exact (Try.slices_Compact_string_empty none 0 w).mono fun e w' ⟨he, hw⟩ => ⟨_, he, by rw [hw]; exact h, by rw [hw]; exact Below.refl _ _, fun k o hk _ => by rw [hw]; exact hk⟩
  · have hH : Holds encStr w g 0 l.toArray := own_holds (cap := cap) hg rfl h4
    refine (Try.slices_Compact_string g 0 cap l w hH (by omega) h1).mono ?_
    rintro e w' ⟨rfl, q, rfl⟩
    have hcl := Lib.compact_length_le l
    have hlen : (Lib.compact l ++ List.replicate (l.length - (Lib.compact l).length) ([] : By)).length = l.length := by simp; omega
    have hp := heap_put (n := q) (os := #[]) (Lib.compact l ++ List.replicate (l.length - (Lib.compact l).length) ([] : By)).toArray hg
    rw [grow_empty] at hp
    have hbl := below_put (n := q) (os := #[]) (Lib.compact l ++ List.replicate (l.length - (Lib.compact l).length) ([] : By)).toArray hb hbs
    rw [grow_empty] at hbl
    have hkp := Kp9.put (n := q) (os := #[]) (Lib.compact l ++ List.replicate (l.length - (Lib.compact l).length) ([] : By)).toArray hg
    rw [grow_empty] at hkp
    refine ⟨_, rfl, ⟨by simp [strs], .inr ⟨g, cap, _, rfl, hb, hp, by omega, h2, by simp [putCells, h3], ?_⟩⟩, hbl, hkp⟩
    have ht := take_put (cur := cur) (Lib.compact l ++ List.replicate (l.length - (Lib.compact l).length) ([] : By)) (m := l.length) hlen.symm (by rw [hlen]; omega)
    rw [take_pre ht (by omega), Nat.mul_one]
    unfold strs
    rw [List.map_append, List.take_left' (by simp)]

/-- a label more, and the box that holds the row -/
theorem lab_fin {w W w2 : World} {N Bo B m : Nat} {v v' : Value} {tmp : Obj} {xs ys : List Value} (hb1 : Boxed W Bo 26 v) (hrow : W.ownsRow w.heap.size 9 1 v m xs) (hN : N ≤ w.heap.size) (hBo : w.heap.size ≤ Bo) (hb3 : Below w.heap.size w W)
    (hown : w2.ownsRow w.heap.size 9 1 v' (m + 1) ys) (hgrow : (W.alloc tmp).grownBy w2 v.ownBlock) :
    Boxed w2 Bo 26 v ∧ (KeepsFrom B W (w2.setCell ⟨Bo, 0, none⟩ v') ∧ KpX N W (w2.setCell ⟨Bo, 0, none⟩ v') ∧ Boxed (w2.setCell ⟨Bo, 0, none⟩ v') Bo 26 v' ∧ (w2.setCell ⟨Bo, 0, none⟩ v').ownsRow w.heap.size 9 1 v' (m + 1) ys ∧ Below w.heap.size w (w2.setCell ⟨Bo, 0, none⟩ v')) := by
  have hb9 : Below W.heap.size W (W.alloc tmp) := (Below.refl _ W).alloc (Nat.le_refl _) tmp
  have hrow9 := hrow.alloc tmp
  have hbx9 : Boxed (W.alloc tmp) Bo 26 v := hb1.alloc tmp
  have hbx11 : Boxed w2 Bo 26 v := hbx9.kept hgrow (hbx9.not_row (by decide) hrow9)
  have hlow : ∀ j, v.ownBlock = some j → w.heap.size ≤ j := fun j e => (hrow9.lt j e).1
  have hkf11 : KeepsOthers (W.alloc tmp) w2 := KeepsOthers.of_grownBy hgrow fun j o ej hj => by
    rcases hrow9.2 with ⟨he, _⟩ | ⟨g, cap, cur, he, _, hgg, _⟩
    · subst he; cases ej
    · subst he
      obtain rfl : g = j := by simpa [Value.ownBlock] using ej
      rw [hgg] at hj; cases hj; rfl
  have hkp11 : KpX N (W.alloc tmp) w2 := by
    refine ⟨hgrow.size, fun k hk => hgrow.block k (by have := hb9.size; have := hb3.size; omega) (fun e => by have := hlow k e.symm; omega), fun k u t fr hk ht => ?_⟩
    refine (hgrow.block k (Array.getElem?_eq_some_iff.1 hk).1 fun e => ?_).trans hk
    rcases hrow9.2 with ⟨he, _⟩ | ⟨g, cap, cur, he, _, hgg, _⟩
    · subst he; cases e
    · subst he
      injection e with e
      rw [e] at hk
      rw [hk] at hgg
      injection hgg with hgg
      injection hgg with _ hgg _
      subst hgg
      cases ht
  have hbl9 : Below w.heap.size w (W.alloc tmp) := hb3.trans (hb9.mono hb3.size)
  have hbl11 : Below w.heap.size w w2 := hbl9.grown hgrow hbl9.size hlow
  refine ⟨hbx11, (((below_others hb9).from _).trans (hkf11.from _)).trans ((KeepsOthers.setCell _ _ _).from _), ((KpX.of_below hb9 (by have := hb3.size; omega)).trans hkp11).trans (kpx_set hbx11 rfl (by omega) _), hbx11.set v', ?_, hbl11.setCell hBo _⟩
  exact ownsRow_setCell_other hown (a := ⟨Bo, 0, none⟩) (fun e => hbx11.not_row (by decide) hown e.symm) v'
theorem parts9 : (Try.prog.info? 9).map (fun i => (i.zero, i.size, i.bytes)) = some (some (.string ⟨#[]⟩), 1, 16) := by kernel_rfl

set_option maxRecDepth 100000 in
set_option maxHeartbeats 8000000 in
theorem labels11_any {N : Nat} {w : World} {v : Value} {x : X} (hx : XV N w v x) (hN : N ≤ w.heap.size) (hsz : x.sz ≤ 100000) (hl : x.lit) :
    Calls Try.prog 11 #[v] w fun e w' => ∃ v', e = .returned v' ∧ w'.ownsRow w.heap.size 9 1 v' x.labs.length (x.labs.map Value.string) ∧ Below w.heap.size w w' := by
  have hR : ∀ w', Below w.heap.size w w' → Calls Try.prog 12 #[v] w' fun e w1 => e = .returned (.bool x.right) ∧ Below w'.heap.size w' w1 := fun w' hb => right12_any (hx.bel (hb.mono hN)) (Nat.le_trans hN hb.size) hsz hl
  obtain ⟨a, rfl, rfl, ha⟩ := hx.tree
  obtain ⟨A, c, hk, hv⟩ := ha.cells
  rw [hv] at hR ⊢
  have HA := Lib.hid (And.intro ha (And.intro hN hk))
  have HR := Lib.hid hR
  clear ha hk hv hx hR
  cases hrt : a.x.right with
  | false =>
    have HL := Lib.hid (labs_wrong hrt)
    rw [hrt] at HR
    clear hrt
    go_enter Try.func11, Try.ntmps11
    have hb0 : Below w.heap.size w (w.alloc (.cells #[.int .i64 a.kind, .string a.lab, .slice A a.kids.length c] 25)) := (Below.refl _ w).alloc (Nat.le_refl _) _
    have HB0 := Lib.hid hb0
    clear hb0
    go_wp2_with (go_at_call 12; refine (HR.out _ HB0.out).mono ?_; rintro e w1 ⟨rfl, hb1⟩; have HB1 := Lib.hid (HB0.out.trans (hb1.mono HB0.out.size)); clear hb1)
    go_ret
    exact ⟨_, rfl, by rw [HL.out]; exact ⟨rfl, .inl ⟨rfl, rfl⟩⟩, HB1.out⟩
  | true =>
    have HRT := Lib.hid hrt
    have h24 := (right_good hrt).2
    rw [hrt] at HR
    clear hrt
    have hb0 : Below w.heap.size w (w.alloc (.cells #[.int .i64 a.kind, .string a.lab, .slice A a.kids.length c] 25)) := (Below.refl _ w).alloc (Nat.le_refl _) _
    have HB0 := Lib.hid hb0
    clear hb0
    refine (callsIn_wide (n := 12)).1 ?_
    refine callsIn_of_wp_marks Try.func11 rfl trivial ?_ rfl
    simp only [Try.ntmps11, List.size_toArray, List.length_cons, List.length_nil, Nat.reduceAdd, Nat.reduceSub, Array.replicate_succ, Array.replicate_zero, List.push_toArray, List.append_toArray, List.nil_append, List.cons_append]
    refine wpIn_wide.2 ?_
    go_upto_region 4 with (go_at_call 12; refine (HR.out _ HB0.out).mono ?_; rintro e wr ⟨rfl, hb1⟩; obtain ⟨d0, d1, d2⟩ := box_cells (w := w) (W := wr) (by simpa using hb1); have HBR := Lib.hid hb1; clear hb1)
    obtain ⟨W2, hW2⟩ : ∃ W2, wr.alloc (.cells #[.slice none 0 0] 26) = W2 := ⟨_, rfl⟩
    obtain ⟨Bo, hBo⟩ : ∃ Bo, wr.heap.size = Bo := ⟨_, rfl⟩
    have hsr : w.heap.size + 1 ≤ Bo := by rw [← hBo]; have := HBR.out.size; simpa using this
    have hbr : Below w.heap.size w wr := HB0.out.trans (HBR.out.mono (by simp))
    have hb2 : Below w.heap.size w W2 := by rw [← hW2]; exact hbr.alloc hbr.size _
    have hz2 : W2.heap.size = Bo + 1 := by rw [← hW2, ← hBo]; simp
    have hbo : Boxed W2 Bo 26 (.slice none 0 0) := by
      unfold Boxed
      rw [← hW2, ← hBo]
      exact World.alloc_heap_new wr _
    obtain ⟨d0, d1, d2⟩ : W2.cell? ⟨w.heap.size, 0, none⟩ = some (.int .i64 a.kind) ∧ W2.cell? ⟨w.heap.size, 1, none⟩ = some (.string a.lab) ∧ W2.cell? ⟨w.heap.size, 2, none⟩ = some (.slice A a.kids.length c) := by
      rw [← hW2]
      refine ⟨?_, ?_, ?_⟩ <;> rw [World.cell?_alloc_some _ _ _ (by simp only [d0, d1, d2]; rfl)] <;> assumption
    try rw [hW2]
    try rw [hBo]
    clear hW2 hBo hbr HBR HR HB0
    go_wp2_with (go_at_call 34; refine (partsOf_any (a := a) HA.out.2.2 _).mono ?_; rintro e w1 ⟨rfl, hx1, hbw⟩)
    have hwB : w.heap.size ≤ W2.heap.size := by omega
    have hb1 : Below w.heap.size w w1 := hb2.trans (hbw.mono hwB)
    have hbk : Boxed w1 Bo 26 (.slice none 0 0) := (hbw.block Bo (by omega)).trans hbo
    have hNw : N ≤ w1.heap.size := Nat.le_trans hN hb1.size
    have hz1 : Bo + 2 ≤ w1.heap.size := by have := hx1.lt; omega
    have hseq := parts_seq 11 (by decide) hx1 (HA.out.1.bel (hb1.mono HA.out.2.1)) hNw (by omega)
    rw [hz2] at hseq
    have HSEQ := Lib.hid hseq
    have HB1 := Lib.hid hb1
    have HBX := Lib.hid hbk
    have HPO := Lib.hid (parts_ok HA.out.1)
    have HPL := Lib.hid (partsT_x a)
    have hpl : (partsT a).length ≤ 24 := by rw [partsT_len]; exact h24
    clear hbw hb1 hbk hseq hx1 hb2 hbo d0 d1 d2
    refine wpIn_wide.1 (?_ : Code.wpIn Fence.wide 12 Try.prog _ _ _ _)
    refine wpIn_rangeFunc_X rfl (by omega) (gf := 48) (lb := #[.pointer (some ⟨Bo + 1, 0, none⟩)]) rfl trivial (enters_of Try.func48 (by kernel_rfl) rfl)
      HSEQ.out KpX.trans (fun W' l' o o' hlw hl' ho _ => KpX.putObj W' l' o o' (by omega) hl' ho) (Below.refl _ _) (fun _ => rfl)
      (fun pre W' => (∃ v, Boxed W' Bo 26 v ∧ W'.ownsRow w.heap.size 9 1 v (labR (pre.map T.x)).length ((labR (pre.map T.x)).map Value.string)) ∧ Below w.heap.size w W')
      (fun _ _ _ => False)
      (OwnQ.and (fun s X Y ⟨v, h1, h2⟩ hr => ⟨v, hr.cells h1 (by decide), hr.row h2 (by decide)⟩) (ownQ_below (Nat.le_refl _) (by omega))) (fun c s X Y h => h.elim)
      ⟨⟨_, HBX.out, by simp [labR], .inl ⟨rfl, rfl⟩⟩, HB1.out⟩
      (fun p a' W' => ∃ A4, a' = { tmps := #[.agg #[.int .i64 a.kind, .string a.lab, .slice A a.kids.length c], .pointer (some ⟨w.heap.size, 0, none⟩), .slice none 0 0, .pointer (some ⟨Bo, 0, none⟩), .pointer (some ⟨A4, 0, none⟩), .agg #[.int .i64 a.kind, .string a.lab, .slice A a.kids.length c], .bool true, .bool false, .agg #[.int .i64 a.kind, .string a.lab, .slice A a.kids.length c], .func (.func 48) #[] #[.pointer (some ⟨Bo + 1, 0, none⟩)], p.v, undef, undef, undef, undef, undef, undef, undef, undef, undef, undef, undef, undef], defers := [] } ∧ BoxT W' A4 p)
      ?hA ?assign ?body ?done (fun _ _ _ _ _ _ h _ => h.elim)
    case hA =>
      rintro p a' _ X Y ⟨A4, rfl, hc⟩ hr
      exact ⟨A4, rfl, hr.cells hc (by decide)⟩
    case assign =>
      intro l1 pre p W' K hI hpx hK
      obtain ⟨A4, c4, hk, hv⟩ := (HPO.out p (hpx.subset (by simp))).cells
      have HK := Lib.hid hK
      have HI' := Lib.hid hI
      have HKV := Lib.hid (And.intro hk hv)
      unfold encP
      rw [hv]
      clear hK hI hk hv
      gi_wp2
      have hbw : Below W'.heap.size W' (W'.alloc (.cells #[.int .i64 p.kind, .string p.lab, .slice A4 p.kids.length c4] 25)) := (Below.refl _ W').alloc (Nat.le_refl _) _
      obtain ⟨⟨v, hb1, hb2⟩, hb3⟩ := HI'.out
      refine HK.out _ _ ((below_others hbw).from _) (KpX.of_below hbw (by have := hb3.size; omega)) ⟨⟨v, hb1.alloc _, hb2.alloc _⟩, hb3.alloc hb3.size _⟩ ⟨W'.heap.size, ?_, ?_⟩
      · simp only [HKV.out.2]
      · unfold BoxT
        rw [HKV.out.1]
        exact World.alloc_heap_new W' _
    case body =>
      rintro l1 pre p a' W hwl hloop hpx ⟨⟨v, hb1, hrow⟩, hb3⟩ ⟨A4, rfl, hc⟩
      obtain ⟨i0, hi, hy0, hy1, hy2⟩ := info_parts parts9
      have hpN := HPO.out p (hpx.subset (by simp))
      obtain ⟨A7, c7, hk, hv⟩ := hpN.cells
      obtain ⟨Ar, qr, rfl⟩ := row_form hrow
      obtain ⟨s0, s1, s2⟩ := hc.cells hk
      have hlen : (labR (pre.map T.x)).length < 24 := by
        have h1 := hpx.length_le
        have h2 := labR_len (pre.map T.x)
        simp at h1 h2
        omega
      have hWN : N ≤ W.heap.size := Nat.le_trans HA.out.2.1 hb3.size
      have hsn : labR ((pre ++ [p]).map T.x) = labR (pre.map T.x) ++ (if p.kind = 1 then [p.lab] else []) := by
        rw [List.map_append, List.map_singleton, labR_snoc, T.x_kind, T.x_lab]
      have cB := hb1.cell
      have fB := hb1.frozen
      have hwW := hb3.size
      have HI1 := Lib.hid (And.intro (And.intro hb1 hrow) hb3)
      have HC := Lib.hid hc
      by_cases hk1 : p.kind = 1
      · rw [if_pos hk1] at hsn
        rw [hk1] at s0
        have HSN := Lib.hid hsn
        clear hsn hb1 hrow hb3 hc
        obtain ⟨m, hm⟩ : ∃ m, (labR (pre.map T.x)).length = m := ⟨_, rfl⟩
        have HM := Lib.hid hm
        have hr1 := HI1.out.1.2
        rw [hm] at hlen cB hr1
        have HRW := Lib.hid hr1
        clear hm hr1
        gi_wp2_with (gi_at_builtin; go_loud (refine wpListIn_append_own _ rfl _ _ 26 rfl w.heap.size 9 i0 (.string ⟨#[]⟩) 1 16 Try.underlying26 hi hy0 hy1 hy2 rfl (by decide) _ _ _ rfl (HRW.out.alloc _) ⟨W.heap.size, 0, none⟩ 1 1 [.string p.lab] rfl rfl (cell_one_new _ _ _) (by simp [Value.oneCell']) (by unfold maxLen; omega) (by omega) (by simp; omega) ?_); intro v' w2 hown' hgrow _; obtain ⟨A', q', rfl⟩ := row_form hown'; obtain ⟨hb2, hfin⟩ := lab_fin (B := w1.heap.size) (by have := HI1.out.1.1; rw [HM.out] at this; exact this) HRW.out (Nat.le_trans HA.out.2.1 (Nat.le_refl _)) (by omega) HI1.out.2 hown' hgrow; have c2 := hb2.cell; have f2 := hb2.frozen; have HFIN := Lib.hid hfin; clear hown' hgrow hfin hb2)
        refine ⟨HFIN.out.1, HFIN.out.2.1, ⟨⟨_, HFIN.out.2.2.1, ?_⟩, HFIN.out.2.2.2.2⟩⟩
        have h1 := HFIN.out.2.2.2.1
        rw [HSN.out]
        simpa [HM.out] using h1
      · rw [if_neg hk1] at hsn
        have HSN := Lib.hid hsn
        clear hsn hb1 hrow hb3 hc
        gi_wp2
        exact ⟨KeepsFrom.refl _ _, KpX.refl _ _, ⟨⟨_, HI1.out.1.1, by rw [HSN.out, List.append_nil]; exact HI1.out.1.2⟩, HI1.out.2⟩⟩
    case done =>
      rintro D W' hD ⟨⟨v, hb1, hrow⟩, hb3⟩ hK
      rw [HPL.out] at hrow
      have hl24 : (labR a.x.parts).length ≤ 24 := Nat.le_trans (labR_len _) h24
      rw [← strs_bys, show (labR a.x.parts).length = (bys (labR a.x.parts)).length by simp [bys]] at hrow
      obtain ⟨Ar, qr, rfl⟩ := row_form hrow
      have hsort := sort_own hrow (by simp [bys]; omega) hb3.size
      have cB := hb1.cell
      have HS := Lib.hid (And.intro hb1 (And.intro hb3 (And.intro hK hsort)))
      have HL := Lib.hid hl24
      clear hb1 hb3 hrow hsort hl24 hK
      go_wp2_with (first
        | (go_at_call 35; refine (HS.out.2.2.2).mono ?_; rintro e w5 ⟨rfl, hrow5, hb5, hk5⟩; have c5 := (hk5.boxed (by decide) HS.out.1).cell; have H5 := Lib.hid (And.intro hrow5 (And.intro hb5 hk5)); clear hrow5 hb5 hk5)
        | (go_at_call 36; refine (compact_own (l := (bys (labR a.x.parts)).mergeSort leB) (by have := H5.out.1; rw [← List.length_mergeSort (le := leB)] at this; simpa using this) (by have := HL.out; simp [bys]; omega) (Nat.le_trans HS.out.2.1.size H5.out.2.1.size)).mono ?_; rintro e w6 ⟨v6, rfl, hrow6, hb6, hk6⟩; have H6 := Lib.hid (And.intro hrow6 (And.intro hb6 hk6)); clear hrow6 hb6 hk6))
      have hD6 : w6.heap[D]? = some (.deferred (some [])) := H6.out.2.2 D _ (H5.out.2.2 D _ HS.out.2.2.1 (fun _ _ e => by cases e)) (fun _ _ e => by cases e)
      have hwD : w.heap.size ≤ D := Nat.le_trans HB1.out.size hD
      have hb6 : Below w.heap.size w w6 := (HS.out.2.1.trans H5.out.2.1).trans H6.out.2.1
      refine ⟨by simp, .inl ⟨_, _, rfl, run_takeDeferred hD6, ?_⟩⟩
      obtain ⟨A6, q6, rfl⟩ := row_form H6.out.1
      refine ⟨.slice A6 (Lib.compact ((bys (labR a.x.parts)).mergeSort leB)).length q6, by simp [results, Try.f11, go_sem], _, rfl, ?_, belowK w hb6 hwD⟩
      have h1 := H6.out.1
      rw [labs_right HRT.out, List.length_map, strs_unby]
      exact ownsRow_putObj h1 _ hD6 rfl
end Go.Proofs.Ytnohnkhhkeikoaa
