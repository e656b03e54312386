/-
  BagEnds answers true: the closed statement over entries of two keys, two values and three ends, ends about the greatest numbers, no bag; and leaves all that lay in memory as it lay. No conditions.
-/
import Derived.Test.YtfcdgfjpmcapkaaGreatDG
import Derived.IntWalk
import Derived.Test.YtfcdgfjpmcapkaaGreatRows
import Derived.Test.YtfcdgfjpmcapkaaGreatChecked

namespace Go.Proofs.YtfcdgfjpmcapkaaGreat
open Go.ChangeShapes Go.WideShapes Go.ChangeAt Go.RowKit Go.Maps Go.Shelf
set_option linter.unusedVariables false

attribute [local go_sem] Oper.semAt_some

/-- a deed without entries, its five cells -/
def encN (d : Dd) : List Value := [.int .i64 d.what, .string d.key, .int .i64 d.val, .int .i64 d.en, .slice none 0 0]
def flatN (ds : List Dd) : List Value := ds.flatMap encN

/-- the cells of a row of deeds, and what its entries are -/
def CD (w : World) (xs : List Value) (ds : List Dd) : Prop :=
  xs.length = ds.length * 5 ∧ ∀ k (h : k < ds.length), ∃ vi, xs[k * 5]? = some (.int .i64 ds[k].what) ∧ xs[k * 5 + 1]? = some (.string ds[k].key) ∧ xs[k * 5 + 2]? = some (.int .i64 ds[k].val) ∧ xs[k * 5 + 3]? = some (.int .i64 ds[k].en) ∧ xs[k * 5 + 4]? = some vi ∧ PE w vi ds[k].items

theorem CD.nil (w : World) : CD w [] [] := ⟨rfl, fun k h => absurd h (by simp)⟩
theorem CD.keep {w w' : World} {xs : List Value} {ds : List Dd} (h : CD w xs ds) (hk : ∀ v l, PE w v l → PE w' v l) : CD w' xs ds := by
  refine ⟨h.1, fun k hl => ?_⟩
  obtain ⟨vi, h1, h2, h3, h4, h5, h6⟩ := h.2 k hl
  exact ⟨vi, h1, h2, h3, h4, h5, hk vi _ h6⟩
theorem CD.app {w : World} {xs ys : List Value} {ds es : List Dd} (h : CD w xs ds) (k : CD w ys es) : CD w (xs ++ ys) (ds ++ es) := by
  refine ⟨by rw [List.length_append, List.length_append, h.1, k.1]; omega, fun j hj => ?_⟩
  rw [List.length_append] at hj
  by_cases hlt : j < ds.length
  · obtain ⟨vi, h1, h2, h3, h4, h5, h6⟩ := h.2 j hlt
    have hx := h.1
    rw [List.getElem_append_left hlt]
    refine ⟨vi, ?_, ?_, ?_, ?_, ?_, h6⟩ <;> rw [List.getElem?_append_left (by omega)] <;> assumption
  · obtain ⟨vi, h1, h2, h3, h4, h5, h6⟩ := k.2 (j - ds.length) (by omega)
    have hx := h.1
    rw [List.getElem_append_right (by omega)]
    refine ⟨vi, ?_, ?_, ?_, ?_, ?_, h6⟩ <;> rw [List.getElem?_append_right (by omega)]
    · rw [show j * 5 - xs.length = (j - ds.length) * 5 by omega]; exact h1
    · rw [show j * 5 + 1 - xs.length = (j - ds.length) * 5 + 1 by omega]; exact h2
    · rw [show j * 5 + 2 - xs.length = (j - ds.length) * 5 + 2 by omega]; exact h3
    · rw [show j * 5 + 3 - xs.length = (j - ds.length) * 5 + 3 by omega]; exact h4
    · rw [show j * 5 + 4 - xs.length = (j - ds.length) * 5 + 4 by omega]; exact h5
theorem CD.one {w : World} {a : Int} {s : ByteArray} {b c : Int} {vi : Value} {l : List Et} (h : PE w vi l) : CD w [.int .i64 a, .string s, .int .i64 b, .int .i64 c, vi] [⟨a, s, b, c, l⟩] := by
  refine ⟨rfl, fun k hk => ?_⟩
  have : k = 0 := by simpa using hk
  subst this
  exact ⟨vi, rfl, rfl, rfl, rfl, rfl, h⟩
theorem CD.cons {w : World} {a : Int} {s : ByteArray} {b c : Int} {vi : Value} {l : List Et} {xs : List Value} {ds : List Dd} (h : PE w vi l) (k : CD w xs ds) : CD w (.int .i64 a :: .string s :: .int .i64 b :: .int .i64 c :: vi :: xs) (⟨a, s, b, c, l⟩ :: ds) := (CD.one h).app k
theorem PE.none (w : World) : PE w (.slice none 0 0) [] := ⟨_, 0, rfl, fun h => absurd h (by simp)⟩

/-- a row of deeds of one's own, read as the law reads it -/
theorem CD.prd {w : World} {base n : Nat} {v : Value} {xs : List Value} {ds : List Dd} (h : CD w xs ds) (hr : w.ownsRow base 33 5 v n xs) : PRD w.heap.size w v ds := by
  have hn : n = ds.length := by have := hr.1; have := h.1; omega
  subst hn
  rcases hr.2 with ⟨rfl, hx⟩ | ⟨g, cap, cur, rfl, _, hh, _⟩
  · have e : ds = [] := List.eq_nil_of_length_eq_zero hx
    subst e
    exact ⟨_, 0, rfl, fun h => absurd h (by simp)⟩
  · refine ⟨_, cap, rfl, fun _ => ⟨_, rfl, (Array.getElem?_eq_some_iff.1 hh).1, fun k hk => ?_⟩⟩
    obtain ⟨vi, h1, h2, h3, h4, h5, h6⟩ := h.2 k hk
    have e : (⟨g, 0, none⟩ : Addr).add (k * 5) = ⟨g, k * 5, none⟩ := by rw [Addr.add_lit]; simp
    rw [e]
    have hlx := h.1
    refine ⟨vi, ?_, ?_, ?_, ?_, ?_, h6, h6.lt⟩
    · rw [hr.cellAt _ (by omega)]; exact h1
    · show w.cell? ⟨g, k * 5 + 1, _⟩ = _
      rw [hr.cellAt _ (by omega)]; exact h2
    · show w.cell? ⟨g, k * 5 + 2, _⟩ = _
      rw [hr.cellAt _ (by omega)]; exact h3
    · show w.cell? ⟨g, k * 5 + 3, _⟩ = _
      rw [hr.cellAt _ (by omega)]; exact h4
    · show w.cell? ⟨g, k * 5 + 4, _⟩ = _
      rw [hr.cellAt _ (by omega)]; exact h5

theorem info33 : (Tryz.prog.info? 33).map (fun i => (i.zero, i.size, i.bytes)) = some (some (.agg #[.int .i64 0, .string ⟨#[]⟩, .int .i64 0, .int .i64 0, .slice none 0 0]), 5, 64) := by kernel_rfl

theorem run_append_dd {P : Program} {w : World} {t ty e base b2 : Nat} {i : TypeInfo} (ht : P.underlying t = some (.slice e)) (hi : P.info? e = some i) (hz : i.zero = some (.agg #[.int .i64 0, .string ⟨#[]⟩, .int .i64 0, .int .i64 0, .slice none 0 0])) (hs : i.size = 5) (hby : i.bytes = 64)
    {v : Value} {n : Nat} {xs : List Value} (hown : w.ownsRow base e 5 v n xs) {B m c : Nat} {ys : List Value} (hy : w.ownsRow b2 e 5 (.slice (some ⟨B, 0, none⟩) m c) m ys) (h1 : ∀ u ∈ ys, u.oneCell' = true) (hl : n + m ≤ 100000) (hbase : base ≤ w.heap.size) :
    ∃ v' w', (Builtin.append_ #[t, t] ty #[v, .slice (some ⟨B, 0, none⟩) m c]).run P w = .ok v' w' ∧ w'.ownsRow base e 5 v' (n + m) (xs ++ ys) ∧ w.grownBy w' v.ownBlock ∧ (v'.ownBlock = v.ownBlock ∨ v'.ownBlock = some w.heap.size) := by
  have hnews : ∀ j u, ys[j]? = some u → w.cell? ((⟨B, 0, none⟩ : Addr).add j) = some u := by
    intro j u hj
    have h0 := (List.getElem?_eq_some_iff.1 hj).1
    have hy1 := hy.1
    have := hy.cellAt j (by omega)
    rw [← hj, ← this, Addr.add_lit]
    simp
  obtain ⟨v', w', h1, h2, h3, _, h5⟩ := run_append_own_at (P := P) w base t ty e i _ 5 64 ht hi hz hs hby rfl (by decide) v n xs hown ⟨B, 0, none⟩ m c ys hy.1 hnews h1 (by unfold maxLen; omega) (by omega) hbase
  exact ⟨v', w', h1, h2, h3, h5⟩
theorem wp_append_dd {P : Program} {w : World} {o : Oper} {a : Act} {K : Act → World → Prop} {Q : Exit → Act → World → Prop} (s x : Operand) {t e base b2 : Nat} (ho : o.op = .call { callee := .builtin .append, args := #[s, x], argTypes := #[t, t] })
    {i : TypeInfo} (ht : P.underlying t = some (.slice e)) (hi : P.info? e = some i) (hz : i.zero = some (.agg #[.int .i64 0, .string ⟨#[]⟩, .int .i64 0, .int .i64 0, .slice none 0 0])) (hs : i.size = 5) (hby : i.bytes = 64)
    {v : Value} {n : Nat} {xs : List Value} (he : a.eval s = v) (hown : w.ownsRow base e 5 v n xs) {B m c : Nat} {ys : List Value} (hx : a.eval x = .slice (some ⟨B, 0, none⟩) m c) (hy : w.ownsRow b2 e 5 (.slice (some ⟨B, 0, none⟩) m c) m ys) (h1 : ∀ u ∈ ys, u.oneCell' = true) (hl : n + m ≤ 100000) (hbase : base ≤ w.heap.size)
    (h : ∀ v' w', w'.ownsRow base e 5 v' (n + m) (xs ++ ys) → w.grownBy w' v.ownBlock → (v'.ownBlock = v.ownBlock ∨ v'.ownBlock = some w.heap.size) → K (a.put o.dst v') w') : o.wp P a w K Q := by
  obtain ⟨v', w', hr, h2, h3, h4⟩ := run_append_dd (P := P) (ty := o.type) ht hi hz hs hby hown hy h1 hl hbase
  unfold Oper.wp execOp
  simp only [ho, resolve, invoke, builtin, Sem.run_bind, Sem.run_pure, Result.andThen_ok, List.map_toArray, List.map_cons, List.map_nil, he, hx, hr]
  exact h v' w' h2 h3 h4
theorem wpList_append_dd {P : Program} {w : World} {ops : Array Oper} {rest : List Oper} {o : Oper} {a : Act} {Q : Exit → Act → World → Prop} (hgd : o.guard = none) (s x : Operand) {t e base b2 : Nat} (ho : o.op = .call { callee := .builtin .append, args := #[s, x], argTypes := #[t, t] })
    {i : TypeInfo} (ht : P.underlying t = some (.slice e)) (hi : P.info? e = some i) (hz : i.zero = some (.agg #[.int .i64 0, .string ⟨#[]⟩, .int .i64 0, .int .i64 0, .slice none 0 0])) (hs : i.size = 5) (hby : i.bytes = 64)
    {v : Value} {n : Nat} {xs : List Value} (he : a.eval s = v) (hown : w.ownsRow base e 5 v n xs) {B m c : Nat} {ys : List Value} (hx : a.eval x = .slice (some ⟨B, 0, none⟩) m c) (hy : w.ownsRow b2 e 5 (.slice (some ⟨B, 0, none⟩) m c) m ys) (h1 : ∀ u ∈ ys, u.oneCell' = true) (hl : n + m ≤ 100000) (hbase : base ≤ w.heap.size)
    (h : ∀ v' w', w'.ownsRow base e 5 v' (n + m) (xs ++ ys) → w.grownBy w' v.ownBlock → (v'.ownBlock = v.ownBlock ∨ v'.ownBlock = some w.heap.size) → wpList P ops Q rest (a.put o.dst v') w') : wpList P ops Q (o :: rest) a w :=
  wpList_plain hgd fun _ hK => wp_append_dd s x ho ht hi hz hs hby he hown hx hy h1 hl hbase fun v' w' h2 h3 h4 => hK _ _ (h v' w' h2 h3 h4)

/-! ### no bag -/
/-- no bag: its pointer -/
def NoB (w : World) (p : Option Addr) : Prop := p = none ∨ ∃ z, p = some ⟨z, 0, none⟩ ∧ w.heap[z]? = some (.cells #[.pointer none, .map none, .map none, .int .i64 0, .pointer none] 66 (0, 0))
theorem NoB.below {w w' : World} {p : Option Addr} (h : NoB w p) (hb : Below w.heap.size w w') : NoB w' p := by
  rcases h with h | ⟨z, h, hz⟩
  · exact .inl h
  · exact .inr ⟨z, h, (hb.block z (Array.getElem?_eq_some_iff.1 hz).1).trans hz⟩
theorem made_no {w : World} {p : Option Addr} (h : NoB w p) : Calls Tryz.prog 31 #[.pointer p] w fun e w' => e = .returned (.bool false) ∧ w = w' := by
  rcases h with rfl | ⟨z, rfl, hz⟩
  · exact (madeNil_bag w).mono fun e w' h => ⟨h.1, h.2.symm⟩
  · exact (madeZero_bag (by simp [World.cell?, hz])).mono fun e w' h => ⟨h.1, h.2.symm⟩
theorem len_no {w : World} {p : Option Addr} (h : NoB w p) : Calls Tryz.prog 22 #[.pointer p] w fun e w' => e = .returned (.int .i64 0) ∧ w = w' := by
  go_enter Tryz.func22, Tryz.ntmps22
  go_wp2_with fail
  refine (made_no h).mono ?_
  rintro e w' ⟨rfl, rfl⟩
  go_wp2_with fail
  go_ret
  exact ⟨rfl, rfl⟩
theorem putN_no {w : World} {p : Option Addr} (h : NoB w p) (A : Option Addr) (n c : Nat) : Calls Tryz.prog 11 #[.pointer p, .slice A n c] w fun e w' => e = .returned (.int .i64 1) ∧ w = w' := by
  go_enter Tryz.func11, Tryz.ntmps11
  go_wp2_with fail
  refine (made_no h).mono ?_
  rintro e w' ⟨rfl, rfl⟩
  go_wp2_with fail
  go_ret
  exact ⟨rfl, rfl⟩
theorem all_no {w : World} {p : Option Addr} (h : NoB w p) : Calls Tryz.prog 24 #[.pointer p] w fun e w' => e = .returned (.slice none 0 0) ∧ w = w' := by
  refine (callsIn_wide (n := 9)).1 ?_
  refine callsIn_of_wp_marks Tryz.func24 rfl trivial ?_ rfl
  simp only [Tryz.ntmps24, List.size_toArray, List.length_cons, List.length_nil, Nat.reduceAdd, Nat.reduceSub, Array.replicate_succ, Array.replicate_zero, List.push_toArray, List.append_toArray, List.nil_append, List.cons_append]
  refine wpIn_wide.2 ?_
  go_wp2_with (go_at_call 31; refine (made_no h).mono ?_; rintro e w' ⟨rfl, rfl⟩)
  exact ⟨.slice _ 0 0, by simp [results, Tryz.f24, go_sem], rfl, rfl⟩
theorem cut_no {w : World} {p : Option Addr} (h : NoB w p) (c : Int) : Calls Tryz.prog 16 #[.pointer p, .int .i64 c] w fun e w' => e = .returned (.int .i64 0) ∧ Below w.heap.size w w' := by
  have hb : Below w.heap.size w (w.alloc (.cells #[.pointer p] 25)) := (Below.refl _ _).alloc (Nat.le_refl _) _
  have HB := Lib.hid hb
  have HN := Lib.hid (h.below hb)
  clear h hb
  refine (callsIn_wide (n := 9)).1 ?_
  refine callsIn_of_wp_marks Tryz.func16 rfl trivial ?_ rfl
  simp only [Tryz.ntmps16, List.size_toArray, List.length_cons, List.length_nil, Nat.reduceAdd, Nat.reduceSub, Array.replicate_succ, Array.replicate_zero, List.push_toArray, List.append_toArray, List.nil_append, List.cons_append]
  refine wpIn_wide.2 ?_
  go_wp2_with fail
  go_step3
  go_wp2_with (go_at_call 31; refine (made_no HN.out).mono ?_; rintro e w' ⟨rfl, rfl⟩)
  try rw [Exit.noGoto_ret]
  exact ⟨.int .i64 0, by simp [results, Tryz.f16, go_sem], rfl, HB.out⟩
theorem drop_no {w : World} {p : Option Addr} (h : NoB w p) (k : ByteArray) (z : Int) : Calls Tryz.prog 14 #[.pointer p, .string k, .int .i64 z] w fun e w' => e = .returned (.bool false) ∧ w = w' := by
  go_enter Tryz.func14, Tryz.ntmps14
  go_wp2_with fail
  refine (made_no h).mono ?_
  rintro e w' ⟨rfl, rfl⟩
  go_wp2_with fail
  go_ret
  exact ⟨rfl, rfl⟩
theorem first_no {w : World} {p : Option Addr} (h : NoB w p) : Calls Tryz.prog 18 #[.pointer p] w fun e w' => e = .returned (.tuple #[.int .i64 0, .bool false]) ∧ w = w' := by
  go_enter Tryz.func18, Tryz.ntmps18
  go_wp2_with fail
  refine (made_no h).mono ?_
  rintro e w' ⟨rfl, rfl⟩
  go_wp2_with fail
  exact bodyPost_ret (v := .tuple #[.int .i64 0, .bool false]) (by simp [results, Tryz.results18, go_sem]) rfl ⟨rfl, rfl⟩
theorem end_no {w : World} {p : Option Addr} (h : NoB w p) (k : ByteArray) (z : Int) : Calls Tryz.prog 20 #[.pointer p, .string k, .int .i64 z] w fun e w' => e = .returned (.tuple #[.int .i64 0, .bool false]) ∧ w = w' := by
  go_enter Tryz.func20, Tryz.ntmps20
  go_wp2_with fail
  refine (made_no h).mono ?_
  rintro e w' ⟨rfl, rfl⟩
  go_wp2_with fail
  exact bodyPost_ret (v := .tuple #[.int .i64 0, .bool false]) (by simp [results, Tryz.results20, go_sem]) rfl ⟨rfl, rfl⟩
theorem of_func_no (p : Option Addr) (k : ByteArray) (w : World) : Calls Tryz.prog 44 #[.pointer p, .string k] w fun e w' => e = .returned (.func (.func 64) #[] #[.pointer (some ⟨w.heap.size, 0, none⟩), .pointer (some ⟨w.heap.size + 1, 0, none⟩)]) ∧ w' = (w.alloc (.cells #[.pointer p] 25)).alloc (.cells #[.string k] 9) := by
  go_enter Tryz.func44, Tryz.ntmps44
  go_wp2_with fail
  go_ret
  exact ⟨rfl, rfl⟩

set_option maxRecDepth 100000 in
theorem of_seq_no {w0 : World} (n : Nat) {p : Option Addr} (h : NoB w0 p) {Bb Bk : Nat} (hB : Boxed w0 Bb 25 (.pointer p)) :
    SeqX Fence.wide n Tryz.prog 64 #[.pointer (some ⟨Bb, 0, none⟩), .pointer (some ⟨Bk, 0, none⟩)] encO KpS [] w0 := by
  intro l J Jx W hW hJ hJx hY h0
  have hBW : Boxed W Bb 25 (.pointer p) := (hW.block _ hB.lt).trans hB
  have cb := hBW.cell
  have hw1 : Below W.heap.size W (W.alloc (.cells #[.func (.yield l) #[] #[]] 121)) := (Below.refl _ _).alloc (Nat.le_refl _) _
  have HN := Lib.hid ((h.below hW).below hw1)
  have HJ1 := Lib.hid (hJ [] W _ none h0 (grown_of_below hw1) (fun r e => by cases e))
  have lb := hBW.lt
  clear hY hJ hJx h0 h hB hW hBW hw1
  refine callsIn_of_wp_marks Tryz.func64 rfl trivial ?_ rfl
  simp only [Tryz.ntmps64, List.size_toArray, List.length_cons, List.length_nil, Nat.reduceAdd, Nat.reduceSub, Array.replicate_succ, Array.replicate_zero, List.push_toArray, List.append_toArray, List.nil_append, List.cons_append]
  refine wpIn_wide.2 ?_
  go_wp2_with (go_at_call 31; refine (made_no HN.out).mono ?_; rintro e w' ⟨rfl, rfl⟩)
  exact ⟨_, results_none rfl _ _ _, ⟨_, rfl⟩, .inl HJ1.out⟩
structure TN (w : World) (p : Option Addr) (k : ByteArray) (N : Int) (W : World) : Prop where
  b0 : Boxed W w.heap.size 9 (.string k)
  b1 : Boxed W (w.heap.size + 1) 3 (.int .i64 N)
  b2 : Boxed W (w.heap.size + 1 + 1) 31 (.slice none 0 0)
  b3 : Boxed W (w.heap.size + 1 + 1 + 1) 31 (.slice none 0 0)
  be : Below w.heap.size w W
  size : w.heap.size + 1 + 1 + 1 + 1 + 1 + 1 ≤ W.heap.size
theorem TN.grown {w W W' : World} {p : Option Addr} {k : ByteArray} {N : Int} (h : TN w p k N W) {row : Option Nat} (hg : W.grownBy W' row) (hr : ∀ r, row = some r → w.heap.size + 1 + 1 + 1 + 1 + 1 + 1 ≤ r ∧ ∃ o : Obj, W.heap[r]? = some o ∧ o.isCells = false) : TN w p k N W' := by
  have hn : ∀ B, B < w.heap.size + 1 + 1 + 1 + 1 + 1 + 1 → some B ≠ row := fun B hB e => by have := (hr B e.symm).1; omega
  exact ⟨h.b0.kept hg (hn _ (by omega)), h.b1.kept hg (hn _ (by omega)), h.b2.kept hg (hn _ (by omega)), h.b3.kept hg (hn _ (by omega)), h.be.grown hg (by have := h.size; omega) (fun k e => by have := (hr k e).1; omega), Nat.le_trans h.size hg.size⟩

def NilR (w : World) (e : Ending) (w' : World) : Prop := e = .returned (.slice none 0 0) ∧ Below w.heap.size w w'

set_option maxRecDepth 100000 in
set_option maxHeartbeats 4000000 in
theorem of_no {w : World} {p : Option Addr} (h : NoB w p) (k : ByteArray) (N : Int) : Calls Tryz.prog 25 #[.pointer p, .string k, .int .i64 N] w (NilR w) := by
  have H := Lib.hid h
  clear h
  refine (callsIn_wide (n := 9)).1 ?_
  refine callsIn_of_wp_marks Tryz.func25 rfl trivial ?_ rfl
  simp only [Tryz.ntmps25, List.size_toArray, List.length_cons, List.length_nil, Nat.reduceAdd, Nat.reduceSub, Array.replicate_succ, Array.replicate_zero, List.push_toArray, List.append_toArray, List.nil_append, List.cons_append]
  refine wpIn_wide.2 ?_
  have qf : ∀ (w : World) (ca : Array Value), (binOp .eql 96 (.func (.func 64) #[] ca) .nilFunc).run Tryz.prog w = .ok (.bool false) w := fun w ca => run_eql_func_nil w 96 _ _ _ _ _ ca Tryz.underlying96
  go_wp2_with (go_at_call 44; refine (of_func_no p k _).mono ?_; rintro e w1 ⟨rfl, hw1⟩)
  have b0 : Boxed w1 w.heap.size 9 (.string k) := by
    rw [hw1]; exact (((((Boxed.new w 9 _).alloc _).alloc _).alloc _).alloc _).alloc _
  have b1 : Boxed w1 (w.heap.size + 1) 3 (.int .i64 N) := by
    rw [hw1]; exact ((((Boxed.new2 _ 3 _ _ (by simp)).alloc _).alloc _).alloc _).alloc _
  have b2 : Boxed w1 (w.heap.size + 1 + 1) 31 (.slice none 0 0) := by
    rw [hw1]; exact (((Boxed.new2 _ 31 _ _ (by simp)).alloc _).alloc _).alloc _
  have b3 : Boxed w1 (w.heap.size + 1 + 1 + 1) 31 (.slice none 0 0) := by
    rw [hw1]; exact ((Boxed.new2 _ 31 _ _ (by simp)).alloc _).alloc _
  have b4 : Boxed w1 (w.heap.size + 1 + 1 + 1 + 1) 25 (.pointer p) := by
    rw [hw1]; exact (Boxed.new2 _ 25 _ _ (by simp)).alloc _
  have hB1 : Below w.heap.size w w1 := by
    rw [hw1]; exact ((((((Below.refl _ w).alloc (Nat.le_refl _) _).alloc (by simp) _).alloc (by simp; omega) _).alloc (by simp; omega) _).alloc (by simp; omega) _).alloc (by simp; omega) _
  have hz1 : w1.heap.size = w.heap.size + 1 + 1 + 1 + 1 + 1 + 1 := by rw [hw1]; simp
  have HSEQ := Lib.hid (of_seq_no (Bk := w.heap.size + 1 + 1 + 1 + 1 + 1) 8 (H.out.below hB1) b4)
  have HT := Lib.hid (show TN w p k N w1 from ⟨b0, b1, b2, b3, hB1, by omega⟩)
  have HZ := Lib.hid hz1
  rw [← hw1]
  clear hw1 b0 b1 b2 b3 b4 hB1 hz1
  refine wpIn_wide.1 (?_ : Code.wpIn Fence.wide 9 Tryz.prog _ _ _ _)
  refine wpIn_rangeFunc_X rfl (by decide) (gf := 64) (lb := #[.pointer (some ⟨w.heap.size + 1 + 1 + 1 + 1, 0, none⟩), .pointer (some ⟨w.heap.size + 1 + 1 + 1 + 1 + 1, 0, none⟩)]) rfl trivial (enters_of Tryz.func64 (by kernel_rfl) rfl)
    HSEQ.out KpS.trans (fun W l o o' _ hl ho _ => KpS.putObj W l o o' hl ho) (Below.refl _ _) (fun _ => rfl)
    (fun pre W => TN w p k N W)
    (fun _ _ _ => False)
    (fun s A B row h hg hr => h.grown hg (fun r e => by rw [← HZ.out]; exact hr r e))
    (fun c s A B row h => h.elim)
    HT.out
    (fun x a' W => False) (fun x a' _ A B row h _ _ => h) ?assign ?body ?done ?stop
  case assign => exact fun l1 pre x W' K hI hpx hK => absurd hpx.length_le (by simp)
  case body => exact fun l1 pre x a' W hwl hloop hpx hI h => h.elim
  case done =>
    rintro D W hD h hK
    have hc := h.b3.cell
    have hcr := h.b2.cell
    have hfr := h.b2.frozen
    have HTN := Lib.hid h
    have hDl : w.heap.size + 1 + 1 + 1 + 1 + 1 + 1 ≤ D := by rw [← HZ.out]; exact hD
    clear h
    go_wp2_with fail
    have hK' := (KeepsOthers.setCell W ⟨w.heap.size + 1 + 1, 0, none⟩ (.slice none 0 0)).same D _ hK rfl
    have hb := cell_kept (HTN.out.b2.set (.slice none 0 0)).cell (grownBy_putObj' _ D (.deferred none)) (fun r e => by cases e; exact ⟨_, hK', rfl⟩)
    refine ⟨by simp, .inl ⟨_, _, rfl, run_takeDeferred hK', ?_⟩⟩
    refine ⟨.slice none 0 0, by simp [results, Tryz.f25, go_sem, hb], rfl, ?_⟩
    exact (HTN.out.be.setCell (p := ⟨w.heap.size + 1 + 1, 0, none⟩) (by simp only []; omega) _).grown (grownBy_putObj' _ D (.deferred none)) (by simp only [World.size_setCell]; exact HTN.out.be.size) (fun k e => by cases e; omega)
  case stop => exact fun _ _ _ _ _ _ h _ => h.elim

set_option maxRecDepth 100000 in
set_option maxHeartbeats 4000000 in
theorem none_any (w : World) : Calls Tryz.prog 27 #[] w fun e w' => e = .returned (.bool true) ∧ Below w.heap.size w w' := by
  go_enter Tryz.func27, Tryz.ntmps27
  go_wp2_with fail
  have hb0 : Below w.heap.size w ((w.alloc (.cells #[.pointer none, .map none, .map none, .int .i64 0, .pointer none] 66)).alloc (.cells #[.pointer none, .pointer (some ⟨w.heap.size, 0, none⟩)] 25)) := ((Below.refl _ w).alloc (Nat.le_refl _) _).alloc (by simp) _
  have hz0 : ((w.alloc (.cells #[.pointer none, .map none, .map none, .int .i64 0, .pointer none] 66)).alloc (.cells #[.pointer none, .pointer (some ⟨w.heap.size, 0, none⟩)] 25)).heap[w.heap.size]? = some (.cells #[.pointer none, .map none, .map none, .int .i64 0, .pointer none] 66 (0, 0)) := (Below.heap_alloc _ _ _ (by simp)).trans (heap_alloc_new w _)
  have hy0 : ((w.alloc (.cells #[.pointer none, .map none, .map none, .int .i64 0, .pointer none] 66)).alloc (.cells #[.pointer none, .pointer (some ⟨w.heap.size, 0, none⟩)] 25)).heap[w.heap.size + 1]? = some (.cells #[.pointer none, .pointer (some ⟨w.heap.size, 0, none⟩)] 25 (0, 0)) := by
    have := heap_alloc_new (w.alloc (.cells #[.pointer none, .map none, .map none, .int .i64 0, .pointer none] 66)) (.cells #[.pointer none, .pointer (some ⟨w.heap.size, 0, none⟩)] 25)
    rwa [World.size_alloc] at this
  have HB0 := Lib.hid hb0
  have HZ0 := Lib.hid hz0
  have HY0 := Lib.hid hy0
  clear hb0 hz0 hy0
  generalize (w.alloc (.cells #[.pointer none, .map none, .map none, .int .i64 0, .pointer none] 66)).alloc (.cells #[.pointer none, .pointer (some ⟨w.heap.size, 0, none⟩)] 25) = W0 at *
  go_loopw [2] (fun i wr => ∃ q : Nat, q ≤ 2 ∧ i = .int .i64 q ∧ Below W0.heap.size W0 wr) (fun i _ => 2 - (intOf i).toNat)
  case atStart => exact ⟨0, by omega, rfl, Below.refl _ _⟩
  case round =>
    obtain ⟨q, hq, rfl, hb⟩ := hrel
    by_cases hlt : q < 2
    · have hy := (hb.block _ (Array.getElem?_eq_some_iff.1 HY0.out).1).trans HY0.out
      have hz := (hb.block _ (Array.getElem?_eq_some_iff.1 HZ0.out).1).trans HZ0.out
      have hp : ∃ p : Option Addr, NoB wr p ∧ wr.cell? ⟨w.heap.size + 1, q, none⟩ = some (.pointer p) := by
        rcases (by omega : q = 0 ∨ q = 1) with rfl | rfl
        · exact ⟨none, .inl rfl, cell_of_row _ _ 0 _ 25 (0, 0) hy⟩
        · exact ⟨some ⟨w.heap.size, 0, none⟩, .inr ⟨_, rfl, hz⟩, cell_of_row _ _ 1 _ 25 (0, 0) hy⟩
      obtain ⟨p, hno, hcp⟩ := hp
      have hyl := (Array.getElem?_eq_some_iff.1 hy).1
      have HB := Lib.hid hb
      have HNO := Lib.hid hno
      clear hy hz hno hb
      obtain ⟨Y, hY⟩ : ∃ Y, w.heap.size + 1 = Y := ⟨_, rfl⟩
      try rw [hY]
      rw [hY] at hcp hyl
      clear hY
      have hqI : (q : Int) < 2 := by omega
      have hb5 : Below wr.heap.size wr (wr.alloc (.cells #[.string ⟨#[]⟩, .int .i64 0, .int .i64 0] 38)) := (Below.refl _ wr).alloc (Nat.le_refl _) _
      have hc5 := (hb5.cell (p := ⟨Y, q, none⟩) hyl).trans hcp
      have hyl5 := Nat.lt_of_lt_of_le hyl hb5.size
      have HN5 := Lib.hid (HNO.out.below hb5)
      have HB5 := Lib.hid (HB.out.trans (hb5.mono HB.out.size))
      clear hb5
      go_wp2_with fail
      refine (end_no HNO.out _ _).mono ?_
      rintro e w5 ⟨rfl, rfl⟩
      go_wp2_with fail
      refine (first_no HNO.out).mono ?_
      rintro e w5 ⟨rfl, rfl⟩
      go_wp2_with fail
      refine (putN_no HN5.out _ _ _).mono ?_
      rintro e w5 ⟨rfl, rfl⟩
      go_wp2_with fail
      refine (drop_no HN5.out _ _).mono ?_
      rintro e w5 ⟨rfl, rfl⟩
      go_wp2_with fail
      refine (cut_no HN5.out 9).mono ?_
      rintro e w6 ⟨rfl, hb6⟩
      have hc6 := (hb6.cell (p := ⟨Y, q, none⟩) hyl5).trans hc5
      have hyl6 := Nat.lt_of_lt_of_le hyl5 hb6.size
      have HN6 := Lib.hid (HN5.out.below hb6)
      have HB6 := Lib.hid (HB5.out.trans (hb6.mono HB5.out.size))
      clear hb6
      go_wp2_with fail
      refine (len_no HN6.out).mono ?_
      rintro e w7 ⟨rfl, rfl⟩
      go_wp2_with fail
      refine (all_no HN6.out).mono ?_
      rintro e w7 ⟨rfl, rfl⟩
      go_wp2_with fail
      refine (of_no HN6.out _ 9).mono ?_
      rintro e w8 ⟨rfl, hb8⟩
      have HB8 := Lib.hid (HB6.out.trans (hb8.mono HB6.out.size))
      clear hb8
      go_wp2_with fail
      go_roundw
      case rel => exact ⟨q + 1, by omega, by go_num, HB8.out⟩
      case measure => simp [intOf] <;> omega
    · obtain rfl : q = 2 := by omega
      have HB := Lib.hid hb
      clear hb
      go_wp2_with fail
      go_ret
      exact ⟨rfl, HB0.out.trans (HB.out.mono HB0.out.size)⟩
end Go.Proofs.YtfcdgfjpmcapkaaGreat

namespace Go.Proofs.YtfcdgfjpmcapkaaGreat
open Go.ChangeShapes Go.WideShapes Go.ChangeAt Go.RowKit Go.Maps Go.Shelf
set_option linter.unusedVariables false

/-- all the entries of a row of deeds lie in blocks of entries -/
def BE (w : World) (xs : List Value) : Prop := ∀ A n c, Value.slice A n c ∈ xs → ∀ ad, A = some ad → ∃ cs fz, w.heap[ad.block]? = some (.cells cs 38 fz)
theorem BE.nil (w : World) : BE w [] := fun A n c h => by simp at h
theorem BE.app {w : World} {xs ys : List Value} (h : BE w xs) (k : BE w ys) : BE w (xs ++ ys) := fun A n c hm => by
  rcases List.mem_append.1 hm with hm | hm
  · exact h A n c hm
  · exact k A n c hm
/-- a row of deeds with all that it holds -/
structure LD (w : World) (base n : Nat) (v : Value) (ds : List Dd) : Prop where
  row : ∃ xs, w.ownsRow base 33 5 v n xs ∧ CD w xs ds ∧ BE w xs
  ok : ∀ d ∈ ds, Wd d ∧ d.items.length ≤ 2
theorem CD.keepB {w w' : World} {xs : List Value} {ds : List Dd} (h : CD w xs ds) (hb : BE w xs) (hk : ∀ (g : Nat) cs fz, w.heap[g]? = some (.cells cs 38 fz) → w'.heap[g]? = w.heap[g]?) (hz : w.heap.size ≤ w'.heap.size) : CD w' xs ds := by
  refine ⟨h.1, fun k hl => ?_⟩
  obtain ⟨vi, h1, h2, h3, h4, h5, h6⟩ := h.2 k hl
  refine ⟨vi, h1, h2, h3, h4, h5, ?_⟩
  obtain ⟨A, c, rfl, h7⟩ := h6
  refine ⟨A, c, rfl, fun h0 => ?_⟩
  obtain ⟨ad, rfl, h8, h9⟩ := h7 h0
  obtain ⟨cs, fz, hc⟩ := hb _ _ _ (List.mem_of_getElem? h5) ad rfl
  have e := hk _ _ _ hc
  have hcell : ∀ j, w'.cell? (ad.add j) = w.cell? (ad.add j) := fun j => World.cell?_of_block (a := ad.add j) (by rw [block_add]; exact e)
  exact ⟨ad, rfl, Nat.lt_of_lt_of_le h8 hz, fun k hk => by rw [hcell, hcell, hcell]; exact h9 k hk⟩
theorem BE.keepB {w w' : World} {xs : List Value} (hb : BE w xs) (hk : ∀ (g : Nat) cs fz, w.heap[g]? = some (.cells cs 38 fz) → w'.heap[g]? = w.heap[g]?) : BE w' xs := fun A n c hm ad e => by
  obtain ⟨cs, fz, hc⟩ := hb A n c hm ad e
  exact ⟨cs, fz, (hk _ _ _ hc).trans hc⟩
theorem LD.nil (w : World) (base : Nat) : LD w base 0 (.slice none 0 0) [] := ⟨⟨[], World.ownsRow_nil _ _ _ _, CD.nil _, BE.nil _⟩, fun d h => absurd h (by simp)⟩
theorem LD.below {w w' : World} {base n : Nat} {v : Value} {ds : List Dd} (h : LD w base n v ds) (hb : Below w.heap.size w w') : LD w' base n v ds := by
  obtain ⟨xs, h1, h2, h3⟩ := h.row
  have hk : ∀ (g : Nat) cs fz, w.heap[g]? = some (.cells cs 38 fz) → w'.heap[g]? = w.heap[g]? := fun g cs fz hg => hb.block g (Array.getElem?_eq_some_iff.1 hg).1
  exact ⟨⟨xs, own_keep h1 (Keep.of_below hb) (p := fun _ => True) fun _ _ => trivial, h2.keepB h3 hk hb.size, h3.keepB hk⟩, h.ok⟩
/-- .. appended to -/
theorem LD.app {w w' : World} {base n m : Nat} {v v' : Value} {xs ys : List Value} {ds es : List Dd} (ho : ∀ d ∈ ds, Wd d ∧ d.items.length ≤ 2) (h1 : w.ownsRow base 33 5 v n xs) (h2 : CD w xs ds) (h3 : BE w xs) (hy : CD w ys es) (hyb : BE w ys) (hyo : ∀ d ∈ es, Wd d ∧ d.items.length ≤ 2)
    (hr : w'.ownsRow base 33 5 v' (n + m) (xs ++ ys)) (hg : w.grownBy w' v.ownBlock) : LD w' base (n + m) v' (ds ++ es) := by
  have hk : ∀ (g : Nat) cs fz, w.heap[g]? = some (.cells cs 38 fz) → w'.heap[g]? = w.heap[g]? := fun g cs fz hgc => by
    refine hg.block g (Array.getElem?_eq_some_iff.1 hgc).1 fun e => ?_
    rcases h1.2 with ⟨rfl, _⟩ | ⟨g', cap, cur, rfl, _, hg', _⟩
    · simp [Value.ownBlock] at e
    · obtain rfl : g = g' := by simpa [Value.ownBlock] using e
      rw [hg'] at hgc
      injection hgc with hgc
      injection hgc with _ h9
      exact absurd h9 (by decide)
  refine ⟨⟨_, hr, (h2.keepB h3 hk hg.size).app (hy.keepB hyb hk hg.size), (h3.keepB hk).app (hyb.keepB hk)⟩, fun d hd => ?_⟩
  rcases List.mem_append.1 hd with hd | hd
  · exact ho d hd
  · exact hyo d hd
theorem LD.does {w : World} {base n : Nat} {v : Value} {ds : List Dd} (h : LD w base n v ds) (hn : ds.length ≤ 100) {key : ByteArray} {val : Int} (hk : key.size ≤ maxLen) (hv : (Lit.int .i64 val).wf = true) : Calls Tryz.prog 3 #[v, .string key, .int .i64 val] w (Tr w) := by
  obtain ⟨xs, h1, h2, _⟩ := h.row
  exact does_any (h2.prd h1) (fun d hd => (h.ok d hd).1) hk hv (by omega) (fun d hd => by have := (h.ok d hd).2; omega)
theorem wf_small {x : Int} (h : -9223372036854775808 ≤ x) (h2 : x ≤ 9223372036854775807) : (Lit.int .i64 x).wf = true := by
  have hmin : IntKind.i64.min = -9223372036854775808 := rfl
  have hmax : IntKind.i64.max = 9223372036854775807 := rfl
  simp only [Lit.wf, Bool.and_eq_true, decide_eq_true_eq]
  omega
theorem we_small {s : ByteArray} {x y : Int} (hs : s.size ≤ 1) (h1 : -9223372036854775808 ≤ x) (h2 : x ≤ 9223372036854775807) (h3 : -9223372036854775808 ≤ y) (h4 : y ≤ 9223372036854775807) : We (s, x, y) := ⟨by show s.size ≤ _; omega, wf_small h1 h2, wf_small h3 h4⟩
/-- a deed without entries, with small numbers -/
theorem wd_small {a : Int} {s : ByteArray} {x y : Int} (hs : s.size ≤ 1) (h1 : -9223372036854775808 ≤ x) (h2 : x ≤ 9223372036854775807) (h3 : -9223372036854775808 ≤ y) (h4 : y ≤ 9223372036854775807) : Wd ⟨a, s, x, y, []⟩ ∧ (Dd.mk a s x y []).items.length ≤ 2 := ⟨⟨by show s.size ≤ _; omega, wf_small h1 h2, wf_small h3 h4, fun k hk => absurd hk (by simp)⟩, by simp⟩
/-- a new block of deeds, read as a row -/
theorem row_lit (w : World) (cs : Array Value) (n : Nat) (hn : cs.size = n * 5) (hl : n ≤ 1000) : (w.alloc (.cells cs 33)).ownsRow w.heap.size 33 5 (.slice (some ⟨w.heap.size, 0, none⟩) n n) n cs.toList := by
  have := World.ownsRow_lit (e := 33) (size := 5) (base := w.heap.size) w cs n (Nat.le_refl _) (by unfold maxLen; omega) (by simpa using hn)
  exact this
theorem wd_items {l : List Et} (h : ∀ k, k < l.length → We (ge l k)) (hl : l.length ≤ 2) : Wd ⟨0, ⟨#[]⟩, 0, 0, l⟩ ∧ (Dd.mk 0 ⟨#[]⟩ 0 0 l).items.length ≤ 2 :=
  ⟨⟨by show (⟨#[]⟩ : ByteArray).size ≤ _; decide, wf_small (x := 0) (by decide) (by decide), wf_small (x := 0) (by decide) (by decide), h⟩, hl⟩
theorem we_one {x : Et} (h : We x) : ∀ k, k < [x].length → We (ge [x] k) := fun k hk => by
  obtain rfl : k = 0 := by simpa using hk
  exact h
theorem we_two {x y : Et} (h : We x) (h2 : We y) : ∀ k, k < [x, y].length → We (ge [x, y] k) := fun k hk => by
  rcases (by simp at hk; omega : k = 0 ∨ k = 1) with rfl | rfl
  · exact h
  · exact h2
def litW (W : World) (X Y : Int) : World := ((W.alloc (.cells #[.string ⟨#[120]⟩, .int .i64 X, .int .i64 Y, .string ⟨#[120]⟩, .int .i64 Y, .int .i64 X] 38)).alloc (.cells #[.int .i64 0, .string ⟨#[]⟩, .int .i64 0, .int .i64 0, .slice (some ⟨W.heap.size, 0, none⟩) 2 2, .int .i64 2, .string ⟨#[]⟩, .int .i64 0, .int .i64 Y, .slice none 0 0, .int .i64 1, .string ⟨#[120]⟩, .int .i64 X, .int .i64 0, .slice none 0 0] 33)).drew
theorem lit_two (W : World) (X Y : Int) (h1 : -9223372036854775808 ≤ X) (h2 : X ≤ 9223372036854775807) (h3 : -9223372036854775808 ≤ Y) (h4 : Y ≤ 9223372036854775807) :
    Calls Tryz.prog 3 #[.slice (some ⟨W.heap.size + 1, 0, none⟩) 3 3, .string ⟨#[120]⟩, .int .i64 X] (litW W X Y) fun e w' => e = .returned (.bool true) ∧ Below W.heap.size W w' := by
  obtain ⟨Wa, hWa⟩ : ∃ Wa, W.alloc (.cells #[.string ⟨#[120]⟩, .int .i64 X, .int .i64 Y, .string ⟨#[120]⟩, .int .i64 Y, .int .i64 X] 38) = Wa := ⟨_, rfl⟩
  have hza : Wa.heap.size = W.heap.size + 1 := by rw [← hWa]; simp
  have hba : Below W.heap.size W Wa := by rw [← hWa]; exact (Below.refl _ W).alloc (Nat.le_refl _) _
  have hpa : PE Wa (.slice (some ⟨W.heap.size, 0, none⟩) 2 2) [((⟨#[120]⟩ : ByteArray), X, Y), ((⟨#[120]⟩ : ByteArray), Y, X)] := by rw [← hWa]; exact pe_new W [((⟨#[120]⟩ : ByteArray), X, Y), ((⟨#[120]⟩ : ByteArray), Y, X)] 2 2 rfl
  obtain ⟨cs, hcs⟩ : ∃ cs : Array Value, #[.int .i64 0, .string ⟨#[]⟩, .int .i64 0, .int .i64 0, .slice (some ⟨W.heap.size, 0, none⟩) 2 2, .int .i64 2, .string ⟨#[]⟩, .int .i64 0, .int .i64 Y, .slice none 0 0, .int .i64 1, .string ⟨#[120]⟩, .int .i64 X, .int .i64 0, .slice none 0 0] = cs := ⟨_, rfl⟩
  have hlit := (row_lit Wa cs 3 (by rw [← hcs]; rfl) (by omega)).drew
  have hbb : Below Wa.heap.size Wa (Wa.alloc (.cells cs 33)).drew := ((Below.refl _ Wa).alloc (Nat.le_refl _) _).drew
  have hpb := hpa.below hbb
  have hcd : CD (Wa.alloc (.cells cs 33)).drew cs.toList [⟨0, ⟨#[]⟩, 0, 0, [((⟨#[120]⟩ : ByteArray), X, Y), ((⟨#[120]⟩ : ByteArray), Y, X)]⟩, ⟨2, ⟨#[]⟩, 0, Y, []⟩, ⟨1, ⟨#[120]⟩, X, 0, []⟩] := by
    rw [← hcs] at hpb ⊢
    exact CD.cons hpb (CD.cons (PE.none _) (CD.one (PE.none _)))
  have hok : ∀ d ∈ [Dd.mk 0 ⟨#[]⟩ 0 0 [((⟨#[120]⟩ : ByteArray), X, Y), ((⟨#[120]⟩ : ByteArray), Y, X)], ⟨2, ⟨#[]⟩, 0, Y, []⟩, ⟨1, ⟨#[120]⟩, X, 0, []⟩], Wd d ∧ d.items.length ≤ 2 := fun d hd => by
    rcases List.mem_cons.1 hd with rfl | hd
    · exact wd_items (we_two (we_small (by decide) h1 h2 h3 h4) (we_small (by decide) h3 h4 h1 h2)) (by simp)
    rcases List.mem_cons.1 hd with rfl | hd
    · exact wd_small (by decide) (by decide) (by decide) h3 h4
    obtain rfl := List.mem_singleton.1 hd
    exact wd_small (by decide) h1 h2 (by decide) (by decide)
  have hda := does_any (key := ⟨#[120]⟩) (val := X) (hcd.prd hlit) (fun d hd => (hok d hd).1) (by decide) (wf_small h1 h2) (by simp) (fun d hd => by have := (hok d hd).2; omega)
  unfold litW
  rw [hcs, hWa, ← hza]
  exact hda.mono fun e w' h => ⟨h.1, hba.trans ((hbb.trans (h.2.mono hbb.size)).mono hba.size)⟩

set_option maxRecDepth 100000 in
set_option maxHeartbeats 6000000 in
theorem ends_walk (w : World) : Calls Tryz.prog 4 #[] w (Tr w) := by
  obtain ⟨i1, hj, hy0, hy1, hy2⟩ := info_parts info33
  go_enter Tryz.func4, Tryz.ntmps4
  go_wp2_with fail
  go_loopw [1] (fun i wr => ∃ q : Nat, q ≤ 1728 ∧ i = .int .i64 q ∧ Below w.heap.size w wr) (fun i _ => 1728 - (intOf i).toNat)
  case atStart => exact ⟨0, by omega, rfl, Below.refl _ _⟩
  case round =>
    obtain ⟨q, hq, rfl, hb⟩ := hrel
    have HB := Lib.hid hb
    rename World => W1
    by_cases hlt : q < 1728
    · have hqI : (q : Int) < 1728 := by omega
      clear hb
      go_wp2_with fail
      go_loopw [2, 3, 4] (fun l i k w2 => ∃ (j m : Nat) (ds : List Dd), j ≤ 3 ∧ i = .int .i64 j ∧ k = .int .i64 m ∧ m ≤ 1728 ∧ LD w2 W1.heap.size j l ds ∧ ds.length = j ∧ Below W1.heap.size W1 w2) (fun _ i _ _ => 3 - (intOf i).toNat)
      case atStart => exact ⟨0, q, [], by omega, rfl, rfl, by omega, LD.nil _ _, rfl, Below.refl _ _⟩
      case round =>
        obtain ⟨j, m, ds, hj3, rfl, rfl, hm, hld, hdl, hb2⟩ := hrel
        have HB2 := Lib.hid hb2
        have HLD := Lib.hid hld
        clear hb2 hld
        rename World => W2
        by_cases hjl : j < 3
        · have hjI : (j : Int) < 3 := by omega
          rcases (by omega : m % 2 = 0 ∨ m % 2 = 1) with hpar | hpar
          · have hp2 : (m : Int) % 2 = 0 := by omega
            have hXb : 0 ≤ (m : Int) / 2 % 2 ∧ (m : Int) / 2 % 2 < 2 := by omega
            have hYb : 0 ≤ (m : Int) / 4 % 3 ∧ (m : Int) / 4 % 3 < 3 := by omega
            have hbz := HB2.out.size
            obtain ⟨Wa, hWa⟩ : ∃ Wa, ((W2.alloc (.cells #[.string ⟨#[]⟩, .string ⟨#[97]⟩] 9)).alloc (.cells #[.string (⟨#[]⟩ : ByteArray), .int .i64 ((m : Int) / 2 % 2), .int .i64 ((m : Int) / 4 % 3)] 38)).alloc (.cells #[.string (⟨#[]⟩ : ByteArray), .int .i64 ((m : Int) / 2 % 2), .int .i64 ((m : Int) / 4 % 3)] 38) = Wa := ⟨_, rfl⟩
            have hza : Wa.heap.size = W2.heap.size + 1 + 1 + 1 := by rw [← hWa]; simp
            have hba : Below W2.heap.size W2 Wa := by rw [← hWa]; exact (((Below.refl _ W2).alloc (Nat.le_refl _) _).alloc (by simp) _).alloc (by simp; omega) _
            have hea : Wa.heap[W2.heap.size + 1 + 1]? = some (.cells #[.string (⟨#[]⟩ : ByteArray), .int .i64 ((m : Int) / 2 % 2), .int .i64 ((m : Int) / 4 % 3)] 38 (0, 0)) := by
              have := heap_alloc_new ((W2.alloc (.cells #[.string ⟨#[]⟩, .string ⟨#[97]⟩] 9)).alloc (.cells #[.string (⟨#[]⟩ : ByteArray), .int .i64 ((m : Int) / 2 % 2), .int .i64 ((m : Int) / 4 % 3)] 38)) (.cells #[.string (⟨#[]⟩ : ByteArray), .int .i64 ((m : Int) / 2 % 2), .int .i64 ((m : Int) / 4 % 3)] 38)
              rw [World.size_alloc, World.size_alloc] at this
              rw [← hWa]
              exact this
            have hpa : PE Wa (.slice (some ⟨W2.heap.size + 1 + 1, 0, none⟩) 1 1) [((⟨#[]⟩ : ByteArray), ((m : Int) / 2 % 2), ((m : Int) / 4 % 3))] := by
              have := pe_new ((W2.alloc (.cells #[.string ⟨#[]⟩, .string ⟨#[97]⟩] 9)).alloc (.cells #[.string (⟨#[]⟩ : ByteArray), .int .i64 ((m : Int) / 2 % 2), .int .i64 ((m : Int) / 4 % 3)] 38)) [((⟨#[]⟩ : ByteArray), ((m : Int) / 2 % 2), ((m : Int) / 4 % 3))] 1 1 rfl
              rw [World.size_alloc, World.size_alloc] at this
              rw [← hWa]
              exact this
            have hlit := row_lit Wa #[.int .i64 0, .string ⟨#[]⟩, .int .i64 0, .int .i64 0, .slice (some ⟨W2.heap.size + 1 + 1, 0, none⟩) 1 1] 1 rfl (by omega)
            have hbb : Below Wa.heap.size Wa (Wa.alloc (.cells #[.int .i64 0, .string ⟨#[]⟩, .int .i64 0, .int .i64 0, .slice (some ⟨W2.heap.size + 1 + 1, 0, none⟩) 1 1] 33)) := (Below.refl _ Wa).alloc (Nat.le_refl _) _
            have hld := (HLD.out.below hba).below hbb
            have hpb := hpa.below hbb
            have heb := (hbb.block _ (by omega)).trans hea
            have HYS := Lib.hid (show CD _ _ [⟨0, ⟨#[]⟩, 0, 0, [((⟨#[]⟩ : ByteArray), ((m : Int) / 2 % 2), ((m : Int) / 4 % 3))]⟩] from CD.one hpb)
            have HYB := Lib.hid (show BE (Wa.alloc (.cells #[.int .i64 0, .string ⟨#[]⟩, .int .i64 0, .int .i64 0, .slice (some ⟨W2.heap.size + 1 + 1, 0, none⟩) 1 1] 33)) [.int .i64 0, .string ⟨#[]⟩, .int .i64 0, .int .i64 0, .slice (some ⟨W2.heap.size + 1 + 1, 0, none⟩) 1 1] from fun A n c hm ad e => by
              simp at hm
              obtain ⟨rfl, _⟩ := hm
              cases e
              exact ⟨_, _, heb⟩)
            have HYO := Lib.hid (show ∀ d ∈ [Dd.mk 0 ⟨#[]⟩ 0 0 [((⟨#[]⟩ : ByteArray), ((m : Int) / 2 % 2), ((m : Int) / 4 % 3))]], Wd d ∧ d.items.length ≤ 2 from fun d hd => by
              obtain rfl : d = _ := List.mem_singleton.1 hd
              exact wd_items (we_one (we_small (by decide) (by omega) (by omega) (by omega) (by omega))) (by simp))
            have HONE := Lib.hid (show ∀ u ∈ [Value.int .i64 0, .string ⟨#[]⟩, .int .i64 0, .int .i64 0, .slice (some ⟨W2.heap.size + 1 + 1, 0, none⟩) 1 1], u.oneCell' = true from fun u hu => by
              simp only [List.mem_cons, List.not_mem_nil, or_false] at hu
              repeat' (rcases hu with rfl | hu)
              all_goals first | rfl | (subst hu; rfl))
            have HBA := Lib.hid (hba.trans (hbb.mono hba.size))
            obtain ⟨xs, hxs, hcd, hbe⟩ := hld.row
            obtain ⟨Al, cl, rfl⟩ := row_form2 hxs
            have HXS := Lib.hid hxs
            have HCD := Lib.hid hcd
            have HBEX := Lib.hid hbe
            have HLIT := Lib.hid (hlit : (Wa.alloc (.cells #[.int .i64 0, .string ⟨#[]⟩, .int .i64 0, .int .i64 0, .slice (some ⟨W2.heap.size + 1 + 1, 0, none⟩) 1 1] 33)).ownsRow Wa.heap.size 33 5 (.slice (some ⟨Wa.heap.size, 0, none⟩) 1 1) 1 [.int .i64 0, .string ⟨#[]⟩, .int .i64 0, .int .i64 0, .slice (some ⟨W2.heap.size + 1 + 1, 0, none⟩) 1 1])
            rw [hza] at HLIT
            rw [← hWa] at HLIT HXS HCD HBEX HYS HYB HBA
            clear hWa hza hba hea hpa hlit hbb hld hpb heb hxs hcd hbe
            go_wp2_with (at_builtin; refine wpList_append_dd rfl _ _ rfl (base := W1.heap.size) (b2 := W2.heap.size + 1 + 1 + 1) Tryz.underlying22 hj hy0 hy1 hy2 (v := .slice Al j cl) rfl HXS.out (B := W2.heap.size + 1 + 1 + 1) (m := 1) (c := 1) rfl HLIT.out HONE.out (by omega) (by simp; omega) ?_; intro v3 w3 hown3 hgrow3 _; have hl3 := LD.app HLD.out.ok HXS.out HCD.out HBEX.out HYS.out HYB.out HYO.out hown3 hgrow3; have HL3 := Lib.hid hl3; have hb3 : Below W1.heap.size W1 w3 := (HB2.out.trans (HBA.out.mono hbz)).grown hgrow3 (by have := HBA.out.size; omega) (fun k e => (HXS.out.lt k e).1); have HB3 := Lib.hid hb3; clear hl3 hb3 hown3 hgrow3)
            go_roundw
            case rel => exact ⟨j + 1, m / 12, _, by omega, by go_num, by go_num, by omega, HL3.out, by rw [List.length_append, hdl]; rfl, HB3.out⟩
            case measure => simp [intOf] <;> omega
          · have hp2 : (m : Int) % 2 = 1 := by omega
            have hXb : 0 ≤ (m : Int) / 2 % 2 ∧ (m : Int) / 2 % 2 < 2 := by omega
            have hYb : 0 ≤ (m : Int) / 4 % 3 ∧ (m : Int) / 4 % 3 < 3 := by omega
            have hbz := HB2.out.size
            obtain ⟨Wa, hWa⟩ : ∃ Wa, ((W2.alloc (.cells #[.string ⟨#[]⟩, .string ⟨#[97]⟩] 9)).alloc (.cells #[.string (⟨#[97]⟩ : ByteArray), .int .i64 ((m : Int) / 2 % 2), .int .i64 ((m : Int) / 4 % 3)] 38)).alloc (.cells #[.string (⟨#[97]⟩ : ByteArray), .int .i64 ((m : Int) / 2 % 2), .int .i64 ((m : Int) / 4 % 3)] 38) = Wa := ⟨_, rfl⟩
            have hza : Wa.heap.size = W2.heap.size + 1 + 1 + 1 := by rw [← hWa]; simp
            have hba : Below W2.heap.size W2 Wa := by rw [← hWa]; exact (((Below.refl _ W2).alloc (Nat.le_refl _) _).alloc (by simp) _).alloc (by simp; omega) _
            have hea : Wa.heap[W2.heap.size + 1 + 1]? = some (.cells #[.string (⟨#[97]⟩ : ByteArray), .int .i64 ((m : Int) / 2 % 2), .int .i64 ((m : Int) / 4 % 3)] 38 (0, 0)) := by
              have := heap_alloc_new ((W2.alloc (.cells #[.string ⟨#[]⟩, .string ⟨#[97]⟩] 9)).alloc (.cells #[.string (⟨#[97]⟩ : ByteArray), .int .i64 ((m : Int) / 2 % 2), .int .i64 ((m : Int) / 4 % 3)] 38)) (.cells #[.string (⟨#[97]⟩ : ByteArray), .int .i64 ((m : Int) / 2 % 2), .int .i64 ((m : Int) / 4 % 3)] 38)
              rw [World.size_alloc, World.size_alloc] at this
              rw [← hWa]
              exact this
            have hpa : PE Wa (.slice (some ⟨W2.heap.size + 1 + 1, 0, none⟩) 1 1) [((⟨#[97]⟩ : ByteArray), ((m : Int) / 2 % 2), ((m : Int) / 4 % 3))] := by
              have := pe_new ((W2.alloc (.cells #[.string ⟨#[]⟩, .string ⟨#[97]⟩] 9)).alloc (.cells #[.string (⟨#[97]⟩ : ByteArray), .int .i64 ((m : Int) / 2 % 2), .int .i64 ((m : Int) / 4 % 3)] 38)) [((⟨#[97]⟩ : ByteArray), ((m : Int) / 2 % 2), ((m : Int) / 4 % 3))] 1 1 rfl
              rw [World.size_alloc, World.size_alloc] at this
              rw [← hWa]
              exact this
            have hlit := row_lit Wa #[.int .i64 0, .string ⟨#[]⟩, .int .i64 0, .int .i64 0, .slice (some ⟨W2.heap.size + 1 + 1, 0, none⟩) 1 1] 1 rfl (by omega)
            have hbb : Below Wa.heap.size Wa (Wa.alloc (.cells #[.int .i64 0, .string ⟨#[]⟩, .int .i64 0, .int .i64 0, .slice (some ⟨W2.heap.size + 1 + 1, 0, none⟩) 1 1] 33)) := (Below.refl _ Wa).alloc (Nat.le_refl _) _
            have hld := (HLD.out.below hba).below hbb
            have hpb := hpa.below hbb
            have heb := (hbb.block _ (by omega)).trans hea
            have HYS := Lib.hid (show CD _ _ [⟨0, ⟨#[]⟩, 0, 0, [((⟨#[97]⟩ : ByteArray), ((m : Int) / 2 % 2), ((m : Int) / 4 % 3))]⟩] from CD.one hpb)
            have HYB := Lib.hid (show BE (Wa.alloc (.cells #[.int .i64 0, .string ⟨#[]⟩, .int .i64 0, .int .i64 0, .slice (some ⟨W2.heap.size + 1 + 1, 0, none⟩) 1 1] 33)) [.int .i64 0, .string ⟨#[]⟩, .int .i64 0, .int .i64 0, .slice (some ⟨W2.heap.size + 1 + 1, 0, none⟩) 1 1] from fun A n c hm ad e => by
              simp at hm
              obtain ⟨rfl, _⟩ := hm
              cases e
              exact ⟨_, _, heb⟩)
            have HYO := Lib.hid (show ∀ d ∈ [Dd.mk 0 ⟨#[]⟩ 0 0 [((⟨#[97]⟩ : ByteArray), ((m : Int) / 2 % 2), ((m : Int) / 4 % 3))]], Wd d ∧ d.items.length ≤ 2 from fun d hd => by
              obtain rfl : d = _ := List.mem_singleton.1 hd
              exact wd_items (we_one (we_small (by decide) (by omega) (by omega) (by omega) (by omega))) (by simp))
            have HONE := Lib.hid (show ∀ u ∈ [Value.int .i64 0, .string ⟨#[]⟩, .int .i64 0, .int .i64 0, .slice (some ⟨W2.heap.size + 1 + 1, 0, none⟩) 1 1], u.oneCell' = true from fun u hu => by
              simp only [List.mem_cons, List.not_mem_nil, or_false] at hu
              repeat' (rcases hu with rfl | hu)
              all_goals first | rfl | (subst hu; rfl))
            have HBA := Lib.hid (hba.trans (hbb.mono hba.size))
            obtain ⟨xs, hxs, hcd, hbe⟩ := hld.row
            obtain ⟨Al, cl, rfl⟩ := row_form2 hxs
            have HXS := Lib.hid hxs
            have HCD := Lib.hid hcd
            have HBEX := Lib.hid hbe
            have HLIT := Lib.hid (hlit : (Wa.alloc (.cells #[.int .i64 0, .string ⟨#[]⟩, .int .i64 0, .int .i64 0, .slice (some ⟨W2.heap.size + 1 + 1, 0, none⟩) 1 1] 33)).ownsRow Wa.heap.size 33 5 (.slice (some ⟨Wa.heap.size, 0, none⟩) 1 1) 1 [.int .i64 0, .string ⟨#[]⟩, .int .i64 0, .int .i64 0, .slice (some ⟨W2.heap.size + 1 + 1, 0, none⟩) 1 1])
            rw [hza] at HLIT
            rw [← hWa] at HLIT HXS HCD HBEX HYS HYB HBA
            clear hWa hza hba hea hpa hlit hbb hld hpb heb hxs hcd hbe
            go_wp2_with (at_builtin; refine wpList_append_dd rfl _ _ rfl (base := W1.heap.size) (b2 := W2.heap.size + 1 + 1 + 1) Tryz.underlying22 hj hy0 hy1 hy2 (v := .slice Al j cl) rfl HXS.out (B := W2.heap.size + 1 + 1 + 1) (m := 1) (c := 1) rfl HLIT.out HONE.out (by omega) (by simp; omega) ?_; intro v3 w3 hown3 hgrow3 _; have hl3 := LD.app HLD.out.ok HXS.out HCD.out HBEX.out HYS.out HYB.out HYO.out hown3 hgrow3; have HL3 := Lib.hid hl3; have hb3 : Below W1.heap.size W1 w3 := (HB2.out.trans (HBA.out.mono hbz)).grown hgrow3 (by have := HBA.out.size; omega) (fun k e => (HXS.out.lt k e).1); have HB3 := Lib.hid hb3; clear hl3 hb3 hown3 hgrow3)
            go_roundw
            case rel => exact ⟨j + 1, m / 12, _, by omega, by go_num, by go_num, by omega, HL3.out, by rw [List.length_append, hdl]; rfl, HB3.out⟩
            case measure => simp [intOf] <;> omega
        · obtain rfl : j = 3 := by omega
          by_cases hq3 : (q : Int) % 3 = 0
          · have hUb : 0 ≤ (q : Int) % 4 ∧ (q : Int) % 4 < 4 := by omega
            have hVb : 0 ≤ (q : Int) % 2 ∧ (q : Int) % 2 < 2 := by omega
            have hbz := HB2.out.size
            have hlit := row_lit W2 #[.int .i64 1, .string ⟨#[97]⟩, .int .i64 ((q : Int) % 2), .int .i64 0, .slice none 0 0, .int .i64 2, .string ⟨#[]⟩, .int .i64 0, .int .i64 ((q : Int) % 4), .slice none 0 0] 2 rfl (by omega)
            have hbb : Below W2.heap.size W2 (W2.alloc (.cells #[.int .i64 1, .string ⟨#[97]⟩, .int .i64 ((q : Int) % 2), .int .i64 0, .slice none 0 0, .int .i64 2, .string ⟨#[]⟩, .int .i64 0, .int .i64 ((q : Int) % 4), .slice none 0 0] 33)) := (Below.refl _ W2).alloc (Nat.le_refl _) _
            have hld := HLD.out.below hbb
            have HYS := Lib.hid (show CD (W2.alloc (.cells #[.int .i64 1, .string ⟨#[97]⟩, .int .i64 ((q : Int) % 2), .int .i64 0, .slice none 0 0, .int .i64 2, .string ⟨#[]⟩, .int .i64 0, .int .i64 ((q : Int) % 4), .slice none 0 0] 33)) (#[.int .i64 1, .string ⟨#[97]⟩, .int .i64 ((q : Int) % 2), .int .i64 0, .slice none 0 0, .int .i64 2, .string ⟨#[]⟩, .int .i64 0, .int .i64 ((q : Int) % 4), .slice none 0 0] : Array Value).toList [⟨1, ⟨#[97]⟩, (q : Int) % 2, 0, []⟩, ⟨2, ⟨#[]⟩, 0, (q : Int) % 4, []⟩] from CD.cons (PE.none _) (CD.one (PE.none _)))
            have HYB := Lib.hid (show BE (W2.alloc (.cells #[.int .i64 1, .string ⟨#[97]⟩, .int .i64 ((q : Int) % 2), .int .i64 0, .slice none 0 0, .int .i64 2, .string ⟨#[]⟩, .int .i64 0, .int .i64 ((q : Int) % 4), .slice none 0 0] 33)) (#[.int .i64 1, .string ⟨#[97]⟩, .int .i64 ((q : Int) % 2), .int .i64 0, .slice none 0 0, .int .i64 2, .string ⟨#[]⟩, .int .i64 0, .int .i64 ((q : Int) % 4), .slice none 0 0] : Array Value).toList from fun A n c hm ad e => by
              simp at hm
              obtain ⟨rfl, _⟩ := hm
              cases e)
            have HYO := Lib.hid (show ∀ d ∈ [Dd.mk 1 ⟨#[97]⟩ ((q : Int) % 2) 0 [], ⟨2, ⟨#[]⟩, 0, (q : Int) % 4, []⟩], Wd d ∧ d.items.length ≤ 2 from fun d hd => by
              rcases List.mem_cons.1 hd with rfl | hd
              · exact wd_small (by decide) (by omega) (by omega) (by decide) (by decide)
              obtain rfl := List.mem_singleton.1 hd
              exact wd_small (by decide) (by decide) (by decide) (by omega) (by omega))
            have HONE := Lib.hid (show ∀ u ∈ (#[.int .i64 1, .string ⟨#[97]⟩, .int .i64 ((q : Int) % 2), .int .i64 0, .slice none 0 0, .int .i64 2, .string ⟨#[]⟩, .int .i64 0, .int .i64 ((q : Int) % 4), .slice none 0 0] : Array Value).toList, u.oneCell' = true from fun u hu => by
              simp only [List.mem_cons, List.not_mem_nil, or_false] at hu
              repeat' (rcases hu with rfl | hu)
              all_goals first | rfl | (subst hu; rfl))
            have HBA := Lib.hid hbb
            obtain ⟨xs, hxs, hcd, hbe⟩ := hld.row
            obtain ⟨Al, cl, rfl⟩ := row_form2 hxs
            have HXS := Lib.hid hxs
            have HCD := Lib.hid hcd
            have HBEX := Lib.hid hbe
            have HLIT := Lib.hid hlit
            clear hlit hbb hld hxs hcd hbe
            go_upto_region 13 with (at_builtin; refine wpList_append_dd rfl _ _ rfl (base := W1.heap.size) (b2 := W2.heap.size) Tryz.underlying22 hj hy0 hy1 hy2 (v := .slice Al 3 cl) rfl HXS.out (B := W2.heap.size) (m := 2) (c := 2) rfl HLIT.out HONE.out (by omega) (by simp; omega) ?_; intro v3 W3 hown3 hgrow3 _; have hl3 := LD.app HLD.out.ok HXS.out HCD.out HBEX.out HYS.out HYB.out HYO.out hown3 hgrow3; have HL3 := Lib.hid hl3; have hb3 : Below W1.heap.size W1 W3 := (HB2.out.trans (HBA.out.mono hbz)).grown hgrow3 (by have := HBA.out.size; omega) (fun k e => (HXS.out.lt k e).1); have HB3 := Lib.hid hb3; have HDL := Lib.hid (show (ds ++ [Dd.mk 1 ⟨#[97]⟩ ((q : Int) % 2) 0 [], ⟨2, ⟨#[]⟩, 0, (q : Int) % 4, []⟩]).length = 5 from (by rw [List.length_append, hdl]; rfl)); clear hl3 hb3 hown3 hgrow3 HXS HCD HBEX HLIT HYS HYB HYO HONE HBA hUb hVb hbz)
            have hUb : -1 ≤ -1 ∧ -1 ≤ 1 := by omega
            have hVb : 0 ≤ (q : Int) % 2 ∧ (q : Int) % 2 < 2 := by omega
            have hbz := HB3.out.size
            obtain ⟨Wa, hWa⟩ : ∃ Wa, W3.alloc (.cells #[.string ⟨#[97]⟩, .int .i64 0, .int .i64 1] 38) = Wa := ⟨_, rfl⟩
            have hza : Wa.heap.size = W3.heap.size + 1 := by rw [← hWa]; simp
            have hba : Below W3.heap.size W3 Wa := by rw [← hWa]; exact (Below.refl _ W3).alloc (Nat.le_refl _) _
            have hea : Wa.heap[W3.heap.size]? = some (.cells #[.string ⟨#[97]⟩, .int .i64 0, .int .i64 1] 38 (0, 0)) := by rw [← hWa]; exact heap_alloc_new _ _
            have hpa : PE Wa (.slice (some ⟨W3.heap.size, 0, none⟩) 1 1) [((⟨#[97]⟩ : ByteArray), 0, 1)] := by rw [← hWa]; exact pe_new W3 [((⟨#[97]⟩ : ByteArray), 0, 1)] 1 1 rfl
            have hlit := row_lit Wa #[.int .i64 2, .string ⟨#[]⟩, .int .i64 0, .int .i64 (-1), .slice none 0 0, .int .i64 0, .string ⟨#[]⟩, .int .i64 0, .int .i64 0, .slice (some ⟨W3.heap.size, 0, none⟩) 1 1, .int .i64 2, .string ⟨#[]⟩, .int .i64 0, .int .i64 1, .slice none 0 0] 3 rfl (by omega)
            have hbb : Below Wa.heap.size Wa (Wa.alloc (.cells #[.int .i64 2, .string ⟨#[]⟩, .int .i64 0, .int .i64 (-1), .slice none 0 0, .int .i64 0, .string ⟨#[]⟩, .int .i64 0, .int .i64 0, .slice (some ⟨W3.heap.size, 0, none⟩) 1 1, .int .i64 2, .string ⟨#[]⟩, .int .i64 0, .int .i64 1, .slice none 0 0] 33)) := (Below.refl _ Wa).alloc (Nat.le_refl _) _
            have hld := (HL3.out.below hba).below hbb
            have hpb := hpa.below hbb
            have heb := (hbb.block _ (by omega)).trans hea
            have HYS := Lib.hid (show CD (Wa.alloc (.cells #[.int .i64 2, .string ⟨#[]⟩, .int .i64 0, .int .i64 (-1), .slice none 0 0, .int .i64 0, .string ⟨#[]⟩, .int .i64 0, .int .i64 0, .slice (some ⟨W3.heap.size, 0, none⟩) 1 1, .int .i64 2, .string ⟨#[]⟩, .int .i64 0, .int .i64 1, .slice none 0 0] 33)) (#[.int .i64 2, .string ⟨#[]⟩, .int .i64 0, .int .i64 (-1), .slice none 0 0, .int .i64 0, .string ⟨#[]⟩, .int .i64 0, .int .i64 0, .slice (some ⟨W3.heap.size, 0, none⟩) 1 1, .int .i64 2, .string ⟨#[]⟩, .int .i64 0, .int .i64 1, .slice none 0 0] : Array Value).toList [⟨2, ⟨#[]⟩, 0, -1, []⟩, ⟨0, ⟨#[]⟩, 0, 0, [((⟨#[97]⟩ : ByteArray), 0, 1)]⟩, ⟨2, ⟨#[]⟩, 0, 1, []⟩] from CD.cons (PE.none _) (CD.cons hpb (CD.one (PE.none _))))
            have HYB := Lib.hid (show BE (Wa.alloc (.cells #[.int .i64 2, .string ⟨#[]⟩, .int .i64 0, .int .i64 (-1), .slice none 0 0, .int .i64 0, .string ⟨#[]⟩, .int .i64 0, .int .i64 0, .slice (some ⟨W3.heap.size, 0, none⟩) 1 1, .int .i64 2, .string ⟨#[]⟩, .int .i64 0, .int .i64 1, .slice none 0 0] 33)) (#[.int .i64 2, .string ⟨#[]⟩, .int .i64 0, .int .i64 (-1), .slice none 0 0, .int .i64 0, .string ⟨#[]⟩, .int .i64 0, .int .i64 0, .slice (some ⟨W3.heap.size, 0, none⟩) 1 1, .int .i64 2, .string ⟨#[]⟩, .int .i64 0, .int .i64 1, .slice none 0 0] : Array Value).toList from fun A n c hm ad e => by
              subst e
              simp at hm
              obtain ⟨rfl, _⟩ := hm
              exact ⟨_, _, heb⟩)
            have HYO := Lib.hid (show ∀ d ∈ [Dd.mk 2 ⟨#[]⟩ 0 (-1) [], ⟨0, ⟨#[]⟩, 0, 0, [((⟨#[97]⟩ : ByteArray), 0, 1)]⟩, ⟨2, ⟨#[]⟩, 0, 1, []⟩], Wd d ∧ d.items.length ≤ 2 from fun d hd => by
              rcases List.mem_cons.1 hd with rfl | hd
              · exact wd_small (by decide) (by decide) (by decide) (by omega) (by omega)
              rcases List.mem_cons.1 hd with rfl | hd
              · exact wd_items (we_one (we_small (by decide) (by decide) (by decide) (by decide) (by decide))) (by simp)
              obtain rfl := List.mem_singleton.1 hd
              exact wd_small (by decide) (by decide) (by decide) (by decide) (by decide))
            have HONE := Lib.hid (show ∀ u ∈ (#[.int .i64 2, .string ⟨#[]⟩, .int .i64 0, .int .i64 (-1), .slice none 0 0, .int .i64 0, .string ⟨#[]⟩, .int .i64 0, .int .i64 0, .slice (some ⟨W3.heap.size, 0, none⟩) 1 1, .int .i64 2, .string ⟨#[]⟩, .int .i64 0, .int .i64 1, .slice none 0 0] : Array Value).toList, u.oneCell' = true from fun u hu => by
              simp only [List.mem_cons, List.not_mem_nil, or_false] at hu
              repeat' (rcases hu with rfl | hu)
              all_goals first | rfl | (subst hu; rfl))
            have HBA := Lib.hid (hba.trans (hbb.mono hba.size))
            obtain ⟨xs, hxs, hcd, hbe⟩ := hld.row
            obtain ⟨Al, cl, rfl⟩ := row_form2 hxs
            have HXS := Lib.hid hxs
            have HCD := Lib.hid hcd
            have HBEX := Lib.hid hbe
            have HLIT := Lib.hid hlit
            rw [hza] at HLIT
            rw [← hWa] at HLIT HXS HCD HBEX HYS HYB HBA
            clear hWa hza hba hea hpa hlit hbb hld hpb heb hxs hcd hbe
            go_wp2_with (at_builtin; refine wpList_append_dd rfl _ _ rfl (base := W1.heap.size) (b2 := W3.heap.size + 1) Tryz.underlying22 hj hy0 hy1 hy2 (v := .slice Al (3 + 2) cl) rfl HXS.out (B := W3.heap.size + 1) (m := 3) (c := 3) rfl HLIT.out HONE.out (by omega) (by simp; omega) ?_; intro v4 w4 hown4 hgrow4 _; have hl4 := LD.app HL3.out.ok HXS.out HCD.out HBEX.out HYS.out HYB.out HYO.out hown4 hgrow4; have HL4 := Lib.hid hl4; have hb4 : Below W1.heap.size W1 w4 := (HB3.out.trans (HBA.out.mono hbz)).grown hgrow4 (by have := HBA.out.size; omega) (fun k e => (HXS.out.lt k e).1); have HB4 := Lib.hid hb4; clear hl4 hb4 hown4 hgrow4)
            refine (HL4.out.does (by rw [List.length_append, HDL.out]; simp) (by decide) (wf_small (by omega) (by omega))).mono ?_
            rintro e w5 ⟨rfl, hb5⟩
            have HB5 := Lib.hid (HB.out.trans ((HB4.out.trans (hb5.mono HB4.out.size)).mono HB.out.size))
            clear hb5
            go_wp2_with fail
            go_roundw
            case rel => exact ⟨q + 1, by omega, by go_num, HB5.out⟩
            case measure => simp [intOf] <;> omega
          · have HB3 := HB2
            have HL3 := HLD
            have HDL := Lib.hid hdl
            have hUb : -1 ≤ (q : Int) % 3 - 1 ∧ (q : Int) % 3 - 1 ≤ 1 := by omega
            have hVb : 0 ≤ (q : Int) % 2 ∧ (q : Int) % 2 < 2 := by omega
            have hbz := HB3.out.size
            obtain ⟨Wa, hWa⟩ : ∃ Wa, W2.alloc (.cells #[.string ⟨#[97]⟩, .int .i64 0, .int .i64 1] 38) = Wa := ⟨_, rfl⟩
            have hza : Wa.heap.size = W2.heap.size + 1 := by rw [← hWa]; simp
            have hba : Below W2.heap.size W2 Wa := by rw [← hWa]; exact (Below.refl _ W2).alloc (Nat.le_refl _) _
            have hea : Wa.heap[W2.heap.size]? = some (.cells #[.string ⟨#[97]⟩, .int .i64 0, .int .i64 1] 38 (0, 0)) := by rw [← hWa]; exact heap_alloc_new _ _
            have hpa : PE Wa (.slice (some ⟨W2.heap.size, 0, none⟩) 1 1) [((⟨#[97]⟩ : ByteArray), 0, 1)] := by rw [← hWa]; exact pe_new W2 [((⟨#[97]⟩ : ByteArray), 0, 1)] 1 1 rfl
            have hlit := row_lit Wa #[.int .i64 2, .string ⟨#[]⟩, .int .i64 0, .int .i64 ((q : Int) % 3 - 1), .slice none 0 0, .int .i64 0, .string ⟨#[]⟩, .int .i64 0, .int .i64 0, .slice (some ⟨W2.heap.size, 0, none⟩) 1 1, .int .i64 2, .string ⟨#[]⟩, .int .i64 0, .int .i64 1, .slice none 0 0] 3 rfl (by omega)
            have hbb : Below Wa.heap.size Wa (Wa.alloc (.cells #[.int .i64 2, .string ⟨#[]⟩, .int .i64 0, .int .i64 ((q : Int) % 3 - 1), .slice none 0 0, .int .i64 0, .string ⟨#[]⟩, .int .i64 0, .int .i64 0, .slice (some ⟨W2.heap.size, 0, none⟩) 1 1, .int .i64 2, .string ⟨#[]⟩, .int .i64 0, .int .i64 1, .slice none 0 0] 33)) := (Below.refl _ Wa).alloc (Nat.le_refl _) _
            have hld := (HL3.out.below hba).below hbb
            have hpb := hpa.below hbb
            have heb := (hbb.block _ (by omega)).trans hea
            have HYS := Lib.hid (show CD (Wa.alloc (.cells #[.int .i64 2, .string ⟨#[]⟩, .int .i64 0, .int .i64 ((q : Int) % 3 - 1), .slice none 0 0, .int .i64 0, .string ⟨#[]⟩, .int .i64 0, .int .i64 0, .slice (some ⟨W2.heap.size, 0, none⟩) 1 1, .int .i64 2, .string ⟨#[]⟩, .int .i64 0, .int .i64 1, .slice none 0 0] 33)) (#[.int .i64 2, .string ⟨#[]⟩, .int .i64 0, .int .i64 ((q : Int) % 3 - 1), .slice none 0 0, .int .i64 0, .string ⟨#[]⟩, .int .i64 0, .int .i64 0, .slice (some ⟨W2.heap.size, 0, none⟩) 1 1, .int .i64 2, .string ⟨#[]⟩, .int .i64 0, .int .i64 1, .slice none 0 0] : Array Value).toList [⟨2, ⟨#[]⟩, 0, (q : Int) % 3 - 1, []⟩, ⟨0, ⟨#[]⟩, 0, 0, [((⟨#[97]⟩ : ByteArray), 0, 1)]⟩, ⟨2, ⟨#[]⟩, 0, 1, []⟩] from CD.cons (PE.none _) (CD.cons hpb (CD.one (PE.none _))))
            have HYB := Lib.hid (show BE (Wa.alloc (.cells #[.int .i64 2, .string ⟨#[]⟩, .int .i64 0, .int .i64 ((q : Int) % 3 - 1), .slice none 0 0, .int .i64 0, .string ⟨#[]⟩, .int .i64 0, .int .i64 0, .slice (some ⟨W2.heap.size, 0, none⟩) 1 1, .int .i64 2, .string ⟨#[]⟩, .int .i64 0, .int .i64 1, .slice none 0 0] 33)) (#[.int .i64 2, .string ⟨#[]⟩, .int .i64 0, .int .i64 ((q : Int) % 3 - 1), .slice none 0 0, .int .i64 0, .string ⟨#[]⟩, .int .i64 0, .int .i64 0, .slice (some ⟨W2.heap.size, 0, none⟩) 1 1, .int .i64 2, .string ⟨#[]⟩, .int .i64 0, .int .i64 1, .slice none 0 0] : Array Value).toList from fun A n c hm ad e => by
              subst e
              simp at hm
              obtain ⟨rfl, _⟩ := hm
              exact ⟨_, _, heb⟩)
            have HYO := Lib.hid (show ∀ d ∈ [Dd.mk 2 ⟨#[]⟩ 0 ((q : Int) % 3 - 1) [], ⟨0, ⟨#[]⟩, 0, 0, [((⟨#[97]⟩ : ByteArray), 0, 1)]⟩, ⟨2, ⟨#[]⟩, 0, 1, []⟩], Wd d ∧ d.items.length ≤ 2 from fun d hd => by
              rcases List.mem_cons.1 hd with rfl | hd
              · exact wd_small (by decide) (by decide) (by decide) (by omega) (by omega)
              rcases List.mem_cons.1 hd with rfl | hd
              · exact wd_items (we_one (we_small (by decide) (by decide) (by decide) (by decide) (by decide))) (by simp)
              obtain rfl := List.mem_singleton.1 hd
              exact wd_small (by decide) (by decide) (by decide) (by decide) (by decide))
            have HONE := Lib.hid (show ∀ u ∈ (#[.int .i64 2, .string ⟨#[]⟩, .int .i64 0, .int .i64 ((q : Int) % 3 - 1), .slice none 0 0, .int .i64 0, .string ⟨#[]⟩, .int .i64 0, .int .i64 0, .slice (some ⟨W2.heap.size, 0, none⟩) 1 1, .int .i64 2, .string ⟨#[]⟩, .int .i64 0, .int .i64 1, .slice none 0 0] : Array Value).toList, u.oneCell' = true from fun u hu => by
              simp only [List.mem_cons, List.not_mem_nil, or_false] at hu
              repeat' (rcases hu with rfl | hu)
              all_goals first | rfl | (subst hu; rfl))
            have HBA := Lib.hid (hba.trans (hbb.mono hba.size))
            obtain ⟨xs, hxs, hcd, hbe⟩ := hld.row
            obtain ⟨Al, cl, rfl⟩ := row_form2 hxs
            have HXS := Lib.hid hxs
            have HCD := Lib.hid hcd
            have HBEX := Lib.hid hbe
            have HLIT := Lib.hid hlit
            rw [hza] at HLIT
            rw [← hWa] at HLIT HXS HCD HBEX HYS HYB HBA
            clear hWa hza hba hea hpa hlit hbb hld hpb heb hxs hcd hbe
            go_wp2_with (at_builtin; refine wpList_append_dd rfl _ _ rfl (base := W1.heap.size) (b2 := W2.heap.size + 1) Tryz.underlying22 hj hy0 hy1 hy2 (v := .slice Al 3 cl) rfl HXS.out (B := W2.heap.size + 1) (m := 3) (c := 3) rfl HLIT.out HONE.out (by omega) (by simp; omega) ?_; intro v4 w4 hown4 hgrow4 _; have hl4 := LD.app HL3.out.ok HXS.out HCD.out HBEX.out HYS.out HYB.out HYO.out hown4 hgrow4; have HL4 := Lib.hid hl4; have hb4 : Below W1.heap.size W1 w4 := (HB3.out.trans (HBA.out.mono hbz)).grown hgrow4 (by have := HBA.out.size; omega) (fun k e => (HXS.out.lt k e).1); have HB4 := Lib.hid hb4; clear hl4 hb4 hown4 hgrow4)
            refine (HL4.out.does (by rw [List.length_append, HDL.out]; simp) (by decide) (wf_small (by omega) (by omega))).mono ?_
            rintro e w5 ⟨rfl, hb5⟩
            have HB5 := Lib.hid (HB.out.trans ((HB4.out.trans (hb5.mono HB4.out.size)).mono HB.out.size))
            clear hb5
            go_wp2_with fail
            go_roundw
            case rel => exact ⟨q + 1, by omega, by go_num, HB5.out⟩
            case measure => simp [intOf] <;> omega
    · have hqI : ¬ (q : Int) < 1728 := by omega
      have hE0 : Below w.heap.size w (W1.alloc (.cells #[.int .i64 (-9223372036854775808), .int .i64 (-1), .int .i64 0, .int .i64 9223372036854775807] 3)) := HB.out.alloc HB.out.size _
      have he0 := heap_alloc_new W1 (.cells #[.int .i64 (-9223372036854775808), .int .i64 (-1), .int .i64 0, .int .i64 9223372036854775807] 3)
      clear hb
      go_wp2_with fail
      obtain ⟨W0, hW0⟩ : ∃ W0, W1.alloc (.cells #[.int .i64 (-9223372036854775808), .int .i64 (-1), .int .i64 0, .int .i64 9223372036854775807] 3) = W0 := ⟨_, rfl⟩
      rw [hW0] at hE0 he0 ⊢
      obtain ⟨E, hE⟩ : ∃ E, W1.heap.size = E := ⟨_, rfl⟩
      rw [hE] at he0 ⊢
      have HB0 := Lib.hid hE0
      have HE0 := Lib.hid he0
      clear hE0 he0 hW0 hE
      go_loopw [7] (fun i wr => ∃ r : Nat, r ≤ 16 ∧ i = .int .i64 r ∧ Below W0.heap.size W0 wr) (fun i _ => 16 - (intOf i).toNat)
      case atStart => exact ⟨0, by omega, rfl, Below.refl _ _⟩
      case round =>
        obtain ⟨r, hr, rfl, hb2⟩ := hrel
        have HB2 := Lib.hid hb2
        rename World => W2
        by_cases hlr : r < 16
        · have hrI : (r : Int) < 16 := by omega
          have hE2 := (hb2.block E (Array.getElem?_eq_some_iff.1 HE0.out).1).trans HE0.out
          clear hb2
          have hcells : ∀ k, k < 4 → ∃ x : Int, W2.cell? ⟨E, k, none⟩ = some (.int .i64 x) ∧ -9223372036854775808 ≤ x ∧ x ≤ 9223372036854775807 := by
            intro k hk
            rcases (by omega : k = 0 ∨ k = 1 ∨ k = 2 ∨ k = 3) with rfl | rfl | rfl | rfl
            · exact ⟨_, cell_of_row _ _ 0 _ 3 (0, 0) hE2, by decide, by decide⟩
            · exact ⟨_, cell_of_row _ _ 1 _ 3 (0, 0) hE2, by decide, by decide⟩
            · exact ⟨_, cell_of_row _ _ 2 _ 3 (0, 0) hE2, by decide, by decide⟩
            · exact ⟨_, cell_of_row _ _ 3 _ 3 (0, 0) hE2, by decide, by decide⟩
          obtain ⟨a, ha⟩ : ∃ a, r / 4 = a := ⟨_, rfl⟩
          obtain ⟨b, hb⟩ : ∃ b, r % 4 = b := ⟨_, rfl⟩
          have ha5 : a < 4 := by omega
          have hb5 : b < 4 := by omega
          obtain ⟨Y, hY, hY1, hY2⟩ := hcells a ha5
          obtain ⟨X, hX, hX1, hX2⟩ := hcells b hb5
          have hEl := (Array.getElem?_eq_some_iff.1 hE2).1
          have HEL := Lib.hid hEl
          have HR := Lib.hid hlr
          have HXY := Lib.hid (And.intro (And.intro hX1 hX2) (And.intro hY1 hY2))
          have ha0 : (0 : Int) ≤ (a : Int) := by omega
          have ha1 : (a : Int) < 4 := by omega
          have hb0 : (0 : Int) ≤ (b : Int) := by omega
          have hb1 : (b : Int) < 4 := by omega
          have hab : (a : Int) * 1 = a := by omega
          have e3 : (r : Int) / 4 = a := by omega
          have e4 : (r : Int) % 4 = b := by omega
          have e1 : (r : Int).tdiv 4 = a := by rw [Int.tdiv_eq_ediv_of_nonneg (by omega)]; exact e3
          have e2 : (r : Int).tmod 4 = b := by rw [Int.tmod_eq_emod_of_nonneg (by omega)]; exact e4
          have e5 : IntKind.i64.wrap (a : Int) = a := IntWalk.i64_in _ (by omega)
          have e6 : IntKind.i64.wrap (b : Int) = b := IntWalk.i64_in _ (by omega)
          have e7 : IntKind.i64.wrap ((r : Int).tdiv 4) = a := by rw [e1]; exact e5
          have e8 : IntKind.i64.wrap ((r : Int).tmod 4) = b := by rw [e2]; exact e6
          have e9 : IntKind.i64.wrap ((r : Int) / 4) = a := by rw [e3]; exact e5
          have e10 : IntKind.i64.wrap ((r : Int) % 4) = b := by rw [e4]; exact e6
          have pab := lit_two W2 X Y hX1 hX2 hY1 hY2
          obtain ⟨WC, hWC⟩ : ∃ WC, litW W2 X Y = WC := ⟨_, rfl⟩
          rw [hWC] at pab
          unfold litW at hWC
          have HWC := Lib.hid hWC
          have HAB := Lib.hid pab
          clear pab hWC
          clear hE2 hcells hab hlr hEl hX1 hX2 hY1 hY2
          go_wp2_with fail
          go_region_held3 (fun w' => w'.cell? ⟨E, a, none⟩ = some (.int .i64 Y) ∧ w'.cell? ⟨E, b, none⟩ = some (.int .i64 X)) (first | exact ⟨hY, hX⟩ | (go_keep; done) | exact ⟨z1, z2⟩ | (refine ⟨?_, ?_⟩ <;> assumption)) (first | (go_at_call 3; rw [HWC.out]; refine HAB.out.mono ?_; rintro e w4 ⟨rfl, hb4⟩; have z1 := (hb4.cell (p := ⟨E, a, none⟩) HEL.out).trans hY; have z2 := (hb4.cell (p := ⟨E, b, none⟩) HEL.out).trans hX; have HB4 := Lib.hid hb4; clear hb4))
          all_goals
            clear e1 e2 e3 e4 e5 e6 e7 e8 e9 e10 ha hb
            have hlr := HR.out
            go_wp2_with fail
            go_roundw
            case rel => exact ⟨r + 1, by omega, by go_num, HB2.out.trans (HB4.out.mono HB2.out.size)⟩
            case measure => simp [intOf] <;> omega
        · have hrI : ¬ (r : Int) < 16 := by omega
          clear hb2
          go_wp2_with fail
          refine (none_any _).mono ?_
          rintro e w3 ⟨rfl, hb3⟩
          have HB3 := Lib.hid (HB2.out.trans (hb3.mono HB2.out.size))
          clear hb3
          go_wp2_with fail
          refine (awake_any _).mono ?_
          rintro e w4 ⟨rfl, hb4⟩
          have HB4 := Lib.hid (HB3.out.trans (hb4.mono HB3.out.size))
          clear hb4
          go_wp2_with fail
          go_ret
          exact ⟨rfl, HB0.out.trans (HB4.out.mono HB0.out.size)⟩
end Go.Proofs.YtfcdgfjpmcapkaaGreat

namespace Go.Proofs.YtfcdgfjpmcapkaaGreat.bagEnds
open Go.ChangeShapes Go.WideShapes Go.ChangeAt Go.RowKit
set_option linter.unusedVariables false

/-! ### the row -/
set_option maxRecDepth 100000 in
theorem lifted (os : Os) (started : os.Started) (H : Type) (enc : TypeId × Value → H) :
    ReturnsInHanded {} Tryz.checked os 4 .any (Rows.bagEndsSpec.pre6 enc Tryz.prog Tryz.f4 Rows.bagEndsRow.domain false) (Rows.bagEndsSpec.post enc Tryz.prog Tryz.f4 false true false false) := by
  refine returnsInHanded_of_change_sized (C := Tryz.checked) own started (by kernel_rfl) Tryz.func4
    (ChangeSpec.witness6 (enc := enc) (C := Tryz.checked) false ⟨#[], #[], []⟩ 8 (by kernel_rfl) (by kernel_rfl) (by kernel_rfl) (by kernel_rfl)) ?_
  intro W base args ds gs before hval0 hW hcnd hsz _
  have hW' := hW
  obtain ⟨p, q, hA0, hV, rfl, hfz, hnd⟩ := hW
  have hA : DataW.TrodAll enc Tryz.prog W 0 (fun _ => true) true Tryz.f4.params.toList args.toList ds p := hA0
  rw [Tryz.params4] at hA
  obtain ⟨rfl, rfl, rfl⟩ := trodAll_none hA
  obtain ⟨rfl, rfl⟩ := trodVars_none hV
  clear hA0 hval0 hsz
  refine (ends_walk W).mono fun e W' ⟨he, hg⟩ => ?_
  subst he
  exact ⟨_, rfl, post_read hW' (fun _ _ _ => (trodAll_cons_mk (shut_bool Tryz.underlying4 _) trodAll_mk0))
    trodAll_mk0 rfl (by simp) hg⟩

theorem over : Rows.bagEndsRow.holds Tryz.pinned (OpenSpec.ofChange Rows.bagEndsSpec) :=
  OpenClaim.holds_of_wide 4 Tryz.f4 rfl rfl rfl rfl rfl rfl rfl ⟨rfl, rfl, rfl, rfl, rfl⟩ rfl rfl rfl rfl rfl (by kernel_rfl) Tryz.func4 (by kernel_rfl)
    (of_decide_eq_true (by kernel_rfl)) (by unfold Func.isWrapper; first | (rw [if_pos (by decide +kernel)]; kernel_rfl) | (rw [if_neg (by decide +kernel)]; exact ⟨rfl, rfl⟩))
    (fun os started H enc _ => lifted os started H enc)

/-- the statement -/
theorem proved : Rows.BagEndsSaid :=
  over
#print axioms proved
end Go.Proofs.YtfcdgfjpmcapkaaGreat.bagEnds
