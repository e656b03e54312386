/- The reference's heap in memory; what is appended out of whatever row of items; its smaller functions walked. -/
import Derived.Test.YtabbgananngjlaaU
import Derived.Test.YtabbgananngjlaaT
import Derived.BigQuiet
import Derived.Deep.RegionLaw
namespace Go.Proofs.Ytabbgananngjlaa
open Go.ChangeShapes Go.WideShapes Go.ChangeAt Go.RowKit
set_option linter.unusedVariables false

/-- appended out of a row of items, whatever it is: an empty one, nil too -/
theorem run_append_pr {P : Program} {w : World} {t ty e base : Nat} {i : TypeInfo} (ht : P.underlying t = some (.slice e)) (hi : P.info? e = some i) (hz : i.zero = some (.agg #[.int .i64 0, .int .i64 0])) (hs : i.size = 2) (hby : i.bytes = 16)
    {v : Value} {n : Nat} {xs : List Value} (hown : w.ownsRow base e 2 v n xs) {v2 : Value} {l : List It} (hpr : PR w v2 l) (hl : n + l.length ≤ 2000000) (hbase : base ≤ w.heap.size) :
    ∃ v' w', (Builtin.append_ #[t, t] ty #[v, v2]).run P w = .ok v' w' ∧ w'.ownsRow base e 2 v' (n + l.length) (xs ++ flat l) ∧ w.grownBy w' v.ownBlock ∧ (v'.ownBlock = v.ownBlock ∨ v'.ownBlock = some w.heap.size) := by
  obtain ⟨A, c, rfl, hr⟩ := hpr
  cases A with
  | none =>
    have h0 : l = [] := by
      rcases Nat.eq_zero_or_pos l.length with h0 | h0
      · exact List.eq_nil_of_length_eq_zero h0
      · obtain ⟨ad, e, _⟩ := hr h0
        cases e
    subst h0
    refine ⟨v, w, ?_, by simpa [flat] using hown, ⟨rfl, rfl, rfl, Nat.le_refl _, fun _ _ _ => rfl⟩, .inl rfl⟩
    rcases hown.2 with ⟨rfl, rfl⟩ | ⟨g, cap, cur, rfl, _, _, hnc, _⟩
    · simp [Builtin.append_, run_underlying ht, sizeOf, typeInfo, hi, Builtin.lenOf, Builtin.firstCells]
    · simp [Builtin.append_, run_underlying ht, sizeOf, typeInfo, hi, Builtin.lenOf, Builtin.firstCells, hnc, storeCells]
  | some ad =>
    have hnews : ∀ j u, (flat l)[j]? = some u → w.cell? (ad.add j) = some u := by
      intro j u hj
      have h0 : 0 < l.length := by
        have := (List.getElem?_eq_some_iff.1 hj).1
        rw [flat_len] at this
        omega
      obtain ⟨ad', e, hb, hc⟩ := hr h0
      injection e with e
      subst e
      exact flat_news hc j u hj
    obtain ⟨v', w', h1, h2, h3, _, h5⟩ := run_append_own_at (P := P) w base t ty e i _ 2 16 ht hi hz hs hby rfl (by decide) v n xs hown ad l.length c (flat l) (flat_len l) hnews (flat_one l) (by unfold maxLen; omega) (by omega) hbase
    exact ⟨v', w', h1, h2, h3, h5⟩

theorem wp_append_pr {P : Program} {w : World} {o : Oper} {a : Act} {K : Act → World → Prop} {Q : Exit → Act → World → Prop} (s x : Operand) {t e base : Nat} (ho : o.op = .call { callee := .builtin .append, args := #[s, x], argTypes := #[t, t] })
    {i : TypeInfo} (ht : P.underlying t = some (.slice e)) (hi : P.info? e = some i) (hz : i.zero = some (.agg #[.int .i64 0, .int .i64 0])) (hs : i.size = 2) (hby : i.bytes = 16)
    {v : Value} {n : Nat} {xs : List Value} (he : a.eval s = v) (hown : w.ownsRow base e 2 v n xs) {v2 : Value} {l : List It} (hx : a.eval x = v2) (hpr : PR w v2 l) (hl : n + l.length ≤ 2000000) (hbase : base ≤ w.heap.size)
    (h : ∀ v' w', w'.ownsRow base e 2 v' (n + l.length) (xs ++ flat l) → w.grownBy w' v.ownBlock → (v'.ownBlock = v.ownBlock ∨ v'.ownBlock = some w.heap.size) → K (a.put o.dst v') w') : o.wp P a w K Q := by
  obtain ⟨v', w', hr, h2, h3, h4⟩ := run_append_pr (P := P) (ty := o.type) ht hi hz hs hby hown hpr hl hbase
  unfold Oper.wp execOp
  simp only [ho, resolve, invoke, builtin, Sem.run_bind, Sem.run_pure, Result.andThen_ok, List.map_toArray, List.map_cons, List.map_nil, he, hx, hr]
  exact h v' w' h2 h3 h4
theorem wpList_append_pr {P : Program} {w : World} {ops : Array Oper} {rest : List Oper} {o : Oper} {a : Act} {Q : Exit → Act → World → Prop} (hgd : o.guard = none) (s x : Operand) {t e base : Nat} (ho : o.op = .call { callee := .builtin .append, args := #[s, x], argTypes := #[t, t] })
    {i : TypeInfo} (ht : P.underlying t = some (.slice e)) (hi : P.info? e = some i) (hz : i.zero = some (.agg #[.int .i64 0, .int .i64 0])) (hs : i.size = 2) (hby : i.bytes = 16)
    {v : Value} {n : Nat} {xs : List Value} (he : a.eval s = v) (hown : w.ownsRow base e 2 v n xs) {v2 : Value} {l : List It} (hx : a.eval x = v2) (hpr : PR w v2 l) (hl : n + l.length ≤ 2000000) (hbase : base ≤ w.heap.size)
    (h : ∀ v' w', w'.ownsRow base e 2 v' (n + l.length) (xs ++ flat l) → w.grownBy w' v.ownBlock → (v'.ownBlock = v.ownBlock ∨ v'.ownBlock = some w.heap.size) → wpList P ops Q rest (a.put o.dst v') w') : wpList P ops Q (o :: rest) a w :=
  wpList_plain hgd fun _ hK => wp_append_pr s x ho ht hi hz hs hby he hown hx hpr hl hbase fun v' w' h2 h3 h4 => hK _ _ (h v' w' h2 h3 h4)
theorem step_append_pr {P : Program} {w : World} {ops : Array Oper} {o : Oper} {a : Act} {K : Act → World → Prop} {Q : Exit → Act → World → Prop} {E : Prop} (hgd : o.guard = none) (s x : Operand) {t e base : Nat} (ho : o.op = .call { callee := .builtin .append, args := #[s, x], argTypes := #[t, t] })
    {i : TypeInfo} (ht : P.underlying t = some (.slice e)) (hi : P.info? e = some i) (hz : i.zero = some (.agg #[.int .i64 0, .int .i64 0])) (hs : i.size = 2) (hby : i.bytes = 16)
    {v : Value} {n : Nat} {xs : List Value} (he : a.eval s = v) (hown : w.ownsRow base e 2 v n xs) {v2 : Value} {l : List It} (hx : a.eval x = v2) (hpr : PR w v2 l) (hl : n + l.length ≤ 2000000) (hbase : base ≤ w.heap.size)
    (h : ∀ v' w', w'.ownsRow base e 2 v' (n + l.length) (xs ++ flat l) → w.grownBy w' v.ownBlock → (v'.ownBlock = v.ownBlock ∨ v'.ownBlock = some w.heap.size) → K (a.put o.dst v') w') :
    if Region.wanted o (yielded ops a.tmps) = true then Oper.wp P o a w K Q else E := by
  have hw : Region.wanted o (yielded ops a.tmps) = true := by simp [Region.wanted, hgd]
  rw [if_pos hw]
  exact wp_append_pr s x ho ht hi hz hs hby he hown hx hpr hl hbase h

theorem info43 : (Try.prog.info? 43).map (fun i => (i.zero, i.size, i.bytes)) = some (some (.agg #[.int .i64 0, .int .i64 0]), 2, 16) := by kernel_rfl

/-- the reference's heap: its block, its row of items -/
structure RB (w : World) (rb : Nat) (A : Option Addr) (c : Nat) (S : List It) : Prop where
  blk : w.heap[rb]? = some (.cells #[.slice A S.length c] 53 (0, 0))
  row : PR w (.slice A S.length c) S
  cap : S.length ≤ c
  big : c ≤ maxLen
  nil : A = none → c = 0
  lt : ∀ ad, A = some ad → ad.block < w.heap.size ∧ ad.block ≠ rb

theorem RB.ltb {w : World} {rb c : Nat} {A : Option Addr} {S : List It} (h : RB w rb A c S) : rb < w.heap.size := (Array.getElem?_eq_some_iff.1 h.blk).1
theorem RB.keep {w w' : World} {rb c : Nat} {A : Option Addr} {S : List It} (h : RB w rb A c S) {p : Nat → Prop} (hk : Keep p w w') (hb : p rb) (hr : ∀ ad, A = some ad → p ad.block) : RB w' rb A c S :=
  ⟨(hk.block rb h.ltb hb).trans h.blk, h.row.keep hk (fun _ g hg _ => by
    cases A with
    | none => cases hg
    | some ad => cases hg; exact hr ad rfl), h.cap, h.big, h.nil, fun ad e => ⟨Nat.lt_of_lt_of_le (h.lt ad e).1 hk.size, (h.lt ad e).2⟩⟩
theorem RB.below {w w' : World} {rb c : Nat} {A : Option Addr} {S : List It} (h : RB w rb A c S) (hb : Below w.heap.size w w') : RB w' rb A c S := h.keep (p := fun _ => True) (Keep.of_below hb) trivial fun _ _ => trivial
theorem RB.cells {w : World} {rb c : Nat} {A : Option Addr} {S : List It} (h : RB w rb A c S) : w.cell? ⟨rb, 0, none⟩ = some (.slice A S.length c) ∧ w.frozen? ⟨rb, 0, none⟩ = false := ⟨by simp [World.cell?, h.blk], by simp [World.frozen?, h.blk]⟩

theorem rAhead_any (x y : It) (w : World) : Calls Try.prog 34 #[.agg #[.int .i64 x.1, .int .i64 x.2], .agg #[.int .i64 y.1, .int .i64 y.2]] w fun e w' => e = .returned (.bool (!le y x)) ∧ Below w.heap.size w w' := by
  obtain ⟨t, ht⟩ : ∃ t, (!le y x) = t := ⟨_, rfl⟩
  rw [ht]
  have HT := Lib.hid ht
  clear ht
  by_cases h1 : x.1 < y.1
  · go_enter Try.func34, Try.ntmps34
    go_wp2
    go_ret
    refine ⟨ret_bool ?_, by go_grown⟩
    rw [← HT.out, ← cmpV_neg]
    simp [cmpV, h1]
  · have h1' : y.1 ≤ x.1 := by omega
    by_cases h2 : x.1 = y.1
    · go_enter Try.func34, Try.ntmps34
      go_wp2
      go_ret
      refine ⟨ret_bool ?_, by go_grown⟩
      rw [← HT.out]
      have h3 : (!le y x) = decide (x.2 < y.2) := by
        by_cases h4 : x.2 < y.2
        · rw [decide_eq_true h4, show le y x = false from by rw [le_false]; omega]; rfl
        · rw [decide_eq_false h4, show le y x = true from by rw [le_iff]; omega]; rfl
      simp [h3]
    · go_enter Try.func34, Try.ntmps34
      go_wp2
      go_ret
      refine ⟨ret_bool ?_, by go_grown⟩
      rw [← HT.out, show le y x = true from by rw [le_iff]; omega]
      simp [h2]

theorem rFirst_any {w : World} {rb c : Nat} {A : Option Addr} {S : List It} (h : RB w rb A c S) (hl : S.length ≤ 1000000) : Calls Try.prog 23 #[.pointer (some ⟨rb, 0, none⟩)] w (FirstR S w) := by
  obtain ⟨c0, f0⟩ := h.cells
  have hlb := h.ltb
  unfold FirstR
  by_cases h0 : S.length = 0
  · have e : S = [] := List.eq_nil_of_length_eq_zero h0
    subst e
    clear h h0
    go_enter Try.func23, Try.ntmps23
    go_wp2
    refine bodyPost_ret (v := .tuple #[.agg #[.int .i64 0, .int .i64 0], .bool false]) (by simp [results, Try.results23, go_sem]) rfl ⟨rfl, ?_⟩
    exact ((Below.refl _ _).alloc (Nat.le_refl _) _)
  · have hpos : 0 < S.length := by omega
    have hne : ((S.length : Int) == 0) = false := by rw [beq_eq_false_iff_ne]; omega
    obtain ⟨ad, rfl, _, hb, k1, k2⟩ := PR.at2 h.row hpos
    have hab := (h.lt ad rfl).1
    simp only [Nat.zero_mul] at k1 k2
    have e0 : ad.add 0 = ad := by simp [Addr.add]
    rw [e0] at k1 k2
    obtain ⟨x, hx⟩ : ∃ x, g S 0 = x := ⟨_, rfl⟩
    rw [hx] at k1 k2 ⊢
    rw [decide_eq_true hpos]
    clear h h0 hx
    go_enter Try.func23, Try.ntmps23
    go_wp2
    refine bodyPost_ret (v := .tuple #[.agg #[.int .i64 x.1, .int .i64 x.2], .bool true]) (by simp [results, Try.results23, go_sem]) rfl ⟨rfl, ?_⟩
    go_grown
end Go.Proofs.Ytabbgananngjlaa
