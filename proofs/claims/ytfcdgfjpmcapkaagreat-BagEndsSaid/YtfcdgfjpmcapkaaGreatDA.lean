/- The reference's bag in memory; what is appended out of whatever row of entries; entries written over. -/
import Derived.Test.YtfcdgfjpmcapkaaGreatCJ
import Derived.BigQuiet
import Derived.Deep.RegionLaw
namespace Go.Proofs.YtfcdgfjpmcapkaaGreat
open Go.ChangeShapes Go.WideShapes Go.ChangeAt Go.RowKit Go.Maps Go.Shelf
set_option linter.unusedVariables false

theorem flatE_one : ∀ (l : List Et) (u : Value), u ∈ flatE l → u.oneCell' = true := by
  intro l u hu
  unfold flatE at hu
  obtain ⟨x, _, hx⟩ := List.mem_flatMap.1 hu
  simp only [encE, List.mem_cons, List.not_mem_nil, or_false] at hx
  rcases hx with rfl | rfl | rfl <;> rfl
theorem flatE_news {w : World} {ad : Addr} {l : List Et} (hc : ∀ k (h : k < l.length), w.cell? (ad.add (k * 3)) = some (.string l[k].1) ∧ w.cell? (ad.add (k * 3 + 1)) = some (.int .i64 l[k].2.1) ∧ w.cell? (ad.add (k * 3 + 2)) = some (.int .i64 l[k].2.2)) (j : Nat) (u : Value) (h : (flatE l)[j]? = some u) : w.cell? (ad.add j) = some u := by
  have hj : j < l.length * 3 := by
    have := (List.getElem?_eq_some_iff.1 h).1
    rwa [flatE_len] at this
  have hk : j / 3 < l.length := by omega
  obtain ⟨f1, f2, f3⟩ := flatE_at l (j / 3) hk
  obtain ⟨c1, c2, c3⟩ := hc (j / 3) hk
  rcases (by omega : j % 3 = 0 ∨ j % 3 = 1 ∨ j % 3 = 2) with hm | hm | hm
  · have e : j / 3 * 3 = j := by omega
    rw [e] at f1 c1
    rw [f1] at h
    rw [c1, h]
  · have e : j / 3 * 3 + 1 = j := by omega
    rw [e] at f2 c2
    rw [f2] at h
    rw [c2, h]
  · have e : j / 3 * 3 + 2 = j := by omega
    rw [e] at f3 c3
    rw [f3] at h
    rw [c3, h]

def zE : Value := .agg #[.string ⟨#[]⟩, .int .i64 0, .int .i64 0]

/-- appended out of a row of entries, whatever it is: an empty one, nil too -/
theorem run_append_pe {P : Program} {w : World} {t ty e base : Nat} {i : TypeInfo} (ht : P.underlying t = some (.slice e)) (hi : P.info? e = some i) (hz : i.zero = some (.agg #[.string ⟨#[]⟩, .int .i64 0, .int .i64 0])) (hs : i.size = 3) (hby : i.bytes = 32)
    {v : Value} {n : Nat} {xs : List Value} (hown : w.ownsRow base e 3 v n xs) {v2 : Value} {l : List Et} (hpr : PE w v2 l) (hl : n + l.length ≤ 2000000) (hbase : base ≤ w.heap.size) :
    ∃ v' w', (Builtin.append_ #[t, t] ty #[v, v2]).run P w = .ok v' w' ∧ w'.ownsRow base e 3 v' (n + l.length) (xs ++ flatE l) ∧ w.grownBy w' v.ownBlock ∧ (v'.ownBlock = v.ownBlock ∨ v'.ownBlock = some w.heap.size) := by
  obtain ⟨A, c, rfl, hr⟩ := hpr
  cases A with
  | none =>
    have h0 : l = [] := by
      rcases Nat.eq_zero_or_pos l.length with h0 | h0
      · exact List.eq_nil_of_length_eq_zero h0
      · obtain ⟨ad, e, _⟩ := hr h0
        cases e
    subst h0
    refine ⟨v, w, ?_, by simpa [flatE] using hown, ⟨rfl, rfl, rfl, Nat.le_refl _, fun _ _ _ => rfl⟩, .inl rfl⟩
    rcases hown.2 with ⟨rfl, rfl⟩ | ⟨g, cap, cur, rfl, _, _, hnc, _⟩
    · simp [Builtin.append_, run_underlying ht, sizeOf, typeInfo, hi, Builtin.lenOf, Builtin.firstCells]
    · simp [Builtin.append_, run_underlying ht, sizeOf, typeInfo, hi, Builtin.lenOf, Builtin.firstCells, hnc, storeCells]
  | some ad =>
    have hnews : ∀ j u, (flatE l)[j]? = some u → w.cell? (ad.add j) = some u := by
      intro j u hj
      have h0 : 0 < l.length := by
        have := (List.getElem?_eq_some_iff.1 hj).1
        rw [flatE_len] at this
        omega
      obtain ⟨ad', e, hb, hc⟩ := hr h0
      injection e with e
      subst e
      exact flatE_news hc j u hj
    obtain ⟨v', w', h1, h2, h3, _, h5⟩ := run_append_own_at (P := P) w base t ty e i _ 3 32 ht hi hz hs hby rfl (by decide) v n xs hown ad l.length c (flatE l) (flatE_len l) hnews (flatE_one l) (by unfold maxLen; omega) (by omega) hbase
    exact ⟨v', w', h1, h2, h3, h5⟩

theorem wp_append_pe {P : Program} {w : World} {o : Oper} {a : Act} {K : Act → World → Prop} {Q : Exit → Act → World → Prop} (s x : Operand) {t e base : Nat} (ho : o.op = .call { callee := .builtin .append, args := #[s, x], argTypes := #[t, t] })
    {i : TypeInfo} (ht : P.underlying t = some (.slice e)) (hi : P.info? e = some i) (hz : i.zero = some (.agg #[.string ⟨#[]⟩, .int .i64 0, .int .i64 0])) (hs : i.size = 3) (hby : i.bytes = 32)
    {v : Value} {n : Nat} {xs : List Value} (he : a.eval s = v) (hown : w.ownsRow base e 3 v n xs) {v2 : Value} {l : List Et} (hx : a.eval x = v2) (hpr : PE w v2 l) (hl : n + l.length ≤ 2000000) (hbase : base ≤ w.heap.size)
    (h : ∀ v' w', w'.ownsRow base e 3 v' (n + l.length) (xs ++ flatE l) → w.grownBy w' v.ownBlock → (v'.ownBlock = v.ownBlock ∨ v'.ownBlock = some w.heap.size) → K (a.put o.dst v') w') : o.wp P a w K Q := by
  obtain ⟨v', w', hr, h2, h3, h4⟩ := run_append_pe (P := P) (ty := o.type) ht hi hz hs hby hown hpr hl hbase
  unfold Oper.wp execOp
  simp only [ho, resolve, invoke, builtin, Sem.run_bind, Sem.run_pure, Result.andThen_ok, List.map_toArray, List.map_cons, List.map_nil, he, hx, hr]
  exact h v' w' h2 h3 h4
theorem wpList_append_pe {P : Program} {w : World} {ops : Array Oper} {rest : List Oper} {o : Oper} {a : Act} {Q : Exit → Act → World → Prop} (hgd : o.guard = none) (s x : Operand) {t e base : Nat} (ho : o.op = .call { callee := .builtin .append, args := #[s, x], argTypes := #[t, t] })
    {i : TypeInfo} (ht : P.underlying t = some (.slice e)) (hi : P.info? e = some i) (hz : i.zero = some (.agg #[.string ⟨#[]⟩, .int .i64 0, .int .i64 0])) (hs : i.size = 3) (hby : i.bytes = 32)
    {v : Value} {n : Nat} {xs : List Value} (he : a.eval s = v) (hown : w.ownsRow base e 3 v n xs) {v2 : Value} {l : List Et} (hx : a.eval x = v2) (hpr : PE w v2 l) (hl : n + l.length ≤ 2000000) (hbase : base ≤ w.heap.size)
    (h : ∀ v' w', w'.ownsRow base e 3 v' (n + l.length) (xs ++ flatE l) → w.grownBy w' v.ownBlock → (v'.ownBlock = v.ownBlock ∨ v'.ownBlock = some w.heap.size) → wpList P ops Q rest (a.put o.dst v') w') : wpList P ops Q (o :: rest) a w :=
  wpList_plain hgd fun _ hK => wp_append_pe s x ho ht hi hz hs hby he hown hx hpr hl hbase fun v' w' h2 h3 h4 => hK _ _ (h v' w' h2 h3 h4)
theorem step_append_pe {P : Program} {w : World} {ops : Array Oper} {o : Oper} {a : Act} {K : Act → World → Prop} {Q : Exit → Act → World → Prop} {E : Prop} (hgd : o.guard = none) (s x : Operand) {t e base : Nat} (ho : o.op = .call { callee := .builtin .append, args := #[s, x], argTypes := #[t, t] })
    {i : TypeInfo} (ht : P.underlying t = some (.slice e)) (hi : P.info? e = some i) (hz : i.zero = some (.agg #[.string ⟨#[]⟩, .int .i64 0, .int .i64 0])) (hs : i.size = 3) (hby : i.bytes = 32)
    {v : Value} {n : Nat} {xs : List Value} (he : a.eval s = v) (hown : w.ownsRow base e 3 v n xs) {v2 : Value} {l : List Et} (hx : a.eval x = v2) (hpr : PE w v2 l) (hl : n + l.length ≤ 2000000) (hbase : base ≤ w.heap.size)
    (h : ∀ v' w', w'.ownsRow base e 3 v' (n + l.length) (xs ++ flatE l) → w.grownBy w' v.ownBlock → (v'.ownBlock = v.ownBlock ∨ v'.ownBlock = some w.heap.size) → K (a.put o.dst v') w') :
    if Region.wanted o (yielded ops a.tmps) = true then Oper.wp P o a w K Q else E := by
  have hw : Region.wanted o (yielded ops a.tmps) = true := by simp [Region.wanted, hgd]
  rw [if_pos hw]
  exact wp_append_pe s x ho ht hi hz hs hby he hown hx hpr hl hbase h

theorem info75 : (Tryz.prog.info? 75).map (fun i => (i.zero, i.size, i.bytes)) = some (some (.agg #[.string ⟨#[]⟩, .int .i64 0, .int .i64 0]), 3, 32) := by kernel_rfl

/-! ### cells of an own row -/
theorem row_at3 {w : World} {base gg n c : Nat} {t : TypeId} {L : List Et} (h : w.ownsRow base t 3 (.slice (some ⟨gg, 0, none⟩) n c) n (flatE L)) {k : Nat} (hk : k < L.length) :
    w.cell? ⟨gg, k * 3, none⟩ = some (.string (ge L k).1) ∧ w.cell? ⟨gg, k * 3 + 1, none⟩ = some (.int .i64 (ge L k).2.1) ∧ w.cell? ⟨gg, k * 3 + 2, none⟩ = some (.int .i64 (ge L k).2.2) := by
  have hn := h.1
  rw [flatE_len] at hn
  rw [h.cellAt _ (by omega), h.cellAt _ (by omega), h.cellAt _ (by omega), ge_get hk]
  exact flatE_at L k hk
theorem flatE_set : ∀ (L : List Et) (k : Nat) (y : Et), flatE (L.set k y) = (((flatE L).set (k * 3) (.string y.1)).set (k * 3 + 1) (.int .i64 y.2.1)).set (k * 3 + 2) (.int .i64 y.2.2)
  | [], k, y => by simp [flatE]
  | x :: l, 0, y => by simp [flatE, encE]
  | x :: l, k + 1, y => by
    have h := flatE_set l k y
    rw [List.set_cons_succ, flatE_cons, flatE_cons, show (k + 1) * 3 + 2 = k * 3 + 2 + 1 + 1 + 1 by omega, show (k + 1) * 3 + 1 = k * 3 + 1 + 1 + 1 + 1 by omega, show (k + 1) * 3 = k * 3 + 1 + 1 + 1 by omega]
    simp only [List.set_cons_succ]
    rw [← h]
theorem flatE_end : ∀ (L : List Et) (k : Nat) (h : k < L.length) (z : Int), flatE (L.set k ((L[k]).1, (L[k]).2.1, z)) = (flatE L).set (k * 3 + 2) (.int .i64 z)
  | x :: l, 0, h, z => by simp [flatE, encE]
  | x :: l, k + 1, h, z => by
    have h := flatE_end l k (by simp at h; omega) z
    simp only [List.getElem_cons_succ]
    rw [List.set_cons_succ, flatE_cons, flatE_cons, show (k + 1) * 3 + 2 = k * 3 + 2 + 1 + 1 + 1 by omega]
    simp only [List.set_cons_succ]
    rw [← h]
theorem own_set3 {w : World} {base gg n c : Nat} {t : TypeId} {L : List Et} (h : w.ownsRow base t 3 (.slice (some ⟨gg, 0, none⟩) n c) n (flatE L)) {k : Nat} (hk : k < L.length) (y : Et) :
    (((w.setCell ⟨gg, k * 3, none⟩ (.string y.1)).setCell ⟨gg, k * 3 + 1, none⟩ (.int .i64 y.2.1)).setCell ⟨gg, k * 3 + 2, none⟩ (.int .i64 y.2.2)).ownsRow base t 3 (.slice (some ⟨gg, 0, none⟩) n c) n (flatE (L.set k y)) := by
  have hn := h.1
  rw [flatE_len] at hn
  refine ⟨by rw [flatE_len, List.length_set]; exact hn, ?_⟩
  rcases h.2 with ⟨h', _⟩ | ⟨g', cap, cur, h', hb, hg, h1, h2, h3, htake⟩
  · cases h'
  · injection h' with e1 e2 e3
    injection e1 with e1
    injection e1 with e1
    subst e1 e3
    refine .inr ⟨gg, c, ((cur.setIfInBounds (k * 3) (.string y.1)).setIfInBounds (k * 3 + 1) (.int .i64 y.2.1)).setIfInBounds (k * 3 + 2) (.int .i64 y.2.2), rfl, hb, ?_, h1, h2, by simp [h3], ?_⟩
    · simp [World.setCell, Array.getElem?_modify, hg]
    · rw [flatE_set, ← htake]
      simp only [Array.toList_setIfInBounds]
      rw [List.take_set, List.take_set, List.take_set]
theorem own_end {w : World} {base gg n c : Nat} {t : TypeId} {L : List Et} (h : w.ownsRow base t 3 (.slice (some ⟨gg, 0, none⟩) n c) n (flatE L)) {k : Nat} (hk : k < L.length) (z : Int) :
    (w.setCell ⟨gg, k * 3 + 2, none⟩ (.int .i64 z)).ownsRow base t 3 (.slice (some ⟨gg, 0, none⟩) n c) n (flatE (L.set k ((ge L k).1, (ge L k).2.1, z))) := by
  have hn := h.1
  rw [flatE_len] at hn
  refine ⟨by rw [flatE_len, List.length_set]; exact hn, ?_⟩
  rcases h.2 with ⟨h', _⟩ | ⟨g', cap, cur, h', hb, hg, h1, h2, h3, htake⟩
  · cases h'
  · injection h' with e1 e2 e3
    injection e1 with e1
    injection e1 with e1
    subst e1 e3
    refine .inr ⟨gg, c, cur.setIfInBounds (k * 3 + 2) (.int .i64 z), rfl, hb, ?_, h1, h2, by simp [h3], ?_⟩
    · simp [World.setCell, Array.getElem?_modify, hg]
    · rw [ge_get hk, flatE_end L k hk, ← htake]
      simp only [Array.toList_setIfInBounds]
      rw [List.take_set]
theorem own_loose {w : World} {base gg n c : Nat} {t : TypeId} {xs : List Value} (h : w.ownsRow base t 3 (.slice (some ⟨gg, 0, none⟩) n c) n xs) : ∀ k, w.frozen? ⟨gg, k, none⟩ = false := by
  obtain ⟨_, cap, cur, e, _, hg, _⟩ := h.2.resolve_left (by simp)
  injection e with e1
  injection e1 with e1
  injection e1 with e1
  subst e1
  intro k
  simp [World.frozen?, hg]

/-! ### the reference's bag: its block, its row of entries, all behind lo -/
structure RB (lo : Nat) (w : World) (rb : Nat) (v : Value) (S : List Et) : Prop where
  blk : w.heap[rb]? = some (.cells #[v] 30 (0, 0))
  row : w.ownsRow lo 75 3 v S.length (flatE S)
  off : v.ownBlock ≠ some rb
  low : lo ≤ rb

theorem RB.ltb {lo : Nat} {w : World} {rb : Nat} {v : Value} {S : List Et} (h : RB lo w rb v S) : rb < w.heap.size := (Array.getElem?_eq_some_iff.1 h.blk).1
theorem RB.keep {lo : Nat} {w w' : World} {rb : Nat} {v : Value} {S : List Et} (h : RB lo w rb v S) {p : Nat → Prop} (hk : Keep p w w') (hb : p rb) (hr : ∀ g, v.ownBlock = some g → p g) : RB lo w' rb v S :=
  ⟨(hk.block rb h.ltb hb).trans h.blk, own_keep h.row hk hr, h.off, h.low⟩
theorem RB.below {lo : Nat} {w w' : World} {rb : Nat} {v : Value} {S : List Et} (h : RB lo w rb v S) (hb : Below w.heap.size w w') : RB lo w' rb v S := h.keep (p := fun _ => True) (Keep.of_below hb) trivial fun _ _ => trivial
theorem RB.cells {lo : Nat} {w : World} {rb : Nat} {v : Value} {S : List Et} (h : RB lo w rb v S) : w.cell? ⟨rb, 0, none⟩ = some v ∧ w.frozen? ⟨rb, 0, none⟩ = false := ⟨by simp [World.cell?, h.blk], by simp [World.frozen?, h.blk]⟩
theorem RB.pe {lo : Nat} {w : World} {rb : Nat} {v : Value} {S : List Et} (h : RB lo w rb v S) : PE w v S := PE.of_own h.row
theorem RB.form {lo : Nat} {w : World} {rb : Nat} {v : Value} {S : List Et} (h : RB lo w rb v S) : ∃ A c, v = .slice A S.length c ∧ (0 < S.length → ∃ g, A = some ⟨g, 0, none⟩ ∧ lo ≤ g ∧ g < w.heap.size) ∧ S.length ≤ c ∧ c ≤ maxLen := row_form h.row
/-- what a function that changes it may touch -/
def RK (rb : Nat) (v : Value) (k : Nat) : Prop := k ≠ rb ∧ v.ownBlock ≠ some k
/-- .. and what it leaves -/
def RTurn (lo : Nat) (w : World) (rb : Nat) (v : Value) (S : List Et) (w' : World) : Prop := ∃ v', RB lo w' rb v' S ∧ Keep (RK rb v) w w' ∧ ∀ g, v'.ownBlock = some g → v.ownBlock = some g ∨ w.heap.size ≤ g

/-! ### sub-slices -/
theorem PE.take {w : World} {A : Option Addr} {n c : Nat} {l : List Et} (h : PE w (.slice A n c) l) {k : Nat} (hk : k ≤ n) : PE w (.slice A k c) (l.take k) := by
  obtain ⟨A', c', e, h⟩ := h
  injection e with e1 e2 e3
  subst e1 e2 e3
  have hl : (l.take k).length = k := by rw [List.length_take]; omega
  refine ⟨A, c, by rw [hl], fun h0 => ?_⟩
  rw [hl] at h0
  obtain ⟨ad, r1, r2, r3⟩ := h (by omega)
  refine ⟨ad, r1, r2, fun i hi => ?_⟩
  rw [hl] at hi
  simp only [List.getElem_take]
  exact r3 i (by omega)
theorem PE.drop {w : World} {ad : Addr} {n c c' : Nat} {l : List Et} (h : PE w (.slice (some ad) n c) l) {k : Nat} (hk : k ≤ n) {A : Option Addr} (hA : k < n → A = some (ad.add (k * 3))) : PE w (.slice A (n - k) c') (l.drop k) := by
  obtain ⟨A', c0, e, h⟩ := h
  injection e with e1 e2 e3
  subst e1 e2 e3
  have hl : (l.drop k).length = l.length - k := by simp
  refine ⟨A, c', by rw [hl], fun h0 => ?_⟩
  rw [hl] at h0
  obtain ⟨ad', r1, r2, r3⟩ := h (by omega)
  injection r1 with r1
  subst r1
  refine ⟨_, hA (by omega), by rw [block_add]; exact r2, fun i hi => ?_⟩
  rw [hl] at hi
  have h3 := r3 (k + i) (by omega)
  simp only [List.getElem_drop]
  rw [add_of_add, add_of_add, add_of_add, show k * 3 + i * 3 = (k + i) * 3 by omega, show k * 3 + (i * 3 + 1) = (k + i) * 3 + 1 by omega, show k * 3 + (i * 3 + 2) = (k + i) * 3 + 2 by omega]
  exact h3
end Go.Proofs.YtfcdgfjpmcapkaaGreat
