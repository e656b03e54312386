/- Props appended; an edge's own block; the walk of what is guessed of bytes: its beginning. -/
import Derived.Test.YtpoefcpgcojppaaPL
namespace Go.Proofs.Ytpoefcpgcojppaa
open Go.ChangeShapes Go.WideShapes Go.ChangeAt Go.RowKit
set_option linter.unusedVariables false

theorem info_parts53 : ∃ i, Try.prog.info? 53 = some i ∧ i.zero = some (.agg #[.string ⟨#[]⟩, .int .i64 0, .int .i64 0, .string ⟨#[]⟩]) ∧ i.size = 4 ∧ i.bytes = 48 := by
  have h := parts53
  cases hq : Try.prog.info? 53 with
  | none => rw [hq] at h; cases h
  | some i =>
    rw [hq] at h
    simp only [Option.map_some, Option.some.injEq, Prod.mk.injEq] at h
    exact ⟨i, rfl, h.1, h.2.1, h.2.2⟩
theorem run_append_pr {P : Program} {w : World} {t ty base : Nat} {i : TypeInfo} (ht : P.underlying t = some (.slice 53)) (hi : P.info? 53 = some i) (hz : i.zero = some (.agg #[.string ⟨#[]⟩, .int .i64 0, .int .i64 0, .string ⟨#[]⟩])) (hs : i.size = 4) (hby : i.bytes = 48)
    {v : Value} {n : Nat} {xs : List Value} (hown : w.ownsRow base 53 4 v n xs) {v2 : Value} {l : List Pt} (hpr : PR w v2 l) (hl : n + l.length ≤ 2000000) (hbase : base ≤ w.heap.size) :
    ∃ v' w', (Builtin.append_ #[t, t] ty #[v, v2]).run P w = .ok v' w' ∧ w'.ownsRow base 53 4 v' (n + l.length) (xs ++ flatP l) ∧ w.grownBy w' v.ownBlock ∧ (v'.ownBlock = v.ownBlock ∨ v'.ownBlock = some w.heap.size) := by
  obtain ⟨A, c, rfl, hr⟩ := hpr
  cases A with
  | none =>
    have h0 : l = [] := by
      cases l with
      | nil => rfl
      | cons a r =>
        obtain ⟨ad, e, _⟩ := hr (by simp)
        cases e
    subst h0
    refine ⟨v, w, ?_, by simpa [flatP] using hown, ⟨rfl, rfl, rfl, Nat.le_refl _, fun _ _ _ => rfl⟩, .inl rfl⟩
    rcases hown.2 with ⟨rfl, rfl⟩ | ⟨g, cap, cur, rfl, _, _, hnc, _⟩
    · simp [Builtin.append_, run_underlying ht, sizeOf, typeInfo, hi, Builtin.lenOf, Builtin.firstCells]
    · simp [Builtin.append_, run_underlying ht, sizeOf, typeInfo, hi, Builtin.lenOf, Builtin.firstCells, hnc, storeCells]
  | some ad =>
    have hnews : ∀ j u, (flatP l)[j]? = some u → w.cell? (ad.add j) = some u := by
      intro j u hj
      have h0 : 0 < l.length := by
        have := (List.getElem?_eq_some_iff.1 hj).1
        rw [flatP_len] at this
        omega
      obtain ⟨ad', e, _, hc⟩ := hr h0
      injection e with e
      rw [e]
      exact hc j u hj
    obtain ⟨v', w', h1, h2, h3, _, h5⟩ := run_append_own_at (P := P) w base t ty 53 i _ 4 48 ht hi hz hs hby rfl (by decide) v n xs hown ad l.length c (flatP l) (flatP_len l) hnews (flatP_one l) (by unfold maxLen; omega) (by omega) hbase
    exact ⟨v', w', h1, h2, h3, h5⟩
theorem wp_append_pr {P : Program} {w : World} {o : Oper} {a : Act} {K : Act → World → Prop} {Q : Exit → Act → World → Prop} (s x : Operand) {t base : Nat} (ho : o.op = .call { callee := .builtin .append, args := #[s, x], argTypes := #[t, t] })
    {i : TypeInfo} (ht : P.underlying t = some (.slice 53)) (hi : P.info? 53 = some i) (hz : i.zero = some (.agg #[.string ⟨#[]⟩, .int .i64 0, .int .i64 0, .string ⟨#[]⟩])) (hs : i.size = 4) (hby : i.bytes = 48)
    {v : Value} {n : Nat} {xs : List Value} (he : a.eval s = v) (hown : w.ownsRow base 53 4 v n xs) {v2 : Value} {l : List Pt} (hx : a.eval x = v2) (hpr : PR w v2 l) (hl : n + l.length ≤ 2000000) (hbase : base ≤ w.heap.size)
    (h : ∀ v' w', w'.ownsRow base 53 4 v' (n + l.length) (xs ++ flatP l) → w.grownBy w' v.ownBlock → (v'.ownBlock = v.ownBlock ∨ v'.ownBlock = some w.heap.size) → K (a.put o.dst v') w') : o.wp P a w K Q := by
  obtain ⟨v', w', hr, h2, h3, h4⟩ := run_append_pr (P := P) (ty := o.type) ht hi hz hs hby hown hpr hl hbase
  unfold Oper.wp execOp
  simp only [ho, resolve, invoke, builtin, Sem.run_bind, Sem.run_pure, Result.andThen_ok, List.map_toArray, List.map_cons, List.map_nil, he, hx, hr]
  exact h v' w' h2 h3 h4
theorem wpList_append_pr {P : Program} {w : World} {ops : Array Oper} {rest : List Oper} {o : Oper} {a : Act} {Q : Exit → Act → World → Prop} (hgd : o.guard = none) (s x : Operand) {t base : Nat} (ho : o.op = .call { callee := .builtin .append, args := #[s, x], argTypes := #[t, t] })
    {i : TypeInfo} (ht : P.underlying t = some (.slice 53)) (hi : P.info? 53 = some i) (hz : i.zero = some (.agg #[.string ⟨#[]⟩, .int .i64 0, .int .i64 0, .string ⟨#[]⟩])) (hs : i.size = 4) (hby : i.bytes = 48)
    {v : Value} {n : Nat} {xs : List Value} (he : a.eval s = v) (hown : w.ownsRow base 53 4 v n xs) {v2 : Value} {l : List Pt} (hx : a.eval x = v2) (hpr : PR w v2 l) (hl : n + l.length ≤ 2000000) (hbase : base ≤ w.heap.size)
    (h : ∀ v' w', w'.ownsRow base 53 4 v' (n + l.length) (xs ++ flatP l) → w.grownBy w' v.ownBlock → (v'.ownBlock = v.ownBlock ∨ v'.ownBlock = some w.heap.size) → wpList P ops Q rest (a.put o.dst v') w') : wpList P ops Q (o :: rest) a w :=
  wpList_plain hgd fun _ hK => wp_append_pr s x ho ht hi hz hs hby he hown hx hpr hl hbase fun v' w' h2 h3 h4 => hK _ _ (h v' w' h2 h3 h4)
theorem step_append_pr {P : Program} {w : World} {ops : Array Oper} {o : Oper} {a : Act} {K : Act → World → Prop} {Q : Exit → Act → World → Prop} {E : Prop} (hgd : o.guard = none) (s x : Operand) {t base : Nat} (ho : o.op = .call { callee := .builtin .append, args := #[s, x], argTypes := #[t, t] })
    {i : TypeInfo} (ht : P.underlying t = some (.slice 53)) (hi : P.info? 53 = some i) (hz : i.zero = some (.agg #[.string ⟨#[]⟩, .int .i64 0, .int .i64 0, .string ⟨#[]⟩])) (hs : i.size = 4) (hby : i.bytes = 48)
    {v : Value} {n : Nat} {xs : List Value} (he : a.eval s = v) (hown : w.ownsRow base 53 4 v n xs) {v2 : Value} {l : List Pt} (hx : a.eval x = v2) (hpr : PR w v2 l) (hl : n + l.length ≤ 2000000) (hbase : base ≤ w.heap.size)
    (h : ∀ v' w', w'.ownsRow base 53 4 v' (n + l.length) (xs ++ flatP l) → w.grownBy w' v.ownBlock → (v'.ownBlock = v.ownBlock ∨ v'.ownBlock = some w.heap.size) → K (a.put o.dst v') w') :
    if Region.wanted o (yielded ops a.tmps) = true then Oper.wp P o a w K Q else E := by
  have hw : Region.wanted o (yielded ops a.tmps) = true := by simp [Region.wanted, hgd]
  rw [if_pos hw]
  exact wp_append_pr s x ho ht hi hz hs hby he hown hx hpr hl hbase h

/-- one prop, laid in a block of its own -/
theorem PR.one (w : World) (p : Pt) (t : TypeId) : PR (w.alloc (.cells #[.string p.1, .int .i64 p.2.1, .int .i64 p.2.2.1, .string p.2.2.2] t)) (.slice (some ⟨w.heap.size, 0, none⟩) 1 1) [p] := by
  have h := heap_alloc_new w (.cells #[.string p.1, .int .i64 p.2.1, .int .i64 p.2.2.1, .string p.2.2.2] t)
  refine ⟨some ⟨w.heap.size, 0, none⟩, 1, rfl, fun _ => ⟨_, rfl, by simp, fun j u hj => ?_⟩⟩
  have hlt := (List.getElem?_eq_some_iff.1 hj).1
  have he : flatP [p] = [.string p.1, .int .i64 p.2.1, .int .i64 p.2.2.1, .string p.2.2.2] := rfl
  rw [he] at hj hlt
  match j, hlt with
  | 0, _ => simp at hj; subst hj; exact cell_of_row _ _ 0 _ t (0, 0) h
  | 1, _ => simp at hj; subst hj; simp [Addr.add]
  | 2, _ => simp at hj; subst hj; simp [Addr.add]
  | 3, _ => simp at hj; subst hj; simp [Addr.add]

theorem rdT_len (l : List UInt8) : (rdT l).2.length ≤ l.length := by unfold rdT; simp
theorem rdV_len (l : List UInt8) : (rdV l).2.length ≤ l.length := by
  unfold rdV
  split
  · simp
  · split
    · have := rdT_len (l.drop 1)
      simp at this ⊢
      omega
    · simp
theorem rdP_len (l : List UInt8) : (rdP l).2.length ≤ l.length := Nat.le_trans (rdV_len _) (rdT_len _)
theorem rdPs_len : ∀ n (l : List UInt8), (rdPs n l).2.length ≤ l.length
  | 0, l => Nat.le_refl _
  | n + 1, l => Nat.le_trans (rdP_len _) (rdPs_len n l)
theorem rdPs_num : ∀ n (l : List UInt8), (rdPs n l).1.length = n
  | 0, l => rfl
  | n + 1, l => by show ((rdPs n l).1 ++ [_]).length = _; simp [rdPs_num n l]
end Go.Proofs.Ytpoefcpgcojppaa
