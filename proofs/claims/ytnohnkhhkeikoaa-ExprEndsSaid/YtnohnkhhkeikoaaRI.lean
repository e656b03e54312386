/- append of any row of texts to a row of its own; lists of texts that rise. -/
import Derived.Test.YtnohnkhhkeikoaaLB
import Derived.Test.YtnohnkhhkeikoaaHB
import Derived.Test.YtnohnkhhkeikoaaRC
import Derived.Test.YtnohnkhhkeikoaaRA
namespace Go.Proofs.Ytnohnkhhkeikoaa
open Go.ChangeShapes Go.WideShapes Go.ChangeAt Go.RowKit Go.Sort
set_option linter.unusedVariables false
set_option linter.unusedSimpArgs false

theorem run_app_nil {P : Program} {w : World} (base : Nat) (t ty e : TypeId) (i : TypeInfo) (size : Nat) (ht : P.underlying t = some (.slice e)) (hi : P.info? e = some i) (v : Value) (n : Nat) (xs : List Value) (hown : w.ownsRow base e size v n xs) (c : Nat) :
    (Builtin.append_ #[t, t] ty #[v, .slice none 0 c]).run P w = .ok v w := by
  rcases hown.2 with ⟨rfl, rfl⟩ | ⟨g, cap, cur, rfl, _, _, hnc, _⟩
  · simp [Builtin.append_, run_underlying ht, sizeOf, typeInfo, hi, Builtin.lenOf, Builtin.firstCells]
  · simp [Builtin.append_, run_underlying ht, sizeOf, typeInfo, hi, Builtin.lenOf, Builtin.firstCells, hnc, storeCells]

theorem SR.news {B : Nat} {w : World} {ad : Addr} {n c : Nat} {l : Wd} (h : SR B w (.slice (some ad) n c) l) : ∀ j u, (l.map Value.string)[j]? = some u → w.cell? (ad.add j) = some u := by
  intro j u hu
  obtain ⟨A', c', e, hc⟩ := h
  have hj : j < l.length := by have := (List.getElem?_eq_some_iff.1 hu).1; simpa using this
  obtain ⟨ad', e2, _, hcell⟩ := hc (by omega)
  injection e with e3
  rw [e2] at e3
  injection e3 with e3
  subst e3
  rw [hcell j hj]
  simp [hj] at hu
  rw [hu]
theorem SR.len {B : Nat} {w : World} {A : Option Addr} {n c : Nat} {l : Wd} (h : SR B w (.slice A n c) l) : n = l.length := by
  obtain ⟨A', c', e, hc⟩ := h
  injection e
theorem SR.none {B : Nat} {w : World} {n c : Nat} {l : Wd} (h : SR B w (.slice none n c) l) : l = [] := by
  obtain ⟨A', c', e, hc⟩ := h
  rcases Nat.eq_zero_or_pos l.length with h0 | h0
  · exact List.eq_nil_of_length_eq_zero h0
  · obtain ⟨ad, e2, _⟩ := hc h0
    injection e with e3
    rw [e2] at e3
    cases e3

theorem run_app_sr {w : World} (ty : TypeId) (base : Nat) (v : Value) (n : Nat) (xs : List Value) (hown : w.ownsRow base 9 1 v n xs) {B : Nat} (A : Option Addr) (m c : Nat) (l : Wd) (hr : SR B w (.slice A m c) l) (hn : n + m ≤ 4398046511104) (hbase : base ≤ w.heap.size) :
    ∃ v' w', (Builtin.append_ #[26, 26] ty #[v, .slice A m c]).run Try.prog w = .ok v' w' ∧ w'.ownsRow base 9 1 v' (n + m) (xs ++ l.map Value.string) ∧ w.grownBy w' v.ownBlock ∧ (v'.ownBlock = v.ownBlock ∨ v'.ownBlock = some w.heap.size) := by
  obtain ⟨i9, hi9, hz9, hs9, hb9⟩ := info_parts parts9
  obtain rfl := hr.len
  cases A with
  | none =>
    obtain rfl := hr.none
    exact ⟨v, w, run_app_nil (P := Try.prog) base 26 ty 9 i9 1 Try.underlying26 hi9 v n xs hown c, by simpa using hown, ⟨rfl, rfl, rfl, Nat.le_refl _, fun _ _ _ => rfl⟩, .inl rfl⟩
  | some ad =>
    obtain ⟨v', w', hrun, h2, h3, h4, h5⟩ := run_append_own_at (P := Try.prog) w base 26 ty 9 i9 (.string ⟨#[]⟩) 1 16 Try.underlying26 hi9 hz9 hs9 hb9 rfl (by decide) v n xs hown ad l.length c (l.map Value.string) (by simp) hr.news (by simp [Value.oneCell']) (by unfold maxLen; omega) (by omega) hbase
    exact ⟨v', w', hrun, h2, h3, h5⟩

theorem wpList_append_sr {w : World} {ops : Array Oper} {rest : List Oper} {o : Oper} {a : Act} {Q : Exit → Act → World → Prop} (hgd : o.guard = none) (s x : Operand)
    (ho : o.op = .call { callee := .builtin .append, args := #[s, x], argTypes := #[26, 26] })
    (base : Nat) (v : Value) (n : Nat) (xs : List Value) (hs : a.eval s = v) (hown : w.ownsRow base 9 1 v n xs) {B : Nat} (A : Option Addr) (m c : Nat) (l : Wd) (hx : a.eval x = .slice A m c) (hr : SR B w (.slice A m c) l)
    (hn : n + m ≤ 4398046511104) (hbase : base ≤ w.heap.size)
    (h : ∀ v' w', w'.ownsRow base 9 1 v' (n + m) (xs ++ l.map Value.string) → w.grownBy w' v.ownBlock → (v'.ownBlock = v.ownBlock ∨ v'.ownBlock = some w.heap.size) → wpList Try.prog ops Q rest (a.put o.dst v') w') : wpList Try.prog ops Q (o :: rest) a w := by
  refine wpList_plain hgd fun K hK => ?_
  obtain ⟨v', w', hr2, h2, h3, h5⟩ := run_app_sr (w := w) o.type base v n xs hown A m c l hr hn hbase
  unfold Oper.wp execOp
  simp only [ho, resolve, invoke, builtin, Sem.run_bind, Sem.run_pure, Result.andThen_ok, List.map_toArray, List.map_cons, List.map_nil, hs, hx, hr2]
  exact hK _ _ (h v' w' h2 h3 h5)

theorem step_append_sr {w : World} {ops : Array Oper} {o : Oper} {a : Act} {K : Act → World → Prop} {Q : Exit → Act → World → Prop} {E : Prop} (hgd : o.guard = none) (s x : Operand)
    (ho : o.op = .call { callee := .builtin .append, args := #[s, x], argTypes := #[26, 26] })
    (base : Nat) (v : Value) (n : Nat) (xs : List Value) (hs : a.eval s = v) (hown : w.ownsRow base 9 1 v n xs) {B : Nat} (A : Option Addr) (m c : Nat) (l : Wd) (hx : a.eval x = .slice A m c) (hr : SR B w (.slice A m c) l)
    (hn : n + m ≤ 4398046511104) (hbase : base ≤ w.heap.size)
    (h : ∀ v' w', w'.ownsRow base 9 1 v' (n + m) (xs ++ l.map Value.string) → w.grownBy w' v.ownBlock → (v'.ownBlock = v.ownBlock ∨ v'.ownBlock = some w.heap.size) → K (a.put o.dst v') w') :
    if Region.wanted o (yielded ops a.tmps) = true then Oper.wp Try.prog o a w K Q else E := by
  have hw : Region.wanted o (yielded ops a.tmps) = true := by simp [Region.wanted, hgd]
  rw [if_pos hw]
  obtain ⟨v', w', hr2, h2, h3, h5⟩ := run_app_sr (w := w) o.type base v n xs hown A m c l hr hn hbase
  unfold Oper.wp execOp
  simp only [ho, resolve, invoke, builtin, Sem.run_bind, Sem.run_pure, Result.andThen_ok, List.map_toArray, List.map_cons, List.map_nil, hs, hx, hr2]
  exact h v' w' h2 h3 h5

/-- a row of its own, told as a row of texts -/
theorem own_SR2 {w : World} {base : Nat} {v : Value} {l : List ByteArray} (h : w.ownsRow base 9 1 v l.length (l.map Value.string)) : SR w.heap.size w v l ∧ ∀ A m c, v = .slice A m c → m ≤ c := by
  rcases h.2 with ⟨rfl, h0⟩ | ⟨g, cap, cur, rfl, hb, hg, h1, h2, h3, h4⟩
  · exact ⟨⟨none, 0, by rw [h0], fun h => by omega⟩, fun A m c e => by injection e with _ e1 e2; omega⟩
  · refine ⟨⟨_, cap, rfl, fun _ => ⟨⟨g, 0, none⟩, rfl, (Array.getElem?_eq_some_iff.1 hg).1, fun k hk => ?_⟩⟩, fun A m c e => by injection e with _ e1 e2; omega⟩
    have e : (cur.toList.take (l.length * 1))[k]? = (l.map Value.string)[k]? := by rw [h4]
    rw [List.getElem?_take_of_lt (by omega)] at e
    have e2 : cur[k]? = some (.string l[k]) := by rw [← Array.getElem?_toList, e]; simp [hk]
    have := cell_of_row w g k cur 9 _ hg
    have e3 : (⟨g, 0, none⟩ : Addr).add k = ⟨g, k, none⟩ := by
      unfold Addr.add
      split
      · next h0 => subst h0; rfl
      · simp
    rw [e3, this]
    exact e2
theorem own_lit (W : World) (s : ByteArray) {base : Nat} (hb : base ≤ W.heap.size) : (W.alloc (.cells #[.string s] 9)).ownsRow base 9 1 (.slice (some ⟨W.heap.size, 0, none⟩) 1 1) 1 [.string s] :=
  ⟨rfl, .inr ⟨W.heap.size, 1, #[.string s], rfl, hb, at_push _ _, Nat.le_refl _, by unfold maxLen; omega, rfl, rfl⟩⟩

/-- rising -/
def ltT (a b : ByteArray) : Prop := a.data.toList < b.data.toList
theorem ltT_irrefl (a : ByteArray) : ¬ ltT a a := List.lt_irrefl _
theorem ltT_asymm {a b : ByteArray} (h : ltT a b) : ¬ ltT b a := fun h2 => (List.not_le.2 h2) (List.le_of_lt h)
theorem ltT_trans {a b c : ByteArray} (h : ltT a b) (h2 : ltT b c) : ltT a c := List.lt_trans h h2
theorem ltT_of {a b : ByteArray} (h : ¬ ltT a b) (h2 : a ≠ b) : ltT b a := by
  have h3 : b.data.toList ≤ a.data.toList := List.not_lt.1 h
  rcases List.le_iff_lt_or_eq.1 h3 with h4 | h4
  · exact h4
  · exact absurd (ByteArray.ext (Array.toList_inj.1 h4)).symm h2
theorem lessT (a b : ByteArray) : Op.bytesLess a.toList b.toList = true ↔ ltT a b := by
  rw [bytesLess_eq, Lib.toList_data, Lib.toList_data]
  unfold ltT
  simp
def Up (l : Wd) : Prop := l.Pairwise ltT
theorem up_ext : ∀ (l1 l2 : Wd), Up l1 → Up l2 → (∀ s, s ∈ l1 ↔ s ∈ l2) → l1 = l2
  | [], [], _, _, _ => rfl
  | [], b :: l2, _, _, h => by have := (h b).2 (by simp); simp at this
  | a :: l1, [], _, _, h => by have := (h a).1 (by simp); simp at this
  | a :: l1, b :: l2, h1, h2, h => by
    obtain ⟨p1, q1⟩ := List.pairwise_cons.1 h1
    obtain ⟨p2, q2⟩ := List.pairwise_cons.1 h2
    have e : a = b := by
      rcases List.mem_cons.1 ((h a).1 (by simp)) with e | e
      · exact e
      · rcases List.mem_cons.1 ((h b).2 (by simp)) with e2 | e2
        · exact e2.symm
        · exact absurd (p1 b e2) (ltT_asymm (p2 a e))
    subst e
    refine congrArg _ (up_ext l1 l2 q1 q2 fun s => ⟨fun hs => ?_, fun hs => ?_⟩)
    · rcases List.mem_cons.1 ((h s).1 (List.mem_cons_of_mem _ hs)) with e | e
      · subst e; exact absurd (p1 s hs) (ltT_irrefl _)
      · exact e
    · rcases List.mem_cons.1 ((h s).2 (List.mem_cons_of_mem _ hs)) with e | e
      · subst e; exact absurd (p2 s hs) (ltT_irrefl _)
      · exact e
/-- one more, at its place -/
theorem up_put {l : Wd} (h : Up l) {k : Nat} {s : ByteArray} (h1 : ∀ i (hi : i < l.length), i < k → ltT l[i] s) (h2 : ∀ (hk : k < l.length), ltT s l[k]) : Up (l.take k ++ s :: l.drop k) := by
  unfold Up at h ⊢
  rw [List.pairwise_append]
  refine ⟨h.sublist (List.take_sublist _ _), List.pairwise_cons.2 ⟨fun a ha => ?_, h.sublist (List.drop_sublist _ _)⟩, fun a ha b hb => ?_⟩
  · obtain ⟨j, hj, rfl⟩ := List.getElem_of_mem ha
    rw [List.length_drop] at hj
    rw [List.getElem_drop]
    have hk : k < l.length := by omega
    by_cases e : j = 0
    · subst e; exact h2 hk
    · exact ltT_trans (h2 hk) (List.pairwise_iff_getElem.1 h k (k + j) hk (by omega) (by omega))
  · obtain ⟨i, hi, rfl⟩ := List.getElem_of_mem ha
    rw [List.length_take] at hi
    rw [List.getElem_take]
    have h3 := h1 i (by omega) (by omega)
    rcases List.mem_cons.1 hb with rfl | hb
    · exact h3
    · obtain ⟨j, hj, rfl⟩ := List.getElem_of_mem hb
      rw [List.length_drop] at hj
      rw [List.getElem_drop]
      exact List.pairwise_iff_getElem.1 h i (k + j) (by omega) (by omega) (by omega)
theorem mem_put {l : Wd} {k : Nat} {s t : ByteArray} : t ∈ l.take k ++ s :: l.drop k ↔ t ∈ l ∨ t = s := by
  rw [List.mem_append, List.mem_cons]
  constructor
  · rintro (h | h | h)
    · exact .inl (List.mem_of_mem_take h)
    · exact .inr h
    · exact .inl (List.mem_of_mem_drop h)
  · rintro (h | h)
    · rw [← List.take_append_drop k l] at h
      rcases List.mem_append.1 h with h | h
      · exact .inl h
      · exact .inr (.inr h)
    · exact .inr (.inl h)
theorem mem_labR (ps : List X) (s : ByteArray) : s ∈ labR ps ↔ ∃ p, p ∈ ps ∧ p.kind = 1 ∧ p.lab = s := by
  unfold labR
  rw [List.mem_map]
  constructor
  · rintro ⟨p, h, e⟩
    rw [List.mem_filter, decide_eq_true_eq] at h
    exact ⟨p, h.1, h.2, e⟩
  · rintro ⟨p, h1, h2, e⟩
    exact ⟨p, by rw [List.mem_filter, decide_eq_true_eq]; exact ⟨h1, h2⟩, e⟩
theorem labR_app (ps qs : List X) : labR (ps ++ qs) = labR ps ++ labR qs := by unfold labR; rw [List.filter_append, List.map_append]
theorem labR_not {x : X} (h : x.kind ≠ 1) : labR x.parts = labR (partsL x.kids) := by
  unfold labR
  rw [X.parts_eq, List.filter_cons, if_neg (by simp [h])]
theorem labR_one {x : X} (h : x.kind = 1) (hk : x.kids = []) : labR x.parts = [x.lab] := by
  unfold labR
  rw [X.parts_eq, hk, partsL_nil, List.filter_cons, if_pos (by simp [h])]
  rfl
theorem labs_up (x : X) : Up x.labs := by
  unfold Up
  rw [List.pairwise_iff_getElem]
  intro i j hi hj hij
  exact List.not_le.1 (labs_rises x hij hj)
end Go.Proofs.Ytnohnkhhkeikoaa
