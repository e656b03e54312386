/- Append out of any row of cells; Pick. -/
import Derived.Test.YtadjgjbkjhallaaDoorAD
import Derived.Deep.RegionLaw
namespace Go.Proofs.YtadjgjbkjhallaaDoor
open Go.ChangeShapes Go.WideShapes Go.ChangeAt Go.RowKit Go.Deep
set_option linter.unusedVariables false

/-- the slice v holds just the cells news, each of one cell -/
def NR (w : World) (v : Value) (news : List Value) : Prop := ∃ A c, v = .slice A news.length c ∧ ∀ j u, news[j]? = some u → ∃ ad, A = some ad ∧ w.cell? (ad.add j) = some u

theorem run_append_nr {P : Program} {w : World} {t ty e base : Nat} {i : TypeInfo} {z : Value} (ht : P.underlying t = some (.slice e)) (hi : P.info? e = some i) (hz : i.zero = some z) (hzc : z.cells.size = 1) (hs : i.size = 1) (hby : i.bytes = 24)
    {v : Value} {n : Nat} {xs : List Value} (hown : w.ownsRow base e 1 v n xs) {v2 : Value} {l : List Value} (hpr : NR w v2 l) (h1 : ∀ u ∈ l, u.oneCell' = true) (hl : n + l.length ≤ 2000000) (hbase : base ≤ w.heap.size) :
    ∃ v' w', (Builtin.append_ #[t, t] ty #[v, v2]).run P w = .ok v' w' ∧ w'.ownsRow base e 1 v' (n + l.length) (xs ++ l) ∧ w.grownBy w' v.ownBlock ∧ (v'.ownBlock = v.ownBlock ∨ v'.ownBlock = some w.heap.size) := by
  obtain ⟨A, c, rfl, hr⟩ := hpr
  cases A with
  | none =>
    have h0 : l = [] := by
      cases l with
      | nil => rfl
      | cons a r =>
        obtain ⟨ad, e, _⟩ := hr 0 a rfl
        cases e
    subst h0
    refine ⟨v, w, ?_, by simpa using hown, ⟨rfl, rfl, rfl, Nat.le_refl _, fun _ _ _ => rfl⟩, .inl rfl⟩
    rcases hown.2 with ⟨rfl, rfl⟩ | ⟨g, cap, cur, rfl, _, _, hnc, _⟩
    · simp [Builtin.append_, run_underlying ht, sizeOf, typeInfo, hi, Builtin.lenOf, Builtin.firstCells]
    · simp [Builtin.append_, run_underlying ht, sizeOf, typeInfo, hi, Builtin.lenOf, Builtin.firstCells, hnc, storeCells]
  | some ad =>
    have hnews : ∀ j u, l[j]? = some u → w.cell? (ad.add j) = some u := by
      intro j u hj
      obtain ⟨ad', e, hc⟩ := hr j u hj
      injection e with e
      rw [e]
      exact hc
    obtain ⟨v', w', h1, h2, h3, _, h5⟩ := run_append_own_at (P := P) w base t ty e i z 1 24 ht hi hz hs hby hzc (by decide) v n xs hown ad l.length c l (by omega) hnews h1 (by unfold maxLen; omega) (by omega) hbase
    exact ⟨v', w', h1, h2, h3, h5⟩
theorem wp_append_nr {P : Program} {w : World} {o : Oper} {a : Act} {K : Act → World → Prop} {Q : Exit → Act → World → Prop} (s x : Operand) {t e base : Nat} (ho : o.op = .call { callee := .builtin .append, args := #[s, x], argTypes := #[t, t] })
    {i : TypeInfo} {z : Value} (ht : P.underlying t = some (.slice e)) (hi : P.info? e = some i) (hz : i.zero = some z) (hzc : z.cells.size = 1) (hs : i.size = 1) (hby : i.bytes = 24)
    {v : Value} {n : Nat} {xs : List Value} (he : a.eval s = v) (hown : w.ownsRow base e 1 v n xs) {v2 : Value} {l : List Value} (hx : a.eval x = v2) (hpr : NR w v2 l) (h1 : ∀ u ∈ l, u.oneCell' = true) (hl : n + l.length ≤ 2000000) (hbase : base ≤ w.heap.size)
    (h : ∀ v' w', w'.ownsRow base e 1 v' (n + l.length) (xs ++ l) → w.grownBy w' v.ownBlock → (v'.ownBlock = v.ownBlock ∨ v'.ownBlock = some w.heap.size) → K (a.put o.dst v') w') : o.wp P a w K Q := by
  obtain ⟨v', w', hr, h2, h3, h4⟩ := run_append_nr (P := P) (ty := o.type) ht hi hz hzc hs hby hown hpr h1 hl hbase
  unfold Oper.wp execOp
  simp only [ho, resolve, invoke, builtin, Sem.run_bind, Sem.run_pure, Result.andThen_ok, List.map_toArray, List.map_cons, List.map_nil, he, hx, hr]
  exact h v' w' h2 h3 h4
theorem step_append_nr {P : Program} {w : World} {ops : Array Oper} {o : Oper} {a : Act} {K : Act → World → Prop} {Q : Exit → Act → World → Prop} {E : Prop} (hgd : o.guard = none) (s x : Operand) {t e base : Nat} (ho : o.op = .call { callee := .builtin .append, args := #[s, x], argTypes := #[t, t] })
    {i : TypeInfo} {z : Value} (ht : P.underlying t = some (.slice e)) (hi : P.info? e = some i) (hz : i.zero = some z) (hzc : z.cells.size = 1) (hs : i.size = 1) (hby : i.bytes = 24)
    {v : Value} {n : Nat} {xs : List Value} (he : a.eval s = v) (hown : w.ownsRow base e 1 v n xs) {v2 : Value} {l : List Value} (hx : a.eval x = v2) (hpr : NR w v2 l) (h1 : ∀ u ∈ l, u.oneCell' = true) (hl : n + l.length ≤ 2000000) (hbase : base ≤ w.heap.size)
    (h : ∀ v' w', w'.ownsRow base e 1 v' (n + l.length) (xs ++ l) → w.grownBy w' v.ownBlock → (v'.ownBlock = v.ownBlock ∨ v'.ownBlock = some w.heap.size) → K (a.put o.dst v') w') :
    if Region.wanted o (yielded ops a.tmps) = true then Oper.wp P o a w K Q else E := by
  have hw : Region.wanted o (yielded ops a.tmps) = true := by simp [Region.wanted, hgd]
  rw [if_pos hw]
  exact wp_append_nr s x ho ht hi hz hzc hs hby he hown hx hpr h1 hl hbase h

/-! ### parts of rows -/
theorem NR.below {N : Nat} {w w' : World} {A : Option Addr} {n c : Nat} {l : List Value} (h : NR w (.slice A n c) l) (hN : ∀ ad, A = some ad → 0 < n → ad.block < N) (hb : Below N w w') : NR w' (.slice A n c) l := by
  obtain ⟨A', c', e, h⟩ := h
  injection e with e1 e2 e3
  subst e1 e2 e3
  refine ⟨_, _, rfl, fun j u hj => ?_⟩
  obtain ⟨ad, hA, hc⟩ := h j u hj
  have h0 : 0 < l.length := Nat.lt_of_le_of_lt (Nat.zero_le _) (List.getElem?_eq_some_iff.1 hj).1
  exact ⟨ad, hA, (hb.cell (p := ad.add j) (by rw [block_add]; exact hN ad hA h0)).trans hc⟩
theorem NR.take {w : World} {A : Option Addr} {n c : Nat} {l : List Value} (h : NR w (.slice A n c) l) {k : Nat} (hk : k ≤ n) : NR w (.slice A k c) (l.take k) := by
  obtain ⟨A', c', e, h⟩ := h
  injection e with e1 e2 e3
  subst e1 e2 e3
  refine ⟨_, _, by rw [List.length_take, Nat.min_eq_left hk], fun j u hj => ?_⟩
  by_cases hjk : j < k
  · rw [List.getElem?_take_of_lt hjk] at hj
    exact h j u hj
  · rw [List.getElem?_take_eq_none (by omega)] at hj; cases hj
theorem NR.from {w : World} {ad : Addr} {n c : Nat} {l : List Value} (h : NR w (.slice (some ad) n c) l) {k : Nat} (hk : k ≤ n) (hc : n ≤ c) : NR w (.slice (if c = k then some ad else some (ad.add k)) (n - k) (c - k)) (l.drop k) := by
  obtain ⟨A', c', e, h⟩ := h
  injection e with e1 e2 e3
  subst e1 e2 e3
  refine ⟨_, _, by rw [List.length_drop], fun j u hj => ?_⟩
  have hlt := (List.getElem?_eq_some_iff.1 hj).1
  rw [List.length_drop] at hlt
  rw [List.getElem?_drop] at hj
  obtain ⟨ad', e, hc'⟩ := h _ _ hj
  injection e with e
  subst e
  rw [if_neg (by omega)]
  exact ⟨_, rfl, by rw [add_of_add]; exact hc'⟩

theorem RowsOf.app {N : Nat} {w : World} {r1 r2 : List Value} {l1 l2 : List (List Vt)} (h1 : RowsOf N w r1 l1) (h2 : RowsOf N w r2 l2) : RowsOf N w (r1 ++ r2) (l1 ++ l2) := by
  refine ⟨by rw [List.length_append, List.length_append, h1.1, h2.1], fun k hk => ?_⟩
  by_cases hlt : k < l1.length
  · obtain ⟨rv, a, b, c⟩ := h1.2 k hlt
    refine ⟨rv, by rw [List.getElem?_append_left (by rw [h1.1]; exact hlt)]; exact a, ?_, ?_⟩
    · rw [List.getElem_append_left hlt]; exact b
    · rw [List.getElem_append_left hlt]; exact c
  · rw [List.length_append] at hk
    obtain ⟨rv, a, b, c⟩ := h2.2 (k - l1.length) (by omega)
    refine ⟨rv, by rw [List.getElem?_append_right (by rw [h1.1]; omega), h1.1]; exact a, ?_, ?_⟩
    · rw [List.getElem_append_right (by omega)]; exact b
    · rw [List.getElem_append_right (by omega)]; exact c
theorem RowsOf.drop {N : Nat} {w : World} {r : List Value} {l : List (List Vt)} (h : RowsOf N w r l) (k : Nat) : RowsOf N w (r.drop k) (l.drop k) := by
  refine ⟨by rw [List.length_drop, List.length_drop, h.1], fun j hj => ?_⟩
  rw [List.length_drop] at hj
  obtain ⟨rv, a, b, c⟩ := h.2 (k + j) (by omega)
  refine ⟨rv, by rw [List.getElem?_drop]; exact a, ?_, ?_⟩
  · rw [List.getElem_drop]; exact b
  · rw [List.getElem_drop]; exact c
theorem RowsOf.take {N : Nat} {w : World} {r : List Value} {l : List (List Vt)} (h : RowsOf N w r l) (k : Nat) : RowsOf N w (r.take k) (l.take k) := by
  refine ⟨by rw [List.length_take, List.length_take, h.1], fun j hj => ?_⟩
  rw [List.length_take] at hj
  obtain ⟨rv, a, b, c⟩ := h.2 j (by omega)
  refine ⟨rv, by rw [List.getElem?_take_of_lt (by omega)]; exact a, ?_, ?_⟩
  · rw [List.getElem_take]; exact b
  · rw [List.getElem_take]; exact c
theorem RRV.nr {N : Nat} {w : World} {A : Option Addr} {n c : Nat} {ls : List (List Vt)} (h : RRV N w (.slice A n c) ls) : ∃ rvs, RowsOf N w rvs ls ∧ NR w (.slice A n c) rvs ∧ n = ls.length ∧ ∀ ad, A = some ad → 0 < n → ad.block < N := by
  obtain ⟨rvs, h1, h2, h3⟩ := h.cells
  have hl : rvs.length = n := by rw [h1.1, h2]
  refine ⟨rvs, h1, ⟨A, c, by rw [hl], fun j u hj => ?_⟩, h2, fun ad hA h0 => ?_⟩
  · have := (List.getElem?_eq_some_iff.1 hj).1
    obtain ⟨ad, e, _, hc⟩ := h3 (by omega)
    exact ⟨ad, e, hc j u hj⟩
  · obtain ⟨ad', e, hb, _⟩ := h3 h0
    rw [hA] at e
    injection e with e
    rw [e]; exact hb

theorem tmod_or (x n : Int) (h : x < 0) (hn : 1 ≤ n) : (x.tmod n = 0 ∧ x % n = 0) ∨ (x.tmod n < 0 ∧ -n < x.tmod n ∧ x % n = x.tmod n + n) := by
  have e := Int.tmod_eq_emod (a := x) (b := n)
  have b1 := Int.emod_nonneg x (show n ≠ 0 by omega)
  have b2 := Int.emod_lt_of_pos x (show 0 < n by omega)
  by_cases hd : n ∣ x
  · rw [if_pos (.inr hd)] at e
    have := Int.emod_eq_zero_of_dvd hd
    omega
  · rw [if_neg (by rintro (h1 | h1); omega; exact hd h1)] at e
    have hne : x % n ≠ 0 := fun h0 => hd (Int.dvd_of_emod_eq_zero h0)
    have hab : (n.natAbs : Int) = n := by omega
    rw [hab] at e
    omega
theorem pick_any (x n : Int) (w : World) (n1 : 1 ≤ n) (n2 : n ≤ 1099511627776) :
    Calls Tryd.prog 25 #[.int .i64 x, .int .i64 n] w fun e w' => e = .returned (.int .i64 (x % n)) ∧ w' = w := by
  by_cases h0 : 0 ≤ x
  · have b1 := Int.emod_nonneg x (show n ≠ 0 by omega)
    have b2 := Int.emod_lt_of_pos x (show 0 < n by omega)
    go_enter Tryd.func25, Tryd.ntmps25
    go_wp2
    go_ret
    exact ⟨rfl, rfl⟩
  · rcases tmod_or x n (by omega) n1 with ⟨h1, h2⟩ | ⟨h1, h2, h3⟩
    · have H1 := Lib.hid h1
      have H2 := Lib.hid h2
      have h3 : 0 ≤ x.tmod n := by omega
      have h4 : x.tmod n ≤ 0 := by omega
      clear h1 h2
      go_enter Tryd.func25, Tryd.ntmps25
      go_wp2
      go_ret
      exact ⟨congrArg Ending.returned (congrArg (Value.int .i64) (by rw [H1.out, H2.out])), rfl⟩
    · have H3 := Lib.hid h3
      clear h3
      go_enter Tryd.func25, Tryd.ntmps25
      go_wp2
      go_ret
      exact ⟨congrArg Ending.returned (congrArg (Value.int .i64) (by rw [H3.out])), rfl⟩

/-- how a slice of rows that comes in lies -/
def CapOk (v : Value) : Prop := ∀ A n c, v = .slice A n c → n ≤ c ∧ (A = none → c = 0)
theorem open_rows2 {H : Type} {enc : TypeId × Value → H} {w : World} {n : Nat} {V : Value} {x : DataW H × List MemPlace} (h : DataW.trod enc Tryd.prog w 0 (fun _ => true) true n 43 [V] = some x) :
    ∃ ls, (RRV w.heap.size w V ls ∧ CapOk V) ∧ ((∀ n ∈ x.1.weights Tryd.prog 43, n ≤ reachBytes) → ls.length ≤ reachBytes ∧ ∀ l ∈ ls, l.length ≤ reachBytes) := by
  obtain ⟨ls, h1, h2⟩ := open_rows h
  refine ⟨ls, ⟨h1, fun A n c e => ?_⟩, h2⟩
  rcases open_slice Tryd.underlying43 h with ⟨hcs, hx⟩ | ⟨a, len, cap, m, n', D, Pl, hcs, _, hl, hm, hmm, hx, hi⟩
  · have : V = .slice none 0 0 := by simpa using hcs
    rw [this] at e
    injection e with e1 e2 e3
    subst e1 e2 e3
    exact ⟨Nat.le_refl _, fun _ => rfl⟩
  · have : V = .slice (some a) len cap := by simpa using hcs
    rw [this] at e
    injection e with e1 e2 e3
    subst e1 e2 e3
    exact ⟨hl, fun h => by cases h⟩
end Go.Proofs.YtadjgjbkjhallaaDoor
