/- Texts PM, PN, PO, PQ, TE, UH, one behind the other. -/
import Derived.Test.YtpoefcpgcojppaaM0
import Derived.Test.YtpoefcpgcojppaaM1
import Derived.Test.YtpoefcpgcojppaaM2
import Derived.Test.YtpoefcpgcojppaaM3
import Derived.Test.YtpoefcpgcojppaaM4
import Derived.Deep.RegionHeld3
import Derived.Laws.EntriesVeiled
import Derived.Deep.CutBlock
import Derived.Lib.SmallJoins
import Derived.Sort.OwnSorted
set_option linter.unusedSimpArgs false
namespace Go.Proofs.Ytpoefcpgcojppaa
open Go.ChangeShapes Go.WideShapes Go.ChangeAt Go.RowKit
set_option linter.unusedVariables false

theorem info_parts53 : ∃ i, Try.prog.info? 53 = some i ∧ i.zero = some (.agg #[.string ⟨#[]⟩, .int .i64 0, .int .i64 0, .string ⟨#[]⟩]) ∧ i.size = 4 ∧ i.bytes = 48 := by
  have h := parts53
  cases hq : Try.prog.info? 53 with
  | none => rw [hq] at h; cases h
  | some i =>
    rw [hq] at h
    simp only [Option.map_some, Option.some.injEq, Prod.mk.injEq] at h
    exact ⟨i, rfl, h.1, h.2.1, h.2.2⟩
theorem run_append_pr {P : Program} {w : World} {t ty base : Nat} {i : TypeInfo} (ht : P.underlying t = some (.slice 53)) (hi : P.info? 53 = some i) (hz : i.zero = some (.agg #[.string ⟨#[]⟩, .int .i64 0, .int .i64 0, .string ⟨#[]⟩])) (hs : i.size = 4) (hby : i.bytes = 48)
    {v : Value} {n : Nat} {xs : List Value} (hown : w.ownsRow base 53 4 v n xs) {v2 : Value} {l : List Pt} (hpr : PR w v2 l) (hl : n + l.length ≤ 2000000) (hbase : base ≤ w.heap.size) :
    ∃ v' w', (Builtin.append_ #[t, t] ty #[v, v2]).run P w = .ok v' w' ∧ w'.ownsRow base 53 4 v' (n + l.length) (xs ++ flatP l) ∧ w.grownBy w' v.ownBlock ∧ (v'.ownBlock = v.ownBlock ∨ v'.ownBlock = some w.heap.size) := by
  obtain ⟨A, c, rfl, hr⟩ := hpr
  cases A with
  | none =>
    have h0 : l = [] := by
      cases l with
      | nil => rfl
      | cons a r =>
        obtain ⟨ad, e, _⟩ := hr (by simp)
        cases e
    subst h0
    refine ⟨v, w, ?_, by simpa [flatP] using hown, ⟨rfl, rfl, rfl, Nat.le_refl _, fun _ _ _ => rfl⟩, .inl rfl⟩
    rcases hown.2 with ⟨rfl, rfl⟩ | ⟨g, cap, cur, rfl, _, _, hnc, _⟩
    · simp [Builtin.append_, run_underlying ht, sizeOf, typeInfo, hi, Builtin.lenOf, Builtin.firstCells]
    · simp [Builtin.append_, run_underlying ht, sizeOf, typeInfo, hi, Builtin.lenOf, Builtin.firstCells, hnc, storeCells]
  | some ad =>
    have hnews : ∀ j u, (flatP l)[j]? = some u → w.cell? (ad.add j) = some u := by
      intro j u hj
      have h0 : 0 < l.length := by
        have := (List.getElem?_eq_some_iff.1 hj).1
        rw [flatP_len] at this
        omega
      obtain ⟨ad', e, _, hc⟩ := hr h0
      injection e with e
      rw [e]
      exact hc j u hj
    obtain ⟨v', w', h1, h2, h3, _, h5⟩ := run_append_own_at (P := P) w base t ty 53 i _ 4 48 ht hi hz hs hby rfl (by decide) v n xs hown ad l.length c (flatP l) (flatP_len l) hnews (flatP_one l) (by unfold maxLen; omega) (by omega) hbase
    exact ⟨v', w', h1, h2, h3, h5⟩
theorem wp_append_pr {P : Program} {w : World} {o : Oper} {a : Act} {K : Act → World → Prop} {Q : Exit → Act → World → Prop} (s x : Operand) {t base : Nat} (ho : o.op = .call { callee := .builtin .append, args := #[s, x], argTypes := #[t, t] })
    {i : TypeInfo} (ht : P.underlying t = some (.slice 53)) (hi : P.info? 53 = some i) (hz : i.zero = some (.agg #[.string ⟨#[]⟩, .int .i64 0, .int .i64 0, .string ⟨#[]⟩])) (hs : i.size = 4) (hby : i.bytes = 48)
    {v : Value} {n : Nat} {xs : List Value} (he : a.eval s = v) (hown : w.ownsRow base 53 4 v n xs) {v2 : Value} {l : List Pt} (hx : a.eval x = v2) (hpr : PR w v2 l) (hl : n + l.length ≤ 2000000) (hbase : base ≤ w.heap.size)
    (h : ∀ v' w', w'.ownsRow base 53 4 v' (n + l.length) (xs ++ flatP l) → w.grownBy w' v.ownBlock → (v'.ownBlock = v.ownBlock ∨ v'.ownBlock = some w.heap.size) → K (a.put o.dst v') w') : o.wp P a w K Q := by
  obtain ⟨v', w', hr, h2, h3, h4⟩ := run_append_pr (P := P) (ty := o.type) ht hi hz hs hby hown hpr hl hbase
  unfold Oper.wp execOp
  simp only [ho, resolve, invoke, builtin, Sem.run_bind, Sem.run_pure, Result.andThen_ok, List.map_toArray, List.map_cons, List.map_nil, he, hx, hr]
  exact h v' w' h2 h3 h4
theorem wpList_append_pr {P : Program} {w : World} {ops : Array Oper} {rest : List Oper} {o : Oper} {a : Act} {Q : Exit → Act → World → Prop} (hgd : o.guard = none) (s x : Operand) {t base : Nat} (ho : o.op = .call { callee := .builtin .append, args := #[s, x], argTypes := #[t, t] })
    {i : TypeInfo} (ht : P.underlying t = some (.slice 53)) (hi : P.info? 53 = some i) (hz : i.zero = some (.agg #[.string ⟨#[]⟩, .int .i64 0, .int .i64 0, .string ⟨#[]⟩])) (hs : i.size = 4) (hby : i.bytes = 48)
    {v : Value} {n : Nat} {xs : List Value} (he : a.eval s = v) (hown : w.ownsRow base 53 4 v n xs) {v2 : Value} {l : List Pt} (hx : a.eval x = v2) (hpr : PR w v2 l) (hl : n + l.length ≤ 2000000) (hbase : base ≤ w.heap.size)
    (h : ∀ v' w', w'.ownsRow base 53 4 v' (n + l.length) (xs ++ flatP l) → w.grownBy w' v.ownBlock → (v'.ownBlock = v.ownBlock ∨ v'.ownBlock = some w.heap.size) → wpList P ops Q rest (a.put o.dst v') w') : wpList P ops Q (o :: rest) a w :=
  wpList_plain hgd fun _ hK => wp_append_pr s x ho ht hi hz hs hby he hown hx hpr hl hbase fun v' w' h2 h3 h4 => hK _ _ (h v' w' h2 h3 h4)
theorem step_append_pr {P : Program} {w : World} {ops : Array Oper} {o : Oper} {a : Act} {K : Act → World → Prop} {Q : Exit → Act → World → Prop} {E : Prop} (hgd : o.guard = none) (s x : Operand) {t base : Nat} (ho : o.op = .call { callee := .builtin .append, args := #[s, x], argTypes := #[t, t] })
    {i : TypeInfo} (ht : P.underlying t = some (.slice 53)) (hi : P.info? 53 = some i) (hz : i.zero = some (.agg #[.string ⟨#[]⟩, .int .i64 0, .int .i64 0, .string ⟨#[]⟩])) (hs : i.size = 4) (hby : i.bytes = 48)
    {v : Value} {n : Nat} {xs : List Value} (he : a.eval s = v) (hown : w.ownsRow base 53 4 v n xs) {v2 : Value} {l : List Pt} (hx : a.eval x = v2) (hpr : PR w v2 l) (hl : n + l.length ≤ 2000000) (hbase : base ≤ w.heap.size)
    (h : ∀ v' w', w'.ownsRow base 53 4 v' (n + l.length) (xs ++ flatP l) → w.grownBy w' v.ownBlock → (v'.ownBlock = v.ownBlock ∨ v'.ownBlock = some w.heap.size) → K (a.put o.dst v') w') :
    if Region.wanted o (yielded ops a.tmps) = true then Oper.wp P o a w K Q else E := by
  have hw : Region.wanted o (yielded ops a.tmps) = true := by simp [Region.wanted, hgd]
  rw [if_pos hw]
  exact wp_append_pr s x ho ht hi hz hs hby he hown hx hpr hl hbase h

/-- one prop, laid in a block of its own -/
theorem PR.one (w : World) (p : Pt) (t : TypeId) : PR (w.alloc (.cells #[.string p.1, .int .i64 p.2.1, .int .i64 p.2.2.1, .string p.2.2.2] t)) (.slice (some ⟨w.heap.size, 0, none⟩) 1 1) [p] := by
  have h := heap_alloc_new w (.cells #[.string p.1, .int .i64 p.2.1, .int .i64 p.2.2.1, .string p.2.2.2] t)
  refine ⟨some ⟨w.heap.size, 0, none⟩, 1, rfl, fun _ => ⟨_, rfl, by simp, fun j u hj => ?_⟩⟩
  have hlt := (List.getElem?_eq_some_iff.1 hj).1
  have he : flatP [p] = [.string p.1, .int .i64 p.2.1, .int .i64 p.2.2.1, .string p.2.2.2] := rfl
  rw [he] at hj hlt
  match j, hlt with
  | 0, _ => simp at hj; subst hj; exact cell_of_row _ _ 0 _ t (0, 0) h
  | 1, _ => simp at hj; subst hj; simp [Addr.add]
  | 2, _ => simp at hj; subst hj; simp [Addr.add]
  | 3, _ => simp at hj; subst hj; simp [Addr.add]

theorem rdT_len (l : List UInt8) : (rdT l).2.length ≤ l.length := by unfold rdT; simp
theorem rdV_len (l : List UInt8) : (rdV l).2.length ≤ l.length := by
  unfold rdV
  split
  · simp
  · split
    · have := rdT_len (l.drop 1)
      simp at this ⊢
      omega
    · simp
theorem rdP_len (l : List UInt8) : (rdP l).2.length ≤ l.length := Nat.le_trans (rdV_len _) (rdT_len _)
theorem rdPs_len : ∀ n (l : List UInt8), (rdPs n l).2.length ≤ l.length
  | 0, l => Nat.le_refl _
  | n + 1, l => Nat.le_trans (rdP_len _) (rdPs_len n l)
theorem rdPs_num : ∀ n (l : List UInt8), (rdPs n l).1.length = n
  | 0, l => rfl
  | n + 1, l => by show ((rdPs n l).1 ++ [_]).length = _; simp [rdPs_num n l]
end Go.Proofs.Ytpoefcpgcojppaa

namespace Go.Proofs.Ytpoefcpgcojppaa
open Go.ChangeShapes Go.WideShapes Go.ChangeAt Go.RowKit
set_option linter.unusedVariables false

/-- an edge told as cells, its props in a row of their own -/
def GuessR (e : Ed) (w : World) (x : Ending) (w' : World) : Prop := ∃ pv, x = .returned (e.v pv) ∧ w'.ownsRow w.heap.size 53 4 pv e.props.length (flatP e.props) ∧ Below w.heap.size w w'
/-- an edge's block -/
def EB (w : World) (E : Nat) (s d l : ByteArray) (t : Int) (pv : Value) : Prop := w.heap[E]? = some (.cells #[.string s, .string d, .string l, .int .i64 t, pv] 24 (0, 0))

theorem env_new (w1 : World) (B : Nat) (hB : B < w1.heap.size) :
    Env2 (((w1.alloc (.cells #[.func (.func 80) #[] #[.pointer (some ⟨B, 0, none⟩)]] 64)).alloc (.cells #[.func (.func 81) #[] #[.pointer (some ⟨w1.heap.size, 0, none⟩)]] 88)).alloc (.cells #[.func (.func 82) #[] #[.pointer (some ⟨w1.heap.size, 0, none⟩), .pointer (some ⟨w1.heap.size + 1, 0, none⟩)]] 77)) B w1.heap.size (w1.heap.size + 1) (w1.heap.size + 1 + 1) := by
  obtain ⟨wa, hwa⟩ : ∃ wa, w1.alloc (.cells #[.func (.func 80) #[] #[.pointer (some ⟨B, 0, none⟩)]] 64) = wa := ⟨_, rfl⟩
  have a1 := heap_alloc_new w1 (.cells #[.func (.func 80) #[] #[.pointer (some ⟨B, 0, none⟩)]] 64)
  have s1 : wa.heap.size = w1.heap.size + 1 := by rw [← hwa]; simp
  rw [hwa] at a1 ⊢
  obtain ⟨wb, hwb⟩ : ∃ wb, wa.alloc (.cells #[.func (.func 81) #[] #[.pointer (some ⟨w1.heap.size, 0, none⟩)]] 88) = wb := ⟨_, rfl⟩
  have b1 := heap_alloc_new wa (.cells #[.func (.func 81) #[] #[.pointer (some ⟨w1.heap.size, 0, none⟩)]] 88)
  have s2 : wb.heap.size = wa.heap.size + 1 := by rw [← hwb]; simp
  have hb : Below wa.heap.size wa wb := by rw [← hwb]; exact (Below.refl _ wa).alloc (Nat.le_refl _) _
  rw [hwb] at b1 ⊢
  have c1 := heap_alloc_new wb (.cells #[.func (.func 82) #[] #[.pointer (some ⟨w1.heap.size, 0, none⟩), .pointer (some ⟨w1.heap.size + 1, 0, none⟩)]] 77)
  have hc : Below wb.heap.size wb (wb.alloc (.cells #[.func (.func 82) #[] #[.pointer (some ⟨w1.heap.size, 0, none⟩), .pointer (some ⟨w1.heap.size + 1, 0, none⟩)]] 77)) := (Below.refl _ wb).alloc (Nat.le_refl _) _
  have s3 : (wb.alloc (.cells #[.func (.func 82) #[] #[.pointer (some ⟨w1.heap.size, 0, none⟩), .pointer (some ⟨w1.heap.size + 1, 0, none⟩)]] 77)).heap.size = wb.heap.size + 1 := by simp
  generalize wb.alloc (.cells #[.func (.func 82) #[] #[.pointer (some ⟨w1.heap.size, 0, none⟩), .pointer (some ⟨w1.heap.size + 1, 0, none⟩)]] 77) = wc at *
  rw [s1] at b1
  rw [s2, s1] at c1
  exact ⟨⟨((hc.cell (p := ⟨w1.heap.size, 0, none⟩) (by show w1.heap.size < _; omega)).trans (hb.cell (p := ⟨w1.heap.size, 0, none⟩) (by show w1.heap.size < _; omega))).trans (cell_of_row _ _ 0 _ 64 (0, 0) a1), (hc.cell (p := ⟨w1.heap.size + 1, 0, none⟩) (by show w1.heap.size + 1 < _; omega)).trans (cell_of_row _ _ 0 _ 88 (0, 0) b1), by omega, by omega, by omega, by omega⟩, cell_of_row _ _ 0 _ 77 (0, 0) c1, by omega, by omega⟩

/-- none of an edge's cells is frozen -/
structure Fx5 (w : World) (b : Nat) : Prop where
  f0 : w.frozen? ⟨b, 0, none⟩ = false
  f1 : w.frozen? ⟨b, 1, none⟩ = false
  f2 : w.frozen? ⟨b, 2, none⟩ = false
  f3 : w.frozen? ⟨b, 3, none⟩ = false
  f4 : w.frozen? ⟨b, 4, none⟩ = false
theorem Fx5.of {w : World} {b : Nat} {c : Array Value} {t : TypeId} (h : w.heap[b]? = some (.cells c t (0, 0))) : Fx5 w b :=
  ⟨by simp [World.frozen?, h], by simp [World.frozen?, h], by simp [World.frozen?, h], by simp [World.frozen?, h], by simp [World.frozen?, h]⟩
theorem memE {w w' : World} {B E : Nat} {o : Obj} (hk : Keep (fun k => k ≠ B) w w') (h : w.heap[E]? = some o ∧ E < w.heap.size) (hE : B < E) : w'.heap[E]? = some o := (hk.block E h.2 (by show E ≠ B; omega)).trans h.1

theorem set1_keep (w : World) (E i : Nat) (a : Value) : Keep (fun k => k ≠ E) w (w.setCell ⟨E, i, none⟩ a) := ⟨rfl, rfl, rfl, by simp, fun k _ hk => by rw [Below.heap_setCell _ _ _ _ hk]⟩
theorem set5_keep (w : World) (E : Nat) (a0 a1 a2 a3 a4 : Value) : Keep (fun k => k ≠ E) w (((((w.setCell ⟨E, 0, none⟩ a0).setCell ⟨E, 1, none⟩ a1).setCell ⟨E, 2, none⟩ a2).setCell ⟨E, 3, none⟩ a3).setCell ⟨E, 4, none⟩ a4) :=
  keepB_trans (keepB_trans (keepB_trans (keepB_trans (set1_keep _ E 0 a0) (set1_keep _ E 1 a1)) (set1_keep _ E 2 a2)) (set1_keep _ E 3 a3)) (set1_keep _ E 4 a4)
theorem set5_env {w : World} {B NX NB TX E : Nat} {a0 a1 a2 a3 a4 : Value} (h : Env2 w B NX NB TX) (h1 : E ≠ TX) (h2 : E ≠ NB) :
    (((((w.setCell ⟨E, 0, none⟩ a0).setCell ⟨E, 1, none⟩ a1).setCell ⟨E, 2, none⟩ a2).setCell ⟨E, 3, none⟩ a3).setCell ⟨E, 4, none⟩ a4).cell? ⟨TX, 0, none⟩ = some (.func (.func 82) #[] #[.pointer (some ⟨NX, 0, none⟩), .pointer (some ⟨NB, 0, none⟩)]) ∧ (((((w.setCell ⟨E, 0, none⟩ a0).setCell ⟨E, 1, none⟩ a1).setCell ⟨E, 2, none⟩ a2).setCell ⟨E, 3, none⟩ a3).setCell ⟨E, 4, none⟩ a4).cell? ⟨NB, 0, none⟩ = some (.func (.func 81) #[] #[.pointer (some ⟨NX, 0, none⟩)]) :=
  ⟨(World.cell?_of_block (a := ⟨TX, 0, none⟩) ((set5_keep w E a0 a1 a2 a3 a4).block TX h.lt (by show TX ≠ E; omega))).trans h.tx, (World.cell?_of_block (a := ⟨NB, 0, none⟩) ((set5_keep w E a0 a1 a2 a3 a4).block NB h.env.lb (by show NB ≠ E; omega))).trans h.env.nb⟩

/-- the edge's own block, as it is laid -/
abbrev zE5 : Obj := .cells #[.string ⟨#[]⟩, .string ⟨#[]⟩, .string ⟨#[]⟩, .int .i64 0, .slice none 0 0] 24
theorem alloc_zE5 {w w' : World} {B : Nat} (hB : B < w.heap.size) (hk : Keep (fun k => k ≠ B) (w.alloc zE5) w') : Keep (fun k => k ≠ B) w w' ∧ w'.heap[w.heap.size]? = some (.cells #[.string ⟨#[]⟩, .string ⟨#[]⟩, .string ⟨#[]⟩, .int .i64 0, .slice none 0 0] 24 (0, 0)) ∧ w.heap.size < w'.heap.size := by
  have hs : (w.alloc zE5).heap.size = w.heap.size + 1 := by simp
  refine ⟨keepB_trans (keepB_below ((Below.refl _ w).alloc (Nat.le_refl _) _)) hk, (hk.block w.heap.size (by omega) (by show w.heap.size ≠ B; omega)).trans (heap_alloc_new w _), ?_⟩
  have := hk.size
  omega
def MemE (W w w' : World) : Prop := W = w.alloc zE5 → w'.heap[w.heap.size]? = some (.cells #[.string ⟨#[]⟩, .string ⟨#[]⟩, .string ⟨#[]⟩, .int .i64 0, .slice none 0 0] 24 (0, 0)) ∧ w.heap.size < w'.heap.size
theorem text_read2 {w W : World} {B NX NB : Nat} {l : List UInt8} (h : RdS w B l) (he : Env w B NX NB) (hl : l.length ≤ 281474976710656) (hW : W = w ∨ W = w.alloc zE5) : Calls Try.prog 82 #[.pointer (some ⟨NX, 0, none⟩), .pointer (some ⟨NB, 0, none⟩)] W fun e w' => e = .returned (.string (rdT l).1) ∧ RdS w' B (rdT l).2 ∧ Keep (fun k => k ≠ B) w w' ∧ MemE W w w' := by
  have hb : Below w.heap.size w (w.alloc zE5) := (Below.refl _ w).alloc (Nat.le_refl _) _
  rcases hW with rfl | rfl
  · refine (text_read h he hl).mono ?_
    rintro e w' ⟨h1, h2, h3⟩
    refine ⟨h1, h2, h3, fun e => ?_⟩
    have := congrArg (fun w : World => w.heap.size) e
    simp at this
  · refine (text_read (h.below hb) (he.keep (keepB_below hb)) hl).mono ?_
    rintro e w' ⟨h1, h2, h3⟩
    have h4 := alloc_zE5 h.lt h3
    exact ⟨h1, h2, h4.1, fun _ => h4.2⟩
theorem number2 {w W : World} {B N : Nat} {l : List UInt8} (h : RdS w B l) (hN : w.cell? ⟨N, 0, none⟩ = some (.func (.func 80) #[] #[.pointer (some ⟨B, 0, none⟩)])) (hNlt : N < w.heap.size) (hl : l.length ≤ 281474976710656) (hW : W = w ∨ W = w.alloc zE5) : Calls Try.prog 81 #[.int .i64 6, .pointer (some ⟨N, 0, none⟩)] W fun e w' => e = .returned (.int .i64 (beN (l.take 6))) ∧ RdS w' B (l.drop 6) ∧ Keep (fun k => k ≠ B) w w' ∧ MemE W w w' := by
  have hb : Below w.heap.size w (w.alloc zE5) := (Below.refl _ w).alloc (Nat.le_refl _) _
  rcases hW with rfl | rfl
  · refine (number_any h hN 6 (by omega) hl).mono ?_
    rintro e w' ⟨h1, h2, h3⟩
    refine ⟨h1, h2, h3, fun e => ?_⟩
    have := congrArg (fun w : World => w.heap.size) e
    simp at this
  · refine (number_any (h.below hb) ((hb.cell (p := ⟨N, 0, none⟩) hNlt).trans hN) 6 (by omega) hl).mono ?_
    rintro e w' ⟨h1, h2, h3⟩
    have h4 := alloc_zE5 h.lt h3
    exact ⟨h1, h2, h4.1, fun _ => h4.2⟩

theorem own_keepB {w w' : World} {B base n sz : Nat} {t : TypeId} {v : Value} {xs : List Value} (h : w.ownsRow base t sz v n xs) (hk : Keep (fun k => k ≠ B) w w') (hB : B < base) : w'.ownsRow base t sz v n xs := by
  refine ⟨h.1, ?_⟩
  rcases h.2 with hn | ⟨g, cap, cur, hv, hg, hh, rest⟩
  · exact .inl hn
  · exact .inr ⟨g, cap, cur, hv, hg, (hk.block g (Array.getElem?_eq_some_iff.1 hh).1 (by show g ≠ B; omega)).trans hh, rest⟩
theorem own_some {W : World} {base sz k : Nat} {t : TypeId} {v : Value} {xs : List Value} (h : W.ownsRow base t sz v (k + 1) xs) : ∃ g cap, v = .slice (some ⟨g, 0, none⟩) (k + 1) cap := by
  rcases h.2 with ⟨_, h0⟩ | ⟨g, cap, _, rfl, _⟩
  · omega
  · exact ⟨g, cap, rfl⟩
theorem Env2.keepP {w w' : World} {B NX NB TX : Nat} {p : Nat → Prop} (h : Env2 w B NX NB TX) (hk : Keep p w w') (h1 : p NX) (h2 : p NB) (h3 : p TX) : Env2 w' B NX NB TX :=
  ⟨⟨(World.cell?_of_block (a := ⟨NX, 0, none⟩) (hk.block NX h.env.lx h1)).trans h.env.nx, (World.cell?_of_block (a := ⟨NB, 0, none⟩) (hk.block NB h.env.lb h2)).trans h.env.nb, h.env.hx, h.env.hb, Nat.lt_of_lt_of_le h.env.lx hk.size, Nat.lt_of_lt_of_le h.env.lb hk.size⟩, (World.cell?_of_block (a := ⟨TX, 0, none⟩) (hk.block TX h.lt h3)).trans h.tx, h.ht, Nat.lt_of_lt_of_le h.lt hk.size⟩
structure Done (w5 : World) (B NX NB TX : Nat) (l : List UInt8) (s d q : ByteArray) (t : Int) (E : Nat) (w' : World) : Prop where
  eb : EB w' E s d q t (.slice none 0 0)
  rd : RdS w' B l
  env : Env2 w' B NX NB TX
  keep : Keep (fun k => k ≠ B) w5 w'
  le : w5.heap.size ≤ E
theorem Done.of_set {w w5 : World} {B NX NB TX E : Nat} {l : List UInt8} {s d q : ByteArray} {t : Int} (hm : w.heap[E]? = some (.cells #[.string ⟨#[]⟩, .string ⟨#[]⟩, .string ⟨#[]⟩, .int .i64 0, .slice none 0 0] 24 (0, 0))) (hr : RdS w B l) (he : Env2 w B NX NB TX) (hk : Keep (fun k => k ≠ B) w5 w) (hE : w5.heap.size ≤ E) (h1 : E ≠ NX) (h2 : E ≠ NB) (h3 : E ≠ TX) (hB : B < w5.heap.size) :
    Done w5 B NX NB TX l s d q t E (((((w.setCell ⟨E, 0, none⟩ (.string s)).setCell ⟨E, 1, none⟩ (.string d)).setCell ⟨E, 2, none⟩ (.string q)).setCell ⟨E, 3, none⟩ (.int .i64 t)).setCell ⟨E, 4, none⟩ (.slice none 0 0)) := by
  have hK := set5_keep w E (.string s) (.string d) (.string q) (.int .i64 t) (.slice none 0 0)
  refine ⟨Go.Joins.block_setCell (Go.Joins.block_setCell (Go.Joins.block_setCell (Go.Joins.block_setCell (Go.Joins.block_setCell hm _) _) _) _) _, hr.keep hK fun k hk => by omega, ⟨⟨?_, ?_, he.env.hx, he.env.hb, ?_, ?_⟩, ?_, he.ht, ?_⟩, hk.trans hK fun k hk _ => by omega, hE⟩
  · exact (World.cell?_of_block (a := ⟨NX, 0, none⟩) (hK.block NX he.env.lx (by show NX ≠ E; omega))).trans he.env.nx
  · exact (World.cell?_of_block (a := ⟨NB, 0, none⟩) (hK.block NB he.env.lb (by show NB ≠ E; omega))).trans he.env.nb
  · exact Nat.lt_of_lt_of_le he.env.lx hK.size
  · exact Nat.lt_of_lt_of_le he.env.lb hK.size
  · exact (World.cell?_of_block (a := ⟨TX, 0, none⟩) (hK.block TX he.lt (by show TX ≠ E; omega))).trans he.tx
  · exact Nat.lt_of_lt_of_le he.lt hK.size
theorem Done.of_new {w w5 : World} {B NX NB TX : Nat} {l : List UInt8} {s d q : ByteArray} {t : Int} (hr : RdS w B l) (he : Env2 w B NX NB TX) (hk : Keep (fun k => k ≠ B) w5 w) :
    Done w5 B NX NB TX l s d q t w.heap.size (w.alloc (.cells #[.string s, .string d, .string q, .int .i64 t, .slice none 0 0] 24)) := by
  have hb : Below w.heap.size w (w.alloc (.cells #[.string s, .string d, .string q, .int .i64 t, .slice none 0 0] 24)) := (Below.refl _ w).alloc (Nat.le_refl _) _
  exact ⟨heap_alloc_new w _, hr.below hb, he.keep (keepB_below hb), keepB_trans hk (keepB_below hb), hk.size⟩

set_option maxHeartbeats 4000000 in
set_option maxRecDepth 100000 in
theorem guess_any {w : World} {v : Value} {l : List UInt8} (h : BR w v l) (hcap : ∀ A n c, v = .slice A n c → n ≤ c ∧ (A = none → c = 0)) (hl : l.length ≤ 281474976710656) : Calls Try.prog 57 #[v] w (GuessR (guess l) w) := by
  unfold GuessR
  obtain ⟨A, c, rfl, hc⟩ := h
  have hsb : SB (w.alloc (.cells #[.slice A l.length c] 34)) w.heap.size (.slice A l.length c) l := by
    have h1 := hcap A _ c rfl
    refine ⟨A, c, rfl, h1.1, fun hn => ?_, h1.2⟩
    obtain ⟨ad, e1, e2, e3⟩ := hc hn
    have hb : Below w.heap.size w (w.alloc (.cells #[.slice A l.length c] 34)) := (Below.refl _ w).alloc (Nat.le_refl _) _
    exact ⟨ad, e1, e2, by simp; omega, fun j u hj => (hb.cell (p := ad.add j) (by rw [block_add]; exact e2)).trans (e3 j u hj)⟩
  have hfz : ∀ (W : World) (b : Nat) (x : Value) (t : TypeId), W.heap[b]? = some (.cells #[x] t (0, 0)) → W.frozen? ⟨b, 0, none⟩ = false := fun W b x t h => by simp [World.frozen?, h]
  have hrd : RdS (w.alloc (.cells #[.slice A l.length c] 34)) w.heap.size l := by
    have h1 := heap_alloc_new w (.cells #[.slice A l.length c] 34)
    exact ⟨⟨_, cell_of_row _ _ 0 _ 34 (0, 0) h1, hsb⟩, hfz _ _ _ _ h1, by simp⟩
  have HRD := Lib.hid hrd
  obtain ⟨m, hM⟩ : ∃ m, l.length = m := ⟨_, rfl⟩
  rw [hM] at HRD ⊢
  clear hsb hrd hfz hc hcap
  have HZ0 := Lib.hid (show (w.alloc (.cells #[.slice A m c] 34)).heap.size = w.heap.size + 1 by simp)
  have HB0 := Lib.hid ((Below.refl w.heap.size w).alloc (Nat.le_refl _) (.cells #[.slice A m c] 34))
  go_enter Try.func57, Try.ntmps57
  go_upto_region 1 with (fail)
  generalize hw0 : w.alloc (.cells #[.slice A m c] 34) = w0 at *
  rw [← HZ0.out]
  have HZ1 := Lib.hid (show (w0.alloc (.cells #[.string ⟨#[]⟩, .string ⟨#[]⟩, .string ⟨#[]⟩, .int .i64 0, .slice none 0 0] 24)).heap.size = w0.heap.size + 1 by simp)
  have HB1 := Lib.hid ((Below.refl w0.heap.size w0).alloc (Nat.le_refl _) (.cells #[.string ⟨#[]⟩, .string ⟨#[]⟩, .string ⟨#[]⟩, .int .i64 0, .slice none 0 0] 24))
  have HE1 := Lib.hid (heap_alloc_new w0 (.cells #[.string ⟨#[]⟩, .string ⟨#[]⟩, .string ⟨#[]⟩, .int .i64 0, .slice none 0 0] 24))
  generalize w0.alloc (.cells #[.string ⟨#[]⟩, .string ⟨#[]⟩, .string ⟨#[]⟩, .int .i64 0, .slice none 0 0] 24) = w1 at *
  obtain ⟨B, hB⟩ : ∃ B, w.heap.size = B := ⟨_, rfl⟩
  obtain ⟨R, hR⟩ : ∃ R, w0.heap.size = R := ⟨_, rfl⟩
  go_upto_region 5 with (fail)
  have hzz := And.intro HZ0.out HZ1.out
  have HE5 := Lib.hid (env_new w1 B (by omega))
  have hba : Below w1.heap.size w1 (((w1.alloc (.cells #[.func (.func 80) #[] #[.pointer (some ⟨B, 0, none⟩)]] 64)).alloc (.cells #[.func (.func 81) #[] #[.pointer (some ⟨w1.heap.size, 0, none⟩)]] 88)).alloc (.cells #[.func (.func 82) #[] #[.pointer (some ⟨w1.heap.size, 0, none⟩), .pointer (some ⟨w1.heap.size + 1, 0, none⟩)]] 77)) := (((Below.refl _ w1).alloc (Nat.le_refl _) _).alloc (by simp) _).alloc (by simp; omega) _
  have HB5 := Lib.hid (hba)
  have HR5 := Lib.hid ((HRD.out.below HB1.out).below hba)
  have hs5 : (((w1.alloc (.cells #[.func (.func 80) #[] #[.pointer (some ⟨B, 0, none⟩)]] 64)).alloc (.cells #[.func (.func 81) #[] #[.pointer (some ⟨w1.heap.size, 0, none⟩)]] 88)).alloc (.cells #[.func (.func 82) #[] #[.pointer (some ⟨w1.heap.size, 0, none⟩), .pointer (some ⟨w1.heap.size + 1, 0, none⟩)]] 77)).heap.size = w1.heap.size + 3 := by simp
  clear hba
  generalize ((w1.alloc (.cells #[.func (.func 80) #[] #[.pointer (some ⟨B, 0, none⟩)]] 64)).alloc (.cells #[.func (.func 81) #[] #[.pointer (some ⟨w1.heap.size, 0, none⟩)]] 88)).alloc (.cells #[.func (.func 82) #[] #[.pointer (some ⟨w1.heap.size, 0, none⟩), .pointer (some ⟨w1.heap.size + 1, 0, none⟩)]] 77) = w5 at *
  obtain ⟨NX, hNX⟩ : ∃ N, w1.heap.size = N := ⟨_, rfl⟩
  rw [hB] at HR5
  rw [hNX] at HE5 ⊢
  generalize hNB : NX + 1 = NB at *
  generalize hTX : NB + 1 = TX at *
  have c0 : w5.drew.cell? ⟨TX, 0, none⟩ = some (.func (.func 82) #[] #[.pointer (some ⟨NX, 0, none⟩), .pointer (some ⟨NB, 0, none⟩)]) := HE5.out.tx
  have c1 : w5.drew.cell? ⟨NB, 0, none⟩ = some (.func (.func 81) #[] #[.pointer (some ⟨NX, 0, none⟩)]) := HE5.out.env.nb
  have EA : ∀ W o, Env2 W B NX NB TX → (W.alloc o).cell? ⟨TX, 0, none⟩ = some (.func (.func 82) #[] #[.pointer (some ⟨NX, 0, none⟩), .pointer (some ⟨NB, 0, none⟩)]) ∧ (W.alloc o).cell? ⟨NB, 0, none⟩ = some (.func (.func 81) #[] #[.pointer (some ⟨NX, 0, none⟩)]) := fun W o hE => by
    have h := hE.keep (keepB_below ((Below.refl _ W).alloc (Nat.le_refl _) o))
    exact ⟨h.tx, h.env.nb⟩
  have EAH := Lib.hid EA
  have EAD : Hid (∀ o, (w5.alloc o).drew.cell? ⟨TX, 0, none⟩ = some (.func (.func 82) #[] #[.pointer (some ⟨NX, 0, none⟩), .pointer (some ⟨NB, 0, none⟩)]) ∧ (w5.alloc o).drew.cell? ⟨NB, 0, none⟩ = some (.func (.func 81) #[] #[.pointer (some ⟨NX, 0, none⟩)])) := fun o => EA w5 o HE5.out
  clear EA
  have hk5 : Keep (fun k => k ≠ B) w5 w5.drew := keepB_below ((Below.refl _ w5).drew)
  have R0 := Lib.hid (HR5.out.below ((Below.refl _ w5).drew))
  have E0 : Hid (Env2 w5.drew B NX NB TX) := HE5.out.keep hk5
  have HK5 := Lib.hid hk5
  have HLL := Lib.hid (And.intro (rdT_len l) (And.intro (rdT_len (g1 l)) (rdT_len (g2 l))))
  have hl1 : (g1 l).length ≤ 281474976710656 := Nat.le_trans HLL.out.1 hl
  have hl2 : (g2 l).length ≤ 281474976710656 := Nat.le_trans HLL.out.2.1 hl1
  have hl3 : (g3 l).length ≤ 281474976710656 := Nat.le_trans HLL.out.2.2 hl2
  clear hk5
  have HEQ := Lib.hid (And.intro hs5 (And.intro hNX (And.intro hNB (And.intro hTX (And.intro hB (And.intro hR (And.intro hM hzz)))))))
  clear hs5 hNX hNB hTX hB hR hM hzz
  have HLT := Lib.hid (And.intro HE5.out.env.lx (And.intro HE5.out.env.lb (And.intro HE5.out.lt HR5.out.lt)))
  go_cut [7] from 12 (fun t7 wc => ∃ E, t7 = .pointer (some ⟨E, 0, none⟩) ∧ Done w5 B NX NB TX (g4 l) (rdT l).1 (rdT (g1 l)).1 (rdT (g2 l)).1 (beN ((g3 l).take 6)) E wc)
  case first =>
    go_region_held3 (fun w' => w'.cell? ⟨TX, 0, none⟩ = some (.func (.func 82) #[] #[.pointer (some ⟨NX, 0, none⟩), .pointer (some ⟨NB, 0, none⟩)]) ∧ w'.cell? ⟨NB, 0, none⟩ = some (.func (.func 81) #[] #[.pointer (some ⟨NX, 0, none⟩)])) (first | with_reducible exact ⟨c0, c1⟩ | with_reducible exact ⟨y0, y1⟩ | with_reducible exact ⟨z0, z1⟩ | with_reducible exact ⟨x0, x1⟩ | with_reducible exact ⟨u0, u1⟩ | with_reducible exact EAD.out _ | with_reducible exact EAH.out _ _ E1.out | with_reducible exact EAH.out _ _ E2.out | with_reducible exact EAH.out _ _ E3.out | with_reducible exact EAH.out _ _ E4.out | with_reducible exact set5_env E4.out (Nat.ne_of_gt HE5.out.lt) (Nat.ne_of_gt HE5.out.env.lb) | with_reducible exact set5_env E4.out (Nat.ne_of_gt E1.out.lt) (Nat.ne_of_gt E1.out.env.lb) | with_reducible exact set5_env E4.out (Nat.ne_of_gt E2.out.lt) (Nat.ne_of_gt E2.out.env.lb) | with_reducible exact set5_env E4.out (Nat.ne_of_gt E3.out.lt) (Nat.ne_of_gt E3.out.env.lb) | (go_keep; done)) (first
      | (go_at_call 82; first
          | (refine (text_read2 R0.out E0.out.env hl (by first | with_reducible exact Or.inl rfl | with_reducible exact Or.inr rfl | exact Or.inr rfl)).mono ?_; clear R0; rintro x wA ⟨rfl, r1, k1, m1⟩; have R1 := Lib.hid (show RdS wA B (g1 l) from r1); have K1 := Lib.hid (keepB_trans HK5.out k1); have E1 := Lib.hid (HE5.out.keep K1.out); have y0 := E1.out.tx; have y1 := E1.out.env.nb; have J1 := Lib.hid k1; have M1 := Lib.hid m1; clear r1 k1 m1)
          | (refine (text_read2 R1.out E1.out.env hl1 (by first | with_reducible exact Or.inl rfl | with_reducible exact Or.inr rfl)).mono ?_; clear R1; rintro x wB ⟨rfl, r1, k1, m1⟩; have R2 := Lib.hid (show RdS wB B (g2 l) from r1); have K2 := Lib.hid (keepB_trans K1.out k1); have E2 := Lib.hid (HE5.out.keep K2.out); have z0 := E2.out.tx; have z1 := E2.out.env.nb; have J2 := Lib.hid k1; have M2 := Lib.hid m1; clear r1 k1 m1)
          | (refine (text_read2 R2.out E2.out.env hl2 (by first | with_reducible exact Or.inl rfl | with_reducible exact Or.inr rfl)).mono ?_; clear R2; rintro x wC ⟨rfl, r1, k1, m1⟩; have R3 := Lib.hid (show RdS wC B (g3 l) from r1); have K3 := Lib.hid (keepB_trans K2.out k1); have E3 := Lib.hid (HE5.out.keep K3.out); have x0 := E3.out.tx; have x1 := E3.out.env.nb; have J3 := Lib.hid k1; have M3 := Lib.hid m1; clear r1 k1 m1))
      | (go_at_call 81; refine (number2 R3.out E3.out.env.nx E3.out.env.lx hl3 (by first | with_reducible exact Or.inl rfl | with_reducible exact Or.inr rfl)).mono ?_; clear R3; rintro x wD ⟨rfl, r1, k1, m1⟩; have R4 := Lib.hid (show RdS wD B (g4 l) from r1); have K4 := Lib.hid (keepB_trans K3.out k1); have E4 := Lib.hid (HE5.out.keep K4.out); have u0 := E4.out.tx; have u1 := E4.out.env.nb; have J4 := Lib.hid k1; have M4 := Lib.hid m1; clear r1 k1 m1; first | (have MM := Lib.hid (memE (keepB_trans J3.out J4.out) (M2.out (by with_reducible rfl)) (Nat.lt_of_lt_of_le HR5.out.lt K1.out.size)); obtain ⟨t0, t1, t2, t3, t4, _⟩ := Bx5.of MM.out; obtain ⟨v0, v1, v2, v3, v4⟩ := Fx5.of MM.out) | (have MM := Lib.hid (memE J4.out (M3.out (by with_reducible rfl)) (Nat.lt_of_lt_of_le HR5.out.lt K2.out.size)); obtain ⟨t0, t1, t2, t3, t4, _⟩ := Bx5.of MM.out; obtain ⟨v0, v1, v2, v3, v4⟩ := Fx5.of MM.out) | (have MM := Lib.hid ((M4.out (by with_reducible rfl)).1); obtain ⟨t0, t1, t2, t3, t4, _⟩ := Bx5.of MM.out; obtain ⟨v0, v1, v2, v3, v4⟩ := Fx5.of MM.out) | (have MM := Lib.hid (show wD.heap[w5.heap.size]? = some (.cells #[.string ⟨#[]⟩, .string ⟨#[]⟩, .string ⟨#[]⟩, .int .i64 0, .slice none 0 0] 24 (0, 0)) from memE (keepB_trans (keepB_trans J2.out J3.out) J4.out) (M1.out rfl) HR5.out.lt); obtain ⟨t0, t1, t2, t3, t4, _⟩ := Bx5.of MM.out; obtain ⟨v0, v1, v2, v3, v4⟩ := Fx5.of MM.out) | skip))
    all_goals go_wp2_with fail
    all_goals go_meet
    all_goals first
      | exact ⟨_, rfl, Done.of_new R4.out E4.out K4.out⟩
      | exact ⟨_, rfl, Done.of_set MM.out R4.out E4.out K4.out (Nat.le_refl _) (Nat.ne_of_gt HLT.out.1) (Nat.ne_of_gt HLT.out.2.1) (Nat.ne_of_gt HLT.out.2.2.1) HLT.out.2.2.2⟩
      | exact ⟨_, rfl, Done.of_set MM.out R4.out E4.out K4.out K1.out.size (Nat.ne_of_gt E1.out.env.lx) (Nat.ne_of_gt E1.out.env.lb) (Nat.ne_of_gt E1.out.lt) HLT.out.2.2.2⟩
      | exact ⟨_, rfl, Done.of_set MM.out R4.out E4.out K4.out K2.out.size (Nat.ne_of_gt E2.out.env.lx) (Nat.ne_of_gt E2.out.env.lb) (Nat.ne_of_gt E2.out.lt) HLT.out.2.2.2⟩
      | exact ⟨_, rfl, Done.of_set MM.out R4.out E4.out K4.out K3.out.size (Nat.ne_of_gt E3.out.env.lx) (Nat.ne_of_gt E3.out.env.lb) (Nat.ne_of_gt E3.out.lt) HLT.out.2.2.2⟩
  case rest =>
    obtain ⟨E, rfl, hdn⟩ := hcut
    clear c0 c1
    obtain ⟨heb, hrd4, henv4, hk4, hle4⟩ := hdn
    have hBw5 : B < w5.heap.size := HLT.out.2.2.2
    have hEB : E ≠ B := by omega
    have HEB := Lib.hid heb
    have HK4 := Lib.hid hk4
    have HV4 := Lib.hid henv4
    have hl4 : (g4 l).length ≤ 281474976710656 := by unfold g4; rw [List.length_drop]; omega
    have hgn : beN ((g4 l).take 1) = (gN l : Int) := by
      unfold gN
      have := (beN1 (g4 l)).1
      omega
    have hnum := number_any hrd4 henv4.env.nx 1 (by omega) hl4
    unfold NumR at hnum
    rw [hgn] at hnum
    have hn255 : gN l < 256 := by have := (beN1 (g4 l)).2; omega
    have HG : Hid (guess l = ⟨(rdT l).1, (rdT (g1 l)).1, (rdT (g2 l)).1, beN ((g3 l).take 6), (rdPs (gN l) (g5 l)).1⟩) := rfl
    have hg5 : (g4 l).drop 1 = g5 l := rfl
    rw [hg5] at hnum
    have hl5 : (g5 l).length ≤ 281474976710656 := by rw [← hg5, List.length_drop]; omega
    have FN := Lib.hid hnum
    have c1 := henv4.env.nb
    have HEt := Lib.hid (show E < wc.heap.size from (Array.getElem?_eq_some_iff.1 heb).1)
    clear hnum hgn hg5 hrd4 henv4 hk4 heb
    generalize (rdT l).1 = xs at *
    generalize (rdT (g1 l)).1 = xd at *
    generalize (rdT (g2 l)).1 = xl at *
    generalize beN ((g3 l).take 6) = xt at *
    generalize gN l = n at *
    generalize g5 l = l5 at *
    obtain ⟨i0, hi, hz0, hz1, hz2⟩ := info_parts53
    go_wp2_with (go_at_call 81; refine FN.out.mono ?_; clear FN; rintro x w6 ⟨rfl, r6, k6⟩; have HR6 := Lib.hid r6; have HK6 := Lib.hid (keepB_trans HK4.out k6); have HV6 := Lib.hid (HV4.out.keep k6); have HE6 := Lib.hid (show EB w6 E xs xd xl xt (.slice none 0 0) from (k6.block E HEt.out hEB).trans HEB.out); have hs6 : E < w6.heap.size := Nat.lt_of_lt_of_le HEt.out k6.size; clear r6 k6 c1)
    go_loopw [23] (fun i wr => ∃ (k : Nat) (pv : Value), k ≤ n ∧ i = .int .i64 k ∧ EB wr E xs xd xl xt pv ∧ wr.ownsRow w6.heap.size 53 4 pv k (flatP (rdPs k l5).1) ∧ RdS wr B (rdPs k l5).2 ∧ Env2 wr B NX NB TX ∧ Keep (fun j => j ≠ B) w5 wr ∧ w6.heap.size ≤ wr.heap.size) (fun i _ => n - (Lib.intOf i).toNat)
    case atStart => exact ⟨0, .slice none 0 0, Nat.zero_le _, rfl, HE6.out, by simpa [rdPs, flatP] using World.ownsRow_nil w6 w6.heap.size 53 4, HR6.out, HV6.out, HK6.out, Nat.le_refl _⟩
    case round =>
      obtain ⟨k, pv, hk, rfl, heb, hown, hrd, henv, hkp, hsz⟩ := hrel
      by_cases hlt : k < n
      · have HEBr := Lib.hid heb
        have HOW := Lib.hid hown
        have HRD := Lib.hid hrd
        have HENV := Lib.hid henv
        have HKP := Lib.hid hkp
        have hErr : E < wr.heap.size := Nat.lt_of_lt_of_le hs6 hsz
        have c4 := cell_of_row _ _ 4 _ 24 (0, 0) heb
        have ct := henv.tx
        have hlr : (rdPs k l5).2.length ≤ 281474976710656 := Nat.le_trans (rdPs_len k l5) hl5
        have hlr2 : (rdT (rdPs k l5).2).2.length ≤ 281474976710656 := Nat.le_trans (rdT_len _) hlr
        have FT := Lib.hid (text_read (hrd.below ((Below.refl _ wr).drew)) (henv.env.keep (keepB_below ((Below.refl _ wr).drew))) hlr)
        have HST : Hid (rdPs (k + 1) l5 = ((rdPs k l5).1 ++ [((rdT (rdPs k l5).2).1, (rdV (rdT (rdPs k l5).2).2).1)], (rdV (rdT (rdPs k l5).2).2).2)) := rfl
        unfold TextR at FT
        generalize rdPs k l5 = rk at *
        obtain ⟨ps, lk⟩ := rk
        simp only at *
        generalize (rdT lk).1 = xk at *
        generalize (rdT lk).2 = lv at *
        generalize hxv : rdV lv = rv at *
        obtain ⟨xv, l6⟩ := rv
        simp only at *
        have HXV := Lib.hid hxv
        clear heb hown hrd henv hkp hxv hlr
        go_upto_block 1 with (fail)
        go_cut [23] from 23 to 35 (fun t23 wx => ∃ pv', t23 = .int .i64 k ∧ EB wx E xs xd xl xt pv' ∧ wx.ownsRow w6.heap.size 53 4 pv' (k + 1) (flatP (ps ++ [(xk, xv)])) ∧ RdS wx B l6 ∧ Env2 wx B NX NB TX ∧ Keep (fun j => j ≠ B) w5 wx ∧ w6.heap.size ≤ wx.heap.size)
        case first =>
          have HEA : ∀ W, Keep (fun j => j ≠ B) wr W → Hid (EB W E xs xd xl xt pv) := fun W hW => (hW.block E hErr hEB).trans HEBr.out
          have HB6 : B < w6.heap.size := by omega
          have HOWB : ∀ (W : World) (o : Obj), Keep (fun j => j ≠ B) wr W → (W.alloc o).ownsRow w6.heap.size 53 4 pv k (flatP ps) := fun W o hW => (own_keepB HOW.out hW HB6).alloc _
          have HE7 : ∀ (W W' : World) (o : Obj), Keep (fun j => j ≠ B) wr W → (W.alloc o).grownBy W' pv.ownBlock → EB W' E xs xd xl xt pv := fun W W' o hW hg => by
            have h1 : E < W.heap.size := Nat.lt_of_lt_of_le hErr hW.size
            have h2 : some E ≠ pv.ownBlock := fun e => by have := own_base HOW.out E e.symm; omega
            exact ((hg.block E (by simp; omega) h2).trans (Below.heap_alloc W o E h1)).trans (HEA W hW).out
          have HOWBH := Lib.hid HOWB
          have HE7H := Lib.hid HE7
          clear HOWB HE7
          go_upto_region 8 with (fail)
          go_region_law (first
            | (go_simp; go_at_call 82; refine FT.out.mono ?_; clear FT; rintro x wA ⟨rfl, r1, k1⟩; have KA := Lib.hid (keepB_trans (keepB_below ((Below.refl _ wr).drew)) k1); have RA := Lib.hid r1; have EA := Lib.hid (HENV.out.keep KA.out); have a4 := cell_of_row _ _ 4 _ 24 (0, 0) (HEA wA KA.out).out; have FV := Lib.hid (val_read r1 EA.out hlr2); unfold ValR at FV; rw [HXV.out] at FV; clear r1 k1)
            | (go_simp; go_at_call 83; refine FV.out.mono ?_; clear FV; rintro x wB ⟨rfl, r1, k1⟩; have KB := Lib.hid (keepB_trans KA.out k1); have RB := Lib.hid r1; have EB' := Lib.hid (HENV.out.keep KB.out); have b4 := cell_of_row _ _ 4 _ 24 (0, 0) (HEA wB KB.out).out; have HBB := Lib.hid (HEA wB KB.out).out; have hlE : E < wB.heap.size := Nat.lt_of_lt_of_le hErr KB.out.size; have bb4 : (wB.alloc (.cells #[.string xk, .int .i64 xv.1, .int .i64 xv.2.1, .string xv.2.2] 53)).cell? ⟨E, 4, none⟩ = some pv := (((Below.refl _ wB).alloc (Nat.le_refl _) (.cells #[.string xk, .int .i64 xv.1, .int .i64 xv.2.1, .string xv.2.2] 53)).cell (p := ⟨E, 4, none⟩) hlE).trans b4; clear r1 k1)
            | (refine step_append_pr rfl (.tmp 26) (.tmp 32) rfl (base := w6.heap.size) Try.underlying22 hi hz0 hz1 hz2 (v := pv) (by simp [Act.eval, Act.put]) (HOWBH.out wB _ KB.out) (v2 := .slice (some ⟨wB.heap.size, 0, none⟩) 1 1) (by simp [Act.eval, Act.put]) (PR.one wB (xk, xv) 53) (by simp; omega) (by have := KB.out.size; simp; omega) ?_; intro v7 w7 hown7 hgrow7 hat7; obtain ⟨g7, c7, hv7⟩ := own_some (show w7.ownsRow w6.heap.size 53 4 v7 (k + 1) (flatP ps ++ flatP [(xk, xv)]) from hown7); subst hv7; have H7 := Lib.hid (And.intro hown7 (And.intro hgrow7 hat7)); have hb7 := HE7H.out wB w7 _ KB.out hgrow7; have g4 := cell_of_row _ _ 4 _ 24 (0, 0) hb7; have g5 := Go.Joins.unfrozen_of_block hb7 4; have HB7 := Lib.hid hb7; clear hown7 hgrow7 hat7 hb7))
          all_goals
            have K9 : Keep (fun j => j < w5.heap.size) wB (w7.setCell ⟨E, 4, none⟩ (.slice (some ⟨g7, 0, none⟩) (k + 1) c7)) := by
              have hsA := KB.out.size
              have hs7 := H7.out.2.1.size
              rw [World.size_alloc] at hs7
              refine ⟨H7.out.2.1.os, H7.out.2.1.tape, H7.out.2.1.output, by simp; omega, fun j hj hj5 => ?_⟩
              have hjE : j ≠ E := by have : j < w5.heap.size := hj5; omega
              have hjo : some j ≠ pv.ownBlock := fun e => by have := own_base HOW.out j e.symm; have : j < w5.heap.size := hj5; omega
              rw [Below.heap_setCell _ _ _ _ hjE]
              exact (H7.out.2.1.block j (by rw [World.size_alloc]; omega) hjo).trans (Below.heap_alloc wB _ j hj)
            have HK9 := Lib.hid K9
            have HO9 := Lib.hid (ownsRow_setCell_below (show w7.ownsRow w6.heap.size 53 4 (.slice (some ⟨g7, 0, none⟩) (k + 1) c7) (k + 1) (flatP (ps ++ [(xk, xv)])) by rw [flatP_app]; exact H7.out.1) (a := ⟨E, 4, none⟩) (by show E < _; omega) (.slice (some ⟨g7, 0, none⟩) (k + 1) c7))
            have HB9 : Hid (EB (w7.setCell ⟨E, 4, none⟩ (.slice (some ⟨g7, 0, none⟩) (k + 1) c7)) E xs xd xl xt (.slice (some ⟨g7, 0, none⟩) (k + 1) c7)) := Go.Joins.block_setCell HB7.out _
            have HZ9 := Lib.hid (show w6.heap.size ≤ (w7.setCell ⟨E, 4, none⟩ (.slice (some ⟨g7, 0, none⟩) (k + 1) c7)).heap.size from Nat.le_trans hsz (Nat.le_trans KB.out.size K9.size))
            clear K9
          all_goals go_wp2_with fail
          all_goals go_meet
          all_goals exact ⟨_, rfl, HB9.out, HO9.out, RB.out.keep HK9.out (fun j hj => by show j < _; omega), EB'.out.keepP HK9.out HLT.out.1 HLT.out.2.1 HLT.out.2.2.1, (keepB_trans HKP.out KB.out).trans HK9.out (fun j hj _ => hj), HZ9.out⟩
        case rest =>
          obtain ⟨pv', rfl, e1, e2, e3, e4, e5, e6⟩ := hcut
          have HS := Lib.hid (And.intro e1 (And.intro e2 (And.intro e3 (And.intro e4 (And.intro e5 e6)))))
          clear e1 e2 e3 e4 e5 e6 c4 ct
          go_wp2_with fail
          go_roundw
          case rel => exact ⟨k + 1, pv', by omega, by go_num, HS.out.1, by rw [HST.out]; exact HS.out.2.1, by rw [HST.out]; exact HS.out.2.2.1, HS.out.2.2.2⟩
          case measure => simp [Lib.intOf]; omega
      · obtain rfl : k = n := by omega
        have HOW := Lib.hid hown
        have HKP := Lib.hid hkp
        have hform : ∃ A c, pv = .slice A k c := by
          rcases hown.2 with ⟨rfl, rfl⟩ | ⟨g, cap, cur, rfl, _⟩
          · exact ⟨_, _, rfl⟩
          · exact ⟨_, _, rfl⟩
        obtain ⟨Ap, cp, rfl⟩ := hform
        have c0 := cell_of_row _ _ 0 _ 24 (0, 0) heb
        have c1 := cell_of_row _ _ 1 _ 24 (0, 0) heb
        have c2 := cell_of_row _ _ 2 _ 24 (0, 0) heb
        have c3 := cell_of_row _ _ 3 _ 24 (0, 0) heb
        have c4 := cell_of_row _ _ 4 _ 24 (0, 0) heb
        -- the answer's block
        have hq := HEQ.out
        have hz0 := HZ0.out
        have hz1 := HZ1.out
        have hRr : wr.heap[w0.heap.size]? = some (.cells #[.string ⟨#[]⟩, .string ⟨#[]⟩, .string ⟨#[]⟩, .int .i64 0, .slice none 0 0] 24 (0, 0)) :=
          (hkp.block w0.heap.size (by omega) (by show w0.heap.size ≠ B; omega)).trans ((HB5.out.block w0.heap.size (by omega)).trans HE1.out)
        have d0 := cell_of_row _ _ 0 _ 24 (0, 0) hRr
        have d1 := cell_of_row _ _ 1 _ 24 (0, 0) hRr
        have d2 := cell_of_row _ _ 2 _ 24 (0, 0) hRr
        have d3 := cell_of_row _ _ 3 _ 24 (0, 0) hRr
        have d4 := cell_of_row _ _ 4 _ 24 (0, 0) hRr
        obtain ⟨f0, f1, f2, f3, f4⟩ := Fx5.of hRr
        have hER : E ≠ w0.heap.size := by omega
        have hR6 : w0.heap.size < w6.heap.size := by omega
        have HFIN : Hid ((((((wr.setCell ⟨w0.heap.size, 0, none⟩ (.string xs)).setCell ⟨w0.heap.size, 1, none⟩ (.string xd)).setCell ⟨w0.heap.size, 2, none⟩ (.string xl)).setCell ⟨w0.heap.size, 3, none⟩ (.int .i64 xt)).setCell ⟨w0.heap.size, 4, none⟩ (.slice Ap k cp)).ownsRow w.heap.size 53 4 (.slice Ap k cp) k (flatP (rdPs k l5).1) ∧ Below w.heap.size w (((((wr.setCell ⟨w0.heap.size, 0, none⟩ (.string xs)).setCell ⟨w0.heap.size, 1, none⟩ (.string xd)).setCell ⟨w0.heap.size, 2, none⟩ (.string xl)).setCell ⟨w0.heap.size, 3, none⟩ (.int .i64 xt)).setCell ⟨w0.heap.size, 4, none⟩ (.slice Ap k cp))) := by
          refine ⟨own_lower (ownsRow_setCell_below (ownsRow_setCell_below (ownsRow_setCell_below (ownsRow_setCell_below (ownsRow_setCell_below hown (a := ⟨w0.heap.size, 0, none⟩) hR6 _) (a := ⟨w0.heap.size, 1, none⟩) hR6 _) (a := ⟨w0.heap.size, 2, none⟩) hR6 _) (a := ⟨w0.heap.size, 3, none⟩) hR6 _) (a := ⟨w0.heap.size, 4, none⟩) hR6 _) (by omega), ?_⟩
          have hK := set5_keep wr w0.heap.size (.string xs) (.string xd) (.string xl) (.int .i64 xt) (.slice Ap k cp)
          have h1 : Below w.heap.size w w5 := HB0.out.trans ((HB1.out.mono (by omega)).trans (HB5.out.mono (by omega)))
          have hs5 := h1.size
          refine ⟨(hK.os.trans hkp.os).trans h1.os, (hK.tape.trans hkp.tape).trans h1.tape, (hK.output.trans hkp.output).trans h1.output, Nat.le_trans h1.size (Nat.le_trans hkp.size hK.size), fun j hj => ?_⟩
          have hsw := hkp.size
          exact ((hK.block j (by omega) (by show j ≠ w0.heap.size; omega)).trans (hkp.block j (by omega) (by show j ≠ B; omega))).trans (h1.block j hj)
        have HN := Lib.hid (rdPs_num k l5)
        clear hq hz0 hz1 hR6 hER hown hrd henv hkp hsz
        go_wp2_with fail
        exact bodyPost_ret (v := .agg #[.string xs, .string xd, .string xl, .int .i64 xt, .slice Ap k cp]) (by simp [results, Try.results57, go_sem, d0, d1, d2, d3, d4, f0, f1, f2, f3, f4]) rfl ⟨.slice Ap k cp, by rw [HG.out]; rfl, by rw [HG.out]; simp only; rw [HN.out]; exact HFIN.out.1, HFIN.out.2⟩
end Go.Proofs.Ytpoefcpgcojppaa

namespace Go.Proofs.Ytpoefcpgcojppaa
open Go.ChangeShapes Go.WideShapes Go.ChangeAt Go.RowKit
set_option linter.unusedVariables false

/-- what is parsed: the edge, told with its props; the error's number -/
def ParsR (r : Ed × Int) (w : World) (x : Ending) (w' : World) : Prop := ∃ pv, x = .returned (.tuple #[r.1.v pv, .int .i64 r.2]) ∧ PR w' pv r.1.props ∧ Below w.heap.size w w'

theorem equal_any {w : World} {v1 v2 : Value} {x y : List UInt8} (h1 : BR w v1 x) (h2 : BR w v2 y) : Calls Try.prog 58 #[v1, v2] w fun e w' => e = .returned (.bool (decide (x = y))) ∧ w = w' := by
  refine (Try.bytes_Equal_strs v1 v2 (bT x) (bT y) w (conv_br h1) (conv_br h2)).mono ?_
  rintro e w' ⟨he, hw⟩
  refine ⟨?_, hw.symm⟩
  rw [he]
  refine ret_bool ?_
  rw [Bool.eq_iff_iff]
  simp [bT]

theorem szP_guess (l : List UInt8) : SzE (guess l) := by
  have hs := rdT_small
  refine ⟨by have := hs l; exact Nat.le_trans this (by omega), by have := hs (g1 l); exact Nat.le_trans this (by omega), by have := hs (g2 l); exact Nat.le_trans this (by omega), ?_, ?_⟩
  · show (rdPs (gN l) (g5 l)).1.length ≤ _
    rw [rdPs_num]
    have := (beN1 (g4 l)).2
    unfold gN
    omega
  · have h : ∀ n (b : List UInt8), ∀ p ∈ (rdPs n b).1, p.1.size ≤ 281474976710656 ∧ p.2.2.2.size ≤ 281474976710656 := by
      intro n
      induction n with
      | zero => intro b p hp; simp [rdPs] at hp
      | succ n ih =>
        intro b p hp
        have hp' : p ∈ (rdPs n b).1 ++ [(rdP (rdPs n b).2).1] := hp
        rcases List.mem_append.1 hp' with h1 | h1
        · exact ih b p h1
        · have h2 := List.mem_singleton.1 h1
          subst h2
          refine ⟨Nat.le_trans (hs _) (by omega), ?_⟩
          show (rdV (rdT (rdPs n b).2).2).1.2.2.size ≤ _
          unfold rdV
          split
          · exact Nat.zero_le _
          · split
            · exact Nat.le_trans (hs _) (by omega)
            · exact Nat.zero_le _
    exact h _ _

theorem row_form3 {w : World} {base n sz : Nat} {t : TypeId} {v : Value} {xs : List Value} (h : w.ownsRow base t sz v n xs) : ∃ A m c, v = .slice A m c := by
  rcases h.2 with ⟨rfl, rfl⟩ | ⟨g, cap, cur, rfl, _⟩
  · exact ⟨_, _, _, rfl⟩
  · exact ⟨_, _, _, rfl⟩
theorem heap_keep {w w' : World} {b : Nat} {o : Obj} (hb : Below w.heap.size w w') (h : w.heap[b]? = some o) : w'.heap[b]? = some o := (hb.block b (Array.getElem?_eq_some_iff.1 h).1).trans h
theorem below_set5 {w : World} {N E : Nat} (h : N ≤ E) (a0 a1 a2 a3 a4 : Value) : Below N w (((((w.setCell ⟨E, 0, none⟩ a0).setCell ⟨E, 1, none⟩ a1).setCell ⟨E, 2, none⟩ a2).setCell ⟨E, 3, none⟩ a3).setCell ⟨E, 4, none⟩ a4) :=
  (((((Below.refl N w).setCell (p := ⟨E, 0, none⟩) h a0).setCell (p := ⟨E, 1, none⟩) h a1).setCell (p := ⟨E, 2, none⟩) h a2).setCell (p := ⟨E, 3, none⟩) h a3).setCell (p := ⟨E, 4, none⟩) h a4

set_option maxHeartbeats 4000000 in
set_option maxRecDepth 100000 in
theorem parse_any {w : World} {v : Value} {l : List UInt8} (h : BR w v l) (hcap : ∀ A n c, v = .slice A n c → n ≤ c ∧ (A = none → c = 0)) (hl : l.length ≤ 281474976710656) : Calls Try.prog 25 #[v] w (ParsR (parseE l) w) := by
  unfold ParsR
  have hg : ∀ W, Below w.heap.size w W → Calls Try.prog 57 #[v] W (GuessR (guess l) W) := fun W hW => guess_any (h.below hW) hcap hl
  have hp : ∀ W pv, PR W pv (guess l).props → Calls Try.prog 14 #[(guess l).v pv] W (PutsR (guess l) W) := fun W pv hpv => put_any hpv (szP_guess l)
  have H := Lib.hid h
  unfold GuessR at hg
  unfold PutsR at hp
  have HPC := Lib.hid (parse_cases l)
  have HPB : Hid (checkE (guess l) = 0 → putB (guess l) = putE (guess l)) := fun h => by unfold putB; rw [if_pos h]
  generalize guess l = g at *
  have FG := Lib.hid hg
  have FP := Lib.hid hp
  obtain ⟨A, c, rfl⟩ := h.form
  have HB0 := Lib.hid ((Below.refl w.heap.size w).alloc (Nat.le_refl _) zE5)
  clear hg hp h hcap
  have hzv : zeroE.v (.slice none 0 0) = .agg #[.string ⟨#[]⟩, .string ⟨#[]⟩, .string ⟨#[]⟩, .int .i64 0, .slice none 0 0] := rfl
  unfold Ed.v at FG FP
  by_cases hc0 : checkE g = 0
  · rw [HPB hc0, hc0] at FP
    by_cases he : putE g = l
    · have HPE := Lib.hid (show parseE l = (g, 0) by
        rcases HPC.out with ⟨_, _, h⟩ | ⟨h, _⟩
        · exact h
        · exact absurd he (h g hc0))
      have hd : decide (putE g = l) = true := decide_eq_true he
      clear HPB hc0 he
      go_enter Try.func25, Try.ntmps25
      go_wp2_with (first
        | (go_at_call 57; refine (FG.out _ HB0.out).mono ?_; clear FG; rintro x w1 ⟨pv, rfl, o1, b1⟩; have HPW := Lib.hid (fun gg hgg => Nat.ne_of_gt (Nat.lt_of_lt_of_le (show w.heap.size < (w.alloc zE5).heap.size by simp) (own_base o1 gg hgg))); have HO := Lib.hid (PR.of_own o1); obtain ⟨Ap, np, cp, hpv⟩ := row_form3 o1; subst hpv; have HB1 := Lib.hid (HB0.out.trans (b1.mono (by simp))); have HR1 := Lib.hid ((b1.block w.heap.size (by simp)).trans (heap_alloc_new w zE5)); clear o1 b1)
        | (go_at_call 14; refine (FP.out _ _ (HO.out.below ((Below.refl _ w1).alloc (Nat.le_refl _) _))).mono ?_; clear FP; rintro x w2 ⟨pb, hx, hbr, b2⟩; subst hx; have hs1 : w.heap.size < w1.heap.size := (Array.getElem?_eq_some_iff.1 HR1.out).1; have HE2 := Lib.hid (heap_keep b2 (heap_alloc_new w1 (.cells #[.string g.src, .string g.dst, .string g.lab, .int .i64 g.time, .slice Ap np cp] 24))); have HR2 := Lib.hid (heap_keep b2 ((Below.heap_alloc w1 (.cells #[.string g.src, .string g.dst, .string g.lab, .int .i64 g.time, .slice Ap np cp] 24) _ hs1).trans HR1.out)); obtain ⟨c0, c1, c2, c3, c4, _⟩ := Bx5.of HE2.out; obtain ⟨d0, d1, d2, d3, d4, _⟩ := Bx5.of HR2.out; obtain ⟨f0, f1, f2, f3, f4⟩ := Fx5.of HR2.out; have HBW2 := Lib.hid (show Below w1.heap.size w1 w2 from ((Below.refl _ w1).alloc (Nat.le_refl _) _).trans (b2.mono (by simp))); have HFB := Lib.hid (HB1.out.trans (HBW2.out.mono (Nat.le_of_lt hs1))); have HPR2 := Lib.hid (HO.out.below HBW2.out); have HBR := Lib.hid hbr; obtain ⟨Ab, cb, hfb⟩ := hbr.form; subst hfb; clear hbr b2 hs1)
        | (go_at_call 58; refine (equal_any HBR.out (H.out.below HFB.out)).mono ?_; rintro x w3 ⟨hx, hw3⟩; subst hx; subst hw3))
      exact bodyPost_ret (v := .tuple #[.agg #[.string g.src, .string g.dst, .string g.lab, .int .i64 g.time, .slice Ap np cp], .int .i64 0]) (by simp [results, Try.results25, go_sem, d0, d1, d2, d3, d4, f0, f1, f2, f3, f4]) rfl ⟨.slice Ap np cp, by rw [HPE.out]; rfl, by rw [HPE.out]; first | exact PR.nil _ _ _ | exact HPR2.out.keep (set5_keep _ _ _ _ _ _ _) (fun _ gg hgg _ => HPW.out gg hgg), HFB.out.trans (below_set5 (Nat.le_refl _) _ _ _ _ _)⟩
    · have HPE := Lib.hid (show parseE l = (zeroE, 4) by
        rcases HPC.out with ⟨_, h, _⟩ | ⟨_, h⟩
        · exact absurd h he
        · exact h)
      have hd : decide (putE g = l) = false := decide_eq_false he
      clear HPB hc0 he
      go_enter Try.func25, Try.ntmps25
      go_wp2_with (first
        | (go_at_call 57; refine (FG.out _ HB0.out).mono ?_; clear FG; rintro x w1 ⟨pv, rfl, o1, b1⟩; have HPW := Lib.hid (fun gg hgg => Nat.ne_of_gt (Nat.lt_of_lt_of_le (show w.heap.size < (w.alloc zE5).heap.size by simp) (own_base o1 gg hgg))); have HO := Lib.hid (PR.of_own o1); obtain ⟨Ap, np, cp, hpv⟩ := row_form3 o1; subst hpv; have HB1 := Lib.hid (HB0.out.trans (b1.mono (by simp))); have HR1 := Lib.hid ((b1.block w.heap.size (by simp)).trans (heap_alloc_new w zE5)); clear o1 b1)
        | (go_at_call 14; refine (FP.out _ _ (HO.out.below ((Below.refl _ w1).alloc (Nat.le_refl _) _))).mono ?_; clear FP; rintro x w2 ⟨pb, hx, hbr, b2⟩; subst hx; have hs1 : w.heap.size < w1.heap.size := (Array.getElem?_eq_some_iff.1 HR1.out).1; have HE2 := Lib.hid (heap_keep b2 (heap_alloc_new w1 (.cells #[.string g.src, .string g.dst, .string g.lab, .int .i64 g.time, .slice Ap np cp] 24))); have HR2 := Lib.hid (heap_keep b2 ((Below.heap_alloc w1 (.cells #[.string g.src, .string g.dst, .string g.lab, .int .i64 g.time, .slice Ap np cp] 24) _ hs1).trans HR1.out)); obtain ⟨c0, c1, c2, c3, c4, _⟩ := Bx5.of HE2.out; obtain ⟨d0, d1, d2, d3, d4, _⟩ := Bx5.of HR2.out; obtain ⟨f0, f1, f2, f3, f4⟩ := Fx5.of HR2.out; have HBW2 := Lib.hid (show Below w1.heap.size w1 w2 from ((Below.refl _ w1).alloc (Nat.le_refl _) _).trans (b2.mono (by simp))); have HFB := Lib.hid (HB1.out.trans (HBW2.out.mono (Nat.le_of_lt hs1))); have HPR2 := Lib.hid (HO.out.below HBW2.out); have HBR := Lib.hid hbr; obtain ⟨Ab, cb, hfb⟩ := hbr.form; subst hfb; clear hbr b2 hs1)
        | (go_at_call 58; refine (equal_any HBR.out (H.out.below HFB.out)).mono ?_; rintro x w3 ⟨hx, hw3⟩; subst hx; subst hw3))
      exact bodyPost_ret (v := .tuple #[.agg #[.string ⟨#[]⟩, .string ⟨#[]⟩, .string ⟨#[]⟩, .int .i64 0, .slice none 0 0], .int .i64 4]) (by simp [results, Try.results25, go_sem, d0, d1, d2, d3, d4, f0, f1, f2, f3, f4]) rfl ⟨.slice none 0 0, by rw [HPE.out]; rfl, by rw [HPE.out]; first | exact PR.nil _ _ _ | exact HPR2.out.keep (set5_keep _ _ _ _ _ _ _) (fun _ gg hgg _ => HPW.out gg hgg), HFB.out.trans (below_set5 (Nat.le_refl _) _ _ _ _ _)⟩
  · have HPE := Lib.hid (show parseE l = (zeroE, 4) by
      rcases HPC.out with ⟨h, _⟩ | ⟨_, h⟩
      · exact absurd h hc0
      · exact h)
    obtain ⟨cc, hcc⟩ : ∃ c, checkE g = c := ⟨_, rfl⟩
    rw [hcc] at FP hc0
    have hb : (cc != 0) = true := by simpa using hc0
    clear HPB hc0 hcc
    go_enter Try.func25, Try.ntmps25
    go_wp2_with (first
      | (go_at_call 57; refine (FG.out _ HB0.out).mono ?_; clear FG; rintro x w1 ⟨pv, rfl, o1, b1⟩; have HPW := Lib.hid (fun gg hgg => Nat.ne_of_gt (Nat.lt_of_lt_of_le (show w.heap.size < (w.alloc zE5).heap.size by simp) (own_base o1 gg hgg))); have HO := Lib.hid (PR.of_own o1); obtain ⟨Ap, np, cp, hpv⟩ := row_form3 o1; subst hpv; have HB1 := Lib.hid (HB0.out.trans (b1.mono (by simp))); have HR1 := Lib.hid ((b1.block w.heap.size (by simp)).trans (heap_alloc_new w zE5)); clear o1 b1)
      | (go_at_call 14; refine (FP.out _ _ (HO.out.below ((Below.refl _ w1).alloc (Nat.le_refl _) _))).mono ?_; clear FP; rintro x w2 ⟨pb, hx, hbr, b2⟩; subst hx; have hs1 : w.heap.size < w1.heap.size := (Array.getElem?_eq_some_iff.1 HR1.out).1; have HE2 := Lib.hid (heap_keep b2 (heap_alloc_new w1 (.cells #[.string g.src, .string g.dst, .string g.lab, .int .i64 g.time, .slice Ap np cp] 24))); have HR2 := Lib.hid (heap_keep b2 ((Below.heap_alloc w1 (.cells #[.string g.src, .string g.dst, .string g.lab, .int .i64 g.time, .slice Ap np cp] 24) _ hs1).trans HR1.out)); obtain ⟨c0, c1, c2, c3, c4, _⟩ := Bx5.of HE2.out; obtain ⟨d0, d1, d2, d3, d4, _⟩ := Bx5.of HR2.out; obtain ⟨f0, f1, f2, f3, f4⟩ := Fx5.of HR2.out; have HBW2 := Lib.hid (show Below w1.heap.size w1 w2 from ((Below.refl _ w1).alloc (Nat.le_refl _) _).trans (b2.mono (by simp))); have HFB := Lib.hid (HB1.out.trans (HBW2.out.mono (Nat.le_of_lt hs1))); have HPR2 := Lib.hid (HO.out.below HBW2.out); have HBR := Lib.hid hbr; obtain ⟨Ab, cb, hfb⟩ := hbr.form; subst hfb; clear hbr b2 hs1)
      | (go_at_call 58; refine (equal_any HBR.out (H.out.below HFB.out)).mono ?_; rintro x w3 ⟨hx, hw3⟩; subst hx; subst hw3))
    exact bodyPost_ret (v := .tuple #[.agg #[.string ⟨#[]⟩, .string ⟨#[]⟩, .string ⟨#[]⟩, .int .i64 0, .slice none 0 0], .int .i64 4]) (by simp [results, Try.results25, go_sem, d0, d1, d2, d3, d4, f0, f1, f2, f3, f4]) rfl ⟨.slice none 0 0, by rw [HPE.out]; rfl, by rw [HPE.out]; first | exact PR.nil _ _ _ | exact HPR2.out.keep (set5_keep _ _ _ _ _ _ _) (fun _ gg hgg _ => HPW.out gg hgg), HFB.out.trans (below_set5 (Nat.le_refl _) _ _ _ _ _)⟩
end Go.Proofs.Ytpoefcpgcojppaa

namespace Go.Proofs.Ytpoefcpgcojppaa
open Go.ChangeShapes Go.WideShapes Go.ChangeAt Go.RowKit
set_option linter.unusedVariables false

/-- an edge with the slice of its props: five cells -/
abbrev Ev := Ed × Value
def encX (x : Ev) : List Value := [.string x.1.src, .string x.1.dst, .string x.1.lab, .int .i64 x.1.time, x.2]
def flatX (l : List Ev) : List Value := l.flatMap encX
theorem flatX_len (l : List Ev) : (flatX l).length = l.length * 5 := by simp [flatX, encX, List.length_flatMap, Function.comp_def, List.map_const']
theorem flatX_cons (x : Ev) (l : List Ev) : flatX (x :: l) = .string x.1.src :: .string x.1.dst :: .string x.1.lab :: .int .i64 x.1.time :: x.2 :: flatX l := by simp [flatX, encX]
theorem flatX_at : ∀ (l : List Ev) (k : Nat) (h : k < l.length), (flatX l)[k * 5]? = some (.string l[k].1.src) ∧ (flatX l)[k * 5 + 1]? = some (.string l[k].1.dst) ∧ (flatX l)[k * 5 + 2]? = some (.string l[k].1.lab) ∧ (flatX l)[k * 5 + 3]? = some (.int .i64 l[k].1.time) ∧ (flatX l)[k * 5 + 4]? = some l[k].2
  | x :: l, 0, h => by simp [flatX, encX]
  | x :: l, k + 1, h => by
    have := flatX_at l k (by simp at h; omega)
    simp only [List.getElem_cons_succ]
    rw [flatX_cons, show (k + 1) * 5 = k * 5 + 1 + 1 + 1 + 1 + 1 by omega, show k * 5 + 1 + 1 + 1 + 1 + 1 + 1 = (k * 5 + 1) + 1 + 1 + 1 + 1 + 1 by omega, show k * 5 + 1 + 1 + 1 + 1 + 1 + 2 = (k * 5 + 2) + 1 + 1 + 1 + 1 + 1 by omega, show k * 5 + 1 + 1 + 1 + 1 + 1 + 3 = (k * 5 + 3) + 1 + 1 + 1 + 1 + 1 by omega, show k * 5 + 1 + 1 + 1 + 1 + 1 + 4 = (k * 5 + 4) + 1 + 1 + 1 + 1 + 1 by omega]
    simpa only [List.getElem?_cons_succ] using this

/-- the slice v holds just the edges of l; each slice of props holds its edge's -/
structure ER (w : World) (v : Value) (l : List Ev) : Prop where
  row : ∃ A c, v = .slice A l.length c ∧ (0 < l.length → ∃ ad, A = some ad ∧ ad.block < w.heap.size ∧ ∀ j u, (flatX l)[j]? = some u → w.cell? (ad.add j) = some u)
  each : ∀ p ∈ l, PR w p.2 p.1.props
theorem ER.form {w : World} {v : Value} {l : List Ev} (h : ER w v l) : ∃ A c, v = .slice A l.length c := by
  obtain ⟨A, c, e, _⟩ := h.row
  exact ⟨A, c, e⟩
theorem ER.below {w w' : World} {v : Value} {l : List Ev} (h : ER w v l) (hb : Below w.heap.size w w') : ER w' v l := by
  obtain ⟨⟨A, c, rfl, hr⟩, he⟩ := h
  refine ⟨⟨A, c, rfl, fun hn => ?_⟩, fun p hp => (he p hp).below hb⟩
  obtain ⟨ad, rfl, hg, hc⟩ := hr hn
  exact ⟨ad, rfl, Nat.lt_of_lt_of_le hg hb.size, fun j u hj => (hb.cell (p := ad.add j) (by rw [block_add]; exact hg)).trans (hc j u hj)⟩
theorem ER.at4 {w : World} {A : Option Addr} {n c : Nat} {l : List Ev} (h : ER w (.slice A n c) l) {k : Nat} (hk : k < l.length) :
    ∃ ad, A = some ad ∧ ad.block < w.heap.size ∧ w.cell? (ad.add (k * 5)) = some (.string l[k].1.src) ∧ w.cell? ⟨(ad.add (k * 5)).block, (ad.add (k * 5)).off + 1, none⟩ = some (.string l[k].1.dst) ∧ w.cell? ⟨(ad.add (k * 5)).block, (ad.add (k * 5)).off + 2, none⟩ = some (.string l[k].1.lab) ∧ w.cell? ⟨(ad.add (k * 5)).block, (ad.add (k * 5)).off + 3, none⟩ = some (.int .i64 l[k].1.time) ∧ w.cell? ⟨(ad.add (k * 5)).block, (ad.add (k * 5)).off + 4, none⟩ = some l[k].2 := by
  obtain ⟨A', c', e, h⟩ := h.row
  injection e with e1 e2 e3
  subst e1
  obtain ⟨ad, h1, h2, h3⟩ := h (by omega)
  obtain ⟨f0, f1, f2, f3, f4⟩ := flatX_at l k hk
  refine ⟨ad, h1, h2, h3 _ _ f0, ?_, ?_, ?_, ?_⟩
  · rw [← add_off ad (by omega)]; exact h3 _ _ f1
  · rw [← add_off ad (by omega)]; exact h3 _ _ f2
  · rw [← add_off ad (by omega)]; exact h3 _ _ f3
  · rw [← add_off ad (by omega)]; exact h3 _ _ f4
/-- a row just built -/
theorem ER.of_block {w : World} {b : Nat} {l : List Ev} {t : TypeId} {vs : List Value} (h : w.heap[b]? = some (.cells vs.toArray t (0, 0))) (hv : vs = flatX l) (c : Nat) (he : ∀ p ∈ l, PR w p.2 p.1.props) : ER w (.slice (some ⟨b, 0, none⟩) l.length c) l := by
  subst hv
  refine ⟨⟨_, c, rfl, fun hn => ⟨_, rfl, (Array.getElem?_eq_some_iff.1 h).1, fun j u hj => ?_⟩⟩, he⟩
  have h2 := cell_of_row w b j _ t (0, 0) h
  have e : (Addr.add ⟨b, 0, none⟩ j) = ⟨b, j, none⟩ := by
    unfold Addr.add
    split
    · rename_i h0; subst h0; rfl
    · simp
  rw [e, h2]
  simpa using hj

def SizR (l : List Ev) (w : World) (x : Ending) (w' : World) : Prop := ∃ n : Int, x = .returned (.int .i64 n) ∧ (l.length : Int) ≤ n ∧ n ≤ 562949953421312 ∧ Gr w w'

set_option maxHeartbeats 2000000 in
theorem size_any {w : World} {v : Value} {l : List Ev} (h : ER w v l) (hl : l.length ≤ 281474976710656) (hp : ∀ p ∈ l, p.1.props.length ≤ 281474976710656) : Calls Try.prog 9 #[v] w (SizR l w) := by
  unfold SizR
  have H := Lib.hid h
  have HP := Lib.hid hp
  obtain ⟨A, c, rfl⟩ := h.form
  clear h hp
  obtain ⟨n, hN⟩ : ∃ n, l.length = n := ⟨_, rfl⟩
  have HN := Lib.hid hN
  rw [hN] at H hl ⊢
  clear hN
  go_enter Try.func9, Try.ntmps9
  go_wp2_with fail
  go_loopw [3, 4] (fun s i wr => ∃ (k : Nat) (m : Int), k ≤ n ∧ i = .int .i64 k ∧ s = .int .i64 m ∧ (n : Int) ≤ m ∧ m ≤ 281474976712656 ∧ Gr w wr) (fun _ i _ => n - (Lib.intOf i).toNat)
  case atStart => exact ⟨0, n, Nat.zero_le _, rfl, rfl, by omega, by omega, Gr.refl _⟩
  case round =>
    obtain ⟨k, m, hk, rfl, rfl, h1, h2, hb⟩ := hrel
    have HB := Lib.hid hb
    clear hb
    by_cases hlt : k < n
    · by_cases hm : m ≤ 2000
      · have e1 : k < l.length := by have := HN.out; omega
        obtain ⟨ad, f1, _, _, _, _, _, q4⟩ := ER.at4 (H.out.below HB.out.below) e1
        subst f1
        obtain ⟨B, d, hq⟩ := (H.out.each _ (List.getElem_mem e1)).form
        have hle := HP.out _ (List.getElem_mem e1)
        rw [hq] at q4
        generalize l[k].1.props.length = pn at *
        clear hq
        go_wp2_with fail
        go_roundw
        case rel => exact ⟨k + 1, m + pn, by omega, by go_num, by go_num, by omega, by omega, HB.out⟩
        case measure => simp [Lib.intOf]; omega
      · go_wp2_with fail
        go_ret
        exact ⟨m, rfl, by omega, by omega, HB.out⟩
    · obtain rfl : k = n := by omega
      go_wp2_with fail
      go_ret
      exact ⟨m, rfl, by omega, by omega, HB.out⟩
end Go.Proofs.Ytpoefcpgcojppaa

namespace Go.Proofs.Ytpoefcpgcojppaa
open Go.ChangeShapes Go.WideShapes Go.ChangeAt Go.RowKit
set_option linter.unusedVariables false

def sumP (l : List Ev) : Nat := (l.map fun p => p.1.props.length).sum
theorem sumP_take {l : List Ev} {k : Nat} (h : k < l.length) : sumP (l.take (k + 1)) = sumP (l.take k) + l[k].1.props.length := by
  unfold sumP
  rw [List.take_succ_eq_append_getElem h, List.map_append, List.sum_append]
  simp
def SizS (l : List Ev) (w : World) (x : Ending) (w' : World) : Prop := ∃ n : Int, x = .returned (.int .i64 n) ∧ (n ≤ 2000 → n = l.length + sumP l) ∧ 0 ≤ n ∧ n ≤ 562949953421312 ∧ Gr w w'

set_option maxHeartbeats 2000000 in
theorem size_sum {w : World} {v : Value} {l : List Ev} (h : ER w v l) (hl : l.length ≤ 281474976710656) (hp : ∀ p ∈ l, p.1.props.length ≤ 281474976710656) : Calls Try.prog 9 #[v] w (SizS l w) := by
  unfold SizS
  have H := Lib.hid h
  have HP := Lib.hid hp
  obtain ⟨A, c, rfl⟩ := h.form
  clear h hp
  obtain ⟨n, hN⟩ : ∃ n, l.length = n := ⟨_, rfl⟩
  have HN := Lib.hid hN
  rw [hN] at H hl ⊢
  clear hN
  go_enter Try.func9, Try.ntmps9
  go_wp2_with fail
  go_loopw [3, 4] (fun s i wr => ∃ (k : Nat) (m : Int), k ≤ n ∧ i = .int .i64 k ∧ s = .int .i64 m ∧ m = n + sumP (l.take k) ∧ m ≤ 281474976712656 ∧ Gr w wr) (fun _ i _ => n - (Lib.intOf i).toNat)
  case atStart => exact ⟨0, n, Nat.zero_le _, rfl, rfl, by simp [sumP], by omega, Gr.refl _⟩
  case round =>
    obtain ⟨k, m, hk, rfl, rfl, h1, h2, hb⟩ := hrel
    have HB := Lib.hid hb
    have H1 := Lib.hid h1
    have hm0 : (0 : Int) ≤ m := by omega
    clear hb h1
    by_cases hlt : k < n
    · by_cases hm : m ≤ 2000
      · have e1 : k < l.length := by have := HN.out; omega
        obtain ⟨ad, f1, _, _, _, _, _, q4⟩ := ER.at4 (H.out.below HB.out.below) e1
        subst f1
        obtain ⟨B, d, hq⟩ := (H.out.each _ (List.getElem_mem e1)).form
        have hle := HP.out _ (List.getElem_mem e1)
        have HST := Lib.hid (sumP_take e1)
        rw [hq] at q4
        generalize l[k].1.props.length = pn at *
        clear hq
        go_wp2_with fail
        go_roundw
        case rel => exact ⟨k + 1, m + pn, by omega, by go_num, by go_num, by rw [HST.out, H1.out]; omega, by omega, HB.out⟩
        case measure => simp [Lib.intOf]; omega
      · go_wp2_with fail
        go_ret
        exact ⟨m, rfl, fun h => by omega, hm0, by omega, HB.out⟩
    · obtain rfl : k = n := by omega
      have HF := Lib.hid (show m = k + sumP l by
        have := H1.out
        rwa [List.take_of_length_le (by rw [HN.out]; exact Nat.le_refl _)] at this)
      go_wp2_with fail
      go_ret
      exact ⟨m, rfl, fun _ => HF.out, hm0, by omega, HB.out⟩
end Go.Proofs.Ytpoefcpgcojppaa

namespace Go.Proofs.Ytpoefcpgcojppaa
open Go.ChangeShapes Go.WideShapes Go.ChangeAt Go.RowKit
set_option linter.unusedVariables false

instance : Inhabited Ed := ⟨⟨⟨#[]⟩, ⟨#[]⟩, ⟨#[]⟩, 0, []⟩⟩
instance : Inhabited Ev := ⟨(default, .slice none 0 0)⟩
/-- a value of one cell, whatever it is given -/
def nz (v : Value) : Value := if v.oneCell' = true then v else .bool false
theorem nz_one (v : Value) : (nz v).oneCell' = true := by
  unfold nz
  split
  · assumption
  · rfl
theorem nz_slice (A : Option Addr) (n c : Nat) : nz (.slice A n c) = .slice A n c := rfl
def encZ (x : Ev) : List Value := [.string x.1.src, .string x.1.dst, .string x.1.lab, .int .i64 x.1.time, nz x.2]
theorem encZ_len (x : Ev) : (encZ x).length = 5 := rfl
theorem encZ_one (x : Ev) : ∀ v ∈ encZ x, v.oneCell' = true := by
  intro v hv
  simp only [encZ, List.mem_cons, List.not_mem_nil, or_false] at hv
  rcases hv with rfl | rfl | rfl | rfl | rfl
  all_goals first | rfl | exact nz_one _
theorem encZ_eq {x : Ev} (h : nz x.2 = x.2) : encZ x = encX x := by unfold encZ encX; rw [h]
def Slc (l : List Ev) : Prop := ∀ p ∈ l, nz p.2 = p.2
theorem ER.slc {w : World} {v : Value} {l : List Ev} (h : ER w v l) : Slc l := fun p hp => by
  obtain ⟨A, c, e⟩ := (h.each p hp).form
  rw [e]
  rfl
theorem flatZ {l : List Ev} (h : Slc l) : l.flatMap encZ = flatX l := by
  unfold flatX
  induction l with
  | nil => rfl
  | cons a l ih =>
    rw [List.flatMap_cons, List.flatMap_cons, ih (fun p hp => h p (List.mem_cons_of_mem _ hp)), encZ_eq (h a (List.mem_cons_self ..))]
theorem flatMap_get {α : Type} [Inhabited α] {enc : α → List Value} {k : Nat} (hk : ∀ x, (enc x).length = k) : ∀ (l : List α) (j : Nat), j < l.length * k → (l.flatMap enc)[j]? = some ((enc l[j / k]!)[j % k]!)
  | [], j, h => by simp at h
  | x :: l, j, h => by
    rw [List.flatMap_cons]
    have k0 : 0 < k := by
      rcases Nat.eq_zero_or_pos k with h0 | h0
      · subst h0; simp at h
      · exact h0
    by_cases hj : j < k
    · rw [List.getElem?_append_left (by rw [hk]; exact hj), Nat.div_eq_of_lt hj, Nat.mod_eq_of_lt hj]
      have hl : j < (enc x).length := by rw [hk]; exact hj
      simp [hl]
    · have e1 : j = (j - k) + k := by omega
      rw [List.getElem?_append_right (by rw [hk]; omega), hk, flatMap_get hk l (j - k) (by rw [List.length_cons, Nat.add_mul] at h; omega)]
      have e2 : j / k = (j - k) / k + 1 := by
        have := Nat.add_div_right (j - k) k0
        rwa [← e1] at this
      have e3 : j % k = (j - k) % k := by
        have := Nat.add_mod_right (j - k) k
        rwa [← e1] at this
      rw [e2, e3]
      simp
theorem flatK_list {α : Type} [Inhabited α] {enc : α → List Value} {k : Nat} (hk : ∀ x, (enc x).length = k) (d : Array α) : (Sort.flatK enc k d).toList = d.toList.flatMap enc := by
  have hl : (d.toList.flatMap enc).length = d.size * k := by
    rw [List.length_flatMap, List.map_congr_left (g := fun _ => k) (fun a _ => hk a), List.map_const', List.sum_replicate_nat]
    simp
  apply List.ext_getElem?
  intro j
  by_cases hj : j < d.size * k
  · rw [flatMap_get hk d.toList j (by simpa using hj)]
    have h1 := Sort.get_flatK enc k d j hj
    have h2 : j < (Sort.flatK enc k d).size := by rw [Sort.size_flatK]; exact hj
    have h3 : (Sort.flatK enc k d)[j]! = (Sort.flatK enc k d)[j] := getElem!_pos _ j h2
    rw [h3] at h1
    have h4 : d.toList[j / k]! = d[j / k]! := by by_cases h0 : j / k < d.size <;> simp [h0]
    rw [Array.getElem?_toList, Array.getElem?_eq_getElem h2, h1, h4]
  · rw [List.getElem?_eq_none (by simp; omega)]
    exact (List.getElem?_eq_none (by rw [hl]; omega)).symm

/-- an own row of edges, as the sort has it -/
theorem own_holds {w : World} {base g n c : Nat} {l : List Ev} (h : w.ownsRow base 24 5 (.slice (some ⟨g, 0, none⟩) n c) n (flatX l)) (hz : Slc l) : Sort.HoldsK encZ 5 w g 0 l.toArray ∧ l.length = n ∧ g < w.heap.size := by
  have hn : l.length = n := by have := h.1; rw [flatX_len] at this; omega
  rcases h.2 with ⟨e, _⟩ | ⟨g', cap, cur, e, _, hh, _, _, hsz, htk⟩
  · cases e
  · injection e with e1 e2 e3
    injection e1 with e1
    injection e1 with e1
    subst e1
    refine ⟨fun j hj => ?_, hn, (Array.getElem?_eq_some_iff.1 hh).1⟩
    rw [Sort.size_flatK] at hj
    have hj' : j < l.length * 5 := by simpa using hj
    have hv := flatMap_get encZ_len l j hj'
    rw [flatZ hz] at hv
    have hc : w.cell? ⟨g, 0 + j, none⟩ = cur[j]? := by rw [Nat.zero_add]; exact cell_of_row _ _ j _ 24 (0, 0) hh
    have hcj : cur[j]? = (flatX l)[j]? := by
      rw [← htk, List.getElem?_take_of_lt (by rw [← hn]; exact hj')]
      simp
    refine ⟨?_, Go.Joins.unfrozen_of_block hh _⟩
    rw [hc, hcj, hv, Sort.get_flatK encZ 5 _ j hj]
    simp

theorem putRow_block {enc : Value → Value} {w : World} {g : Nat} {cur : Array Value} {t : TypeId} {fz : Nat × Nat} {F : Array Value} (hh : w.heap[g]? = some (.cells cur t fz)) : (Sort.putRow enc w g 0 F).heap[g]? = some (.cells (Sort.putCells enc 0 F cur) t fz) := by
  simp [Sort.putRow, Sort.mapBlock, Array.getElem?_modify, hh, Sort.onCells]
theorem putRow_other {enc : Value → Value} {w : World} {g k : Nat} {F : Array Value} (hk : k ≠ g) : (Sort.putRow enc w g 0 F).heap[k]? = w.heap[k]? := by
  have : ¬ g = k := fun h => hk h.symm
  simp [Sort.putRow, Sort.mapBlock, Array.getElem?_modify, this]
theorem sorted_own {w w' : World} {base g n c : Nat} {l : List Ev} {dj : Array Ev} (h : w.ownsRow base 24 5 (.slice (some ⟨g, 0, none⟩) n c) n (flatX l)) (hk : SWK encZ 5 w g 0 dj w') (hs : dj.size = n) (hz : Slc dj.toList) :
    w'.ownsRow base 24 5 (.slice (some ⟨g, 0, none⟩) n c) n (flatX dj.toList) ∧ Keep (fun k => k ≠ g) w w' := by
  rcases h.2 with ⟨e, _⟩ | ⟨g', cap, cur, e, hb, hh, hnc, hcm, hsz, htk⟩
  · cases e
  · injection e with e1 e2 e3
    injection e1 with e1
    injection e1 with e1
    subst e1 e3
    obtain ⟨m, os, rfl⟩ := hk
    have hg := (Array.getElem?_eq_some_iff.1 hh).1
    have hh2 : (Sort.ahead w m).heap[g]? = some (.cells cur 24 (0, 0)) := hh
    have hblk := putRow_block (enc := id) (F := Sort.flatK encZ 5 dj) hh2
    have hsz2 : (Sort.putRowK encZ 5 (Sort.ahead w m) g 0 dj).heap.size = w.heap.size := Sort.size_putRowK encZ 5 _ _ _ _
    refine ⟨⟨by rw [flatX_len]; simp [hs], .inr ⟨g, c, Sort.putCells id 0 (Sort.flatK encZ 5 dj) cur, rfl, hb, ?_, hnc, hcm, by simp [Sort.putCells, hsz], ?_⟩⟩, rfl, rfl, rfl, ?_, fun k hk1 hk2 => ?_⟩
    · show (Sort.grow _ os).heap[g]? = _
      unfold Sort.grow
      show (_ ++ os)[g]? = _
      rw [Array.getElem?_append_left (by rw [hsz2]; exact hg)]
      exact hblk
    · rw [← flatZ hz, ← flatK_list encZ_len]
      apply List.ext_getElem?
      intro j
      by_cases hj : j < n * 5
      · rw [List.getElem?_take_of_lt hj]
        have h1 : j < cur.size := by
          rw [hsz]
          exact Nat.lt_of_lt_of_le hj (Nat.mul_le_mul_right 5 hnc)
        have h2 : j < (Sort.flatK encZ 5 dj).size := by rw [Sort.size_flatK, hs]; exact hj
        simp [Sort.putCells, h1, h2]
        rw [if_pos (by rw [hs]; exact hj), Array.getElem?_eq_getElem h2, getElem!_pos _ j h2]
      · rw [List.getElem?_eq_none (by simp; omega), List.getElem?_eq_none (by simp [hs]; omega)]
    · show _ ≤ (Sort.grow _ os).heap.size
      unfold Sort.grow
      show _ ≤ (_ ++ os).size
      rw [Array.size_append, hsz2]
      omega
    · show (Sort.grow _ os).heap[k]? = _
      unfold Sort.grow
      show (_ ++ os)[k]? = _
      rw [Array.getElem?_append_left (by rw [hsz2]; exact hk1)]
      exact (putRow_other hk2).trans rfl

def cX (x y : Ev) : Int := cmpE x.1 y.1
theorem cm_X : Cm cX := ⟨fun a b => cm_edge.neg _ _, fun a b d => cm_edge.trans _ _ _⟩
theorem edges_lays (w : World) (g size : Nat) : CmpLays Try.prog 18 #[] encZ 5 cX g 0 size w := by
  intro m os dk hs x y
  exact compare_gr x.1.key y.1.key (nz x.2) (nz y.2) _

theorem seg_list {α : Type} [Inhabited α] (d : Array α) : seg (fn d) 0 d.size = d.toList := by
  apply List.ext_getElem
  · simp [seg]
  · intro j h1 h2
    simp [seg, fn] at h1 ⊢
    simp [h1]
/-- what a stable sort makes of a row -/
structure Sta (L M : List Ev) : Prop where
  srt : M.Pairwise fun x y => cX x y ≤ 0
  eqv : ∀ e, lk cX e M = lk cX e L
  mem : ∀ p ∈ M, p ∈ L
  len : M.length = L.length
theorem Sta.of {d d' : Array Ev} (hs : d'.size = d.size) (h : Srt cX 0 d.size (fn d')) (k : Mv cX 0 d.size (fn d) (fn d')) : Sta d.toList d'.toList := by
  refine ⟨?_, fun e => ?_, fun p hp => ?_, by simpa using hs⟩
  · rw [List.pairwise_iff_getElem]
    intro i j hi hj hij
    have := h i j (Nat.zero_le _) hij (by rw [← hs]; simpa using hj)
    simp at hi hj
    simpa [fn, hi, hj] using this
  · have := k.eqv e
    rw [Nat.sub_zero] at this
    rw [← seg_list d', ← seg_list d, hs]
    exact this
  · obtain ⟨i, hi, rfl⟩ := List.mem_iff_getElem.1 hp
    simp at hi
    obtain ⟨j, _, hj, he⟩ := k.mem i (Nat.zero_le _) (by omega)
    have e1 : fn d' i = d'[i] := by simp [fn, hi]
    have e2 : fn d j = d[j] := by simp [fn, hj]
    rw [e1, e2] at he
    simp only [Array.getElem_toList]
    rw [he]
    simp

theorem stable_nil (A : Option Addr) (c : Nat) (f : Value) (w : World) : Calls Try.prog 65 #[.slice A 0 c, f] w fun e w' => e = .returned (.tuple #[]) ∧ w = w' := by
  have h91 : ∀ W, Calls Try.prog 91 #[.slice A 0 c, .int .i64 0, .int .i64 0, f] W fun e w' => e = .returned (.tuple #[]) ∧ W = w' := fun W => by
    go_enter Try.func91, Try.ntmps91
    go_wp2_with fail
    refine wp_loop_rounds 1 ?_
    rw [rounds_succ]
    go_wp2_with fail
    go_end0
    exact ⟨rfl, rfl⟩
  have h86 : ∀ W, Calls Try.prog 86 #[.slice A 0 c, .int .i64 0, f] W fun e w' => e = .returned (.tuple #[]) ∧ W = w' := fun W => by
    go_enter Try.func86, Try.ntmps86
    go_wp2_with fail
    refine wp_loop_rounds 1 ?_
    rw [rounds_succ]
    go_wp2_with (go_at_call 91; refine (h91 _).mono ?_; rintro e w' ⟨rfl, rfl⟩)
    refine wp_loop_rounds 1 ?_
    rw [rounds_succ]
    go_wp2_with fail
    go_end0
    exact ⟨rfl, rfl⟩
  go_enter Try.func65, Try.ntmps65
  go_wp2_with (go_at_call 86; refine (h86 _).mono ?_; rintro e w' ⟨rfl, rfl⟩)
  go_end0
  exact ⟨rfl, rfl⟩

theorem stable_own {w : World} {base g n c : Nat} {l : List Ev} (h : w.ownsRow base 24 5 (.slice (some ⟨g, 0, none⟩) n c) n (flatX l)) (hz : Slc l) (hl : n ≤ 1099511627776) :
    Calls Try.prog 65 #[.slice (some ⟨g, 0, none⟩) n c, .func (.func 18) #[] #[]] w fun e w' => e = .returned (.tuple #[]) ∧ ∃ M, Sta l M ∧ w'.ownsRow base 24 5 (.slice (some ⟨g, 0, none⟩) n c) n (flatX M) ∧ Keep (fun k => k ≠ g) w w' := by
  obtain ⟨hH, hn, hg⟩ := own_holds h hz
  have hsize : l.toArray.size = n := by simpa using hn
  have hst := stable_any ly_try (RowK.mk encZ_len encZ_one hH hg) cm_X 18 #[] (edges_lays w g _) (enters_of Try.func18 (by kernel_rfl) rfl) c (by rw [hsize]; exact hl) l.toArray rfl (SWK.start hH)
  rw [hsize] at hst
  have HST := Lib.hid hst
  have HH := Lib.hid h
  have HZ := Lib.hid hz
  have HSZ := Lib.hid hsize
  clear hst h hz hsize hH hn hg
  go_enter Try.func65, Try.ntmps65
  go_wp2_with (go_at_call 86; refine HST.out.mono ?_; rintro e w' ⟨rfl, dj, hsj, hk, hs, hm⟩)
  go_end0
  have hsta : Sta l dj.toList := Sta.of (d := l.toArray) (by rw [HSZ.out]; exact hsj) (by rw [HSZ.out]; exact hs) (by rw [HSZ.out]; exact hm)
  have hzj : Slc dj.toList := fun p hp => HZ.out p (hsta.mem p hp)
  exact ⟨rfl, dj.toList, hsta, sorted_own HH.out hk hsj hzj⟩
end Go.Proofs.Ytpoefcpgcojppaa
