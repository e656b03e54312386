/- Texts UI, RC, UJ, PP, QA, one behind the other. -/
import Derived.Test.YtpoefcpgcojppaaM0
import Derived.Test.YtpoefcpgcojppaaM1
import Derived.Test.YtpoefcpgcojppaaM2
import Derived.Test.YtpoefcpgcojppaaM3
import Derived.Test.YtpoefcpgcojppaaM4
import Derived.Test.YtpoefcpgcojppaaM5
import Derived.Laws.OwnMore
import Derived.Lib.LazyBuf
import Derived.BigQuiet
import Derived.Laws.MakeOwn
import Derived.RangeFuncBox
set_option linter.unusedSimpArgs false
namespace Go.Proofs.Ytpoefcpgcojppaa
open Go.ChangeShapes Go.WideShapes Go.ChangeAt Go.RowKit
set_option linter.unusedVariables false

theorem parts24 : (Try.prog.info? 24).map (fun i => (i.zero, i.size, i.bytes)) = some (some (.agg #[.string ⟨#[]⟩, .string ⟨#[]⟩, .string ⟨#[]⟩, .int .i64 0, .slice none 0 0]), 5, 80) := by kernel_rfl
theorem info_parts24 : ∃ i, Try.prog.info? 24 = some i ∧ i.zero = some (.agg #[.string ⟨#[]⟩, .string ⟨#[]⟩, .string ⟨#[]⟩, .int .i64 0, .slice none 0 0]) ∧ i.size = 5 ∧ i.bytes = 80 := by
  have h := parts24
  cases hq : Try.prog.info? 24 with
  | none => rw [hq] at h; cases h
  | some i =>
    rw [hq] at h
    simp only [Option.map_some, Option.some.injEq, Prod.mk.injEq] at h
    exact ⟨i, rfl, h.1, h.2.1, h.2.2⟩
theorem flatX_one {l : List Ev} (h : Slc l) : ∀ v ∈ flatX l, v.oneCell' = true := by
  intro v hv
  rw [← flatZ h] at hv
  obtain ⟨x, _, hx⟩ := List.mem_flatMap.1 hv
  exact encZ_one x v hx
theorem flatX_app (l m : List Ev) : flatX (l ++ m) = flatX l ++ flatX m := by simp [flatX]
theorem run_append_er {P : Program} {w : World} {t ty base : Nat} {i : TypeInfo} (ht : P.underlying t = some (.slice 24)) (hi : P.info? 24 = some i) (hz : i.zero = some (.agg #[.string ⟨#[]⟩, .string ⟨#[]⟩, .string ⟨#[]⟩, .int .i64 0, .slice none 0 0])) (hs : i.size = 5) (hby : i.bytes = 80)
    {v : Value} {n : Nat} {xs : List Value} (hown : w.ownsRow base 24 5 v n xs) {v2 : Value} {l : List Ev} (her : ER w v2 l) (hl : n + l.length ≤ 2000000) (hbase : base ≤ w.heap.size) :
    ∃ v' w', (Builtin.append_ #[t, t] ty #[v, v2]).run P w = .ok v' w' ∧ w'.ownsRow base 24 5 v' (n + l.length) (xs ++ flatX l) ∧ w.grownBy w' v.ownBlock ∧ (v'.ownBlock = v.ownBlock ∨ v'.ownBlock = some w.heap.size) := by
  have hsl := her.slc
  obtain ⟨A, c, rfl, hr⟩ := her.row
  cases A with
  | none =>
    have h0 : l = [] := by
      cases l with
      | nil => rfl
      | cons a r =>
        obtain ⟨ad, e, _⟩ := hr (by simp)
        cases e
    subst h0
    refine ⟨v, w, ?_, by simpa [flatX] using hown, ⟨rfl, rfl, rfl, Nat.le_refl _, fun _ _ _ => rfl⟩, .inl rfl⟩
    rcases hown.2 with ⟨rfl, rfl⟩ | ⟨g, cap, cur, rfl, _, _, hnc, _⟩
    · simp [Builtin.append_, run_underlying ht, sizeOf, typeInfo, hi, Builtin.lenOf, Builtin.firstCells]
    · simp [Builtin.append_, run_underlying ht, sizeOf, typeInfo, hi, Builtin.lenOf, Builtin.firstCells, hnc, storeCells]
  | some ad =>
    have hnews : ∀ j u, (flatX l)[j]? = some u → w.cell? (ad.add j) = some u := by
      intro j u hj
      have h0 : 0 < l.length := by
        have := (List.getElem?_eq_some_iff.1 hj).1
        rw [flatX_len] at this
        omega
      obtain ⟨ad', e, _, hc⟩ := hr h0
      injection e with e
      rw [e]
      exact hc j u hj
    obtain ⟨v', w', h1, h2, h3, _, h5⟩ := run_append_own_at (P := P) w base t ty 24 i _ 5 80 ht hi hz hs hby rfl (by decide) v n xs hown ad l.length c (flatX l) (flatX_len l) hnews (flatX_one hsl) (by unfold maxLen; omega) (by omega) hbase
    exact ⟨v', w', h1, h2, h3, h5⟩
theorem wp_append_er {P : Program} {w : World} {o : Oper} {a : Act} {K : Act → World → Prop} {Q : Exit → Act → World → Prop} (s x : Operand) {t base : Nat} (ho : o.op = .call { callee := .builtin .append, args := #[s, x], argTypes := #[t, t] })
    {i : TypeInfo} (ht : P.underlying t = some (.slice 24)) (hi : P.info? 24 = some i) (hz : i.zero = some (.agg #[.string ⟨#[]⟩, .string ⟨#[]⟩, .string ⟨#[]⟩, .int .i64 0, .slice none 0 0])) (hs : i.size = 5) (hby : i.bytes = 80)
    {v : Value} {n : Nat} {xs : List Value} (he : a.eval s = v) (hown : w.ownsRow base 24 5 v n xs) {v2 : Value} {l : List Ev} (hx : a.eval x = v2) (her : ER w v2 l) (hl : n + l.length ≤ 2000000) (hbase : base ≤ w.heap.size)
    (h : ∀ v' w', w'.ownsRow base 24 5 v' (n + l.length) (xs ++ flatX l) → w.grownBy w' v.ownBlock → (v'.ownBlock = v.ownBlock ∨ v'.ownBlock = some w.heap.size) → K (a.put o.dst v') w') : o.wp P a w K Q := by
  obtain ⟨v', w', hr, h2, h3, h4⟩ := run_append_er (P := P) (ty := o.type) ht hi hz hs hby hown her hl hbase
  unfold Oper.wp execOp
  simp only [ho, resolve, invoke, builtin, Sem.run_bind, Sem.run_pure, Result.andThen_ok, List.map_toArray, List.map_cons, List.map_nil, he, hx, hr]
  exact h v' w' h2 h3 h4
theorem wpList_append_er {P : Program} {w : World} {ops : Array Oper} {rest : List Oper} {o : Oper} {a : Act} {Q : Exit → Act → World → Prop} (hgd : o.guard = none) (s x : Operand) {t base : Nat} (ho : o.op = .call { callee := .builtin .append, args := #[s, x], argTypes := #[t, t] })
    {i : TypeInfo} (ht : P.underlying t = some (.slice 24)) (hi : P.info? 24 = some i) (hz : i.zero = some (.agg #[.string ⟨#[]⟩, .string ⟨#[]⟩, .string ⟨#[]⟩, .int .i64 0, .slice none 0 0])) (hs : i.size = 5) (hby : i.bytes = 80)
    {v : Value} {n : Nat} {xs : List Value} (he : a.eval s = v) (hown : w.ownsRow base 24 5 v n xs) {v2 : Value} {l : List Ev} (hx : a.eval x = v2) (her : ER w v2 l) (hl : n + l.length ≤ 2000000) (hbase : base ≤ w.heap.size)
    (h : ∀ v' w', w'.ownsRow base 24 5 v' (n + l.length) (xs ++ flatX l) → w.grownBy w' v.ownBlock → (v'.ownBlock = v.ownBlock ∨ v'.ownBlock = some w.heap.size) → wpList P ops Q rest (a.put o.dst v') w') : wpList P ops Q (o :: rest) a w :=
  wpList_plain hgd fun _ hK => wp_append_er s x ho ht hi hz hs hby he hown hx her hl hbase fun v' w' h2 h3 h4 => hK _ _ (h v' w' h2 h3 h4)
theorem step_append_er {P : Program} {w : World} {ops : Array Oper} {o : Oper} {a : Act} {K : Act → World → Prop} {Q : Exit → Act → World → Prop} {E : Prop} (hgd : o.guard = none) (s x : Operand) {t base : Nat} (ho : o.op = .call { callee := .builtin .append, args := #[s, x], argTypes := #[t, t] })
    {i : TypeInfo} (ht : P.underlying t = some (.slice 24)) (hi : P.info? 24 = some i) (hz : i.zero = some (.agg #[.string ⟨#[]⟩, .string ⟨#[]⟩, .string ⟨#[]⟩, .int .i64 0, .slice none 0 0])) (hs : i.size = 5) (hby : i.bytes = 80)
    {v : Value} {n : Nat} {xs : List Value} (he : a.eval s = v) (hown : w.ownsRow base 24 5 v n xs) {v2 : Value} {l : List Ev} (hx : a.eval x = v2) (her : ER w v2 l) (hl : n + l.length ≤ 2000000) (hbase : base ≤ w.heap.size)
    (h : ∀ v' w', w'.ownsRow base 24 5 v' (n + l.length) (xs ++ flatX l) → w.grownBy w' v.ownBlock → (v'.ownBlock = v.ownBlock ∨ v'.ownBlock = some w.heap.size) → K (a.put o.dst v') w') :
    if Region.wanted o (yielded ops a.tmps) = true then Oper.wp P o a w K Q else E := by
  have hw : Region.wanted o (yielded ops a.tmps) = true := by simp [Region.wanted, hgd]
  rw [if_pos hw]
  exact wp_append_er s x ho ht hi hz hs hby he hown hx her hl hbase h

/-- a row that lies in memory, as one of edges -/
theorem ER.of_own {w : World} {base n : Nat} {v : Value} {l : List Ev} (h : w.ownsRow base 24 5 v n (flatX l)) (he : ∀ p ∈ l, PR w p.2 p.1.props) : ER w v l := by
  have hn : n = l.length := by have := h.1; rw [flatX_len] at this; omega
  subst hn
  refine ⟨?_, he⟩
  rcases h.2 with ⟨rfl, hx⟩ | ⟨g, cap, cur, rfl, _, hh, _⟩
  · have : l = [] := List.eq_nil_of_length_eq_zero hx
    subst this
    exact ⟨none, 0, rfl, fun h0 => absurd h0 (by simp)⟩
  · exact ⟨_, cap, rfl, fun _ => ⟨_, rfl, (Array.getElem?_eq_some_iff.1 hh).1, fun j u hj => h.cells (g := g) rfl _ _ hj⟩⟩

def ClonX (l : List Ev) (w : World) (e : Ending) (w' : World) : Prop := ∃ v', e = .returned v' ∧ w'.ownsRow w.heap.size 24 5 v' l.length (flatX l) ∧ Below w.heap.size w w'
theorem cloneX_any {w : World} {v : Value} {l : List Ev} (h : ER w v l) (hl : l.length ≤ 1000000) : Calls Try.prog 64 #[v] w (ClonX l w) := by
  unfold ClonX
  obtain ⟨i9, hi9, hz9, hs9, hb9⟩ := info_parts24
  have H := Lib.hid h
  obtain ⟨A, c, rfl, hr⟩ := h.row
  have hq := fun W => Go.run_eql_slice_nil (P := Try.prog) W 26 24 A l.length c Try.underlying26
  cases A with
  | none =>
    have h0 : l = [] := by
      cases l with
      | nil => rfl
      | cons a r =>
        obtain ⟨ad, e, _⟩ := hr (by simp)
        cases e
    subst h0
    simp only [Option.isNone_none, List.length_nil] at hq ⊢
    clear hr h H
    go_enter Try.func64, Try.ntmps64
    go_wp2_with fail
    go_ret
    exact ⟨_, rfl, World.ownsRow_nil _ _ _ _, Below.refl _ _⟩
  | some ad =>
    simp only [Option.isNone_some] at hq
    clear hr h
    have hB := Lib.hid ((Below.refl w.heap.size w).alloc (Nat.le_refl _) (.cells #[] 24))
    have hO := Lib.hid (World.ownsRow_made (base := w.heap.size) (size := 5) (e := 24) w #[] 0 (Nat.le_refl _) (by unfold maxLen; omega) rfl)
    go_enter Try.func64, Try.ntmps64
    go_wp2_with (at_builtin; refine wpList_append_er (v := .slice (some ⟨w.heap.size, 0, none⟩) 0 0) rfl _ _ rfl Try.underlying26 hi9 hz9 hs9 hb9 rfl hO.out rfl (H.out.below hB.out) (by omega) (by simp) ?_; intro mv w1 hown1 hgrow1 hloc1)
    have hB1 : Below w.heap.size w w1 := hB.out.grown hgrow1 (by simp) (fun k hk => by simp [Value.ownBlock] at hk; omega)
    go_ret
    exact ⟨_, rfl, by simpa using hown1, hB1⟩
def ClonP (l : List Pt) (w : World) (e : Ending) (w' : World) : Prop := ∃ v', e = .returned v' ∧ w'.ownsRow w.heap.size 53 4 v' l.length (flatP l) ∧ Below w.heap.size w w'
theorem cloneP_any {w : World} {v : Value} {l : List Pt} (h : PR w v l) (hl : l.length ≤ 1000000) : Calls Try.prog 66 #[v] w (ClonP l w) := by
  unfold ClonP
  obtain ⟨i9, hi9, hz9, hs9, hb9⟩ := info_parts53
  have H := Lib.hid h
  obtain ⟨A, c, rfl, hr⟩ := h
  have hq := fun W => Go.run_eql_slice_nil (P := Try.prog) W 22 53 A l.length c Try.underlying22
  cases A with
  | none =>
    have h0 : l = [] := by
      cases l with
      | nil => rfl
      | cons a r =>
        obtain ⟨ad, e, _⟩ := hr (by simp)
        cases e
    subst h0
    simp only [Option.isNone_none, List.length_nil] at hq ⊢
    clear hr H
    go_enter Try.func66, Try.ntmps66
    go_wp2_with fail
    go_ret
    exact ⟨_, rfl, World.ownsRow_nil _ _ _ _, Below.refl _ _⟩
  | some ad =>
    simp only [Option.isNone_some] at hq
    clear hr
    have hB := Lib.hid ((Below.refl w.heap.size w).alloc (Nat.le_refl _) (.cells #[] 53))
    have hO := Lib.hid (World.ownsRow_made (base := w.heap.size) (size := 4) (e := 53) w #[] 0 (Nat.le_refl _) (by unfold maxLen; omega) rfl)
    go_enter Try.func66, Try.ntmps66
    go_wp2_with (at_builtin; refine wpList_append_pr (v := .slice (some ⟨w.heap.size, 0, none⟩) 0 0) rfl _ _ rfl Try.underlying22 hi9 hz9 hs9 hb9 rfl hO.out rfl (H.out.below hB.out) (by omega) (by simp) ?_; intro mv w1 hown1 hgrow1 hloc1)
    have hB1 : Below w.heap.size w w1 := hB.out.grown hgrow1 (by simp) (fun k hk => by simp [Value.ownBlock] at hk; omega)
    go_ret
    exact ⟨_, rfl, by simpa using hown1, hB1⟩
end Go.Proofs.Ytpoefcpgcojppaa

namespace Go.Proofs.Ytpoefcpgcojppaa
open Go.ChangeShapes Go.WideShapes Go.ChangeAt Go.RowKit
set_option linter.unusedVariables false

theorem row_form4 {w : World} {base e size n : Nat} {v : Value} {xs : List Value} (h : w.ownsRow base e size v n xs) : ∃ A c, v = .slice A n c := by
  rcases h.2 with ⟨rfl, rfl⟩ | ⟨g, cap, cur, rfl, _⟩
  · exact ⟨_, _, rfl⟩
  · exact ⟨_, _, rfl⟩
theorem own_room {w : World} {base e sz n c : Nat} {A : Option Addr} {xs : List Value} (h : w.ownsRow base e sz (.slice A n c) n xs) : n ≤ c := by
  rcases h.2 with ⟨e0, h0⟩ | ⟨g, cap, cur, e0, _, _, h1, _⟩
  · omega
  · injection e0 with e1 e2 e3
    omega

/-- the mark of a place -/
def mB (i : Nat) : UInt8 := UInt8.ofNat ((8000024 + i) * 11400714819323198485 % 18446744073709551616 / 72057594037927936)
def mksB : List UInt8 := (List.range 12).map mB
theorem mksB_len : mksB.length = 12 := by simp [mksB]
theorem mksB_get (k : Nat) (h : k < mksB.length) : mksB[k] = mB k := by simp [mksB]
theorem mark_any (i : Int) (w : World) (h0 : 0 ≤ i) (h1 : i ≤ 100000) : Calls Try.prog 79 #[.int .i64 1, .int .i64 i] w fun e w' => e = .returned (.int .i64 (8000024 + i)) ∧ w = w' := by
  have hwr : IntKind.i64.wrap (8000024 + i) = 8000024 + i := by rw [IntKind.wrap_i64]; omega
  go_enter Try.func79, Try.ntmps79
  go_wp2
  go_ret
  exact ⟨rfl, rfl⟩
theorem markByte_any (i : Nat) (w : World) (hi : i < 12) : Calls Try.prog 56 #[.int .i64 1, .int .i64 i] w fun e w' => e = .returned (.int .u8 ((mB i).toNat : Int)) ∧ w = w' := by
  have h : i = 0 ∨ i = 1 ∨ i = 2 ∨ i = 3 ∨ i = 4 ∨ i = 5 ∨ i = 6 ∨ i = 7 ∨ i = 8 ∨ i = 9 ∨ i = 10 ∨ i = 11 := by omega
  rcases h with rfl | rfl | rfl | rfl | rfl | rfl | rfl | rfl | rfl | rfl | rfl | rfl <;>
    (go_enter Try.func56, Try.ntmps56
     go_wp2_with (go_at_call 79; refine (mark_any _ _ (by decide) (by decide)).mono ?_; rintro e w' ⟨hx, hw⟩; subst hx; subst hw)
     go_ret
     exact ⟨rfl, rfl⟩)

/-- bytes that are lent: a copy, with marks behind it -/
def LentR (l : List UInt8) (w : World) (e : Ending) (w' : World) : Prop :=
  ∃ g c, e = .returned (.slice (some ⟨g, 0, none⟩) l.length c) ∧ w'.ownsRow w.heap.size 5 1 (.slice (some ⟨g, 0, none⟩) (l.length + 12) c) (l.length + 12) (byC (l ++ mksB)) ∧ Below w.heap.size w w'

set_option maxHeartbeats 1000000 in
theorem lent_any (v : Value) (l : List UInt8) (w : World) (hv : BR w v l) (hll : l.length ≤ 1000000) : Calls Try.prog 24 #[v] w (LentR l w) := by
  obtain ⟨i9, hi9, hz9, hs9, hb9⟩ := info_parts5
  have HV := Lib.hid hv
  obtain ⟨A, c, rfl, hv2⟩ := hv
  clear hv2
  obtain ⟨M, hM⟩ : ∃ M, M = madeCells (Value.int .u8 0).cells ((l.length + 12) * i9.size) := ⟨_, rfl⟩
  have hMs : M.size = (l.length + 12) * 1 := by rw [hM, size_madeCells, hs9]
  have eN : ((l.length : Int) + 12).toNat = l.length + 12 := by omega
  have hmk : ∀ W : World, (Instr.makeSlice 34 (.int .i64 0) (.int .i64 ((l.length : Int) + 12))).run Try.prog W = .ok (.slice (some ⟨W.heap.size, 0, none⟩) 0 (l.length + 12)) (W.alloc (.cells M 5)) := fun W => by
    have h := run_make (P := Try.prog) W 34 5 i9 (.int .u8 0) Try.underlying34 hi9 hz9 .i64 .i64 0 ((l.length : Int) + 12) (by omega) (by omega) (by rw [hb9]; omega) (by omega)
    rw [eN, ← hM] at h
    simpa using h
  have HMS := Lib.hid hMs
  clear hM hMs eN
  go_enter Try.func24, Try.ntmps24
  go_wp2_with (at_builtin; refine wpList_append_br (v := .slice (some ⟨w.heap.size, 0, none⟩) 0 (l.length + 12)) rfl _ _ rfl Try.underlying34 hi9 hz9 hs9 hb9 rfl (World.ownsRow_made (base := w.heap.size) (size := 1) w M (l.length + 12) (Nat.le_refl _) (by unfold maxLen; omega) HMS.out) rfl (HV.out.below ((Below.refl _ _).alloc (Nat.le_refl _) _)) (by omega) (by simp) ?_; intro mv w1 hown1 hgrow1 hloc1; obtain ⟨Am, cm, rfl⟩ := row_form4 hown1)
  have hB1 : Below w.heap.size w w1 := ((Below.refl _ w).alloc (Nat.le_refl _) _).grown hgrow1 (by simp) (fun k hk => by simp [Value.ownBlock] at hk; omega)
  have HB1 := Lib.hid hB1
  have HOWN1 := Lib.hid hown1
  clear hgrow1 hloc1 hown1 hB1 hmk
  go_loopw [3, 4] (fun v i wr => ∃ k : Nat, k ≤ 12 ∧ i = .int .i64 k ∧ wr.ownsRow w.heap.size 5 1 v (l.length + k) (byC (l ++ mksB.take k)) ∧ Below w.heap.size w wr) (fun _ i _ => 12 - (Lib.intOf i).toNat)
  case atStart => exact ⟨0, Nat.zero_le _, rfl, by simpa using HOWN1.out, HB1.out⟩
  case round =>
    obtain ⟨k, hk, rfl, hrow, hbe⟩ := hrel
    have HROW := Lib.hid hrow
    have HBE := Lib.hid hbe
    have hzr := hbe.size
    by_cases hlt : k < 12
    · have hk12 : (k : Int) < 12 := by omega
      clear hrow hbe
      go_wp2_with fail
      refine (markByte_any k _ hlt).mono ?_
      rintro e w2 ⟨rfl, rfl⟩
      obtain ⟨t, ht⟩ : ∃ t, mB k = t := ⟨_, rfl⟩
      have HT := Lib.hid ht
      rw [ht]
      have hrow2 := HROW.out
      clear ht
      go_wp2_with (at_builtin; refine wpList_append_own_at _ rfl _ _ 34 rfl w.heap.size 5 i9 (.int .u8 0) 1 1 Try.underlying34 hi9 hz9 hs9 hb9 rfl (by decide) _ _ _ rfl (hrow2.alloc _) ⟨wr.heap.size, 0, none⟩ 1 1 [.int .u8 (t.toNat : Int)] rfl rfl (cell_one_new _ _ _) (by simp [Value.oneCell']) (by unfold maxLen; omega) (by omega) (by simp; omega) ?_; intro v' w4 hown' hgrow hnil hloc)
      go_roundw
      case rel =>
        refine ⟨k + 1, by omega, by go_num, ?_, ?_⟩
        · rw [List.take_succ_eq_append_getElem (by rw [mksB_len]; exact hlt), mksB_get, HT.out, ← List.append_assoc, byC_app, ← Nat.add_assoc]
          exact hown'
        · exact (HBE.out.alloc (by omega) _).grown hgrow (by simp; omega) (fun g hg => own_base hrow2 g hg)
      case measure => simp [Lib.intOf]; omega
    · obtain rfl : k = 12 := by omega
      rw [List.take_of_length_le (by rw [mksB_len]; exact Nat.le_refl _)] at hrow
      obtain ⟨g, cap, rfl⟩ := ownsRow_succ (k := l.length + 11) hrow
      have hcap := own_room hrow
      have hc2 : l.length ≤ cap := by omega
      have HR2 := Lib.hid hrow
      clear hrow hbe
      go_wp2_with fail
      go_ret
      exact ⟨g, cap, rfl, HR2.out, HBE.out⟩

set_option maxHeartbeats 2000000 in
theorem kept_any {w : World} {base g c : Nat} (l : List UInt8) (v : Value) (hrow : w.ownsRow base 5 1 (.slice (some ⟨g, 0, none⟩) (l.length + 12) c) (l.length + 12) (byC (l ++ mksB))) (hv : BR w v l) (hl : l.length ≤ 100000) :
    Calls Try.prog 28 #[.slice (some ⟨g, 0, none⟩) l.length c, v] w fun e w' => e = .returned (.bool true) ∧ Gr w w' := by
  have HV := Lib.hid hv
  obtain ⟨A, cl, rfl, hv2⟩ := hv
  have hcap := own_room hrow
  have hgz : g < w.heap.size := own_lt hrow g rfl
  have hcell : ∀ j (hj : j < (l ++ mksB).length), w.cell? ⟨g, j, none⟩ = some (.int .u8 ((l ++ mksB)[j].toNat : Int)) := by
    intro j hj
    have h := hrow.cells (g := g) rfl j (.int .u8 ((l ++ mksB)[j].toNat : Int)) (byC_at _ j hj)
    have e : (⟨g, 0, none⟩ : Addr).add j = ⟨g, j, none⟩ := by unfold Addr.add; split <;> simp_all
    rwa [e] at h
  have HCELL := Lib.hid hcell
  obtain ⟨n, hn⟩ : ∃ n, l.length = n := ⟨_, rfl⟩
  have HN := Lib.hid hn
  rw [hn] at hcap hl HV
  obtain ⟨q, hq⟩ : ∃ q, q = n + 12 := ⟨_, rfl⟩
  have HQ := Lib.hid hq
  have hnat : ((n : Int) + 12).toNat = q := by omega
  have hci : (n : Int) + 12 ≤ (c : Int) := by omega
  have hqc : q ≤ c := by omega
  have hq9 : q ≤ 100012 := by omega
  rw [hn]
  clear hn hq hcell hv2 hrow
  go_enter Try.func28, Try.ntmps28
  go_wp2_with fail
  clear hnat hci
  go_loopw [6] (fun i wr => ∃ k : Nat, k ≤ q ∧ i = .int .i64 k ∧ Gr w wr) (fun i _ => q - (Lib.intOf i).toNat)
  case atStart => exact ⟨0, Nat.zero_le _, rfl, Gr.refl _⟩
  case round =>
    obtain ⟨k, hk, rfl, hbe⟩ := hrel
    have HBE := Lib.hid hbe
    by_cases hlt : k < q
    · have hkl : k < (l ++ mksB).length := by rw [List.length_append, mksB_len, HN.out, ← HQ.out]; exact hlt
      have gk := (hbe.below.cell (p := ⟨g, k, none⟩) hgz).trans (HCELL.out k hkl)
      obtain ⟨t, ht⟩ : ∃ t, (l ++ mksB)[k] = t := ⟨_, rfl⟩
      rw [ht] at gk
      have hk0 : (0 : Int) ≤ (k : Int) := by omega
      have hkq : (k : Int) < (q : Int) := by omega
      by_cases hkn : k < n
      · have hk1 : k < l.length := by rw [HN.out]; exact hkn
        obtain ⟨ad, f1, _, hck⟩ := BR.at1 (HV.out.gr HBE.out) hk1
        subst f1
        have e : l[k] = t := by rw [← ht, List.getElem_append_left]
        rw [e] at hck
        have hd1 : decide (n ≤ k) = false := by simpa using hkn
        have hkni : (k : Int) < (n : Int) := by omega
        clear e ht hbe
        go_upto_region 7 with (fail)
        go_quiet (fail)
        have HBQ := Lib.hid (HBE.out.drewN nq)
        clear hck gk
        generalize wr.drewN nq = WT at *
        go_wp2_with fail
        go_roundw
        case rel => exact ⟨k + 1, by omega, by go_num, HBQ.out⟩
        case measure => simp [Lib.intOf]; omega
      · obtain ⟨j, hj⟩ : ∃ j : Nat, j = k - n := ⟨_, rfl⟩
        have hsub : (k : Int) - (n : Int) = (j : Int) := by omega
        have hj12 : j < 12 := by have := HQ.out; omega
        have hjm : j < mksB.length := by rw [mksB_len]; exact hj12
        have hT : mB j = t := by
          rw [← mksB_get j hjm, ← ht, List.getElem_append_right (by rw [HN.out]; omega)]
          congr 1
          rw [HN.out, hj]
        have HTT := Lib.hid hT
        have hd1 : decide (k < n) = false := by simpa using hkn
        have hd2 : decide (n ≤ k) = true := by simpa using hkn
        have hgr : g < wr.heap.size := by have := hbe.below.size; omega
        clear ht hT hj hkn hbe
        go_upto_region 7 with (fail)
        have kg := cell_grown hgr gk
        have cM : ∀ n os, Calls Try.prog 56 #[.int .i64 1, .int .i64 j] (Sort.grow (wr.drewN n) os) fun e w'' => e = .returned (.int .u8 (t.toNat : Int)) ∧ ∃ p : GrownBy, w'' = Sort.grow (wr.drewN p.n) p.os := fun n os => Calls.grown_of ((markByte_any j (Sort.grow (wr.drewN n) os) hj12).mono fun e w' h => ⟨h.1.trans (by rw [HTT.out]), gr_of_eq h.2⟩)
        refine wp_region_quiet_grown mixed (by kernel_rfl) ?_
        repeat (first | go_big_quiet_skip | (go_big_quiet_want; go_big_quiet_op; first | go_big_quiet_on | go_big_quiet_call (exact cM _ _)) | quiet_step (exact cM _ _))
        refine wpQuiet_nil ?_
        intro _ hw'
        obtain ⟨⟨nq, osq⟩, hw''⟩ := hw'
        subst hw''
        have HBQ := Lib.hid (HBE.out.trans (⟨nq, osq, rfl⟩ : Gr wr (Sort.grow (wr.drewN nq) osq)))
        clear cM kg gk
        generalize Sort.grow (wr.drewN nq) osq = WT at *
        go_wp2_with fail
        go_roundw
        case rel => exact ⟨k + 1, by omega, by go_num, HBQ.out⟩
        case measure => simp [Lib.intOf]; omega
    · obtain rfl : k = q := by omega
      clear hbe
      go_wp2_with fail
      go_ret
      exact ⟨rfl, HBE.out⟩
end Go.Proofs.Ytpoefcpgcojppaa

namespace Go.Proofs.Ytpoefcpgcojppaa
open Go.ChangeShapes Go.WideShapes Go.ChangeAt Go.RowKit
set_option linter.unusedVariables false

theorem keep_below {p : Nat → Prop} {N : Nat} {w w' : World} (h : Keep p w w') (hN : N ≤ w.heap.size) (hp : ∀ k, k < N → p k) : Below N w w' :=
  ⟨h.os, h.tape, h.output, h.size, fun k hk => h.block k (Nat.lt_of_lt_of_le hk hN) (hp k hk)⟩
theorem flatX_set : ∀ (R : List Ev) (k : Nat) (v : Value) (hk : k < R.length), (flatX R).set (k * 5 + 4) v = flatX (R.set k (R[k].1, v))
  | x :: R, 0, v, hk => by simp [flatX_cons]
  | x :: R, k + 1, v, hk => by
    have := flatX_set R k v (by simpa using hk)
    rw [List.set_cons_succ, flatX_cons, flatX_cons]
    simp only [List.getElem_cons_succ]
    rw [← this, show (k + 1) * 5 + 4 = k * 5 + 4 + 1 + 1 + 1 + 1 + 1 by omega]
    simp only [List.set_cons_succ]
theorem own_setCell {w : World} {base n c g sz j : Nat} {t : TypeId} {xs : List Value} (h : w.ownsRow base t sz (.slice (some ⟨g, 0, none⟩) n c) n xs) (v : Value) : (w.setCell ⟨g, j, none⟩ v).ownsRow base t sz (.slice (some ⟨g, 0, none⟩) n c) n (xs.set j v) := by
  refine ⟨by rw [List.length_set]; exact h.1, ?_⟩
  rcases h.2 with ⟨e, _⟩ | ⟨g', cap, cur, e, hb, hh, hnc, hcm, hsz, htk⟩
  · cases e
  · injection e with e1 e2 e3
    injection e1 with e1
    injection e1 with e1
    subst e1 e3
    refine .inr ⟨g, c, _, rfl, hb, Go.Joins.block_setCell hh v, hnc, hcm, by simpa using hsz, ?_⟩
    rw [← htk]
    simp [List.take_set]
theorem own_set_other {w : World} {base n sz sz2 g i n2 c2 base2 : Nat} {t t2 : TypeId} {v u : Value} {xs ys : List Value} (h : w.ownsRow base t sz v n xs) (h2 : w.ownsRow base2 t2 sz2 (.slice (some ⟨g, 0, none⟩) n2 c2) n2 ys) (ht : t ≠ t2) : (w.setCell ⟨g, i, none⟩ u).ownsRow base t sz v n xs := by
  refine ⟨h.1, ?_⟩
  rcases h.2 with hn | ⟨b, cap, cur, hv, hb, hh, rest⟩
  · exact .inl hn
  · refine .inr ⟨b, cap, cur, hv, hb, ?_, rest⟩
    rcases h2.2 with ⟨e, _⟩ | ⟨g', cap', cur', e, _, hh', _⟩
    · cases e
    · injection e with e1 e2 e3
      injection e1 with e1
      injection e1 with e1
      subst e1
      have hne : b ≠ g := by
        rintro rfl
        rw [hh] at hh'
        injection hh' with hh'
        injection hh' with _ hh'
        exact ht hh'
      exact ((set1_keep w g i u).block b (Array.getElem?_eq_some_iff.1 hh).1 hne).trans hh
theorem own_at {w : World} {base n c sz : Nat} {t : TypeId} {A : Option Addr} {xs : List Value} (h : w.ownsRow base t sz (.slice A n c) n xs) (hn : 0 < n) : ∃ g, A = some ⟨g, 0, none⟩ ∧ base ≤ g ∧ g < w.heap.size ∧ ∀ i, w.frozen? ⟨g, i, none⟩ = false := by
  rcases h.2 with ⟨_, h0⟩ | ⟨g, cap, cur, e, hb, hh, _⟩
  · omega
  · injection e with e1 e2 e3
    exact ⟨g, e1, hb, (Array.getElem?_eq_some_iff.1 hh).1, fun i => Go.Joins.unfrozen_of_block hh i⟩

/-- its props lie in a row of its own -/
def Own53 (w : World) (N : Nat) (p : Ev) : Prop := w.ownsRow N 53 4 p.2 p.1.props.length (flatP p.1.props)
theorem Own53.below {w w' : World} {N : Nat} {p : Ev} (h : Own53 w N p) (hb : Below w.heap.size w w') : Own53 w' N p := own_below h hb
theorem Own53.pr {w : World} {N : Nat} {p : Ev} (h : Own53 w N p) : PR w p.2 p.1.props := PR.of_own h

theorem stableO_any {w : World} {base n : Nat} {v : Value} {l : List Ev} (h : w.ownsRow base 24 5 v n (flatX l)) (hb : base ≤ w.heap.size) (hz : Slc l) (hl : n ≤ 1099511627776) :
    Calls Try.prog 65 #[v, .func (.func 18) #[] #[]] w fun e w' => e = .returned (.tuple #[]) ∧ ∃ M, Sta l M ∧ w'.ownsRow base 24 5 v n (flatX M) ∧ Below base w w' := by
  rcases h.2 with ⟨rfl, rfl⟩ | ⟨g, cap, cur, rfl, hbg, _⟩
  · have h0 : l = [] := by
      have := h.1
      rw [flatX_len] at this
      exact List.eq_nil_of_length_eq_zero (by omega)
    subst h0
    refine (stable_nil none 0 _ w).mono ?_
    rintro e w' ⟨rfl, rfl⟩
    exact ⟨rfl, [], ⟨List.Pairwise.nil, fun _ => rfl, fun _ h => h, rfl⟩, h, Below.refl _ _⟩
  · refine (stable_own h hz hl).mono ?_
    rintro e w' ⟨rfl, M, h1, h2, h3⟩
    exact ⟨rfl, M, h1, h2, keep_below h3 hb (fun k hk => by omega)⟩

/-- edges in order, such as are like as they stood -/
structure StaE (L M : List Ed) : Prop where
  srt : M.Pairwise fun x y => cmpE x y ≤ 0
  eqv : ∀ e, lk cmpE e M = lk cmpE e L
theorem StaE.one {L M M' : List Ed} (h : StaE L M) (h' : StaE L M') : M = M' := one_order cm_edge h.srt h'.srt fun e => (h.eqv e).trans (h'.eqv e).symm
theorem lk_map (e : Ed) (l : List Ev) : (lk cX (e, .slice none 0 0) l).map (·.1) = lk cmpE e (l.map (·.1)) := by
  unfold lk
  rw [List.filter_map]
  rfl
theorem Sta.ed {L M : List Ev} (h : Sta L M) : StaE (L.map (·.1)) (M.map (·.1)) := by
  refine ⟨?_, fun e => ?_⟩
  · rw [List.pairwise_map]
    exact h.srt
  · rw [← lk_map, ← lk_map, h.eqv]

theorem ER.atg {w : World} {g n c : Nat} {l : List Ev} (h : ER w (.slice (some ⟨g, 0, none⟩) n c) l) {k : Nat} (hk : k < l.length) :
    g < w.heap.size ∧ w.cell? ⟨g, k * 5, none⟩ = some (.string l[k].1.src) ∧ w.cell? ⟨g, k * 5 + 1, none⟩ = some (.string l[k].1.dst) ∧ w.cell? ⟨g, k * 5 + 2, none⟩ = some (.string l[k].1.lab) ∧ w.cell? ⟨g, k * 5 + 3, none⟩ = some (.int .i64 l[k].1.time) ∧ w.cell? ⟨g, k * 5 + 4, none⟩ = some l[k].2 := by
  obtain ⟨ad, had, hlt, q0, q1, q2, q3, q4⟩ := h.at4 hk
  injection had with had
  subst had
  have ea : (⟨g, 0, none⟩ : Addr).add (k * 5) = ⟨g, k * 5, none⟩ := by unfold Addr.add; split <;> simp_all
  rw [ea] at q0 q1 q2 q3 q4
  exact ⟨hlt, q0, q1, q2, q3, q4⟩

def SortR (l : List Ev) (w : World) (e : Ending) (w' : World) : Prop :=
  ∃ v R, e = .returned v ∧ R.length = l.length ∧ StaE (l.map (·.1)) (R.map (·.1)) ∧ w'.ownsRow w.heap.size 24 5 v l.length (flatX R) ∧ (∀ p ∈ R, Own53 w' w.heap.size p) ∧ Below w.heap.size w w'

set_option maxHeartbeats 2000000 in
set_option maxRecDepth 100000 in
theorem sort_any {w : World} {v : Value} {l : List Ev} (h : ER w v l) (hl : l.length ≤ 1000000) (hp : ∀ p ∈ l, p.1.props.length ≤ 1000000) : Calls Try.prog 30 #[v] w (SortR l w) := by
  unfold SortR
  have f64 := cloneX_any h hl
  unfold ClonX at f64
  have F64 := Lib.hid f64
  have HS := Lib.hid h.slc
  have HE := Lib.hid h.each
  have HP := Lib.hid hp
  obtain ⟨n, hn⟩ : ∃ n, l.length = n := ⟨_, rfl⟩
  have HN := Lib.hid hn
  rw [hn] at F64 hl ⊢
  obtain ⟨N0, hN0⟩ : ∃ N, w.heap.size = N := ⟨_, rfl⟩
  have HN0 := Lib.hid hN0
  rw [hN0] at F64 ⊢
  clear h hp hn f64 hN0
  go_enter Try.func30, Try.ntmps30
  go_wp2_with (first
    | (go_at_call 64; refine F64.out.mono ?_; clear F64; rintro z w1 ⟨v1, hz, hown, hw⟩; subst hz; obtain ⟨A2, c2, rfl⟩ := row_form4 hown; have HO1 := Lib.hid hown; have HB1 := Lib.hid hw; clear hown hw)
    | (go_at_call 65; refine (stableO_any HO1.out (by have := HN0.out; have := HB1.out.size; omega) HS.out (by omega)).mono ?_; rintro z w2 ⟨hz, M, hsta, hown, hw⟩; subst hz; have HO2 := Lib.hid hown; have HB2 := Lib.hid (HB1.out.trans hw); have HSTA := Lib.hid hsta; clear hown hw hsta)
    | fail)
  clear HO1 HB1
  go_loopw [12] (fun i wr => ∃ (k : Nat) (R : List Ev), k ≤ n ∧ i = .int .i64 k ∧ Hid (R.length = n ∧ R.map (·.1) = M.map (·.1) ∧ wr.ownsRow N0 24 5 (.slice A2 n c2) n (flatX R) ∧ (∀ j (hj : j < R.length), j < k → Own53 wr N0 R[j]) ∧ (∀ j, k ≤ j → R[j]? = M[j]?) ∧ Below N0 w wr)) (fun i _ => n - (Lib.intOf i).toNat)
  case atStart => exact ⟨0, M, Nat.zero_le _, rfl, HSTA.out.len.trans HN.out, rfl, HO2.out, fun j _ hj => absurd hj (Nat.not_lt_zero j), fun j _ => rfl, HB2.out⟩
  case round =>
    obtain ⟨k, R, hk, rfl, HI⟩ := hrel
    by_cases hlt : k < n
    · obtain ⟨g, hA, hg0, hg1, hfz⟩ := own_at HI.out.2.2.1 (by omega)
      subst hA
      have hkR : k < R.length := by rw [HI.out.1]; exact hlt
      have hmem : R[k] ∈ l := by
        have h1 := HI.out.2.2.2.2.1 k (Nat.le_refl _)
        rw [List.getElem?_eq_getElem hkR] at h1
        exact HSTA.out.mem _ (List.mem_of_getElem? h1.symm)
      have hprk : PR wr R[k].2 R[k].1.props := (HE.out _ hmem).below (by rw [HN0.out]; exact HI.out.2.2.2.2.2)
      have hER : ER wr (.slice (some ⟨g, 0, none⟩) n c2) R := ER.of_own HI.out.2.2.1 (fun p hp => by
        obtain ⟨j, hj, rfl⟩ := List.mem_iff_getElem.1 hp
        by_cases hjk : j < k
        · exact (HI.out.2.2.2.1 j hj hjk).pr
        · have h1 := HI.out.2.2.2.2.1 j (by omega)
          rw [List.getElem?_eq_getElem hj] at h1
          exact (HE.out _ (HSTA.out.mem _ (List.mem_of_getElem? h1.symm))).below (by rw [HN0.out]; exact HI.out.2.2.2.2.2))
      obtain ⟨_, q0, q1, q2, q3, q4⟩ := hER.atg hkR
      have HPL := Lib.hid (HP.out _ hmem)
      obtain ⟨x, hx⟩ : ∃ x, R[k]'hkR = x := ⟨_, rfl⟩
      rw [hx] at q0 q1 q2 q3 q4 hprk HPL
      have HX := Lib.hid hx
      obtain ⟨⟨s, d, lb, t, ps⟩, pv⟩ := x
      simp only at q0 q1 q2 q3 q4 hprk HPL
      have HPR := Lib.hid hprk
      clear hx hmem hER hprk
      obtain ⟨np, hnp⟩ : ∃ m, ps.length = m := ⟨_, rfl⟩
      have HNP := Lib.hid hnp
      obtain ⟨Ap, cp, hpv⟩ := HPR.out.form
      rw [hnp] at hpv HPL
      subst hpv
      clear hnp
      have HBW := Lib.hid ((Below.refl wr.heap.size wr).alloc (Nat.le_refl _) (.cells #[.string s, .string d, .string lb, .int .i64 t, .slice Ap np cp] 24))
      have f66 := cloneP_any (HPR.out.below HBW.out) (by rw [HNP.out]; exact HPL.out)
      unfold ClonP at f66
      rw [HNP.out] at f66
      have F66 := Lib.hid f66
      have HQ4 := Lib.hid q4
      clear f66
      go_wp2_with (go_at_call 66; refine F66.out.mono ?_; clear F66; rintro z w5 ⟨v5, hz, hown, hw⟩; subst hz; obtain ⟨A5, c5, rfl⟩ := row_form4 hown; have HO5 := Lib.hid hown; have HB5 := Lib.hid (HBW.out.trans (hw.mono HBW.out.size)); have r4 := (HB5.out.cell (p := ⟨g, k * 5 + 4, none⟩) hg1).trans HQ4.out; have hOW := own_below HI.out.2.2.1 HB5.out; obtain ⟨g', hg', _, _, hfz5⟩ := own_at hOW (by omega); injection hg' with hg'; injection hg' with hg'; subst hg'; have s4 := hfz5 (k * 5 + 4); have HOW := Lib.hid hOW; clear hown hw hOW hfz5 q0 q1 q2 q3 q4)
      have HSZ := Lib.hid (show N0 ≤ wr.heap.size by have := HI.out.2.2.2.2.2.size; omega)
      have HSW := Lib.hid (show wr.heap.size ≤ w5.heap.size from HB5.out.size)
      have HS5 := Lib.hid (show wr.heap.size ≤ (wr.alloc (.cells #[.string s, .string d, .string lb, .int .i64 t, .slice Ap np cp] 24)).heap.size from HBW.out.size)
      go_roundw
      case measure => simp [Lib.intOf]; omega
      case rel =>
        obtain ⟨h1, h2, h3, h4, h5, h6⟩ := HI.out
        refine ⟨k + 1, R.set k (R[k].1, .slice A5 np c5), by omega, by go_num, ?_⟩
        have hO2 := own_setCell (j := k * 5 + 4) HOW.out (.slice A5 np c5)
        rw [flatX_set R k _ hkR] at hO2
        refine ⟨by rw [List.length_set]; exact h1, ?_, hO2, fun j hj hjk => ?_, fun j hj => ?_, ?_⟩
        · rw [← h2, List.map_set]
          simp only
          have : (R.map (·.1))[k]'(by simpa using hkR) = R[k].1 := by simp
          rw [← this, List.set_getElem_self]
        · have hj' : j < R.length := by simpa using hj
          by_cases e : j = k
          · subst e
            rw [List.getElem_set_self]
            have hh : R[j].1.props = ps := by rw [HX.out]
            show World.ownsRow _ N0 53 4 (.slice A5 np c5) R[j].1.props.length (flatP R[j].1.props)
            rw [hh, HNP.out]
            exact own_lower (own_set_other HO5.out HOW.out (by decide)) (by have := HSZ.out; have := HS5.out; omega)
          · rw [List.getElem_set_ne (fun h => e h.symm)]
            exact own_set_other (own_below (h4 j hj' (by omega)) HB5.out) HOW.out (by decide)
        · rw [List.getElem?_set_ne (by omega)]
          exact h5 j (by omega)
        · exact (h6.trans (HB5.out.mono (by have := HSZ.out; omega))).setCell (p := ⟨g, k * 5 + 4, none⟩) hg0 _
    · obtain rfl : k = n := by omega
      go_wp2_with fail
      go_ret
      refine ⟨_, rfl, R, HI.out.1, ?_, HI.out.2.2.1, fun a b hp => ?_, HI.out.2.2.2.2.2⟩
      · rw [HI.out.2.1]; exact HSTA.out.ed
      · obtain ⟨j, hj, hjp⟩ := List.mem_iff_getElem.1 hp
        have := HI.out.2.2.2.1 j hj (by rw [← HI.out.1]; exact hj)
        rwa [hjp] at this
end Go.Proofs.Ytpoefcpgcojppaa

namespace Go.Proofs.Ytpoefcpgcojppaa
open Go.ChangeShapes Go.WideShapes Go.ChangeAt Go.RowKit
set_option linter.unusedVariables false

/-- a slice within its room -/
def CapOk (v : Value) : Prop := ∀ A n c, v = .slice A n c → n ≤ c ∧ (A = none → c = 0)
theorem cap_nil : CapOk (.slice none 0 0) := by
  intro A n c e
  injection e with e1 e2 e3
  subst e1 e2 e3
  exact ⟨Nat.le_refl _, fun _ => rfl⟩
theorem cap_own {w : World} {base n sz : Nat} {t : TypeId} {v : Value} {xs : List Value} (h : w.ownsRow base t sz v n xs) : CapOk v := by
  rcases h.2 with ⟨rfl, rfl⟩ | ⟨g, cap, cur, rfl, _, _, h3, _⟩
  · exact cap_nil
  · intro A n c e
    injection e with e1 e2 e3
    subst e1 e2 e3
    exact ⟨h3, fun h => by cases h⟩
def PutsC (e : Ed) (w : World) (x : Ending) (w' : World) : Prop := ∃ v, x = .returned (.tuple #[v, .int .i64 (checkE e)]) ∧ BR w' v (putB e) ∧ CapOk v ∧ Below w.heap.size w w'

set_option maxHeartbeats 4000000 in
set_option maxRecDepth 100000 in
theorem put_cap {w : World} {pv : Value} {e : Ed} (h : PR w pv e.props) (hs : SzE e) : Calls Try.prog 14 #[e.v pv] w (PutsC e w) := by
  obtain ⟨i0, hi, hz0, hz1, hz2⟩ := info_parts5
  unfold PutsC
  have hck : ∀ W, Below w.heap.size w W → Calls Try.prog 16 #[e.v pv] W (CheckR e W) := fun W hW => check_any (h.below hW) hs
  unfold CheckR at hck
  have HCK := Lib.hid hck
  clear hck
  have H := Lib.hid h
  have HX0 := Lib.hid (Bx5.new w (.string e.src) (.string e.dst) (.string e.lab) (.int .i64 e.time) pv 24)
  have HW0 := Lib.hid ((Below.refl w.heap.size w).alloc (Nat.le_refl _) (.cells #[.string e.src, .string e.dst, .string e.lab, .int .i64 e.time, pv] 24))
  by_cases hc0 : checkE e = 0
  · have HC0 := Lib.hid hc0
    have HPB := Lib.hid (show putB e = putE e by unfold putB; rw [if_pos hc0])
    rw [hc0] at HCK ⊢
    unfold Ed.v at HCK ⊢
    clear hc0
    obtain ⟨A, c, rfl⟩ := h.form
    clear h hs
    obtain ⟨n, hN⟩ : ∃ n, e.props.length = n := ⟨_, rfl⟩
    have HN := Lib.hid hN
    have hn8 : n ≤ 8 := by rw [← hN]; exact (check_ok.1 HC0.out).1.2.2.2.1
    rw [hN] at H HX0 HW0 HCK ⊢
    clear hN
    go_enter Try.func14, Try.ntmps14
    go_wp2_with (go_at_call 16; refine (HCK.out _ HW0.out).mono ?_; clear HCK; rintro x w1 ⟨rfl, k1⟩; have HX1 := Lib.hid (HX0.out.below k1); have HW1 := Lib.hid (chn HW0.out k1); clear k1)
    have HLEN := Lib.hid (And.intro (headB_len HC0.out) (And.intro (propsB_len e.props (areP_mem (check_ok.1 HC0.out).1.2.2.2)) (putE_len HC0.out)))
    obtain ⟨B0, hB0⟩ : ∃ B, w.heap.size = B := ⟨_, rfl⟩
    have HB0 := Lib.hid hB0
    have hx1 := HX1.out
    rw [hB0] at hx1 ⊢
    obtain ⟨q0, q1, q2, q3, q4, qlt⟩ := hx1
    have HXX := Lib.hid (Bx5.mk q0 q1 q2 q3 q4 qlt)
    clear hB0 HX0 HX1
    have HTX := Lib.hid (show ([] ++ txts [e.src, e.dst, e.lab] : List UInt8).length ≤ 1000 by
      have := HLEN.out.1; rw [headB_eq, List.length_append] at this; omega)
    go_region_held3 (fun w' => w'.cell? ⟨B0, 0, none⟩ = some (.string e.src) ∧ w'.cell? ⟨B0, 1, none⟩ = some (.string e.dst) ∧ w'.cell? ⟨B0, 2, none⟩ = some (.string e.lab) ∧ w'.cell? ⟨B0, 3, none⟩ = some (.int .i64 e.time)) (first | exact ⟨q0, q1, q2, q3⟩ | exact ⟨z0, z1, z2, z3⟩ | (go_keep; done)) (first | (go_at_call 39; refine (putTexts_new3 (base := w1.heap.size) (l := []) rfl (World.ownsRow_nil w1 w1.heap.size 5 1) (Nat.le_refl _) (by have := HTX.out; omega)).mono ?_; rintro x w2 ⟨v2, rfl, p1, p2⟩; have HX2 := Lib.hid (Bx5.belowN HXX.out (p2.base (Nat.le_refl _) (fun g hg => by cases hg)) qlt); obtain ⟨z0, z1, z2, z3, z4, _⟩ := HX2.out; have HP2 := Lib.hid p2) | (go_at_call 38; refine (putNumber_any p1 HP2.out.gr.size (by have := HTX.out; omega)).mono ?_; rintro x w3 ⟨v3, rfl, r1, r2⟩; have HP3 := Lib.hid (HP2.out.trans r2); have HB3 := Lib.hid (HP3.out.base (Nat.le_refl _) (fun g hg => by cases hg)); have HX3 := Lib.hid (Bx5.belowN HXX.out HB3.out qlt); obtain ⟨y0, y1, y2, y3, y4, _⟩ := HX3.out))
    have HR1 := Lib.hid (show w3.ownsRow w1.heap.size 5 1 v3 (headB e).length (byC (headB e)) by rw [headB_eq]; exact r1)
    clear z0 z1 z2 z3 z4 q0 q1 q2 q3 q4 r1 r2 p1 y0 y1 y2 y3
    have hw8 := wrap_u8 (n : Int)
    obtain ⟨L0, hL0⟩ : ∃ L, headB e = L := ⟨_, rfl⟩
    have HL0 := Lib.hid hL0
    have hr3 := HR1.out
    rw [hL0] at hr3
    have hl0 : L0.length ≤ 69 := by rw [← hL0]; exact HLEN.out.1
    have hs3 : w1.heap.size ≤ w3.heap.size := HB3.out.size
    clear hL0
    go_wp2_with (at_builtin; refine wpList_append_own_at _ rfl _ _ 34 rfl w1.heap.size 5 i0 (.int .u8 0) 1 1 Try.underlying34 hi hz0 hz1 hz2 rfl (by decide) _ L0.length (byC L0) rfl (hr3.alloc _) ⟨w3.heap.size, 0, none⟩ 1 1 [.int .u8 ((oct (n : Int)).toNat : Int)] rfl rfl (cell_one_new _ _ _) (by simp [Value.oneCell']) (by unfold maxLen; omega) (by omega) (by rw [World.size_alloc]; omega) ?_; intro v4 w4 r1 r2 r3 r4; have HG4 := Lib.hid ((Grw.alloc v3 (.cells #[.int .u8 ((oct (n : Int)).toNat : Int)] 5)).trans (Grw.of_at r2 r4)); have HB4 := Lib.hid (HB3.out.trans (HG4.out.base hs3 (own_base hr3))); have HX4 := Lib.hid (Bx5.belowN HXX.out HB4.out qlt); obtain ⟨y0, y1, y2, y3, y4, _⟩ := HX4.out; have HR4 := Lib.hid (show w4.ownsRow w1.heap.size 5 1 v4 (L0 ++ [oct (n : Int)]).length (byC (L0 ++ [oct (n : Int)])) by rw [byC_app, List.length_append]; exact r1); clear r1 r2 r3 r4 hr3)
    clear y0 y1 y2 y3 y4 hl0 hs3 hw8
    have HPW := Lib.hid (H.out.below (HW1.out))
    go_loopw [5, 34] (fun b i wr => ∃ k : Nat, k ≤ n ∧ i = .int .i64 k ∧ wr.ownsRow w1.heap.size 5 1 b (L0 ++ [oct (n : Int)] ++ propsB (e.props.take k)).length (byC (L0 ++ [oct (n : Int)] ++ propsB (e.props.take k))) ∧ Below w1.heap.size w1 wr) (fun _ i _ => n - (Lib.intOf i).toNat)
    case atStart => exact ⟨0, Nat.zero_le _, rfl, by simpa [propsB] using HR4.out, HB4.out⟩
    case round =>
      obtain ⟨k, hk, rfl, hr, hb⟩ := hrel
      have HB := Lib.hid hb
      have hsz : w1.heap.size ≤ wr.heap.size := hb.size
      clear hb
      by_cases hlt : k < n
      · have e1 : k < e.props.length := by rw [HN.out]; exact hlt
        obtain ⟨ad, f1, hab, x0, x1, x2, x3⟩ := PR.at4 (HPW.out.below HB.out) e1
        subst f1
        have hpp := areP_mem (check_ok.1 HC0.out).1.2.2.2 _ (List.getElem_mem e1)
        obtain ⟨p, hp⟩ : ∃ p, e.props[k] = p := ⟨_, rfl⟩
        rw [hp] at x0 x1 x2 x3 hpp
        have HT : Hid (propsB (e.props.take (k + 1)) = propsB (e.props.take k) ++ propB p) := by
          show _ = _
          rw [List.take_succ_eq_append_getElem e1, hp, propsB_snoc]
        obtain ⟨L, hL⟩ : ∃ L, L0 ++ [oct (n : Int)] ++ propsB (e.props.take k) = L := ⟨_, rfl⟩
        have HL := Lib.hid hL
        have hLl : L.length ≤ 900 := by
          have h1 := propsB_len (e.props.take k) (fun q hq => areP_mem (check_ok.1 HC0.out).1.2.2.2 q (List.mem_of_mem_take hq))
          have h2 := HLEN.out.1
          rw [HL0.out] at h2
          rw [List.length_take] at h1
          rw [← hL]
          simp only [List.length_append, List.length_singleton]
          omega
        rw [hL] at hr
        have HR := Lib.hid hr
        obtain ⟨key, kd, nm, tx⟩ := p
        simp only at x0 x1 x2 x3
        have HPP := Lib.hid hpp
        have HTT := Lib.hid (show (L ++ txts [key]).length ≤ 950 by
          have := verB_size (freB_ver HPP.out.1); have := txt_len key; simp [txts]; simp only at *; omega)
        have HTE := Lib.hid (show txts [key] = txt key by simp [txts])
        clear hp hL hpp hr
        go_upto_region 9 with (fail)
        have hnew := heap_alloc_new wr (.cells #[.string key, .int .i64 kd, .int .i64 nm, .string tx] 53)
        have d0 := cell_of_row _ _ 0 _ 53 (0, 0) hnew
        have d1 := cell_of_row _ _ 1 _ 53 (0, 0) hnew
        have d2 := cell_of_row _ _ 2 _ 53 (0, 0) hnew
        have d3 := cell_of_row _ _ 3 _ 53 (0, 0) hnew
        have HRA := Lib.hid (HR.out.alloc (.cells #[.string key, .int .i64 kd, .int .i64 nm, .string tx] 53))
        have HGA := Lib.hid (Grw.alloc (w := wr) u5 (.cells #[.string key, .int .i64 kd, .int .i64 nm, .string tx] 53))
        have HNE := Lib.hid (own_ne HR.out (Nat.le_refl wr.heap.size))
        have hsz2 : wr.heap.size < (wr.alloc (.cells #[.string key, .int .i64 kd, .int .i64 nm, .string tx] 53)).heap.size := by simp
        clear hnew x0 x1 x2 x3
        generalize wr.alloc (.cells #[.string key, .int .i64 kd, .int .i64 nm, .string tx] 53) = wa at *
        obtain ⟨B1, hB1⟩ : ∃ B, wr.heap.size = B := ⟨_, rfl⟩
        have HB1 := Lib.hid hB1
        rw [hB1] at d0 d1 d2 d3 hsz2 HNE ⊢
        clear hB1
        go_region_held3 (fun w' => w'.cell? ⟨B1, 0, none⟩ = some (.string key) ∧ w'.cell? ⟨B1, 1, none⟩ = some (.int .i64 kd) ∧ w'.cell? ⟨B1, 2, none⟩ = some (.int .i64 nm) ∧ w'.cell? ⟨B1, 3, none⟩ = some (.string tx)) (first | exact ⟨d0, d1, d2, d3⟩ | exact ⟨z0, z1, z2, z3⟩ | exact ⟨y0, y1, y2, y3⟩ | (go_keep; done)) (first | (go_at_call 39; refine (putTexts_new1 rfl HRA.out (by have := HB1.out; omega) (by have := HTT.out; omega)).mono ?_; rintro x w5 ⟨v5, rfl, p1, p2⟩; have z0 := (p2.cell (a := ⟨B1, 0, none⟩) hsz2 HNE.out).trans d0; have z1 := (p2.cell (a := ⟨B1, 1, none⟩) hsz2 HNE.out).trans d1; have z2 := (p2.cell (a := ⟨B1, 2, none⟩) hsz2 HNE.out).trans d2; have z3 := (p2.cell (a := ⟨B1, 3, none⟩) hsz2 HNE.out).trans d3; have HP5 := Lib.hid p2) | (go_at_call 40; refine (putValue_any (x := (kd, nm, tx)) HPP.out.2 p1 (by have := HP5.out.gr.size; have := HB1.out; omega) (by have := HTT.out; omega)).mono ?_; rintro x w6 ⟨v6, rfl, r1, r2⟩; have HP6 := Lib.hid (HP5.out.trans r2); have y0 := (HP6.out.cell (a := ⟨B1, 0, none⟩) hsz2 HNE.out).trans d0; have y1 := (HP6.out.cell (a := ⟨B1, 1, none⟩) hsz2 HNE.out).trans d1; have y2 := (HP6.out.cell (a := ⟨B1, 2, none⟩) hsz2 HNE.out).trans d2; have y3 := (HP6.out.cell (a := ⟨B1, 3, none⟩) hsz2 HNE.out).trans d3))
        have HF := Lib.hid (show w6.ownsRow w1.heap.size 5 1 v6 (L0 ++ [oct (n : Int)] ++ propsB (e.props.take (k + 1))).length (byC (L0 ++ [oct (n : Int)] ++ propsB (e.props.take (k + 1)))) by
          have e2 : L0 ++ [oct (n : Int)] ++ propsB (e.props.take (k + 1)) = L ++ txts [key] ++ valB (kd, nm, tx) := by
            rw [HT.out, ← List.append_assoc, HL.out, HTE.out]
            simp [propB]
          rw [e2]
          exact r1)
        have HBF := Lib.hid (HB.out.trans ((HGA.out.trans HP6.out).base hsz (own_base HR.out)))
        go_wp2_with fail
        go_roundw
        case rel => exact ⟨k + 1, by omega, by go_num, HF.out, HBF.out⟩
        case measure => simp [Lib.intOf]; omega
      · obtain rfl : k = n := by omega
        rw [List.take_of_length_le (by rw [HN.out]; exact Nat.le_refl _)] at hr
        have HE := Lib.hid (show L0 ++ [oct (k : Int)] ++ propsB e.props = putB e by rw [HPB.out]; unfold putE; rw [HL0.out, HN.out])
        rw [HE.out] at hr
        have HR := Lib.hid (BR.of_own hr)
        have HCAP := Lib.hid (cap_own hr)
        clear hr
        go_wp2_with fail
        exact bodyPost_ret (v := .tuple #[u5, .int .i64 0]) (by simp [results, Try.results14, go_sem]) rfl ⟨_, rfl, HR.out, HCAP.out, HW1.out.trans (HB.out.mono HW1.out.size)⟩
  · have HE := Lib.hid (show putB e = [] by unfold putB; rw [if_neg hc0])
    obtain ⟨cc, hcc⟩ : ∃ c, checkE e = c := ⟨_, rfl⟩
    rw [hcc] at HCK hc0 ⊢
    rw [HE.out]
    have hb : (cc != 0) = true := by simpa using hc0
    unfold Ed.v at HCK ⊢
    clear hc0 hcc hs
    go_enter Try.func14, Try.ntmps14
    go_wp2_with (go_at_call 16; refine (HCK.out _ HW0.out).mono ?_; clear HCK; rintro x w1 ⟨rfl, k1⟩)
    exact bodyPost_ret (v := .tuple #[.slice none 0 0, .int .i64 cc]) (by simp [results, Try.results14, go_sem]) rfl ⟨_, rfl, BR.nil _ _ _, cap_nil, chn HW0.out k1⟩
end Go.Proofs.Ytpoefcpgcojppaa

namespace Go.Proofs.Ytpoefcpgcojppaa
open Go.ChangeShapes Go.WideShapes Go.ChangeAt Go.RowKit
set_option linter.unusedVariables false

def exE : Ed := ⟨⟨#[97]⟩, ⟨#[98]⟩, ⟨#[120]⟩, 5, [(⟨#[107]⟩, 1, 7, ⟨#[]⟩)]⟩
def exL : List UInt8 := [1, 97, 1, 98, 1, 120, 0, 0, 0, 0, 0, 5, 1, 1, 107, 1, 1, 0, 0, 0, 0, 7]
theorem ex_check : checkE exE = 0 := by
  rw [check_ok]
  refine ⟨⟨by decide +kernel, by decide +kernel, by decide +kernel, ?_⟩, by decide +kernel⟩
  refine ⟨by decide, fun k h => ?_⟩
  have h0 : k = 0 := by
    have : exE.props.length = 1 := rfl
    omega
  subst h0
  refine ⟨show freB ⟨#[107]⟩ = true by decide +kernel, show rightV (1, 7, ⟨#[]⟩) = true by decide +kernel, fun h => absurd h (by omega)⟩
theorem ex_put : putE exE = exL := by decide +kernel
theorem ex_putB : putB exE = exL := by unfold putB; rw [if_pos ex_check, ex_put]
theorem ex_parse : parseE exL = (exE, 0) := by rw [← ex_put]; exact parse_put ex_check
theorem ex_sz : SzE exE := by
  refine ⟨by decide, by decide, by decide, by decide, fun p hp => ?_⟩
  have h0 : p = (⟨#[107]⟩, 1, 7, ⟨#[]⟩) := List.mem_singleton.1 hp
  subst h0
  decide
theorem ex1 (W : World) (pv : Value) (h : PR W pv exE.props) : Calls Try.prog 14 #[.agg #[.string ⟨#[97]⟩, .string ⟨#[98]⟩, .string ⟨#[120]⟩, .int .i64 5, pv]] W fun e w' => ∃ A c, e = .returned (.tuple #[.slice A 22 c, .int .i64 0]) ∧ BR w' (.slice A 22 c) exL ∧ CapOk (.slice A 22 c) ∧ Below W.heap.size W w' := by
  refine (put_cap (e := exE) h ex_sz).mono ?_
  rintro e w' ⟨v, rfl, hb, hc, hw⟩
  rw [ex_putB] at hb
  obtain ⟨A, c, rfl⟩ := hb.form
  exact ⟨A, c, by rw [ex_check]; rfl, hb, hc, hw⟩
theorem ex2 (W : World) (v : Value) (h : BR W v exL) (hc : CapOk v) : Calls Try.prog 25 #[v] W fun e w' => ∃ A c, e = .returned (.tuple #[.agg #[.string ⟨#[97]⟩, .string ⟨#[98]⟩, .string ⟨#[120]⟩, .int .i64 5, .slice A 1 c], .int .i64 0]) ∧ PR w' (.slice A 1 c) exE.props ∧ Below W.heap.size W w' := by
  refine (parse_any h hc (by decide)).mono ?_
  rintro e w' ⟨v, rfl, hb, hw⟩
  rw [ex_parse] at hb
  obtain ⟨A, c, rfl⟩ := PR.form hb
  exact ⟨A, c, by rw [ex_parse]; rfl, hb, hw⟩
theorem ex3 (W : World) (v1 v2 : Value) (h1 : BR W v1 exL) (h2 : BR W v2 exL) : Calls Try.prog 22 #[v1, v2] W fun e w' => e = .returned (.bool true) ∧ Gr W w' := by
  refine (sameB_any h1 h2 (by decide)).mono ?_
  rintro e w' ⟨rfl, hw⟩
  exact ⟨by rw [decide_eq_true rfl], hw⟩
theorem ex4 (W : World) (v1 v2 : Value) (h1 : PR W v1 exE.props) (h2 : PR W v2 exE.props) : Calls Try.prog 27 #[.agg #[.string ⟨#[97]⟩, .string ⟨#[98]⟩, .string ⟨#[120]⟩, .int .i64 5, v1], .agg #[.string ⟨#[97]⟩, .string ⟨#[98]⟩, .string ⟨#[120]⟩, .int .i64 5, v2]] W fun e w' => e = .returned (.bool true) ∧ Gr W w' := by
  refine (sameE_any (x := exE) (y := exE) h1 h2 (by decide)).mono ?_
  rintro e w' ⟨rfl, hw⟩
  exact ⟨by rw [decide_eq_true rfl], hw⟩

theorem ex_lit : (#[.int .u8 1, .int .u8 97, .int .u8 1, .int .u8 98, .int .u8 1, .int .u8 120, .int .u8 0, .int .u8 0, .int .u8 0, .int .u8 0, .int .u8 0, .int .u8 5, .int .u8 1, .int .u8 1, .int .u8 107, .int .u8 1, .int .u8 1, .int .u8 0, .int .u8 0, .int .u8 0, .int .u8 0, .int .u8 7] : Array Value) = (byC exL).toArray := by kernel_rfl
theorem lit_br (w : World) (o : Obj) : BR ((w.alloc o).alloc (.cells #[.int .u8 1, .int .u8 97, .int .u8 1, .int .u8 98, .int .u8 1, .int .u8 120, .int .u8 0, .int .u8 0, .int .u8 0, .int .u8 0, .int .u8 0, .int .u8 5, .int .u8 1, .int .u8 1, .int .u8 107, .int .u8 1, .int .u8 1, .int .u8 0, .int .u8 0, .int .u8 0, .int .u8 0, .int .u8 7] 5)) (.slice (some ⟨w.heap.size + 1, 0, none⟩) 22 22) exL := by
  rw [ex_lit]
  have h := heap_alloc_new (w.alloc o) (.cells (byC exL).toArray 5)
  rw [World.size_alloc] at h
  refine BR.of_own (base := 0) (n := 22) (t := 5) ⟨rfl, .inr ⟨w.heap.size + 1, 22, (byC exL).toArray, rfl, Nat.zero_le _, h, Nat.le_refl _, by unfold maxLen; omega, rfl, rfl⟩⟩
theorem bx_at {w : World} {o : Obj} {v0 v1 v2 v3 v4 : Value} {t : TypeId} : Bx5 ((w.alloc o).alloc (.cells #[v0, v1, v2, v3, v4] t)) (w.heap.size + 1) v0 v1 v2 v3 v4 := by
  have h := Bx5.new (w.alloc o) v0 v1 v2 v3 v4 t
  rwa [World.size_alloc] at h

set_option maxHeartbeats 4000000 in
set_option maxRecDepth 100000 in
theorem awake_any (w : World) : Calls Try.prog 10 #[] w fun e w' => e = .returned (.bool true) ∧ Below w.heap.size w w' := by
  have F1 := Lib.hid ex1
  have F2 := Lib.hid ex2
  have F3 := Lib.hid ex3
  have F4 := Lib.hid ex4
  have HP0 := Lib.hid (PR.one w (⟨#[107]⟩, 1, 7, ⟨#[]⟩) 53)
  go_enter Try.func10, Try.ntmps10
  go_wp2_with (first
    | (go_at_call 14; refine (F1.out _ _ (HP0.out.below ((Below.refl _ _).alloc (Nat.le_refl _) _))).mono ?_; clear F1; rintro x w1 ⟨A1, c1, hx, hb1, hc1, hw1⟩; subst hx; have HB1 := Lib.hid hb1; have HC1 := Lib.hid hc1; have HW1 := Lib.hid hw1; have HX1 := Lib.hid (bx_at.below hw1); have HP1 := Lib.hid ((HP0.out.below ((Below.refl _ _).alloc (Nat.le_refl _) _)).below hw1); have HT1 := Lib.hid ((((Below.refl w.heap.size w).alloc (Nat.le_refl _) _).alloc (by simp) _).trans (hw1.mono (by simp; omega))); clear hb1 hc1 hw1)
    | (go_at_call 25; refine (F2.out _ _ HB1.out HC1.out).mono ?_; clear F2; rintro x w2 ⟨A2, c2, hx, hb2, hw2⟩; subst hx; have HP2 := Lib.hid hb2; have HW2 := Lib.hid hw2; clear hb2 hw2)
    | (go_at_call 22; have HQ := Lib.hid ((HW2.out.alloc HW2.out.size (.cells #[.string ⟨#[97]⟩, .string ⟨#[98]⟩, .string ⟨#[120]⟩, .int .i64 5, .slice A2 1 c2] 24)).alloc (by have := HW2.out.size; simp; omega) (.cells #[.int .u8 1, .int .u8 97, .int .u8 1, .int .u8 98, .int .u8 1, .int .u8 120, .int .u8 0, .int .u8 0, .int .u8 0, .int .u8 0, .int .u8 0, .int .u8 5, .int .u8 1, .int .u8 1, .int .u8 107, .int .u8 1, .int .u8 1, .int .u8 0, .int .u8 0, .int .u8 0, .int .u8 0, .int .u8 7] 5)); refine (F3.out _ _ _ (HB1.out.below HQ.out) (lit_br w2 _)).mono ?_; clear F3; rintro x w3 ⟨hx, hg3⟩; subst hx; have HG3 := Lib.hid hg3.below; have HX3 := Lib.hid ((HX1.out.below HQ.out).below HG3.out); obtain ⟨q0, q1, q2, q3, q4, _⟩ := HX3.out; have HY3 := Lib.hid (((Bx5.new w2 (.string ⟨#[97]⟩) (.string ⟨#[98]⟩) (.string ⟨#[120]⟩) (.int .i64 5) (.slice A2 1 c2) 24).below ((Below.refl _ _).alloc (Nat.le_refl _) _)).below HG3.out); obtain ⟨r0, r1, r2, r3, r4, _⟩ := HY3.out; have HT3 := Lib.hid (HT1.out.trans ((HQ.out.trans (HG3.out.mono HQ.out.size)).mono HT1.out.size)); have HP3 := Lib.hid ((HP1.out.below HQ.out).below HG3.out); have HP4 := Lib.hid ((HP2.out.below (((Below.refl _ _).alloc (Nat.le_refl _) _).alloc (by simp) _)).below HG3.out); clear hg3)
    | (go_at_call 27; refine (F4.out _ _ _ HP3.out HP4.out).mono ?_; clear F4; rintro x w4 ⟨hx, hg4⟩; subst hx)
    | fail)
  go_ret
  exact ⟨rfl, HT3.out.trans (hg4.below.mono HT3.out.size)⟩
end Go.Proofs.Ytpoefcpgcojppaa
