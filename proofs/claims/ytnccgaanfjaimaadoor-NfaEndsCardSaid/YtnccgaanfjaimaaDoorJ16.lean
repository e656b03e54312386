/- Texts KX, QK, KY, SX, one behind the other. -/
import Derived.Test.YtnccgaanfjaimaaDoorJ4
import Derived.Test.YtnccgaanfjaimaaDoorJ6
import Derived.Test.YtnccgaanfjaimaaDoorJ8
import Derived.Test.YtnccgaanfjaimaaDoorJ15
import Derived.IntWalk
import Derived.Maps.AppendAt
set_option linter.unusedSimpArgs false
set_option linter.unusedVariables false
namespace Go.Proofs.YtnccgaanfjaimaaDoor
open Go.ChangeShapes Go.WideShapes Go.ChangeAt Go.RowKit
set_option linter.unusedVariables false
set_option linter.unusedSimpArgs false

attribute [local go_sem] Oper.semAt_some

theorem mark64_any (i : Nat) (hi : i ≤ 1000) (w : World) : Calls Tryd.prog 54 #[.int .i64 1, .int .i64 i] w fun e w' => e = .returned (.int .i64 (8000024 + i)) ∧ w = w' := by
 go_enter Tryd.func54, Tryd.ntmps54
 go_wp2_with fail
 go_ret
 exact ⟨rfl, rfl⟩

/-- the mark of a place in a row of expressions -/
def mX (i : Nat) : X := .mk (8000024 + i) ⟨#[]⟩ []
set_option maxHeartbeats 2000000 in
theorem markExpr_any (i : Nat) (hi : i ≤ 1000) (w : World) : Calls Tryd.prog 65 #[.int .i64 1, .int .i64 i] w fun e w' => e = .returned (.agg #[.int .i64 (8000024 + i), .string ⟨#[]⟩, .slice none 0 0]) ∧ Below w.heap.size w w' := by
 have HG := Lib.hid (show Below w.heap.size w (w.alloc (.cells #[.int .i64 (8000024 + i), .string ⟨#[]⟩, .slice none 0 0] 25)) from (Below.refl _ w).alloc (Nat.le_refl _) _)
 go_enter Tryd.func65, Tryd.ntmps65
 go_wp2_with (go_at_call 54; refine (mark64_any i hi _).mono ?_; rintro e w' ⟨hx, hw⟩; subst hx; subst hw)
 have hn := heap_alloc_new w (.cells #[.int .i64 (8000024 + i), .string ⟨#[]⟩, .slice none 0 0] 25)
 have d0 := cell_of_row _ _ 0 _ 25 (0, 0) hn
 have d1 := cell_of_row _ _ 1 _ 25 (0, 0) hn
 have d2 := cell_of_row _ _ 2 _ 25 (0, 0) hn
 exact bodyPost_ret (v := .agg #[.int .i64 (8000024 + i), .string ⟨#[]⟩, .slice none 0 0]) (by simp [results, Tryd.results65, go_sem, d0, d1, d2]) rfl ⟨rfl, HG.out⟩

/-- an expression and its kids' value: three cells each -/
def flatP (ps : List (X × Value)) : List Value := ps.flatMap fun p => [.int .i64 p.1.kind, .string p.1.lab, p.2]
theorem flatP_nil : flatP [] = [] := rfl
theorem flatP_cons (p : X × Value) (ps : List (X × Value)) : flatP (p :: ps) = .int .i64 p.1.kind :: .string p.1.lab :: p.2 :: flatP ps := rfl
theorem flatP_app (ps qs : List (X × Value)) : flatP (ps ++ qs) = flatP ps ++ flatP qs := by unfold flatP; rw [List.flatMap_append]
theorem flatP_len : ∀ ps : List (X × Value), (flatP ps).length = ps.length * 3
 | [] => rfl
 | p :: ps => by rw [flatP_cons]; simp [flatP_len ps]; omega
theorem flatP_at : ∀ (ps : List (X × Value)) (i : Nat) (h : i < ps.length), (flatP ps)[i * 3]? = some (.int .i64 ps[i].1.kind) ∧ (flatP ps)[i * 3 + 1]? = some (.string ps[i].1.lab) ∧ (flatP ps)[i * 3 + 2]? = some ps[i].2
 | p :: ps, 0, h => ⟨rfl, rfl, rfl⟩
 | p :: ps, k + 1, h => by
  have := flatP_at ps k (by simp at h; omega)
  rw [flatP_cons, show (k + 1) * 3 = k * 3 + 1 + 1 + 1 by omega]
  simp only [show ∀ a, k * 3 + 1 + 1 + 1 + a = (k * 3 + a) + 1 + 1 + 1 by omega, List.getElem?_cons_succ]
  exact this
/-- the marks behind a row that is lent -/
def mkps : List (X × Value) := (List.range 12).map fun i : Nat => (mX i, .slice none 0 0)
theorem mkps_len : mkps.length = 12 := by simp [mkps]
theorem mkps_get (k : Nat) (h : k < mkps.length) : mkps[k] = (mX k, .slice none 0 0) := by simp [mkps]

/-- a row that is lent: a copy with marks behind it, the rows within it likewise; all lies in blocks of the kind q -/
inductive LR (q : Nat → Prop) (w : World) : Value → List X → Prop where
 | mk (g c : Nat) (ps : List (X × Value)) (hq : q g) (hc : ps.length + 12 ≤ c) (hcell : ∀ j u, (flatP (ps ++ mkps))[j]? = some u → w.cell? ⟨g, j, none⟩ = some u) (hk : ∀ p, p ∈ ps → LR q w p.2 p.1.kids) : LR q w (.slice (some ⟨g, 0, none⟩) ps.length c) (ps.map Prod.fst)
theorem LR.keep {q q' : Nat → Prop} {w w' : World} {v : Value} {xs : List X} (h : LR q w v xs) (hw : ∀ b, q b → w'.heap[b]? = w.heap[b]?) (hq : ∀ b, q b → q' b) : LR q' w' v xs := by
 induction h with
 | mk g c ps hg hc hcell hk ih => exact .mk g c ps (hq g hg) hc (fun j u hu => (World.cell?_of_block (a := ⟨g, j, none⟩) (hw g hg)).trans (hcell j u hu)) ih
theorem at_zero (g : Nat) (j : Nat) : (⟨g, 0, none⟩ : Addr).add j = ⟨g, j, none⟩ := by
 unfold Addr.add
 split
 ·next h => subst h; rfl
 ·simp
theorem LR.xr {q : Nat → Prop} {w : World} {v : Value} {xs : List X} (h : LR q w v xs) {B : Nat} (hB : ∀ b, q b → b < B) : XR B w v xs := by
 induction h with
 | mk g c ps hg hc hcell hk ih =>
  have hl : (ps.map Prod.fst).length = ps.length := by simp
  have hat : ∀ i (h : i < ps.length), w.cell? ⟨g, i * 3, none⟩ = some (.int .i64 ps[i].1.kind) ∧ w.cell? ⟨g, i * 3 + 1, none⟩ = some (.string ps[i].1.lab) ∧ w.cell? ⟨g, i * 3 + 2, none⟩ = some ps[i].2 := fun i h => by
   obtain ⟨h0, h1, h2⟩ := flatP_at (ps ++ mkps) i (by rw [List.length_append]; omega)
   rw [List.getElem_append_left h] at h0 h1 h2
   exact ⟨hcell _ _ h0, hcell _ _ h1, hcell _ _ h2⟩
  have := XR.mk (B := B) (w := w) (some ⟨g, 0, none⟩) c (ps.map Prod.fst) ⟨g, 0, none⟩ (fun i => ((ps[i]?).map Prod.snd).getD undef) (by omega) (fun _ => ⟨rfl, hB g hg⟩)
   (fun i h => by rw [at_zero, List.getElem_map]; exact (hat i (by omega)).1) (fun i h => by rw [at_zero, List.getElem_map]; exact (hat i (by omega)).2.1)
   (fun i h => by rw [at_zero, List.getElem?_eq_getElem (by omega)]; exact (hat i (by omega)).2.2) (fun i h => by
    rw [List.getElem?_eq_getElem (by omega), List.getElem_map]
    exact ih _ (List.getElem_mem _))
  rwa [hl] at this

theorem parts25 : (Tryd.prog.info? 25).map (fun i => (i.zero, i.size, i.bytes)) = some (some (.agg #[.int .i64 0, .string ⟨#[]⟩, .slice none 0 0]), 3, 48) := by kernel_rfl
theorem own_succ2 {w : World} {base e size k : Nat} {v : Value} {xs : List Value} (h : w.ownsRow base e size v (k + 1) xs) : ∃ g cap, v = .slice (some ⟨g, 0, none⟩) (k + 1) cap ∧ k + 1 ≤ cap ∧ cap ≤ maxLen ∧ base ≤ g ∧ g < w.heap.size := by
 rcases h.2 with ⟨_, h0⟩ | ⟨g, cap, cur, rfl, hb, hg, h1, h2, _⟩
 ·omega
 ·exact ⟨g, cap, rfl, h1, h2, hb, (Array.getElem?_eq_some_iff.1 hg).1⟩

/-- what is told of a row that is lent -/
def L32 (w : World) (xs : List X) (e : Ending) (w' : World) : Prop := ∃ v', e = .returned v' ∧ LR (fun b => w.heap.size ≤ b ∧ b < w'.heap.size) w' v' xs ∧ Below w.heap.size w w'
def L9 (x : X) : Prop := ∀ (N : Nat) (w : World) (v : Value), XV N w v x → N ≤ w.heap.size → Calls Tryd.prog 10 #[v] w fun e w' => ∃ kv, e = .returned (.agg #[.int .i64 x.kind, .string x.lab, kv]) ∧ LR (fun b => w.heap.size ≤ b ∧ b < w'.heap.size) w' kv x.kids ∧ Below w.heap.size w w'

/-- the kids that are lent so far -/
structure LK (W : World) (base : Nat) (v : Value) (ps : List (X × Value)) : Prop where
 hk : ∀ p, p ∈ ps → LR (fun b => base ≤ b ∧ b < W.heap.size ∧ v.ownBlock ≠ some b) W p.2 p.1.kids
/-- the row grows: what the kids hold stays -/
theorem LK.grown {W W1 W' : World} {base : Nat} {v v' : Value} {ps : List (X × Value)} (h : LK W base v ps) (h1 : Below W.heap.size W W1) (hg : W1.grownBy W' v.ownBlock) (hat : v'.ownBlock = v.ownBlock ∨ v'.ownBlock = some W1.heap.size) : LK W' base v' ps :=
 ⟨fun p hp => (h.hk p hp).keep (fun b hb => (hg.block b (Nat.lt_of_lt_of_le hb.2.1 h1.size) (fun e => hb.2.2 e.symm)).trans (h1.block b hb.2.1)) (fun b hb => ⟨hb.1, Nat.lt_of_lt_of_le hb.2.1 (Nat.le_trans h1.size hg.size), fun e => by
  rcases hat with h2 | h2
  ·rw [h2] at e; exact hb.2.2 e
  ·rw [h2] at e
   injection e with e
   have := h1.size
   omega⟩)⟩
end Go.Proofs.YtnccgaanfjaimaaDoor

namespace Go.Proofs.YtnccgaanfjaimaaDoor
open Go.ChangeShapes Go.WideShapes Go.ChangeAt Go.RowKit Go.Sort
set_option linter.unusedVariables false
set_option linter.unusedSimpArgs false

attribute [local go_sem] Oper.semAt_some

theorem IR.news {w : World} {ad : Addr} {n c : Nat} {l : List Int} (h : IR w (.slice (some ad) n c) l) : ∀ j u, (l.map (Value.int .i64))[j]? = some u → w.cell? (ad.add j) = some u := by
 intro j u hu
 obtain ⟨A', c', e, hc⟩ := h
 have hj : j < l.length := by have := (List.getElem?_eq_some_iff.1 hu).1; simpa using this
 obtain ⟨ad', e2, _, hcell⟩ := hc (by omega)
 injection e with e3
 rw [e2] at e3
 injection e3 with e3
 subst e3
 rw [hcell j hj]
 simp [hj] at hu
 rw [hu]
theorem IR.len {w : World} {A : Option Addr} {n c : Nat} {l : List Int} (h : IR w (.slice A n c) l) : n = l.length := by
 obtain ⟨A', c', e, hc⟩ := h
 injection e
theorem IR.none {w : World} {n c : Nat} {l : List Int} (h : IR w (.slice none n c) l) : l = [] := by
 obtain ⟨A', c', e, hc⟩ := h
 rcases Nat.eq_zero_or_pos l.length with h0 | h0
 ·exact List.eq_nil_of_length_eq_zero h0
 ·obtain ⟨ad, e2, _⟩ := hc h0
  injection e with e3
  rw [e2] at e3
  cases e3
theorem run_app_ir {w : World} (ty : TypeId) (base : Nat) (v : Value) (n : Nat) (xs : List Value) (hown : w.ownsRow base 3 1 v n xs) (A : Option Addr) (m c : Nat) (l : List Int) (hr : IR w (.slice A m c) l) (hn : n + m ≤ 4398046511104) (hbase : base ≤ w.heap.size) :
  ∃ v' w', (Builtin.append_ #[37, 37] ty #[v, .slice A m c]).run Tryd.prog w = .ok v' w' ∧ w'.ownsRow base 3 1 v' (n + m) (xs ++ l.map (Value.int .i64)) ∧ w.grownBy w' v.ownBlock ∧ (v'.ownBlock = v.ownBlock ∨ v'.ownBlock = some w.heap.size) := by
 obtain ⟨i9, hi9, hz9, hs9, hb9⟩ := info_parts info3
 obtain rfl := hr.len
 cases A with
 | none =>
  obtain rfl := hr.none
  exact ⟨v, w, run_app_nil (P := Tryd.prog) base 37 ty 3 i9 1 Tryd.underlying37 hi9 v n xs hown c, by simpa using hown, ⟨rfl, rfl, rfl, Nat.le_refl _, fun _ _ _ => rfl⟩, .inl rfl⟩
 | some ad =>
  obtain ⟨v', w', hrun, h2, h3, h4, h5⟩ := run_append_own_at (P := Tryd.prog) w base 37 ty 3 i9 (.int .i64 0) 1 8 Tryd.underlying37 hi9 hz9 hs9 hb9 rfl (by decide) v n xs hown ad l.length c (l.map (Value.int .i64)) (by simp) hr.news (by simp [Value.oneCell']) (by unfold maxLen; omega) (by omega) hbase
  exact ⟨v', w', hrun, h2, h3, h5⟩
theorem wpList_append_ir {w : World} {ops : Array Oper} {rest : List Oper} {o : Oper} {a : Act} {Q : Exit → Act → World → Prop} (hgd : o.guard = none) (s x : Operand)
  (ho : o.op = .call { callee := .builtin .append, args := #[s, x], argTypes := #[37, 37] })
  (base : Nat) (v : Value) (n : Nat) (xs : List Value) (hs : a.eval s = v) (hown : w.ownsRow base 3 1 v n xs) (A : Option Addr) (m c : Nat) (l : List Int) (hx : a.eval x = .slice A m c) (hr : IR w (.slice A m c) l)
  (hn : n + m ≤ 4398046511104) (hbase : base ≤ w.heap.size)
  (h : ∀ v' w', w'.ownsRow base 3 1 v' (n + m) (xs ++ l.map (Value.int .i64)) → w.grownBy w' v.ownBlock → (v'.ownBlock = v.ownBlock ∨ v'.ownBlock = some w.heap.size) → wpList Tryd.prog ops Q rest (a.put o.dst v') w') : wpList Tryd.prog ops Q (o :: rest) a w := by
 refine wpList_plain hgd fun K hK => ?_
 obtain ⟨v', w', hr2, h2, h3, h5⟩ := run_app_ir (w := w) o.type base v n xs hown A m c l hr hn hbase
 unfold Oper.wp execOp
 simp only [ho, resolve, invoke, builtin, Sem.run_bind, Sem.run_pure, Result.andThen_ok, List.map_toArray, List.map_cons, List.map_nil, hs, hx, hr2]
 exact hK _ _ (h v' w' h2 h3 h5)

theorem markI_any (k : Nat) (hk : k ≤ 2) (i : Nat) (hi : i ≤ 1000) (w : World) : Calls Tryd.prog 54 #[.int .i64 k, .int .i64 i] w fun e w' => (∃ x, e = .returned (.int .i64 x)) ∧ w = w' := by
 go_enter Tryd.func54, Tryd.ntmps54
 go_wp2_with fail
 go_ret
 exact ⟨⟨_, rfl⟩, rfl⟩
/-- the marks behind a row that is lent -/
def mkI : List Int := (List.range 12).map fun i : Nat => 8000024 + (i : Int)
theorem mkI_len : mkI.length = 12 := by simp [mkI]
theorem mkI_get (k : Nat) (h : k < mkI.length) : mkI[k] = 8000024 + (k : Int) := by simp [mkI]

/-- a row that is lent: a copy, with marks behind it -/
def LentI (l : List Int) (w : World) (e : Ending) (w' : World) : Prop :=
 ∃ g c, e = .returned (.slice (some ⟨g, 0, none⟩) l.length c) ∧ w'.ownsRow w.heap.size 3 1 (.slice (some ⟨g, 0, none⟩) (l.length + 12) c) (l.length + 12) ((l ++ mkI).map (Value.int .i64)) ∧ Below w.heap.size w w'

set_option maxHeartbeats 2000000 in
theorem lentI_any (v : Value) (l : List Int) (w : World) (hv : IR w v l) (hll : l.length ≤ 100000) : Calls Tryd.prog 25 #[v] w (LentI l w) := by
 obtain ⟨i9, hi9, hz9, hs9, hb9⟩ := info_parts info3
 have HV := Lib.hid (fun W (h : Below w.heap.size w W) => hv.bel h)
 obtain ⟨A, c, rfl, hv2⟩ := hv
 clear hv2
 unfold LentI
 obtain ⟨n, hn⟩ : ∃ n, l.length = n := ⟨_, rfl⟩
 have HLN := Lib.hid hn
 rw [hn] at HV hll ⊢
 clear hn
 obtain ⟨M, hM⟩ : ∃ M, M = madeCells (Value.int .i64 0).cells ((n + 12) * i9.size) := ⟨_, rfl⟩
 have hMs : M.size = (n + 12) * 1 := by rw [hM, size_madeCells, hs9]
 have eN : ((n : Int) + 12).toNat = n + 12 := by omega
 have hmk : ∀ W : World, (Instr.makeSlice 37 (.int .i64 0) (.int .i64 ((n : Int) + 12))).run Tryd.prog W = .ok (.slice (some ⟨W.heap.size, 0, none⟩) 0 (n + 12)) (W.alloc (.cells M 3)) := fun W => by
  have h := run_make (P := Tryd.prog) W 37 3 i9 (.int .i64 0) Tryd.underlying37 hi9 hz9 .i64 .i64 0 ((n : Int) + 12) (by omega) (by omega) (by rw [hb9]; omega) (by omega)
  rw [eN, ← hM] at h
  simpa using h
 have HMS := Lib.hid hMs
 clear hM hMs eN
 go_enter Tryd.func25, Tryd.ntmps25
 go_upto_region 4 with (at_builtin; refine wpList_append_ir rfl _ _ rfl w.heap.size (.slice (some ⟨w.heap.size, 0, none⟩) 0 (n + 12)) 0 [] rfl (World.ownsRow_made w M (n + 12) (Nat.le_refl _) (by unfold maxLen; omega) HMS.out) A n c l rfl (HV.out _ ((Below.refl _ _).alloc (Nat.le_refl _) _)) (by omega) (by simp) ?_; intro v1 w1 hown1 hgrow1 hloc1)
 have hB1 : Below w.heap.size w w1 := ((Below.refl _ w).alloc (Nat.le_refl _) _).grown hgrow1 (by simp) (fun k hk => by simp [Value.ownBlock] at hk; omega)
 have HB1 := Lib.hid hB1
 have HOWN1 := Lib.hid hown1
 clear hgrow1 hloc1 hown1 hB1 hmk
 go_loopw [3, 4] (fun v i wr => ∃ k : Nat, k ≤ 12 ∧ i = .int .i64 k ∧ wr.ownsRow w.heap.size 3 1 v (n + k) ((l ++ mkI.take k).map (Value.int .i64)) ∧ Below w.heap.size w wr) (fun _ i _ => 13 - (intOf i).toNat)
 case atStart => exact ⟨0, Nat.zero_le _, rfl, by simpa using HOWN1.out, HB1.out⟩
 case round =>
  obtain ⟨k, hk, rfl, hrow, hbe⟩ := hrel
  have HROW := Lib.hid hrow
  have HBE := Lib.hid hbe
  have hzr := hbe.size
  by_cases hlt : k < 12
  ·have hk12 : (k : Int) < 12 := by omega
   clear hrow hbe
   have HMK := Lib.hid (fun W => mark64_any k (by omega) W)
   obtain ⟨t, ht⟩ : ∃ t, 8000024 + (k : Int) = t := ⟨_, rfl⟩
   have HT := Lib.hid ht
   rw [ht] at HMK
   clear ht
   go_wp2_with (first
    | (go_at_call 54; refine (HMK.out _).mono ?_; rintro e w2 ⟨rfl, hb2⟩; subst hb2)
    | (at_builtin; refine wpList_append_own_at _ rfl _ _ 37 rfl w.heap.size 3 i9 (.int .i64 0) 1 8 Tryd.underlying37 hi9 hz9 hs9 hb9 rfl (by decide) _ _ _ rfl (HROW.out.alloc _) ⟨wr.heap.size, 0, none⟩ 1 1 [.int .i64 t] rfl rfl (cell_one_new _ _ _) (by simp [Value.oneCell']) (by unfold maxLen; omega) (by omega) (by simp; omega) ?_; intro v' w4 hown' hgrow hnil hloc))
   go_roundw
   case rel =>
    refine ⟨k + 1, by omega, by go_num, ?_, ?_⟩
    ·rw [List.take_succ_eq_append_getElem (by rw [mkI_len]; exact hlt), mkI_get, HT.out]
     simpa [Nat.add_assoc] using hown'
    ·exact (HBE.out.alloc (by omega) _).grown hgrow (by simp; omega) (fun g hg => (HROW.out.lt g hg).1)
   case measure => simp [intOf]; omega
  ·obtain rfl : k = 12 := by omega
   rw [List.take_of_length_le (by rw [mkI_len]; exact Nat.le_refl _)] at hrow
   obtain ⟨g, cap, rfl, hcap, _⟩ := own_succ (k := n + 11) hrow
   have hc2 : n ≤ cap := by omega
   have hc3 : (n : Int) ≤ (cap : Int) := by omega
   have HR2 := Lib.hid hrow
   clear hrow hbe
   go_wp2_with fail
   go_ret
   exact ⟨g, cap, rfl, HR2.out, HBE.out⟩

set_option maxHeartbeats 1000000 in
theorem overI_nil (w : World) : Calls Tryd.prog 15 #[.slice none 0 0] w fun e w' => e = .returned (.tuple #[]) ∧ w = w' := by
 go_enter Tryd.func15, Tryd.ntmps15
 go_wp2_with fail
 refine wp_loop_rounds 1 ?_
 rw [rounds_succ]
 go_wp2_with fail
 go_end0
 exact ⟨rfl, rfl⟩
set_option maxHeartbeats 1000000 in
theorem overI_any (b g n c : Nat) (cur : Array Value) (w : World) (hb : b ≤ g) (hg : w.heap[g]? = some (.cells cur 3 (0, 0))) (hc : cur.size = c) (hnc : n ≤ c) (hn : n ≤ 900) (hcm : c ≤ maxLen) :
  Calls Tryd.prog 15 #[.slice (some ⟨g, 0, none⟩) n c] w fun e w' => e = .returned (.tuple #[]) ∧ Below b w w' := by
 unfold maxLen at hcm
 have HG := Lib.hid hg
 have HC := Lib.hid hc
 clear hg hc
 obtain ⟨q, hq⟩ : ∃ q, q = min c (n + 12) := ⟨_, rfl⟩
 have hmin : min (c : Int) ((n : Int) + 12) = (q : Int) := by omega
 have hqc : q ≤ c := by omega
 have hq9 : q ≤ 912 := by omega
 clear hq
 go_enter Tryd.func15, Tryd.ntmps15
 go_wp2_with fail
 clear hmin
 go_loopw [3] (fun i wr => ∃ k : Nat, k ≤ q ∧ i = .int .i64 k ∧ Below b w wr ∧ ∃ cur' : Array Value, cur'.size = c ∧ wr.heap[g]? = some (.cells cur' 3 (0, 0))) (fun i _ => q - (intOf i).toNat)
 case atStart => exact ⟨0, Nat.zero_le _, rfl, Below.refl _ _, cur, HC.out, HG.out⟩
 case round =>
  obtain ⟨k, hk, rfl, hkp, cur', hcs, hcur⟩ := hrel
  have HKP := Lib.hid hkp
  have HCS := Lib.hid hcs
  have HCUR := Lib.hid hcur
  clear hkp hcs
  by_cases hlt : k < q
  ·obtain ⟨y, gk⟩ : ∃ y, wr.cell? ⟨g, k, none⟩ = some y := ⟨cur'[k]'(by rw [HCS.out]; omega), by rw [cell_of_row wr g k cur' 3 (0, 0) hcur]; simp⟩
   have gf : wr.frozen? ⟨g, k, none⟩ = false := by simp [World.frozen?, hcur]
   clear hcur
   go_wp2_with fail
   refine (markI_any 2 (by omega) k (by omega) _).mono ?_
   rintro e w2 ⟨⟨x, rfl⟩, rfl⟩
   go_wp2_with fail
   go_roundw
   case rel => exact ⟨k + 1, by omega, by go_num, HKP.out.setCell hb _, set_blk HCUR.out HCS.out _⟩
   case measure => simp [intOf]; omega
  ·obtain rfl : k = q := by omega
   clear hcur
   go_wp2_with fail
   go_end0
   exact ⟨rfl, HKP.out⟩
/-- the numbers that were told are written over: what lies below their own row stays -/
theorem overI_own {w : World} {base n : Nat} {v : Value} {xs : List Value} (h : w.ownsRow base 3 1 v n xs) (hn : n ≤ 900) :
  Calls Tryd.prog 15 #[v] w fun e w' => e = .returned (.tuple #[]) ∧ Below base w w' := by
 rcases h.2 with ⟨rfl, rfl⟩ | ⟨g, cap, cur, rfl, hb, hh, hnc, hcm, hcs, _⟩
 ·exact (overI_nil w).mono fun e w' ⟨he, hk⟩ => ⟨he, by rw [hk]; exact Below.refl _ _⟩
 ·exact overI_any base g n cap cur w hb hh (by simpa using hcs) hnc hn hcm

set_option maxHeartbeats 4000000 in
set_option maxRecDepth 100000 in
/-- a row that is lent stays as it was -/
theorem keptI_any {B : Nat} {w : World} {g c : Nat} {l : List Int} {v : Value} (hcell : ∀ W, Below B w W → ∀ j (hj : j < (l ++ mkI).length), W.cell? ⟨g, j, none⟩ = some (.int .i64 (l ++ mkI)[j])) (hcap : l.length + 12 ≤ c) (hv : IR w v l) (hB : B ≤ w.heap.size) (hl : l.length ≤ 900) :
  Calls Tryd.prog 31 #[.slice (some ⟨g, 0, none⟩) l.length c, v] w fun e w' => e = .returned (.bool true) ∧ Below w.heap.size w w' := by
 have HV := Lib.hid (fun W (h : Below w.heap.size w W) => hv.bel h)
 obtain ⟨A, cl, rfl, hv2⟩ := hv
 have HCELL := Lib.hid (fun W (h : Below w.heap.size w W) => hcell W (h.mono hB))
 obtain ⟨n, hn⟩ : ∃ n, l.length = n := ⟨_, rfl⟩
 have HN := Lib.hid hn
 rw [hn] at hcap hl HV
 obtain ⟨q, hq⟩ : ∃ q, q = n + 12 := ⟨_, rfl⟩
 have HQ := Lib.hid hq
 have hnat : ((n : Int) + 12).toNat = q := by omega
 have hci : (n : Int) + 12 ≤ (c : Int) := by omega
 have hqc : q ≤ c := by omega
 have hq9 : q ≤ 912 := by omega
 have hqi : (n : Int) + 12 = (q : Int) := by omega
 rw [hn]
 clear hn hq hcell hv2
 go_enter Tryd.func31, Tryd.ntmps31
 go_upto_region 5 with (fail)
 clear hnat hci
 go_loopw [6] (fun i wr => ∃ k : Nat, k ≤ q ∧ i = .int .i64 k ∧ Below w.heap.size w wr) (fun i _ => q + 1 - (intOf i).toNat)
 case atStart => exact ⟨0, Nat.zero_le _, rfl, Below.refl _ _⟩
 case round =>
  obtain ⟨k, hk, rfl, hbe⟩ := hrel
  have HBE := Lib.hid hbe
  by_cases hlt : k < q
  ·have hkl : k < (l ++ mkI).length := by rw [List.length_append, mkI_len, HN.out, ← HQ.out]; exact hlt
   have gk := fun W (h : Below wr.heap.size wr W) => HCELL.out W (hbe.trans (h.mono hbe.size)) k hkl
   obtain ⟨t, ht⟩ : ∃ t, (l ++ mkI)[k] = t := ⟨_, rfl⟩
   rw [ht] at gk
   have hk0 : (0 : Int) ≤ (k : Int) := by omega
   have hkq : (k : Int) < (q : Int) := by omega
   have hkqn : ¬ (q ≤ k) := by omega
   go_upto_region 7 with (fail)
   have G0 := Lib.hid (Below.refl wr.heap.size wr).drew
   by_cases hkn : k < n
   ·obtain ⟨A', c', hA, hr3⟩ := HV.out wr hbe
    injection hA with hA1 hA2 hA3
    subst hA1
    subst hA3
    obtain ⟨ad, rfl, hg3, hc3⟩ := hr3 (by rw [HN.out]; omega)
    have hck := hc3 k (by rw [HN.out]; exact hkn)
    have e : l[k]'(by rw [HN.out]; exact hkn) = t := by rw [← ht, List.getElem_append_left]
    rw [e] at hck
    have hkni : (k : Int) < (n : Int) := by omega
    have hkni2 : ¬ (n : Int) ≤ (k : Int) := by omega
    have HS := Lib.hid (fun W (h : Below wr.heap.size wr W) => And.intro (gk W h) ((World.cell?_of_block (h.block _ (by rw [block_add]; have := hbe.size; omega))).trans hck))
    clear hc3 hr3 e ht hbe gk hck hA2 HV HCELL HQ hcap hl
    refine wp_region_noPanic ?_
    refine wp_region_held_drew (S := fun W => (W.cell? ⟨g, k, none⟩ = some (.int .i64 t) ∧ W.cell? (ad.add k) = some (.int .i64 t))) (by kernel_rfl) (HS.out _ G0.out) (fun hHeld => ?_)
    clear hHeld
    refine tkI (i := 0) (v := .int .i64 k) rfl ⟨by rfl, ?_⟩ (HS.out _ G0.out) ?_
    ·intro w hSw
     obtain ⟨hs0, hs1⟩ := hSw
     go_simp
    try simp only [Act.put, z1, z2, z3, z4, z5, z6]
    refine tkI (i := 1) (v := .slice (some ad) n cl) rfl ⟨by rfl, ?_⟩ (HS.out _ G0.out) ?_
    ·intro w hSw
     obtain ⟨hs0, hs1⟩ := hSw
     go_simp
    try simp only [Act.put, z1, z2, z3, z4, z5, z6]
    refine tkI (i := 2) (v := .int .i64 n) rfl ⟨by rfl, ?_⟩ (HS.out _ G0.out) ?_
    ·intro w hSw
     obtain ⟨hs0, hs1⟩ := hSw
     go_simp
    try simp only [Act.put, z1, z2, z3, z4, z5, z6]
    refine tkI (i := 3) (v := .bool true) rfl ⟨by rfl, ?_⟩ (HS.out _ G0.out) ?_
    ·intro w hSw
     obtain ⟨hs0, hs1⟩ := hSw
     go_simp
    try simp only [Act.put, z1, z2, z3, z4, z5, z6]
    refine tkI (i := 4) (v := .bool true) rfl ⟨by rfl, ?_⟩ (HS.out _ G0.out) ?_
    ·intro w hSw
     obtain ⟨hs0, hs1⟩ := hSw
     go_simp
    try simp only [Act.put, z1, z2, z3, z4, z5, z6]
    refine tkI (i := 5) (v := .slice (some ⟨g, 0, none⟩) q c) rfl ⟨by rfl, ?_⟩ (HS.out _ G0.out) ?_
    ·intro w hSw
     obtain ⟨hs0, hs1⟩ := hSw
     go_simp
    try simp only [Act.put, z1, z2, z3, z4, z5, z6]
    refine tkI (i := 6) (v := .int .i64 k) rfl ⟨by rfl, ?_⟩ (HS.out _ G0.out) ?_
    ·intro w hSw
     obtain ⟨hs0, hs1⟩ := hSw
     go_simp
    try simp only [Act.put, z1, z2, z3, z4, z5, z6]
    refine tkI (i := 7) (v := .pointer (some ⟨g, k, none⟩)) rfl ⟨by rfl, ?_⟩ (HS.out _ G0.out) ?_
    ·intro w hSw
     obtain ⟨hs0, hs1⟩ := hSw
     go_simp
    try simp only [Act.put, z1, z2, z3, z4, z5, z6]
    refine tkI (i := 8) (v := .int .i64 t) rfl ⟨by rfl, ?_⟩ (HS.out _ G0.out) ?_
    ·intro w hSw
     obtain ⟨hs0, hs1⟩ := hSw
     go_simp
    try simp only [Act.put, z1, z2, z3, z4, z5, z6]
    refine tkI (i := 9) (v := .slice (some ad) n cl) rfl ⟨by rfl, ?_⟩ (HS.out _ G0.out) ?_
    ·intro w hSw
     obtain ⟨hs0, hs1⟩ := hSw
     go_simp
    try simp only [Act.put, z1, z2, z3, z4, z5, z6]
    refine tkI (i := 10) (v := .int .i64 k) rfl ⟨by rfl, ?_⟩ (HS.out _ G0.out) ?_
    ·intro w hSw
     obtain ⟨hs0, hs1⟩ := hSw
     go_simp
    try simp only [Act.put, z1, z2, z3, z4, z5, z6]
    refine tkI (i := 11) (v := .pointer (some (ad.add k))) rfl ⟨by rfl, ?_⟩ (HS.out _ G0.out) ?_
    ·intro w hSw
     obtain ⟨hs0, hs1⟩ := hSw
     go_simp
    try simp only [Act.put, z1, z2, z3, z4, z5, z6]
    refine tkI (i := 12) (v := .int .i64 t) rfl ⟨by rfl, ?_⟩ (HS.out _ G0.out) ?_
    ·intro w hSw
     obtain ⟨hs0, hs1⟩ := hSw
     go_simp
    try simp only [Act.put, z1, z2, z3, z4, z5, z6]
    refine tkI (i := 13) (v := .bool true) rfl ⟨by rfl, ?_⟩ (HS.out _ G0.out) ?_
    ·intro w hSw
     obtain ⟨hs0, hs1⟩ := hSw
     (go_simp; try simp)
    try simp only [Act.put, z1, z2, z3, z4, z5, z6]
    refine tkI (i := 14) (v := .bool false) rfl ⟨by rfl, ?_⟩ (HS.out _ G0.out) ?_
    ·intro w hSw
     obtain ⟨hs0, hs1⟩ := hSw
     go_simp
    try simp only [Act.put, z1, z2, z3, z4, z5, z6]
    refine tkI (i := 15) (v := .bool false) rfl ⟨by rfl, ?_⟩ (HS.out _ G0.out) ?_
    ·intro w hSw
     obtain ⟨hs0, hs1⟩ := hSw
     go_simp
    try simp only [Act.put, z1, z2, z3, z4, z5, z6]
    refine tkI (i := 16) (v := .bool false) rfl ⟨by rfl, ?_⟩ (HS.out _ G0.out) ?_
    ·intro w hSw
     obtain ⟨hs0, hs1⟩ := hSw
     go_simp
    try simp only [Act.put, z1, z2, z3, z4, z5, z6]
    refine tkI (i := 17) (v := .int .i64 k) rfl ⟨by rfl, ?_⟩ (HS.out _ G0.out) ?_
    ·intro w hSw
     obtain ⟨hs0, hs1⟩ := hSw
     go_simp
    try simp only [Act.put, z1, z2, z3, z4, z5, z6]
    refine tkI (i := 18) (v := .slice (some ad) n cl) rfl ⟨by rfl, ?_⟩ (HS.out _ G0.out) ?_
    ·intro w hSw
     obtain ⟨hs0, hs1⟩ := hSw
     go_simp
    try simp only [Act.put, z1, z2, z3, z4, z5, z6]
    refine tkI (i := 19) (v := .int .i64 n) rfl ⟨by rfl, ?_⟩ (HS.out _ G0.out) ?_
    ·intro w hSw
     obtain ⟨hs0, hs1⟩ := hSw
     go_simp
    try simp only [Act.put, z1, z2, z3, z4, z5, z6]
    refine tkI (i := 20) (v := .bool false) rfl ⟨by rfl, ?_⟩ (HS.out _ G0.out) ?_
    ·intro w hSw
     obtain ⟨hs0, hs1⟩ := hSw
     go_simp
    try simp only [Act.put, z1, z2, z3, z4, z5, z6]
    refine tkI (i := 21) (v := .bool false) rfl ⟨by rfl, ?_⟩ (HS.out _ G0.out) ?_
    ·intro w hSw
     obtain ⟨hs0, hs1⟩ := hSw
     go_simp
    try simp only [Act.put, z1, z2, z3, z4, z5, z6]
    refine tkU (i := 22) rfl (by rfl) (HS.out _ G0.out) ?_
    try simp only [Act.put, z1, z2, z3, z4, z5, z6]
    refine tkU (i := 23) rfl (by rfl) (HS.out _ G0.out) ?_
    try simp only [Act.put, z1, z2, z3, z4, z5, z6]
    refine tkU (i := 24) rfl (by rfl) (HS.out _ G0.out) ?_
    try simp only [Act.put, z1, z2, z3, z4, z5, z6]
    refine tkU (i := 25) rfl (by rfl) (HS.out _ G0.out) ?_
    try simp only [Act.put, z1, z2, z3, z4, z5, z6]
    refine tkU (i := 26) rfl (by rfl) (HS.out _ G0.out) ?_
    try simp only [Act.put, z1, z2, z3, z4, z5, z6]
    refine tkU (i := 27) rfl (by rfl) (HS.out _ G0.out) ?_
    try simp only [Act.put, z1, z2, z3, z4, z5, z6]
    refine tkU (i := 28) rfl (by rfl) (HS.out _ G0.out) ?_
    try simp only [Act.put, z1, z2, z3, z4, z5, z6]
    refine tkU (i := 29) rfl (by rfl) (HS.out _ G0.out) ?_
    try simp only [Act.put, z1, z2, z3, z4, z5, z6]
    refine tkU (i := 30) rfl (by rfl) (HS.out _ G0.out) ?_
    try simp only [Act.put, z1, z2, z3, z4, z5, z6]
    refine tkU (i := 31) rfl (by rfl) (HS.out _ G0.out) ?_
    try simp only [Act.put, z1, z2, z3, z4, z5, z6]
    refine tkU (i := 32) rfl (by rfl) (HS.out _ G0.out) ?_
    try simp only [Act.put, z1, z2, z3, z4, z5, z6]
    refine tkI (i := 33) (v := .bool false) rfl ⟨by rfl, ?_⟩ (HS.out _ G0.out) ?_
    ·intro w hSw
     obtain ⟨hs0, hs1⟩ := hSw
     go_simp
    try simp only [Act.put, z1, z2, z3, z4, z5, z6]
    refine tkI (i := 34) (v := .bool false) rfl ⟨by rfl, ?_⟩ (HS.out _ G0.out) ?_
    ·intro w hSw
     obtain ⟨hs0, hs1⟩ := hSw
     go_simp
    try simp only [Act.put, z1, z2, z3, z4, z5, z6]
    refine ⟨by kernel_rfl, ?_⟩
    refine NoPanic.normal ?_
    go_wp2_with fail
    go_roundw
    case rel => exact ⟨k + 1, by omega, by go_num, HBE.out.trans (G0.out.mono HBE.out.size)⟩
    case measure => simp [intOf]; omega
   ·obtain ⟨j, hj⟩ : ∃ j : Nat, j = k - n := ⟨_, rfl⟩
    have hsub : (k : Int) - (n : Int) = (j : Int) := by omega
    have hj12 : j < 12 := by have := HQ.out; omega
    have hwr : IntKind.i64.wrap (j : Int) = (j : Int) := IntWalk.i64_in _ ⟨by omega, by omega⟩
    have hjm : j < mkI.length := by rw [mkI_len]; exact hj12
    have hT : 8000024 + (j : Int) = t := by
     rw [← mkI_get j hjm, ← ht, List.getElem_append_right (by rw [HN.out]; omega)]
     congr 1
     rw [HN.out, hj]
    have HMK := Lib.hid (fun W => mark64_any j (by omega) W)
    have HT := Lib.hid hT
    have hkni : ¬ (k : Int) < (n : Int) := by omega
    have hkni2 : (n : Int) ≤ (k : Int) := by omega
    have HS := Lib.hid gk
    clear ht hT hj hbe gk HV HCELL HQ hcap hl hjm
    refine wp_region_noPanic ?_
    refine wp_region_held_drew (S := fun W => W.cell? ⟨g, k, none⟩ = some (.int .i64 t)) (by kernel_rfl) (HS.out _ G0.out) (fun hHeld => ?_)
    clear hHeld
    refine tkI (i := 0) (v := .int .i64 k) rfl ⟨by rfl, ?_⟩ (HS.out _ G0.out) ?_
    ·intro w hSw
     obtain hs0 := hSw
     go_simp
    try simp only [Act.put, z1, z2, z3, z4, z5, z6]
    refine tkI (i := 1) (v := .slice A n cl) rfl ⟨by rfl, ?_⟩ (HS.out _ G0.out) ?_
    ·intro w hSw
     obtain hs0 := hSw
     go_simp
    try simp only [Act.put, z1, z2, z3, z4, z5, z6]
    refine tkI (i := 2) (v := .int .i64 n) rfl ⟨by rfl, ?_⟩ (HS.out _ G0.out) ?_
    ·intro w hSw
     obtain hs0 := hSw
     go_simp
    try simp only [Act.put, z1, z2, z3, z4, z5, z6]
    refine tkI (i := 3) (v := .bool false) rfl ⟨by rfl, ?_⟩ (HS.out _ G0.out) ?_
    ·intro w hSw
     obtain hs0 := hSw
     go_simp
    try simp only [Act.put, z1, z2, z3, z4, z5, z6]
    refine tkI (i := 4) (v := .bool false) rfl ⟨by rfl, ?_⟩ (HS.out _ G0.out) ?_
    ·intro w hSw
     obtain hs0 := hSw
     go_simp
    try simp only [Act.put, z1, z2, z3, z4, z5, z6]
    refine tkU (i := 5) rfl (by rfl) (HS.out _ G0.out) ?_
    try simp only [Act.put, z1, z2, z3, z4, z5, z6]
    refine tkU (i := 6) rfl (by rfl) (HS.out _ G0.out) ?_
    try simp only [Act.put, z1, z2, z3, z4, z5, z6]
    refine tkU (i := 7) rfl (by rfl) (HS.out _ G0.out) ?_
    try simp only [Act.put, z1, z2, z3, z4, z5, z6]
    refine tkU (i := 8) rfl (by rfl) (HS.out _ G0.out) ?_
    try simp only [Act.put, z1, z2, z3, z4, z5, z6]
    refine tkU (i := 9) rfl (by rfl) (HS.out _ G0.out) ?_
    try simp only [Act.put, z1, z2, z3, z4, z5, z6]
    refine tkU (i := 10) rfl (by rfl) (HS.out _ G0.out) ?_
    try simp only [Act.put, z1, z2, z3, z4, z5, z6]
    refine tkU (i := 11) rfl (by rfl) (HS.out _ G0.out) ?_
    try simp only [Act.put, z1, z2, z3, z4, z5, z6]
    refine tkU (i := 12) rfl (by rfl) (HS.out _ G0.out) ?_
    try simp only [Act.put, z1, z2, z3, z4, z5, z6]
    refine tkU (i := 13) rfl (by rfl) (HS.out _ G0.out) ?_
    try simp only [Act.put, z1, z2, z3, z4, z5, z6]
    refine tkU (i := 14) rfl (by rfl) (HS.out _ G0.out) ?_
    try simp only [Act.put, z1, z2, z3, z4, z5, z6]
    refine tkI (i := 15) (v := .bool false) rfl ⟨by rfl, ?_⟩ (HS.out _ G0.out) ?_
    ·intro w hSw
     obtain hs0 := hSw
     go_simp
    try simp only [Act.put, z1, z2, z3, z4, z5, z6]
    refine tkI (i := 16) (v := .bool false) rfl ⟨by rfl, ?_⟩ (HS.out _ G0.out) ?_
    ·intro w hSw
     obtain hs0 := hSw
     go_simp
    try simp only [Act.put, z1, z2, z3, z4, z5, z6]
    refine tkI (i := 17) (v := .int .i64 k) rfl ⟨by rfl, ?_⟩ (HS.out _ G0.out) ?_
    ·intro w hSw
     obtain hs0 := hSw
     go_simp
    try simp only [Act.put, z1, z2, z3, z4, z5, z6]
    refine tkI (i := 18) (v := .slice A n cl) rfl ⟨by rfl, ?_⟩ (HS.out _ G0.out) ?_
    ·intro w hSw
     obtain hs0 := hSw
     go_simp
    try simp only [Act.put, z1, z2, z3, z4, z5, z6]
    refine tkI (i := 19) (v := .int .i64 n) rfl ⟨by rfl, ?_⟩ (HS.out _ G0.out) ?_
    ·intro w hSw
     obtain hs0 := hSw
     go_simp
    try simp only [Act.put, z1, z2, z3, z4, z5, z6]
    refine tkI (i := 20) (v := .bool true) rfl ⟨by rfl, ?_⟩ (HS.out _ G0.out) ?_
    ·intro w hSw
     obtain hs0 := hSw
     go_simp
    try simp only [Act.put, z1, z2, z3, z4, z5, z6]
    refine tkI (i := 21) (v := .bool true) rfl ⟨by rfl, ?_⟩ (HS.out _ G0.out) ?_
    ·intro w hSw
     obtain hs0 := hSw
     go_simp
    try simp only [Act.put, z1, z2, z3, z4, z5, z6]
    refine tkI (i := 22) (v := .slice (some ⟨g, 0, none⟩) q c) rfl ⟨by rfl, ?_⟩ (HS.out _ G0.out) ?_
    ·intro w hSw
     obtain hs0 := hSw
     go_simp
    try simp only [Act.put, z1, z2, z3, z4, z5, z6]
    refine tkI (i := 23) (v := .int .i64 k) rfl ⟨by rfl, ?_⟩ (HS.out _ G0.out) ?_
    ·intro w hSw
     obtain hs0 := hSw
     go_simp
    try simp only [Act.put, z1, z2, z3, z4, z5, z6]
    refine tkI (i := 24) (v := .pointer (some ⟨g, k, none⟩)) rfl ⟨by rfl, ?_⟩ (HS.out _ G0.out) ?_
    ·intro w hSw
     obtain hs0 := hSw
     go_simp
    try simp only [Act.put, z1, z2, z3, z4, z5, z6]
    refine tkI (i := 25) (v := .int .i64 t) rfl ⟨by rfl, ?_⟩ (HS.out _ G0.out) ?_
    ·intro w hSw
     obtain hs0 := hSw
     go_simp
    try simp only [Act.put, z1, z2, z3, z4, z5, z6]
    refine tkI (i := 26) (v := .int .i64 k) rfl ⟨by rfl, ?_⟩ (HS.out _ G0.out) ?_
    ·intro w hSw
     obtain hs0 := hSw
     go_simp
    try simp only [Act.put, z1, z2, z3, z4, z5, z6]
    refine tkI (i := 27) (v := .slice A n cl) rfl ⟨by rfl, ?_⟩ (HS.out _ G0.out) ?_
    ·intro w hSw
     obtain hs0 := hSw
     go_simp
    try simp only [Act.put, z1, z2, z3, z4, z5, z6]
    refine tkI (i := 28) (v := .int .i64 n) rfl ⟨by rfl, ?_⟩ (HS.out _ G0.out) ?_
    ·intro w hSw
     obtain hs0 := hSw
     go_simp
    try simp only [Act.put, z1, z2, z3, z4, z5, z6]
    refine tkI (i := 29) (v := .int .i64 j) rfl ⟨by rfl, ?_⟩ (HS.out _ G0.out) ?_
    ·intro w hSw
     obtain hs0 := hSw
     (go_simp; try rw [hsub]; try rw [hwr])
    try simp only [Act.put, z1, z2, z3, z4, z5, z6]
    refine wpAnyH_ready (rs := [30]) (by kernel_rfl) (by simp) ?_
    refine AllReadyH.cons rfl (fun K hK => ?_) AllReadyH.nil
    go_simp
    refine (HMK.out _).mono ?_
    rintro e y1 ⟨rfl, hq⟩
    subst hq
    rw [HT.out]
    refine hK.out _ _ (HS.out _ G0.out) (fun _ => ?_)
    clear hK
    try simp only [Act.put, z1, z2, z3, z4, z5, z6]
    refine tkI (i := 31) (v := .bool true) rfl ⟨by rfl, ?_⟩ (HS.out _ G0.out) ?_
    ·intro w hSw
     obtain hs0 := hSw
     (go_simp; try simp)
    try simp only [Act.put, z1, z2, z3, z4, z5, z6]
    refine tkI (i := 32) (v := .bool false) rfl ⟨by rfl, ?_⟩ (HS.out _ G0.out) ?_
    ·intro w hSw
     obtain hs0 := hSw
     go_simp
    try simp only [Act.put, z1, z2, z3, z4, z5, z6]
    refine tkI (i := 33) (v := .bool false) rfl ⟨by rfl, ?_⟩ (HS.out _ G0.out) ?_
    ·intro w hSw
     obtain hs0 := hSw
     go_simp
    try simp only [Act.put, z1, z2, z3, z4, z5, z6]
    refine tkI (i := 34) (v := .bool false) rfl ⟨by rfl, ?_⟩ (HS.out _ G0.out) ?_
    ·intro w hSw
     obtain hs0 := hSw
     go_simp
    try simp only [Act.put, z1, z2, z3, z4, z5, z6]
    refine ⟨by kernel_rfl, ?_⟩
    refine NoPanic.normal ?_
    go_wp2_with fail
    go_roundw
    case rel => exact ⟨k + 1, by omega, by go_num, HBE.out.trans (G0.out.mono HBE.out.size)⟩
    case measure => simp [intOf]; omega
  ·have hkq : ¬ (k : Int) < (q : Int) := by omega
   clear hbe
   go_wp2_with fail
   go_ret
   exact ⟨rfl, HBE.out⟩
end Go.Proofs.YtnccgaanfjaimaaDoor

namespace Go.Proofs.YtnccgaanfjaimaaDoor
open Go.ChangeShapes Go.WideShapes Go.ChangeAt Go.RowKit
set_option linter.unusedVariables false
set_option linter.unusedSimpArgs false

attribute [local go_sem] Oper.semAt_some

theorem LR.form {q : Nat → Prop} {w : World} {v : Value} {xs : List X} (h : LR q w v xs) : ∃ g c, v = .slice (some ⟨g, 0, none⟩) xs.length c ∧ q g ∧ xs.length + 12 ≤ c := by
 cases h with
 | mk g c ps hq hc hcell hk => exact ⟨g, c, by simp, hq, by simpa using hc⟩
/-- a kid more -/
theorem LK.more {W w2 W1 W' : World} {base : Nat} {v v' : Value} {ps : List (X × Value)} {y : X} {kv : Value} (h : LK W base v ps) (hbase : base ≤ W.heap.size) (hv : ∀ g, v.ownBlock = some g → g < W.heap.size)
  (hy : LR (fun b => W.heap.size ≤ b ∧ b < w2.heap.size) w2 kv y.kids) (h2 : Below W.heap.size W w2) (h1 : Below w2.heap.size w2 W1) (hg : W1.grownBy W' v.ownBlock) (hat : v'.ownBlock = v.ownBlock ∨ v'.ownBlock = some W1.heap.size) : LK W' base v' (ps ++ [(y, kv)]) := by
 have h21 : Below W.heap.size W W1 := h2.trans (h1.mono h2.size)
 refine ⟨fun p hp => ?_⟩
 rcases List.mem_append.1 hp with hp | hp
 ·exact (h.grown h21 hg hat).hk p hp
 ·rw [List.mem_singleton] at hp
  subst hp
  refine hy.keep (fun b hb => ?_) (fun b hb => ⟨Nat.le_trans hbase hb.1, Nat.lt_of_lt_of_le hb.2 (Nat.le_trans h1.size hg.size), fun e => ?_⟩)
  ·rw [hg.block b (Nat.lt_of_lt_of_le hb.2 h1.size) (fun e => by have := hv b e.symm; have := hb.1; omega)]
   exact h1.block b hb.2
  ·rcases hat with h3 | h3
   ·rw [h3] at e
    have := hv b e
    have := hb.1
    omega
   ·rw [h3] at e
    injection e with e
    have := h1.size
    have := hb.2
    omega

set_option maxRecDepth 100000 in
set_option maxHeartbeats 4000000 in
theorem lent32_any {xs : List X} (hxs : ∀ x ∈ xs, L9 x) (hl : xs.length ≤ 100000) {N : Nat} {w : World} {v : Value} (hx : XR N w v xs) (hN : N ≤ w.heap.size) : Calls Tryd.prog 42 #[v] w (L32 w xs) := by
 obtain ⟨i9, hi9, hz9, hs9, hb9⟩ := info_parts parts25
 have HX := Lib.hid (fun W (h : Below w.heap.size w W) => hx.bel (h.mono hN))
 obtain ⟨A, c, rfl⟩ := hx.form
 unfold L32
 obtain ⟨n, hn⟩ : ∃ n, xs.length = n := ⟨_, rfl⟩
 have HLN := Lib.hid hn
 rw [hn] at HX hl ⊢
 have HXS := Lib.hid hxs
 have HNW := Lib.hid hN
 clear hx hn hxs hN
 obtain ⟨M, hM⟩ : ∃ M, M = madeCells (Value.agg #[.int .i64 0, .string ⟨#[]⟩, .slice none 0 0]).cells ((n + 12) * i9.size) := ⟨_, rfl⟩
 have hMs : M.size = (n + 12) * 3 := by rw [hM, size_madeCells, hs9]
 have eN : ((n : Int) + 12).toNat = n + 12 := by omega
 have hmk : ∀ W : World, (Instr.makeSlice 23 (.int .i64 0) (.int .i64 ((n : Int) + 12))).run Tryd.prog W = .ok (.slice (some ⟨W.heap.size, 0, none⟩) 0 (n + 12)) (W.alloc (.cells M 25)) := fun W => by
  have h := run_make (P := Tryd.prog) W 23 25 i9 (.agg #[.int .i64 0, .string ⟨#[]⟩, .slice none 0 0]) Tryd.underlying23 hi9 hz9 .i64 .i64 0 ((n : Int) + 12) (by omega) (by omega) (by rw [hb9]; omega) (by omega)
  rw [eN, ← hM] at h
  simpa using h
 have HMS := Lib.hid hMs
 clear hM hMs eN
 go_enter Tryd.func42, Tryd.ntmps42
 go_upto_region 3 with (fail)
 obtain ⟨W0, hW0⟩ : ∃ W0, w.alloc (.cells M 25) = W0 := ⟨_, rfl⟩
 try rw [hW0]
 have HB0 := Lib.hid (show Below w.heap.size w W0 by rw [← hW0]; exact (Below.refl _ w).alloc (Nat.le_refl _) _)
 have HO0 := Lib.hid (show W0.ownsRow w.heap.size 25 3 (.slice (some ⟨w.heap.size, 0, none⟩) 0 (n + 12)) 0 [] by rw [← hW0]; exact World.ownsRow_made w M (n + 12) (Nat.le_refl _) (by unfold maxLen; omega) HMS.out)
 clear hmk hW0
 go_loopw [3, 4, 5] (fun u3 u4 u5 wr => ∃ (k : Nat) (ps : List (X × Value)), k ≤ n ∧ u4 = .int .i64 k ∧ ps.map Prod.fst = xs.take k ∧ wr.ownsRow w.heap.size 25 3 u3 k (flatP ps) ∧ LK wr w.heap.size u3 ps ∧ Below w.heap.size w wr) (fun u3 u4 u5 _ => n + 1 - (intOf u4).toNat)
 case atStart => exact ⟨0, [], Nat.zero_le _, rfl, rfl, HO0.out, ⟨fun p hp => absurd hp (by simp)⟩, HB0.out⟩
 case round =>
  obtain ⟨k, ps, hk, rfl, hps, hrow, hlk, hb⟩ := hrel
  have HR := Lib.hid (And.intro hps (And.intro hrow (And.intro hlk hb)))
  clear HO0 HB0 HMS
  by_cases hkn : k < n
  ·have hki : (k : Int) < (n : Int) := by omega
   have hkl : k < xs.length := by have := HLN.out; omega
   obtain ⟨ad, ky, e1, hbA, a0, a1, a2, hky⟩ := (HX.out wr hb).at3 hkl
   subst e1
   have HTK := Lib.hid (List.take_succ_eq_append_getElem hkl)
   have hy9 := HXS.out xs[k] (List.getElem_mem _)
   obtain ⟨y, hy⟩ : ∃ y, xs[k] = y := ⟨_, rfl⟩
   rw [hy] at a0 a1 hky hy9 HTK
   have HC := Lib.hid (hy9 N wr _ ⟨ky, rfl, hky⟩ (Nat.le_trans HNW.out hb.size))
   obtain ⟨A3, c3, rfl⟩ := row_form hrow
   obtain ⟨kd, hkd⟩ : ∃ kd, y.kind = kd := ⟨_, rfl⟩
   obtain ⟨lb, hlb⟩ : ∃ lb, y.lab = lb := ⟨_, rfl⟩
   have HKL := Lib.hid (And.intro hkd hlb)
   rw [hkd, hlb] at HC
   rw [hkd] at a0
   rw [hlb] at a1
   clear hps hrow hlk hb hky hy9 hy hkd hlb
   go_wp2_with (first
    | (go_at_call 10; go_loud (refine HC.out.mono ?_; rintro e w2 ⟨kv, rfl, hlr, hb2⟩; obtain ⟨g2, c2, rfl, _, _⟩ := hlr.form; have H2 := Lib.hid (And.intro hlr hb2); have hrow2 := HR.out.2.1.kept (w' := w2) (row := none) ⟨hb2.os, hb2.tape, hb2.output, hb2.size, fun i hi _ => hb2.block i hi⟩ (by cases hv : Value.ownBlock _ <;> simp); have hz2 := hb2.size; have hz1 := HR.out.2.2.2.size; clear hlr hb2))
    | (at_builtin; refine wpList_append_own_at _ rfl _ _ 23 rfl w.heap.size 25 i9 (.agg #[.int .i64 0, .string ⟨#[]⟩, .slice none 0 0]) 3 48 Tryd.underlying23 hi9 hz9 hs9 hb9 rfl (by decide) _ _ _ rfl ((hrow2.alloc _).alloc _) ⟨w2.heap.size + 1, 0, none⟩ 1 1 [.int .i64 kd, .string lb, .slice (some ⟨g2, 0, none⟩) y.kids.length c2] rfl rfl (lit_cells (w2.alloc _) _ (by simp) _ 25) (by simp [Value.oneCell']) (by unfold maxLen; omega) (by omega) (by simp; omega) ?_; intro v' w4 hown' hgrow hnil hloc))
   go_roundw
   case rel =>
    obtain ⟨h1, h2, h3, h4⟩ := HR.out
    have hb21 : Below w2.heap.size w2 ((w2.alloc (.cells #[.int .i64 kd, .string lb, .slice (some ⟨g2, 0, none⟩) y.kids.length c2] 25)).alloc (.cells #[.int .i64 kd, .string lb, .slice (some ⟨g2, 0, none⟩) y.kids.length c2] 25)) := ((Below.refl _ w2).alloc (Nat.le_refl _) _).alloc (by simp) _
    refine ⟨k + 1, ps ++ [(y, .slice (some ⟨g2, 0, none⟩) y.kids.length c2)], by omega, by go_num, ?_, ?_, h3.more hz1 (fun g hg => (h2.lt g hg).2) H2.out.1 H2.out.2 hb21 hgrow hloc, ?_⟩
    ·rw [List.map_append, h1, HTK.out]; rfl
    ·rw [flatP_app, flatP_cons, flatP_nil, HKL.out.1, HKL.out.2]
     exact hown'
    ·exact ((h4.trans ((H2.out.2.trans (hb21.mono hz2)).mono h4.size))).grown hgrow (by simp; omega) (fun g hg => (hrow2.lt g hg).1)
   case measure => simp [intOf]; omega
  ·have hki : ¬ (k : Int) < (n : Int) := by omega
   obtain rfl : n = k := by omega
   have hpx : ps.map Prod.fst = xs := by rw [hps, ← HLN.out]; exact List.take_length
   have hpl : ps.length = n := by rw [← HLN.out, ← hpx]; simp
   have HPX := Lib.hid (And.intro hpx hpl)
   obtain ⟨W3, hW3⟩ : ∃ W3, wr = W3 := ⟨_, rfl⟩
   clear hps hrow hlk hb hpx hpl
   go_upto_region 8 with (fail)
   subst hW3
   go_loopw [3, 6] (fun u3 u6 wr => ∃ j : Nat, j ≤ 12 ∧ u6 = .int .i64 j ∧ wr.ownsRow w.heap.size 25 3 u3 (n + j) (flatP (ps ++ mkps.take j)) ∧ LK wr w.heap.size u3 ps ∧ Below w.heap.size w wr) (fun _ u6 _ => 13 - (intOf u6).toNat)
   case atStart => exact ⟨0, Nat.zero_le _, rfl, by simpa using HR.out.2.1, HR.out.2.2.1, HR.out.2.2.2⟩
   case round =>
    clear HR
    obtain ⟨j, hj, rfl, hrow, hlk, hb⟩ := hrel
    have HR := Lib.hid (And.intro hrow (And.intro hlk hb))
    by_cases hlt : j < 12
    ·have hj12 : (j : Int) < 12 := by omega
     have HMK := Lib.hid (fun W => markExpr_any j (by omega) W)
     obtain ⟨mk, hmk⟩ : ∃ mk : Int, (8000024 + (j : Int)) = mk := ⟨_, rfl⟩
     have HM := Lib.hid hmk
     rw [hmk] at HMK
     clear hmk
     obtain ⟨A3, c3, rfl⟩ := row_form hrow
     clear hrow hlk hb
     go_wp2_with (first
      | (go_at_call 65; refine (HMK.out _).mono ?_; rintro e w2 ⟨rfl, hb2⟩; have H2 := Lib.hid hb2; have hrow2 := HR.out.1.kept (w' := w2) (row := none) ⟨hb2.os, hb2.tape, hb2.output, hb2.size, fun i hi _ => hb2.block i hi⟩ (by cases hv : Value.ownBlock _ <;> simp); have hz2 := hb2.size; have hz1 := HR.out.2.2.size; clear hb2)
      | (at_builtin; refine wpList_append_own_at _ rfl _ _ 23 rfl w.heap.size 25 i9 (.agg #[.int .i64 0, .string ⟨#[]⟩, .slice none 0 0]) 3 48 Tryd.underlying23 hi9 hz9 hs9 hb9 rfl (by decide) _ _ _ rfl (hrow2.alloc _) ⟨w2.heap.size, 0, none⟩ 1 1 [.int .i64 mk, .string ⟨#[]⟩, .slice none 0 0] rfl rfl (lit_cells w2 _ rfl _ 25) (by simp [Value.oneCell']) (by unfold maxLen; omega) (by omega) (by simp; omega) ?_; intro v' w4 hown' hgrow hnil hloc))
     go_roundw
     case rel =>
      obtain ⟨h2, h3, h4⟩ := HR.out
      have hb21 : Below w2.heap.size w2 (w2.alloc (.cells #[.int .i64 mk, .string ⟨#[]⟩, .slice none 0 0] 25)) := (Below.refl _ w2).alloc (Nat.le_refl _) _
      refine ⟨j + 1, by omega, by go_num, ?_, h3.grown (H2.out.trans (hb21.mono hz2)) hgrow hloc, ?_⟩
      ·rw [List.take_succ_eq_append_getElem (by rw [mkps_len]; exact hlt), mkps_get, ← List.append_assoc, flatP_app, flatP_cons, flatP_nil, ← Nat.add_assoc]
       have e : (mX j).kind = mk := HM.out
       rw [e]
       exact hown'
      ·exact (h4.trans ((H2.out.trans (hb21.mono hz2)).mono h4.size)).grown hgrow (by simp; omega) (fun g hg => (hrow2.lt g hg).1)
     case measure => simp [intOf]; omega
    ·obtain rfl : j = 12 := by omega
     rw [List.take_of_length_le (by rw [mkps_len]; exact Nat.le_refl _)] at hrow
     obtain ⟨g, cap, rfl, hcap, _, hgb, hgw⟩ := own_succ2 (k := n + 11) hrow
     have hc2 : n ≤ cap := by omega
     have hc3 : (n : Int) ≤ (cap : Int) := by omega
     have HR2 := Lib.hid (And.intro hrow (And.intro hlk (And.intro hb (And.intro hgb (And.intro hgw hcap)))))
     clear hrow hlk hb HR
     go_wp2_with fail
     go_ret
     obtain ⟨h1, h2, h3, h4, h5, h6⟩ := HR2.out
     obtain ⟨p1, p2⟩ := HPX.out
     have hfin := LR.mk (q := fun b => w.heap.size ≤ b ∧ b < wr.heap.size) (w := wr) g cap ps ⟨h4, h5⟩ (by omega) (fun j u hu => by
      have := h1.cells (g := g) rfl j u hu
      rwa [at_zero] at this) (fun p hp => (h2.hk p hp).keep (fun b hb => rfl) (fun b hb => ⟨hb.1, hb.2.1⟩))
     rw [p1, p2] at hfin
     exact ⟨_, rfl, hfin, h3⟩

set_option maxRecDepth 100000 in
set_option maxHeartbeats 4000000 in
theorem lent9_any : ∀ x : X, x.sz ≤ 100000 → L9 x := by
 intro x
 induction x using X.ind' with
 | h x ih =>
  intro hsz N w v hx hN
  obtain ⟨kx, rfl, hkx⟩ := hx
  have hle : szL x.kids ≤ 100000 := by have := x.sz_eq; omega
  obtain ⟨W0, hW0⟩ : ∃ W0, (w.alloc (.cells #[.int .i64 x.kind, .string x.lab, kx] 25)).alloc (.cells #[.int .i64 0, .string ⟨#[]⟩, .slice none 0 0] 25) = W0 := ⟨_, rfl⟩
  have hz0 : W0.heap.size = w.heap.size + 2 := by rw [← hW0]; simp
  have hb0 : Below w.heap.size w W0 := by rw [← hW0]; exact ((Below.refl _ w).alloc (Nat.le_refl _) _).alloc (by simp) _
  have hc3 : W0.heap[w.heap.size]? = some (.cells #[.int .i64 x.kind, .string x.lab, kx] 25) := by rw [← hW0, Below.heap_alloc _ _ _ (by simp)]; exact at_push _ _
  have hc4 : W0.heap[w.heap.size + 1]? = some (.cells #[.int .i64 0, .string ⟨#[]⟩, .slice none 0 0] 25) := by
   rw [← hW0]
   have := at_push (w.alloc (.cells #[.int .i64 x.kind, .string x.lab, kx] 25)) (.cells #[.int .i64 0, .string ⟨#[]⟩, .slice none 0 0] 25)
   rwa [World.size_alloc] at this
  have HC := Lib.hid (lent32_any (xs := x.kids) (fun y hy => ih y hy (by have := szL_mem hy; omega)) (by have := len_szL x.kids; omega) (hkx.bel (hb0.mono hN)) (Nat.le_trans hN hb0.size))
  unfold L32 at HC
  have HB0 := Lib.hid (And.intro hb0 hz0)
  have HBX := Lib.hid (fun W (h : Below W0.heap.size W0 W) => And.intro (box3 ((h.block _ (by omega)).trans hc3)) (And.intro (box3 ((h.block _ (by omega)).trans hc4)) (And.intro ((h.block _ (by omega)).trans hc3) ((h.block _ (by omega)).trans hc4))))
  obtain ⟨⟨d0, d1, d2⟩, ⟨d3, d4, d5⟩, -⟩ := HBX.out W0 (Below.refl _ _)
  generalize x.kind = kd at *
  generalize x.lab = lb at *
  generalize x.kids = ks at *
  clear hc3 hc4 hz0 hb0 hkx ih
  go_enter Tryd.func10, Tryd.ntmps10
  go_upto_region 1 with (fail)
  try rw [hW0]
  go_wp2_with (go_at_call 42; go_loud (refine HC.out.mono ?_; rintro e w1 ⟨v1, rfl, hlr, hb1⟩; obtain ⟨g1, c1, rfl, _, _⟩ := hlr.form; have H1 := Lib.hid (And.intro hlr hb1); obtain ⟨⟨d0, d1, d2⟩, ⟨d3, d4, d5⟩, b1, b2⟩ := HBX.out _ hb1; have g2 : w1.frozen? ⟨w.heap.size, 2, none⟩ = false := (by simp [World.frozen?, b1]); have f0 : w1.frozen? ⟨w.heap.size + 1, 0, none⟩ = false := (by simp [World.frozen?, b2]); have f1 : w1.frozen? ⟨w.heap.size + 1, 1, none⟩ = false := (by simp [World.frozen?, b2]); have f2 : w1.frozen? ⟨w.heap.size + 1, 2, none⟩ = false := (by simp [World.frozen?, b2]); clear hlr hb1 b1 b2))
  obtain ⟨h1, h2⟩ := H1.out
  obtain ⟨hb0, hz0⟩ := HB0.out
  have hW : Below w.heap.size w ((((w1.setCell ⟨w.heap.size, 2, none⟩ (.slice (some ⟨g1, 0, none⟩) ks.length c1)).setCell ⟨w.heap.size + 1, 0, none⟩ (.int .i64 kd)).setCell ⟨w.heap.size + 1, 1, none⟩ (.string lb)).setCell ⟨w.heap.size + 1, 2, none⟩ (.slice (some ⟨g1, 0, none⟩) ks.length c1)) :=
   ((((hb0.trans (h2.mono hb0.size)).setCell (p := ⟨w.heap.size, 2, none⟩) (Nat.le_refl _) _).setCell (p := ⟨w.heap.size + 1, 0, none⟩) (Nat.le_succ _) _).setCell (p := ⟨w.heap.size + 1, 1, none⟩) (Nat.le_succ _) _).setCell (p := ⟨w.heap.size + 1, 2, none⟩) (Nat.le_succ _) _
  have hlr := h1.keep (q' := fun b => w.heap.size ≤ b ∧ b < ((((w1.setCell ⟨w.heap.size, 2, none⟩ (.slice (some ⟨g1, 0, none⟩) ks.length c1)).setCell ⟨w.heap.size + 1, 0, none⟩ (.int .i64 kd)).setCell ⟨w.heap.size + 1, 1, none⟩ (.string lb)).setCell ⟨w.heap.size + 1, 2, none⟩ (.slice (some ⟨g1, 0, none⟩) ks.length c1)).heap.size) (w' := ((((w1.setCell ⟨w.heap.size, 2, none⟩ (.slice (some ⟨g1, 0, none⟩) ks.length c1)).setCell ⟨w.heap.size + 1, 0, none⟩ (.int .i64 kd)).setCell ⟨w.heap.size + 1, 1, none⟩ (.string lb)).setCell ⟨w.heap.size + 1, 2, none⟩ (.slice (some ⟨g1, 0, none⟩) ks.length c1)))
   (fun b hb => by
    rw [Below.heap_setCell _ _ _ _ (by show b ≠ w.heap.size + 1; omega), Below.heap_setCell _ _ _ _ (by show b ≠ w.heap.size + 1; omega), Below.heap_setCell _ _ _ _ (by show b ≠ w.heap.size + 1; omega), Below.heap_setCell _ _ _ _ (by show b ≠ w.heap.size; omega)])
   (fun b hb => ⟨by omega, by simp [World.setCell]; exact hb.2⟩)
  exact bodyPost_ret (v := .agg #[.int .i64 kd, .string lb, .slice (some ⟨g1, 0, none⟩) ks.length c1]) (by simp [results, Tryd.results10, go_sem, d0, d1, d2, d3, d4, d5, f0, f1, f2]) rfl ⟨_, rfl, hlr, hW⟩
end Go.Proofs.YtnccgaanfjaimaaDoor

namespace Go.Proofs.YtnccgaanfjaimaaDoor
open Go.ChangeShapes Go.WideShapes Go.ChangeAt Go.RowKit
set_option linter.unusedVariables false
set_option linter.unusedSimpArgs false

attribute [local go_sem] Oper.semAt_some

noncomputable def sameL (xs ys : List X) : Bool := @decide (xs = ys) (Classical.propDecidable _)
theorem sameL_true {x y : List X} (h : x = y) : sameL x y = true := @decide_eq_true _ (Classical.propDecidable _) h
theorem sameL_false {x y : List X} (h : x ≠ y) : sameL x y = false := @decide_eq_false _ (Classical.propDecidable _) h

def S30 (x : X) : Prop := ∀ (y : X) (N : Nat) (w : World) (va vb : Value), XV N w va x → XV N w vb y → N ≤ w.heap.size → Calls Tryd.prog 50 #[va, vb] w fun e w' => e = .returned (.bool (sameX x y)) ∧ Below w.heap.size w w'

set_option maxRecDepth 100000 in
set_option maxHeartbeats 4000000 in
theorem same46_any {xs : List X} (hxs : ∀ x ∈ xs, S30 x) (hl : xs.length ≤ 100000) {ys : List X} {N : Nat} {w : World} {va vb : Value} (ha : XR N w va xs) (hb : XR N w vb ys) (hN : N ≤ w.heap.size) :
  Calls Tryd.prog 72 #[va, vb] w fun e w' => e = .returned (.bool (sameL xs ys)) ∧ Below w.heap.size w w' := by
 obtain ⟨A1, c1, rfl⟩ := ha.form
 obtain ⟨A2, c2, rfl⟩ := hb.form
 obtain ⟨n1, hn1⟩ : ∃ n1, xs.length = n1 := ⟨_, rfl⟩
 obtain ⟨n2, hn2⟩ : ∃ n2, ys.length = n2 := ⟨_, rfl⟩
 rw [hn1] at ha hl ⊢
 rw [hn2] at hb ⊢
 have HXA := Lib.hid (fun W (h : Below w.heap.size w W) => ha.bel (h.mono hN))
 have HXB := Lib.hid (fun W (h : Below w.heap.size w W) => hb.bel (h.mono hN))
 have HNN := Lib.hid (And.intro hn1 hn2)
 clear ha hb hn1 hn2
 by_cases hlen : n1 = n2
 ·subst hlen
  go_enter Tryd.func72, Tryd.ntmps72
  go_upto_region 4 with (fail)
  go_loopw [5] (fun u wr => ∃ k : Nat, k ≤ n1 ∧ u = .int .i64 k ∧ (∀ i (h1 : i < xs.length) (h2 : i < ys.length), i < k → xs[i] = ys[i]) ∧ Below w.heap.size w wr) (fun u _ => n1 - (intOf u).toNat)
  case atStart => exact ⟨0, Nat.zero_le _, rfl, fun i _ _ h => absurd h (Nat.not_lt_zero _), Below.refl _ _⟩
  case round =>
   obtain ⟨k, hk, rfl, hpre, hbr⟩ := hrel
   have HPRE := Lib.hid (And.intro hpre hbr)
   clear hpre
   by_cases hkl0 : k < n1
   ·have hki : (k : Int) < (n1 : Int) := by omega
    have hkl : k < xs.length := by have := HNN.out.1; omega
    have hky : k < ys.length := by have := HNN.out.2; omega
    obtain ⟨ad, kx, e1, hbA, a0, a1, a2, hkx⟩ := (HXA.out wr hbr).at3 hkl
    obtain ⟨bd, ky, e2, hbB, b0, b1, b2, hky2⟩ := (HXB.out wr hbr).at3 hky
    subst e1 e2
    have hy30 := hxs xs[k] (List.getElem_mem _)
    obtain ⟨x, hx⟩ : ∃ x, xs[k] = x := ⟨_, rfl⟩
    obtain ⟨y, hy⟩ : ∃ y, ys[k] = y := ⟨_, rfl⟩
    rw [hx] at a0 a1 hkx hy30
    rw [hy] at b0 b1 hky2
    obtain ⟨r, hr⟩ : ∃ r, sameX x y = r := ⟨_, rfl⟩
    have hNr : N ≤ wr.heap.size := Nat.le_trans hN hbr.size
    have HS := Lib.hid (fun W (h : Below wr.heap.size wr W) => And.intro (And.intro ((World.cell?_of_block (h.block _ (by rw [block_add]; omega))).trans a0) (And.intro ((World.cell?_of_block (h.block _ (by show (ad.add (k * 3)).block < _; rw [block_add]; omega))).trans a1) ((World.cell?_of_block (h.block _ (by show (ad.add (k * 3)).block < _; rw [block_add]; omega))).trans a2)))
     (And.intro ((World.cell?_of_block (h.block _ (by rw [block_add]; omega))).trans b0) (And.intro ((World.cell?_of_block (h.block _ (by show (bd.add (k * 3)).block < _; rw [block_add]; omega))).trans b1) ((World.cell?_of_block (h.block _ (by show (bd.add (k * 3)).block < _; rw [block_add]; omega))).trans b2))))
    have HCALL := Lib.hid (fun W (h : Below wr.heap.size wr W) => (show Calls Tryd.prog 50 #[.agg #[.int .i64 x.kind, .string x.lab, kx], .agg #[.int .i64 y.kind, .string y.lab, ky]] W (fun e w' => e = .returned (.bool r) ∧ Below wr.heap.size wr w') by
     have h1 := hy30 y N W _ _ (XV.bel ⟨kx, rfl, hkx⟩ (h.mono hNr)) (XV.bel ⟨ky, rfl, hky2⟩ (h.mono hNr)) (Nat.le_trans hNr h.size)
     rw [hr] at h1
     exact calls_base h1 h))
    have HXY := Lib.hid (And.intro hx (And.intro hy hr))
    clear hx hy hr hkx hky2 hy30 a0 a1 a2 b0 b1 b2
    go_upto_region 6 with (fail)
    have G0 := Lib.hid (Below.refl wr.heap.size wr).drew
    refine wp_region_noPanic ?_
    refine wp_region_held_drew (S := fun W => ((W.cell? (ad.add (k * 3)) = some (.int .i64 x.kind) ∧ W.cell? ⟨(ad.add (k * 3)).block, (ad.add (k * 3)).off + 1, none⟩ = some (.string x.lab) ∧ W.cell? ⟨(ad.add (k * 3)).block, (ad.add (k * 3)).off + 2, none⟩ = some kx) ∧ W.cell? (bd.add (k * 3)) = some (.int .i64 y.kind) ∧ W.cell? ⟨(bd.add (k * 3)).block, (bd.add (k * 3)).off + 1, none⟩ = some (.string y.lab) ∧ W.cell? ⟨(bd.add (k * 3)).block, (bd.add (k * 3)).off + 2, none⟩ = some ky)) (by kernel_rfl) (HS.out _ G0.out) (fun hHeld => ?_)
    clear hHeld
    refine tkI (i := 0) (v := .slice (some ad) n1 c1) rfl ⟨by rfl, ?_⟩ (HS.out _ G0.out) ?_
    ·intro w hSw
     obtain ⟨⟨hs0, hs1, hs2⟩, hs3, hs4, hs5⟩ := hSw
     go_simp
    try simp only [Act.put, z1, z2, z3, z4, z5, z6]
    refine tkI (i := 1) (v := .int .i64 k) rfl ⟨by rfl, ?_⟩ (HS.out _ G0.out) ?_
    ·intro w hSw
     obtain ⟨⟨hs0, hs1, hs2⟩, hs3, hs4, hs5⟩ := hSw
     go_simp
    try simp only [Act.put, z1, z2, z3, z4, z5, z6]
    refine tkI (i := 2) (v := .pointer (some (ad.add (k * 3)))) rfl ⟨by rfl, ?_⟩ (HS.out _ G0.out) ?_
    ·intro w hSw
     obtain ⟨⟨hs0, hs1, hs2⟩, hs3, hs4, hs5⟩ := hSw
     go_simp
    try simp only [Act.put, z1, z2, z3, z4, z5, z6]
    refine tkI (i := 3) (v := .agg #[.int .i64 x.kind, .string x.lab, kx]) rfl ⟨by rfl, ?_⟩ (HS.out _ G0.out) ?_
    ·intro w hSw
     obtain ⟨⟨hs0, hs1, hs2⟩, hs3, hs4, hs5⟩ := hSw
     go_simp
    try simp only [Act.put, z1, z2, z3, z4, z5, z6]
    refine tkI (i := 4) (v := .slice (some bd) n1 c2) rfl ⟨by rfl, ?_⟩ (HS.out _ G0.out) ?_
    ·intro w hSw
     obtain ⟨⟨hs0, hs1, hs2⟩, hs3, hs4, hs5⟩ := hSw
     go_simp
    try simp only [Act.put, z1, z2, z3, z4, z5, z6]
    refine tkI (i := 5) (v := .int .i64 k) rfl ⟨by rfl, ?_⟩ (HS.out _ G0.out) ?_
    ·intro w hSw
     obtain ⟨⟨hs0, hs1, hs2⟩, hs3, hs4, hs5⟩ := hSw
     go_simp
    try simp only [Act.put, z1, z2, z3, z4, z5, z6]
    refine tkI (i := 6) (v := .pointer (some (bd.add (k * 3)))) rfl ⟨by rfl, ?_⟩ (HS.out _ G0.out) ?_
    ·intro w hSw
     obtain ⟨⟨hs0, hs1, hs2⟩, hs3, hs4, hs5⟩ := hSw
     go_simp
    try simp only [Act.put, z1, z2, z3, z4, z5, z6]
    refine tkI (i := 7) (v := .agg #[.int .i64 y.kind, .string y.lab, ky]) rfl ⟨by rfl, ?_⟩ (HS.out _ G0.out) ?_
    ·intro w hSw
     obtain ⟨⟨hs0, hs1, hs2⟩, hs3, hs4, hs5⟩ := hSw
     go_simp
    try simp only [Act.put, z1, z2, z3, z4, z5, z6]
    refine wpAnyH_ready (rs := [8]) (by kernel_rfl) (by simp) ?_
    refine AllReadyH.cons rfl (fun K hK => ?_) AllReadyH.nil
    go_simp
    refine (HCALL.out _ G0.out).mono ?_
    rintro e w3 ⟨rfl, hq⟩
    have G8 := Lib.hid hq
    clear hq
    refine hK.out _ _ (HS.out _ G8.out) (fun _ => ?_)
    clear hK
    try simp only [Act.put, z1, z2, z3, z4, z5, z6]
    refine tkI (i := 9) (v := .bool (!r)) rfl ⟨by rfl, ?_⟩ (HS.out _ G8.out) ?_
    ·intro w hSw
     obtain ⟨⟨hs0, hs1, hs2⟩, hs3, hs4, hs5⟩ := hSw
     go_simp
    try simp only [Act.put, z1, z2, z3, z4, z5, z6]
    refine ⟨by kernel_rfl, ?_⟩
    refine NoPanic.normal ?_
    cases r with
    | true =>
     go_wp2_with fail
     go_roundw
     case rel =>
      refine ⟨k + 1, by omega, by go_num, fun i h1 h2 hi => ?_, HPRE.out.2.trans (G8.out.mono HPRE.out.2.size)⟩
      by_cases hik : i = k
      ·subst hik
       rw [HXY.out.1, HXY.out.2.1]
       exact sameX_iff.1 HXY.out.2.2
      ·exact HPRE.out.1 i h1 h2 (by omega)
     case measure => simp [intOf]; omega
    | false =>
     go_wp2_with fail
     go_ret
     have hne : xs ≠ ys := fun e => by
      have h1 : x = y := by
       rw [← HXY.out.1, ← HXY.out.2.1]
       subst e
       rfl
      have h2 := HXY.out.2.2
      rw [sameX_true h1] at h2
      cases h2
     refine ⟨?_, HPRE.out.2.trans (G8.out.mono HPRE.out.2.size)⟩
     rw [sameL_false hne]
     rfl
   ·have hki : ¬ (k : Int) < (n1 : Int) := by omega
    go_wp2_with fail
    go_ret
    refine ⟨?_, HPRE.out.2⟩
    rw [sameL_true (List.ext_getElem (HNN.out.1.trans HNN.out.2.symm) fun i h1 h2 => HPRE.out.1 i h1 h2 (by have := HNN.out.1; omega))]
    rfl
 ·have hli : (n1 : Int) ≠ (n2 : Int) := by omega
  go_enter Tryd.func72, Tryd.ntmps72
  go_wp2_with fail
  go_ret
  exact ⟨by rw [sameL_false (fun e => hlen (by rw [← HNN.out.1, ← HNN.out.2, e]))]; rfl, Below.refl _ _⟩

set_option maxRecDepth 100000 in
set_option maxHeartbeats 4000000 in
theorem same30_any : ∀ x : X, x.sz ≤ 100000 → S30 x := by
 intro x
 induction x using X.ind' with
 | h x ih =>
  intro hsz y N w va vb ha hb hN
  have hk46 : ∀ W, Below w.heap.size w W → ∀ kx ky, XR N W kx x.kids → XR N W ky y.kids → Calls Tryd.prog 72 #[kx, ky] W fun e w' => e = .returned (.bool (sameL x.kids y.kids)) ∧ Below w.heap.size w w' := fun W h kx ky h1 h2 =>
   (same46_any (fun z hz => ih z hz (by have := szL_mem hz; have := x.sz_eq; omega)) (by have := len_szL x.kids; have := x.sz_eq; omega) h1 h2 (Nat.le_trans hN h.size)).mono (by rintro e w1 ⟨rfl, h1⟩; exact ⟨rfl, h.trans (h1.mono h.size)⟩)
  obtain ⟨kx, rfl, hkx⟩ := ha
  obtain ⟨ky, rfl, hky⟩ := hb
  have hb0 : Below w.heap.size w ((w.alloc (.cells #[.int .i64 x.kind, .string x.lab, kx] 25)).alloc (.cells #[.int .i64 y.kind, .string y.lab, ky] 25)) := ((Below.refl _ w).alloc (Nat.le_refl _) _).alloc (by simp) _
  have HB0 := Lib.hid hb0
  have H46 := Lib.hid (hk46 _ hb0 kx ky (hkx.bel (hb0.mono hN)) (hky.bel (hb0.mono hN)))
  clear hk46 hb0 hkx hky ih
  have hsx : ∀ b, ((x.kind = y.kind ∧ x.lab = y.lab) → b = sameL x.kids y.kids) → (¬ (x.kind = y.kind ∧ x.lab = y.lab) → b = false) → sameX x y = b := by
   intro b h1 h2
   by_cases h : x.kind = y.kind ∧ x.lab = y.lab
   ·rw [h1 h]
    by_cases hk : x.kids = y.kids
    ·rw [sameL_true hk, sameX_true (X.ext' h.1 h.2 hk)]
    ·rw [sameL_false hk, sameX_false (fun e => hk (by rw [e]))]
   ·rw [h2 h, sameX_false (fun e => h (by rw [e]; exact ⟨rfl, rfl⟩))]
  have HSX := Lib.hid hsx
  clear hsx
  by_cases h1 : x.kind = y.kind
  ·by_cases h2 : x.lab = y.lab
   ·have HE := Lib.hid (And.intro h1 h2)
    obtain ⟨kk, hkk⟩ : ∃ kk, y.kind = kk := ⟨_, rfl⟩
    obtain ⟨ll, hll⟩ : ∃ ll, y.lab = ll := ⟨_, rfl⟩
    rw [h1, h2, hkk, hll] at H46 HB0
    rw [h1, h2, hkk, hll]
    clear h1 h2 hkk hll
    go_enter Tryd.func50, Tryd.ntmps50
    go_wp2_with (go_at_call 72; refine H46.out.mono ?_; rintro e w1 ⟨rfl, hq⟩; have HQ := Lib.hid hq; clear hq)
    go_ret
    exact ⟨by rw [HSX.out (sameL x.kids y.kids) (fun _ => rfl) (fun h => absurd HE.out h)]; rfl, HQ.out⟩
   ·have hs' : x.lab.toList ≠ y.lab.toList := fun h => h2 (by
     have : x.lab.data.toList = y.lab.data.toList := by rw [← ByteArray.toList_eq, ← ByteArray.toList_eq]; exact h
     exact ByteArray.ext (Array.toList_inj.1 this))
    have hbe : (x.lab.toList == y.lab.toList) = false := by simp [hs']
    have HE := Lib.hid h2
    obtain ⟨kk, hkk⟩ : ∃ kk, y.kind = kk := ⟨_, rfl⟩
    rw [h1, hkk] at HB0
    rw [h1, hkk]
    clear h1 h2 hkk H46
    go_enter Tryd.func50, Tryd.ntmps50
    go_wp2_with fail
    go_ret
    exact ⟨by rw [HSX.out false (fun h => absurd h.2 HE.out) (fun _ => rfl)]; rfl, HB0.out⟩
  ·have hbe : (x.kind == y.kind) = false := by simp [h1]
   have HE := Lib.hid h1
   clear H46
   go_enter Tryd.func50, Tryd.ntmps50
   go_wp2_with fail
   go_ret
   exact ⟨by rw [HSX.out false (fun h => absurd h.1 HE.out) (fun _ => rfl)]; rfl, HB0.out⟩
end Go.Proofs.YtnccgaanfjaimaaDoor
