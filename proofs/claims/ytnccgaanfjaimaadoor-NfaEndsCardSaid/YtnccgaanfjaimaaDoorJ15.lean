/- Texts QG, QI, QH, KT, one behind the other. -/
import Derived.Test.YtnccgaanfjaimaaDoorJ3
import Derived.Test.YtnccgaanfjaimaaDoorJ6
import Derived.Test.YtnccgaanfjaimaaDoorJ10
import Derived.Test.YtnccgaanfjaimaaDoorJ11
import Derived.Test.YtnccgaanfjaimaaDoorJ12
import Derived.Test.YtnccgaanfjaimaaDoorJ14
import Derived.Laws.BytesArg
import Derived.BigRegion
import Derived.IntWalk
set_option linter.unusedSimpArgs false
set_option linter.unusedVariables false
namespace Go.Proofs.YtnccgaanfjaimaaDoor
open Go.ChangeShapes Go.WideShapes Go.ChangeAt Go.RowKit

theorem ofP_any : ∀ x : X, OfS x := by
 intro x
 induction x using X.ind' with
 | h x ih =>
  intro M B w K vl v labs P hx hMB h hn hg hs hl hfit
  by_cases h1 : x.kind = 1
  ·exact of_label hx hMB h hn hg hs hl hfit h1
  ·exact of_kids ih hx hMB h hn hg hs hl hfit h1
end Go.Proofs.YtnccgaanfjaimaaDoor

namespace Go.Proofs.YtnccgaanfjaimaaDoor
open Go.ChangeShapes Go.WideShapes Go.ChangeAt Go.RowKit
set_option linter.unusedVariables false
set_option linter.unusedSimpArgs false

attribute [local go_sem] Oper.semAt_some

/-- the document's Nfa of an expression -/
def RefX (M B : Nat) (w : World) (R : Nat) (x : X) : Prop := ∃ (K : RK) (vl : Value) (gF gL : Nat), K.R = R ∧ K.n + 1 = x.pn ∧ K.vF = .slice (some ⟨gF, 0, none⟩) (K.n + 1) (K.n + 1) ∧ K.vL = .slice (some ⟨gL, 0, none⟩) (K.n + 1) (K.n + 1) ∧ K.E = x.emp ∧
 RN B w K vl x.ps (fun i j => x.fol 1 (i + 1) (j + 1) = true) ∧ FRat B w gF K.n (fun j => x.fst 1 (j + 1) = true) ∧ FRat B w gL K.n (fun j => x.lst 1 (j + 1) = true) ∧ XV M w (.agg #[.int .i64 K.xk, .string K.xl, K.xv]) x
theorem RefX.bel {M B : Nat} {w w' : World} {R : Nat} {x : X} (h : RefX M B w R x) (hM : M ≤ w.heap.size) (hb : Below w.heap.size w w') : RefX M B w' R x := by
 obtain ⟨K, vl, gF, gL, h1, h2, h3, h4, h5, h6, h7, h8, h9⟩ := h
 exact ⟨K, vl, gF, gL, h1, h2, h3, h4, h5, h6.bel hb, h7.bel hb, h8.bel hb, h9.bel (hb.mono hM)⟩

/-- the positions of a row of flags, rising -/
noncomputable def posK (P : Nat → Prop) (k : Nat) : List Nat := ((List.range k).filter (fun j => pB (P j))).map (· + 1)
theorem posK_succ (P : Nat → Prop) (k : Nat) : posK P (k + 1) = if pB (P k) = true then posK P k ++ [k + 1] else posK P k := by
 unfold posK
 rw [List.range_succ, List.filter_append, List.filter_cons, List.filter_nil]
 split <;> simp
theorem posK_len (P : Nat → Prop) (k : Nat) : (posK P k).length ≤ k := by
 unfold posK
 rw [List.length_map]
 exact Nat.le_trans (List.length_filter_le _ _) (by simp)
theorem posK_els {P : Nat → Prop} {n S : Nat} (hn : n + 1 ≤ 24) (h : ∀ j, j ≤ n → (P j ↔ S.testBit (j + 1) = true)) (hr : ∀ q, S.testBit q = true → 1 ≤ q ∧ q ≤ n + 1) : posK P (n + 1) = els S := by
 have e : List.range 32 = (List.range 1 ++ (List.range (n + 1)).map (1 + ·)) ++ (List.range (30 - n)).map (1 + (n + 1) + ·) := by
  rw [← List.range_add, ← List.range_add]
  congr 1
  omega
 unfold posK els
 rw [e, List.filter_append, List.filter_append]
 have h1 : (List.range 1).filter (fun p => S.testBit p) = [] := by
  rw [List.filter_eq_nil_iff]
  intro q hq hb
  have := hr q hb
  rw [List.mem_range] at hq
  omega
 have h2 : ((List.range (30 - n)).map (1 + (n + 1) + ·)).filter (fun p => S.testBit p) = [] := by
  rw [List.filter_eq_nil_iff]
  intro q hq hb
  have := hr q hb
  obtain ⟨t, _, rfl⟩ := List.mem_map.1 hq
  omega
 rw [h1, h2, List.nil_append, List.append_nil, List.filter_map]
 have h3 : (List.range (n + 1)).filter ((fun p => S.testBit p) ∘ (1 + ·)) = (List.range (n + 1)).filter (fun j => pB (P j)) := by
  apply List.filter_congr
  intro j hj
  rw [List.mem_range] at hj
  refine bool_ext ?_
  rw [pB_iff, h j (by omega), Function.comp, Nat.add_comm]
 rw [h3]
 apply List.map_congr_left
 intro j _
 exact Nat.add_comm _ _

set_option maxRecDepth 100000 in
set_option maxHeartbeats 4000000 in
theorem set23_any {B : Nat} {w : World} {v : Value} {n : Nat} {P : Nat → Prop} (hn : n ≤ 100000) (hv : FR B w v n P) : Calls Tryd.prog 23 #[v] w (ListQ (posK P (n + 1)) w) := by
 obtain ⟨g, rfl, hv⟩ := hv
 obtain ⟨i0, hi, hz0, hzz, hz2⟩ := info_parts info3
 have HV := Lib.hid (fun W (hb : Below w.heap.size w W) => hv.bel hb)
 unfold ListQ
 clear hv
 go_enter Tryd.func23, Tryd.ntmps23
 go_upto_region 3 with (fail)
 go_loopw [3, 4] (fun u3 u4 wr => ∃ k : Nat, k ≤ n + 1 ∧ u4 = .int .i64 k ∧ wr.ownsRow w.heap.size 3 1 u3 (posK P k).length (nums (posK P k)) ∧ Below w.heap.size w wr) (fun _ u4 _ => n + 2 - (intOf u4).toNat)
 case atStart => exact ⟨0, Nat.zero_le _, rfl, World.ownsRow_nil _ _ _ _, Below.refl _ _⟩
 case round =>
  obtain ⟨k, hk, rfl, hrow, hb⟩ := hrel
  have HR := Lib.hid (And.intro hrow hb)
  have HS := Lib.hid (posK_succ P k)
  have HLE := Lib.hid (posK_len P k)
  by_cases hkn : k ≤ n
  ·have hki : (k : Int) < (n : Int) + 1 := by omega
   have c1 := (HV.out _ hb).flag hkn
   obtain ⟨b, hbb⟩ : ∃ b, pB (P k) = b := ⟨_, rfl⟩
   rw [hbb] at c1
   have HBB := Lib.hid hbb
   obtain ⟨m, hm⟩ : ∃ m, (posK P k).length = m := ⟨_, rfl⟩
   have HMM := Lib.hid hm
   have hzr := hb.size
   have HZR := Lib.hid hzr
   have hrow2 := hrow
   rw [hm] at hrow2
   obtain ⟨A, c, rfl⟩ := row_form hrow2
   have HROW := Lib.hid hrow2
   clear hb hbb hm hrow hzr hrow2
   cases b with
   | false =>
    go_wp2_with fail
    go_roundw
    case rel =>
     refine ⟨k + 1, by omega, by go_num, ?_, HR.out.2⟩
     rw [HS.out, HBB.out, if_neg (by simp)]
     exact HR.out.1
    case measure => simp [intOf]; omega
   | true =>
    go_wp2_with (at_builtin; go_loud (refine wpList_append_own_at _ rfl _ _ 37 rfl w.heap.size 3 i0 (.int .i64 0) 1 8 Tryd.underlying37 hi hz0 hzz hz2 rfl (by decide) (.slice A m c) m (nums (posK P k)) rfl (HROW.out.alloc _) ⟨wr.heap.size, 0, none⟩ 1 1 [.int .i64 ((k : Int) + 1)] rfl rfl (cell_one_new _ _ _) (by simp [Value.oneCell']) (by have := HMM.out; have := HLE.out; unfold maxLen; omega) (by have := HMM.out; have := HLE.out; omega) (by have := HZR.out; simp; omega) ?_; intro v' w4 hown' hgrow hnil hloc; have HO := Lib.hid (And.intro hown' hgrow); clear hown' hgrow hnil hloc))
    go_roundw
    case rel =>
     have h0 := HR.out.2
     refine ⟨k + 1, by omega, by go_num, ?_, (h0.alloc h0.size _).grown HO.out.2 (by have := HZR.out; simp; omega) (fun g hg => (HROW.out.lt g hg).1)⟩
     rw [HS.out, HBB.out, if_pos rfl, nums_snoc, List.length_append, List.length_singleton, HMM.out]
     have h := HO.out.1
     exact h
    case measure => simp [intOf]; omega
  ·have hki : ¬ (k : Int) < (n : Int) + 1 := by omega
   obtain rfl : k = n + 1 := by omega
   clear hrow hb
   go_wp2_with fail
   go_ret
   exact ⟨_, rfl, HR.out.1, HR.out.2⟩

theorem RefX.lab {M B : Nat} {w : World} {R : Nat} {x : X} (h : RefX M B w R x) : ∃ Al cl, w.cell? ⟨R, 0, none⟩ = some (.slice Al x.pn cl) ∧ (∀ k (hk : k < x.ps.length), ∃ ad, Al = some ad ∧ w.cell? (ad.add k) = some (.string x.ps[k])) := by
 obtain ⟨K, vl, gF, gL, rfl, h2, h3, h4, h5, h6, h7, h8, h9⟩ := h
 obtain ⟨Al, cl, e⟩ := row_form h6.lab
 subst e
 refine ⟨Al, cl, h6.cells.1, fun k hk => ?_⟩
 obtain ⟨A, c, e, hc⟩ := SR.of_own h6.lab
 injection e with e _ _
 obtain ⟨ad, ea, _, hcc⟩ := hc (by omega)
 exact ⟨ad, e.trans ea, hcc k hk⟩

set_option maxRecDepth 100000 in
set_option maxHeartbeats 4000000 in
theorem label19_any {M B : Nat} {w : World} {R : Nat} {x : X} (h : RefX M B w R x) (hp : x.pn ≤ 1000) (p : Int) : Calls Tryd.prog 19 #[.pointer (some ⟨R, 0, none⟩), .int .i64 p] w fun e w' => e = .returned (.string (labP x p)) ∧ w = w' := by
 obtain ⟨Al, cl, c0, hl⟩ := h.lab
 obtain ⟨n, hn⟩ : ∃ n, x.pn = n := ⟨_, rfl⟩
 have HN := Lib.hid hn
 rw [hn] at c0 hp
 by_cases h1 : p < 1
 ·have e : labP x p = ⟨#[]⟩ := by unfold labP; rw [if_neg (by omega)]
  rw [e]
  clear hl h hn e
  go_enter Tryd.func19, Tryd.ntmps19
  go_wp2_with fail
  go_ret
  exact ⟨rfl, rfl⟩
 ·by_cases h2 : (n : Int) < p
  ·have e : labP x p = ⟨#[]⟩ := by unfold labP; rw [if_neg (by omega)]
   rw [e]
   clear hl h hn e
   go_enter Tryd.func19, Tryd.ntmps19
   go_wp2_with fail
   go_ret
   exact ⟨rfl, rfl⟩
  ·obtain ⟨k, rfl⟩ : ∃ k : Nat, p = (k : Int) + 1 := ⟨(p - 1).toNat, by omega⟩
   have hk : k < x.ps.length := by show k < x.pn; omega
   obtain ⟨ad, rfl, c1⟩ := hl k hk
   have e : labP x ((k : Int) + 1) = x.ps[k] := by
    unfold labP
    rw [if_pos (by omega), nf_labs, show ((k : Int) + 1).toNat = k + 1 by omega, List.getElem?_cons_succ, List.getElem?_eq_getElem hk]
    rfl
   rw [e]
   generalize x.ps[k] = s at *
   have hkn : k < n := by omega
   have hw1 : IntKind.i64.wrap (k : Int) = k := IntWalk.i64_in _ ⟨by omega, by omega⟩
   have hw2 : (k : Int) + 1 - 1 = k := by omega
   clear hl h hn e hk
   go_enter Tryd.func19, Tryd.ntmps19
   go_wp2_with fail
   go_ret
   exact ⟨rfl, rfl⟩

set_option maxRecDepth 100000 in
set_option maxHeartbeats 4000000 in
theorem follow22_any {M B : Nat} {w : World} {R : Nat} {x : X} (h : RefX M B w R x) (hs : x.pn ≤ 24) (p : Int) : Calls Tryd.prog 22 #[.pointer (some ⟨R, 0, none⟩), .int .i64 p] w (ListQ (folP x p) w) := by
 obtain ⟨Al, cl, c0, -⟩ := h.lab
 obtain ⟨n, hn⟩ : ∃ n, x.pn = n := ⟨_, rfl⟩
 have HN := Lib.hid hn
 rw [hn] at c0 hs
 by_cases h1 : p < 1
 ·have e : folP x p = [] := by unfold folP; rw [if_neg (by omega)]
  rw [e]
  unfold ListQ
  clear h hn e
  go_enter Tryd.func22, Tryd.ntmps22
  go_wp2_with fail
  go_ret
  exact ⟨_, rfl, World.ownsRow_nil _ _ _ _, Below.refl _ _⟩
 ·by_cases h2 : (n : Int) < p
  ·have e : folP x p = [] := by unfold folP; rw [if_neg (by omega)]
   rw [e]
   unfold ListQ
   clear h hn e
   go_enter Tryd.func22, Tryd.ntmps22
   go_wp2_with fail
   go_ret
   exact ⟨_, rfl, World.ownsRow_nil _ _ _ _, Below.refl _ _⟩
  ·obtain ⟨k, rfl⟩ : ∃ k : Nat, p = (k : Int) + 1 := ⟨(p - 1).toNat, by omega⟩
   obtain ⟨K, vl, gF, gL, rfl, e2, e3, e4, e5, hrn, -, -, -⟩ := h
   have hkn : k ≤ K.n := by omega
   have c3 := hrn.cells.2.2.2.1
   have c4 := hrn.nx.cell (i := k) hkn
   have hfr : FR B w (.slice (some ⟨K.r k, 0, none⟩) (K.n + 1) (K.n + 1)) K.n (fun j => x.fol 1 (k + 1) (j + 1) = true) := ⟨_, rfl, (hrn.nx.row k hkn).1, (hrn.nx.row k hkn).2⟩
   have e : folP x ((k : Int) + 1) = posK (fun j => x.fol 1 (k + 1) (j + 1) = true) (K.n + 1) := by
    unfold folP
    rw [if_pos (by omega), show ((k : Int) + 1).toNat = k + 1 by omega]
    exact (posK_els (by omega) (fun j _ => by rw [nfF_pos x (by omega)]) (fun q hq => by have := nfF_range _ q hq; omega)).symm
   have HSET := Lib.hid (set23_any (by omega) hfr)
   rw [e]
   unfold ListQ at HSET ⊢
   have hw1 : IntKind.i64.wrap (k : Int) = k := IntWalk.i64_in _ ⟨by omega, by omega⟩
   have hw2 : (k : Int) + 1 - 1 = k := by omega
   have hk3 : (k : Int) < (K.n : Int) + 1 := by omega
   have hk4 : k < K.n + 1 := by omega
   generalize posK _ (K.n + 1) = l at HSET ⊢
   generalize K.n = m at *
   generalize K.r k = rk at *
   clear hn e hrn hfr e2 e3 e4 e5 HN
   go_enter Tryd.func22, Tryd.ntmps22
   go_wp2_with (go_at_call 23; refine HSET.out.mono ?_; rintro e w1 ⟨v, rfl, ho, hb⟩; have HO := Lib.hid (And.intro ho hb); clear ho hb)
   go_ret
   exact ⟨_, rfl, HO.out.1, HO.out.2⟩

set_option maxRecDepth 100000 in
set_option maxHeartbeats 4000000 in
theorem takes30_any {M B N : Nat} {w : World} {R : Nat} {x : X} {wv : Value} {word : Wd} (h : RefX M B w R x) (hM : M ≤ w.heap.size) (hsz : x.sz ≤ 100000) (hl : x.lit) (hw : SR N w wv word) (hN : N ≤ w.heap.size) (hwl : word.length ≤ 100000) :
  Calls Tryd.prog 30 #[.pointer (some ⟨R, 0, none⟩), wv] w fun e w' => e = .returned (.bool (takesB x word)) ∧ Below w.heap.size w w' := by
 obtain ⟨K, vl, gF, gL, rfl, e2, e3, e4, e5, hrn, -, -, hx⟩ := h
 have c5 : w.cell? ⟨K.R, 5, none⟩ = some (.int .i64 K.xk) := cell_of_row _ _ 5 _ 45 (0, 0) hrn.blk
 have c6 : w.cell? ⟨K.R, 6, none⟩ = some (.string K.xl) := cell_of_row _ _ 6 _ 45 (0, 0) hrn.blk
 have c7 : w.cell? ⟨K.R, 7, none⟩ = some K.xv := cell_of_row _ _ 7 _ 45 (0, 0) hrn.blk
 have HT := Lib.hid (rtakes_any hx hM hsz hl hw hN hwl)
 obtain ⟨n, c, A, hxv⟩ : ∃ n c A, K.xv = .slice A n c := by
  obtain ⟨kv, e, hr⟩ := hx
  obtain ⟨A, c, e'⟩ := hr.form
  injection e with e
  have e := congrArg Array.toList e
  simp at e
  exact ⟨_, c, A, e.2.2.trans e'⟩
 rw [hxv] at c7 HT
 clear hx hrn e2 e3 e4 e5
 go_enter Tryd.func30, Tryd.ntmps30
 go_wp2_with (go_at_call 59; refine HT.out.mono ?_; rintro e w1 ⟨rfl, hb⟩)
 go_ret
 exact ⟨rfl, hb⟩
end Go.Proofs.YtnccgaanfjaimaaDoor

namespace Go.Proofs.YtnccgaanfjaimaaDoor
open Go.ChangeShapes Go.WideShapes Go.ChangeAt Go.RowKit
set_option linter.unusedVariables false
set_option linter.unusedSimpArgs false

attribute [local go_sem] Oper.semAt_some

theorem parts42 : (Tryd.prog.info? 42).map (fun i => (i.zero, i.size, i.bytes)) = some (some (.slice none 0 0), 1, 24) := by kernel_rfl
def NWc (E : Bool) (k : Int) (l : ByteArray) (kv vn : Value) : List Value := [.slice none 0 0, .slice none 0 0, .slice none 0 0, vn, .bool E, .int .i64 k, .string l, kv]
def rowW (r : Nat → Nat) (n t : Nat) : List Value := (List.range t).map fun i => .slice (some ⟨r i, 0, none⟩) (n + 1) (n + 1)
/-- the document's Nfa as it is made: so many rows are there -/
structure NW (w W : World) (R : Nat) (x : X) (A : Option Addr) (nk c n : Nat) (vn : Value) (t : Nat) (r : Nat → Nat) : Prop where
 bel : Below w.heap.size w W
 hR : w.heap.size < R
 bx : W.heap[w.heap.size]? = some (.cells #[.int .i64 x.kind, .string x.lab, .slice A nk c] 25 (0, 0))
 blk : W.heap[R]? = some (.cells (NWc x.emp x.kind x.lab (.slice A nk c) vn).toArray 45 (0, 0))
 row : W.ownsRow w.heap.size 42 1 vn t (rowW r n t)
 fl : ∀ i, i < t → FRat w.heap.size W (r i) n (fun _ => False)
 inj : ∀ i j, i < t → j < t → r i = r j → i = j
section
variable {w W W' : World} {R : Nat} {x : X} {A : Option Addr} {nk c n : Nat} {vn : Value} {t : Nat} {r : Nat → Nat}
theorem NW.bel' (h : NW w W R x A nk c n vn t r) (hb : Below W.heap.size W W') : NW w W' R x A nk c n vn t r :=
 ⟨h.bel.trans (hb.mono h.bel.size), h.hR, (hb.block _ (Array.getElem?_eq_some_iff.1 h.bx).1).trans h.bx, (hb.block _ (Array.getElem?_eq_some_iff.1 h.blk).1).trans h.blk, own_bel h.row hb, fun i hi => (h.fl i hi).bel hb, h.inj⟩
theorem NW.facts (h : NW w W R x A nk c n vn t r) : W.cell? ⟨R, 3, none⟩ = some vn ∧ W.cell? ⟨w.heap.size, 0, none⟩ = some (.int .i64 x.kind) ∧ W.cell? ⟨w.heap.size, 1, none⟩ = some (.string x.lab) ∧ W.cell? ⟨w.heap.size, 2, none⟩ = some (.slice A nk c) :=
 ⟨cell_of_row _ _ 3 _ 45 (0, 0) h.blk, (three_cells h.bx).1⟩
theorem NW.fresh (h : NW w W R x A nk c n vn t r) : ∀ i, i < t → r i ≠ W.heap.size := fun i hi e => by
 have := (h.fl i hi).lt
 omega
theorem NW.more {v' : Value} {u4 : World} {gr : Nat} (h : NW w W R x A nk c n vn t r) (hown : u4.ownsRow w.heap.size 42 1 v' (t + 1) (rowW r n t ++ [.slice (some ⟨gr, 0, none⟩) (n + 1) (n + 1)])) (hg : W.grownBy u4 vn.ownBlock) (hf : FRat w.heap.size W gr n (fun _ => False)) (hne : ∀ i, i < t → r i ≠ gr) :
  (u4.cell? ⟨R, 3, none⟩ = some vn ∧ u4.cell? ⟨w.heap.size, 0, none⟩ = some (.int .i64 x.kind) ∧ u4.cell? ⟨w.heap.size, 1, none⟩ = some (.string x.lab) ∧ u4.cell? ⟨w.heap.size, 2, none⟩ = some (.slice A nk c)) ∧ u4.frozen? ⟨R, 3, none⟩ = false ∧
   NW w (u4.setCell ⟨R, 3, none⟩ v') R x A nk c n v' (t + 1) (fun i => if i < t then r i else gr) := by
 have hbk : ∀ (b : Nat) (a : Array Value) (q : TypeId), q ≠ 42 → W.heap[b]? = some (.cells a q (0, 0)) → u4.heap[b]? = some (.cells a q (0, 0)) := fun b a q hq hb =>
  (hg.block b (Array.getElem?_eq_some_iff.1 hb).1 fun e => row_ne h.row hb hq e.symm).trans hb
 have hB := hbk _ _ _ (by decide) h.blk
 have hX := hbk _ _ _ (by decide) h.bx
 have hset : ∀ (b : Nat) (a : Array Value) (q : TypeId), q ≠ 42 → q ≠ 45 → W.heap[b]? = some (.cells a q (0, 0)) → (u4.setCell ⟨R, 3, none⟩ v').heap[b]? = some (.cells a q (0, 0)) := fun b a q h1 h2 hb =>
  (Below.heap_setCell _ _ _ _ (ne_type (hbk _ _ _ h1 hb) hB h2)).trans (hbk _ _ _ h1 hb)
 have hfr : ∀ g, FRat w.heap.size W g n (fun _ => False) → FRat w.heap.size (u4.setCell ⟨R, 3, none⟩ v') g n (fun _ => False) := fun g hf => by
  obtain ⟨hb, row, e1, e2⟩ := hf
  exact ⟨hb, row, hset _ _ _ (by decide) (by decide) e1, e2⟩
 refine ⟨⟨cell_of_row _ _ 3 _ 45 (0, 0) hB, (three_cells hX).1⟩, by simp [World.frozen?, hB], ?_, h.hR, hset _ _ _ (by decide) (by decide) h.bx, ?_, ?_, fun i hi => ?_, fun i j hi hj e => ?_⟩
 ·have h1 : Below w.heap.size w u4 := h.bel.grown hg h.bel.size (fun g e => (h.row.lt g e).1)
  exact h1.setCell (p := ⟨R, 3, none⟩) (Nat.le_of_lt h.hR) v'
 ·exact heap_set hB v'
 ·have e : rowW (fun i => if i < t then r i else gr) n (t + 1) = rowW r n t ++ [.slice (some ⟨gr, 0, none⟩) (n + 1) (n + 1)] := by
   unfold rowW
   rw [List.range_succ, List.map_append]
   congr 1
   ·apply List.map_congr_left
    intro i hi
    show Value.slice (some ⟨(if i < t then r i else gr), 0, none⟩) (n + 1) (n + 1) = _
    rw [if_pos (List.mem_range.1 hi)]
   ·simp
  rw [e]
  exact ownsRow_setCell_other hown (a := ⟨R, 3, none⟩) (row_ne hown hB (by decide)) v'
 ·by_cases h1 : i < t
  ·simp only [if_pos h1]
   exact hfr _ (h.fl i h1)
  ·simp only [if_neg h1]
   exact hfr _ hf
 ·by_cases h1 : i < t
  ·by_cases h2 : j < t
   ·rw [if_pos h1, if_pos h2] at e
    exact h.inj i j h1 h2 e
   ·rw [if_pos h1, if_neg h2] at e
    exact absurd e (hne i h1)
  ·by_cases h2 : j < t
   ·rw [if_neg h1, if_pos h2] at e
    exact absurd e.symm (hne j h2)
   ·omega
theorem NW.mt (h : NW w W R x A nk c n vn (n + 1) r) : ∃ g c', vn = .slice (some ⟨g, 0, none⟩) (n + 1) c' ∧ MtAt w.heap.size W g r n (pF (fun _ _ => False)) := by
 rcases h.row.2 with ⟨_, h0⟩ | ⟨g, cap, cur, rfl, hb, hg, h1, h2, h3, h4⟩
 ·omega
 ·refine ⟨g, cap, rfl, hb, ⟨cur, hg, fun i hi => ?_⟩, fun i hi => ?_, fun i j hi hj e => h.inj i j (by omega) (by omega) e⟩
  ·have e : (cur.toList.take ((n + 1) * 1))[i]? = (rowW r n (n + 1))[i]? := by rw [h4]
   rw [List.getElem?_take_of_lt (by omega)] at e
   rw [← Array.getElem?_toList, e]
   unfold rowW
   simp [show i < n + 1 by omega]
  ·have hf := h.fl i (by omega)
   exact ⟨hf.hb, hf.row⟩
end
def RK0 (R g n c : Nat) (E : Bool) (k : Int) (l : ByteArray) (kv : Value) (r : Nat → Nat) : RK := ⟨R, g, r, n, c, .slice none 0 0, .slice none 0 0, E, k, l, kv⟩
def RK.withF (K : RK) (v : Value) : RK := { K with vF := v }
def RK.withL (K : RK) (v : Value) : RK := { K with vL := v }
theorem RN.setK {B : Nat} {w : World} {K : RK} {vl : Value} {labs : List ByteArray} {P : Nat → Nat → Prop} (h : RN B w K vl labs P) (K' : RK) (hR : K'.R = K.R) (hg : K'.g = K.g) (hr : K'.r = K.r) (hn : K'.n = K.n) (v : Value) (i : Nat) (hc : (K.cl vl).set i v = K'.cl vl) : RN B (w.setCell ⟨K.R, i, none⟩ v) K' vl labs P := by
 have hnx := h.nx.still (w' := w.setCell ⟨K.R, i, none⟩ v) fun b a t ht hb => (Below.heap_setCell _ _ _ _ (ne_type hb h.blk (by rcases ht with rfl | rfl <;> decide))).trans hb
 refine ⟨by rw [hR]; exact h.hB, by rw [hR, heap_set h.blk, hc], ownsRow_setCell_other h.lab (a := ⟨K.R, i, none⟩) (row_ne h.lab h.blk (by decide)) _, ?_⟩
 rw [hg, hr, hn]
 exact hnx
theorem pn_pos {x : X} (hg : x.good) : 1 ≤ x.pn := by
 obtain ⟨⟨p, hp⟩, _⟩ := fst_some x hg 1
 have := fst_in x 1 p hp
 omega

/-- what the document's New tells -/
def RNewR (x : X) (w : World) (e : Ending) (w' : World) : Prop := Below w.heap.size w w' ∧ if x.right = true then ∃ R, e = .returned (.tuple #[.pointer (some ⟨R, 0, none⟩), .int .i64 0]) ∧ RefX w.heap.size w.heap.size w' R x else e = .returned (.tuple #[.pointer none, .int .i64 2])

set_option maxRecDepth 100000 in
set_option maxHeartbeats 8000000 in
theorem rnew_any {M : Nat} {w : World} {v : Value} {x : X} (hx : XV M w v x) (hM : M ≤ w.heap.size) (hsz : x.sz ≤ 100000) (hl : x.lit) :
  Calls Tryd.prog 12 #[v] w (RNewR x w) := by
 obtain ⟨kv, rfl, hr⟩ := hx
 obtain ⟨A, c, rfl⟩ := hr.form
 obtain ⟨W0, hW0⟩ : ∃ W0, w.alloc (.cells #[.int .i64 x.kind, .string x.lab, .slice A x.kids.length c] 25) = W0 := ⟨_, rfl⟩
 have hb0 : Below w.heap.size w W0 := by rw [← hW0]; exact (Below.refl _ w).alloc (Nat.le_refl _) _
 have hz0 : W0.heap.size = w.heap.size + 1 := by rw [← hW0]; simp
 have hbx : W0.heap[w.heap.size]? = some (.cells #[.int .i64 x.kind, .string x.lab, .slice A x.kids.length c] 25 (0, 0)) := by rw [← hW0]; exact at_push w _
 have HB0 := Lib.hid (And.intro hb0 hz0)
 have HXV := Lib.hid (show ∀ W, Below w.heap.size w W → XV w.heap.size W (.agg #[.int .i64 x.kind, .string x.lab, .slice A x.kids.length c]) x from fun W h => XV.mono (XV.bel ⟨_, rfl, hr⟩ (h.mono hM)) hM)
 have HRT := Lib.hid (rright_any (HXV.out W0 hb0) hb0.size hsz hl)
 have HBX0 := Lib.hid hbx
 have HBX := Lib.hid (show ∀ W, Below W0.heap.size W0 W → W.cell? ⟨w.heap.size, 0, none⟩ = some (.int .i64 x.kind) ∧ W.cell? ⟨w.heap.size, 1, none⟩ = some (.string x.lab) ∧ W.cell? ⟨w.heap.size, 2, none⟩ = some (.slice A x.kids.length c) from fun W h => (three_cells ((h.block _ (by omega)).trans HBX0.out)).1)
 obtain ⟨nk, hnk⟩ : ∃ y, x.kids.length = y := ⟨_, rfl⟩
 rw [hnk] at hW0 HXV HRT HBX HBX0 ⊢
 obtain ⟨c0, c1, c2⟩ := HBX.out W0 (Below.refl _ _)
 unfold RNewR
 clear hr hb0 hz0 hbx hnk
 cases hrt : x.right with
 | false =>
  rw [hrt] at HRT
  clear hrt
  go_enter Tryd.func12, Tryd.ntmps12
  go_upto_region 1 with (fail)
  try rw [hW0]
  go_wp2_with (go_at_call 46; refine HRT.out.mono ?_; rintro e w1 ⟨rfl, hb⟩; have HB2 := Lib.hid (HB0.out.1.trans (hb.mono HB0.out.1.size)); clear hb)
  go_ret2
  exact ⟨HB2.out, by simp⟩
 | true =>
  rw [hrt] at HRT
  obtain ⟨hg, hs24⟩ := right_good hrt
  have hrt' := hrt
  have hpp := pn_pos hg
  have hpl : x.pn ≤ 24 := Nat.le_trans (pn_sz x) hs24
  obtain ⟨n, hn⟩ : ∃ n, x.pn = n + 1 := ⟨x.pn - 1, by omega⟩
  have hn24 : n ≤ 23 := by omega
  have HG := Lib.hid (And.intro hg (And.intro hs24 (And.intro hl hn)))
  have HEMP := Lib.hid (show ∀ W, Below W0.heap.size W0 W → Calls Tryd.prog 47 #[.agg #[.int .i64 x.kind, .string x.lab, .slice A nk c]] W fun e w' => e = .returned (.bool x.emp) ∧ Below W.heap.size W w' from fun W h => by
   have hbW := HB0.out.1.trans (h.mono HB0.out.1.size)
   have h2 := rempty_any (HXV.out W hbW) hbW.size hsz hl
   rw [emp_takes hg hs24] at h2
   exact h2)
  have HMANY := Lib.hid (show ∀ W, Below w.heap.size w W → Calls Tryd.prog 48 #[.agg #[.int .i64 x.kind, .string x.lab, .slice A nk c]] W fun e w' => e = .returned (.int .i64 ((n : Int) + 1)) ∧ Below W.heap.size W w' from fun W h => by
   have h2 := many48_any x hsz _ W _ (HXV.out W h) h.size
   rw [hn] at h2
   exact h2)
  obtain ⟨MM, hMM, hmk⟩ := make_flags n (by omega)
  have HMM := Lib.hid hMM
  have HMK := Lib.hid hmk
  obtain ⟨i42, hi42, hz42, hs42, hb42⟩ := info_parts parts42
  clear hrt hg hs24 hl hsz hpp hpl hn hMM hmk
  go_enter Tryd.func12, Tryd.ntmps12
  go_upto_region 1 with (fail)
  try rw [hW0]
  go_upto_region 3 with (go_at_call 46; refine HRT.out.mono ?_; rintro e w1 ⟨rfl, hb⟩; have HW1 := Lib.hid hb; clear hb)
  clear c0 c1 c2
  obtain ⟨u0, hu0⟩ : ∃ z, w1.drew = z := ⟨_, rfl⟩
  have G0 := Lib.hid (show Below W0.heap.size W0 u0 by rw [← hu0]; exact HW1.out.drew)
  refine wp_region_noPanic ?_
  refine wp_region_held_drew (S := fun W => W.cell? ⟨w.heap.size, 0, none⟩ = some (.int .i64 x.kind) ∧ W.cell? ⟨w.heap.size, 1, none⟩ = some (.string x.lab) ∧ W.cell? ⟨w.heap.size, 2, none⟩ = some (.slice A nk c)) (by kernel_rfl) (by rw [hu0]; exact HBX.out _ G0.out) (fun hHeld => ?_)
  clear hHeld
  rw [hu0]
  clear hu0
  refine tkI (i := 0) (v := .agg #[.int .i64 x.kind, .string x.lab, .slice A nk c]) rfl ⟨by rfl, ?_⟩ (HBX.out _ G0.out) ?_
  ·intro ww hSw
   obtain ⟨hs0, hs1, hs2⟩ := hSw
   go_simp
  try simp only [Act.put, z1, z2, z3, z4, z5, z6]
  refine tkI (i := 2) (v := .agg #[.int .i64 x.kind, .string x.lab, .slice A nk c]) rfl ⟨by rfl, ?_⟩ (HBX.out _ G0.out) ?_
  ·intro ww hSw
   obtain ⟨hs0, hs1, hs2⟩ := hSw
   go_simp
  try simp only [Act.put, z1, z2, z3, z4, z5, z6]
  refine wpAnyH_ready (rs := [1]) (by kernel_rfl) (by simp) ?_
  refine AllReadyH.cons rfl (fun k_ hK => ?_) AllReadyH.nil
  go_simp
  refine (HEMP.out _ G0.out).mono ?_
  rintro e u1 ⟨rfl, hb⟩
  have G1 := Lib.hid (G0.out.trans (hb.mono G0.out.size))
  clear hb
  refine hK.out _ _ (HBX.out _ G1.out) (fun _ => ?_)
  clear hK
  try simp only [Act.put, z1, z2, z3, z4, z5, z6]
  refine tkI (i := 3) (v := .agg #[.slice none 0 0, .slice none 0 0, .slice none 0 0, .slice none 0 0, .bool x.emp, .int .i64 x.kind, .string x.lab, .slice A nk c]) rfl ⟨by rfl, ?_⟩ (HBX.out _ G1.out) ?_
  ·intro ww hSw
   obtain ⟨hs0, hs1, hs2⟩ := hSw
   go_simp
  try simp only [Act.put, z1, z2, z3, z4, z5, z6]
  refine wpAnyH_ready (rs := [4]) (by kernel_rfl) (by simp) ?_
  refine AllReadyH.cons rfl (fun k_ hK => ?_) AllReadyH.nil
  go_simp
  have hq := (Below.refl _ u1).alloc (Nat.le_refl _) (.cells (NWc x.emp x.kind x.lab (.slice A nk c) (.slice none 0 0)).toArray 45)
  have hp := at_push u1 (.cells (NWc x.emp x.kind x.lab (.slice A nk c) (.slice none 0 0)).toArray 45)
  unfold NWc at hq hp
  refine hK.out _ _ (HBX.out _ (G1.out.trans (hq.mono G1.out.size))) (fun _ => ?_)
  clear hK
  try simp only [Act.put, z1, z2, z3, z4, z5, z6]
  obtain ⟨R, hRR⟩ : ∃ z, u1.heap.size = z := ⟨_, rfl⟩
  obtain ⟨u2, hu2⟩ : ∃ z, u1.alloc (.cells #[.slice none 0 0, .slice none 0 0, .slice none 0 0, .slice none 0 0, .bool x.emp, .int .i64 x.kind, .string x.lab, .slice A nk c] 45) = z := ⟨_, rfl⟩
  rw [hu2] at hq hp ⊢
  rw [hRR] at hp ⊢
  have G2 := Lib.hid (G1.out.trans (hq.mono G1.out.size))
  have HP := Lib.hid (And.intro hp (show W0.heap.size ≤ R by rw [← hRR]; exact G1.out.size))
  clear hq hp hu2 hRR
  refine tkI (i := 5) (v := .pointer (some ⟨R, 0, none⟩)) rfl ⟨by rfl, ?_⟩ (HBX.out _ G2.out) ?_
  ·intro ww hSw
   obtain ⟨hs0, hs1, hs2⟩ := hSw
   go_simp
  try simp only [Act.put, z1, z2, z3, z4, z5, z6]
  refine ⟨by kernel_rfl, ?_⟩
  refine NoPanic.normal ?_
  have hN0 : NW w u2 R x A nk c n (.slice none 0 0) 0 (fun _ => 0) :=
   ⟨HB0.out.1.trans (G2.out.mono HB0.out.1.size), by have := HP.out.2; have := HB0.out.2; omega, (G2.out.block _ (by have := HB0.out.2; omega)).trans HBX0.out, HP.out.1, World.ownsRow_nil _ _ _ _, fun i hi => absurd hi (by omega), fun i j hi => absurd hi (by omega)⟩
  have HN0 := Lib.hid hN0
  obtain ⟨-, c0, c1, c2⟩ := hN0.facts
  clear hN0
  go_upto_region 5 with (go_at_call 48; refine (HMANY.out _ HN0.out.bel).mono ?_; rintro e u3 ⟨rfl, hb⟩; have HN1 := Lib.hid (HN0.out.bel' hb); clear hb)
  clear c0 c1 c2
  go_loopw [5] (fun u5 wr => ∃ (t : Nat) (r : Nat → Nat) (vn : Value), t ≤ n + 1 ∧ u5 = .int .i64 ((n : Int) + 1 - t) ∧ NW w wr R x A nk c n vn t r) (fun u5 _ => (intOf u5).toNat)
  case atStart => exact ⟨0, _, _, Nat.zero_le _, by simp, HN1.out⟩
  case round =>
   clear HN0 HN1
   obtain ⟨t, r, vn, ht, rfl, hN⟩ := hrel
   obtain ⟨W5, hW5⟩ : ∃ z, wr = z := ⟨_, rfl⟩
   rw [hW5] at hN ⊢
   have HN := Lib.hid hN
   clear hW5 hN
   by_cases htn : t < n + 1
   ·have hpos : (0 : Int) < (n : Int) + 1 - t := by omega
    have htm : t ≤ 23 := by omega
    obtain ⟨Av, cv, e⟩ := row_form HN.out.row
    subst e
    obtain ⟨j, hj⟩ : ∃ j : Int, (n : Int) + 1 - t = j := ⟨_, rfl⟩
    rw [hj] at hpos ⊢
    have HJ := Lib.hid hj
    have hj24 : j ≤ 24 := by omega
    clear hj
    go_upto_region 7 with (fail)
    obtain ⟨u0, hu0⟩ : ∃ z, W5.drew = z := ⟨_, rfl⟩
    have Q0 := Lib.hid (show NW w u0 R x A nk c n (.slice Av t cv) t r by rw [← hu0]; exact HN.out.bel' (Below.refl _ _).drew)
    refine wp_region_noPanic ?_
    refine wp_region_held_drew (S := fun W => W.cell? ⟨w.heap.size, 0, none⟩ = some (.int .i64 x.kind) ∧ W.cell? ⟨w.heap.size, 1, none⟩ = some (.string x.lab) ∧ W.cell? ⟨w.heap.size, 2, none⟩ = some (.slice A nk c)) (by kernel_rfl) (by rw [hu0]; exact Q0.out.facts.2) (fun hHeld => ?_)
    clear hHeld
    rw [hu0]
    clear hu0
    refine tkI (i := 0) (v := .pointer (some ⟨R, 0, none⟩)) rfl ⟨by rfl, ?_⟩ Q0.out.facts.2 ?_
    ·intro ww hSw
     obtain ⟨hs0, hs1, hs2⟩ := hSw
     go_simp
    try simp only [Act.put, z1, z2, z3, z4, z5, z6]
    refine tkI (i := 1) (v := .pointer (some ⟨R, 0, none⟩)) rfl ⟨by rfl, ?_⟩ Q0.out.facts.2 ?_
    ·intro ww hSw
     obtain ⟨hs0, hs1, hs2⟩ := hSw
     go_simp
    try simp only [Act.put, z1, z2, z3, z4, z5, z6]
    refine tkI (i := 2) (v := .pointer (some ⟨R, 0, none⟩)) rfl ⟨by rfl, ?_⟩ Q0.out.facts.2 ?_
    ·intro ww hSw
     obtain ⟨hs0, hs1, hs2⟩ := hSw
     go_simp
    try simp only [Act.put, z1, z2, z3, z4, z5, z6]
    refine tkI (i := 3) (v := .pointer (some ⟨R, 3, none⟩)) rfl ⟨by rfl, ?_⟩ Q0.out.facts.2 ?_
    ·intro ww hSw
     obtain ⟨hs0, hs1, hs2⟩ := hSw
     go_simp
    try simp only [Act.put, z1, z2, z3, z4, z5, z6]
    refine tkI (i := 5) (v := .agg #[.int .i64 x.kind, .string x.lab, .slice A nk c]) rfl ⟨by rfl, ?_⟩ Q0.out.facts.2 ?_
    ·intro ww hSw
     obtain ⟨hs0, hs1, hs2⟩ := hSw
     go_simp
    try simp only [Act.put, z1, z2, z3, z4, z5, z6]
    refine wpAnyH_ready (rs := [4, 6]) (by kernel_rfl) (by simp) ?_
    refine AllReadyH.cons rfl (fun k_ hK => ?_) (AllReadyH.cons rfl (fun k_ hK => ?_) (AllReadyH.nil))
    ·have q0 := Q0.out.facts.1
     go_simp
     clear q0
     refine hK.out _ _ Q0.out.facts.2 (fun _ => ?_)
     clear hK
     try simp only [Act.put, z1, z2, z3, z4, z5, z6]
     refine wpAnyH_ready (rs := [6]) (by kernel_rfl) (by simp) ?_
     refine AllReadyH.cons rfl (fun k_ hK => ?_) (AllReadyH.nil)
     go_simp
     refine (HMANY.out _ Q0.out.bel).mono ?_
     rintro e u1 ⟨rfl, hb⟩
     have Q1 := Lib.hid (Q0.out.bel' hb)
     clear hb
     refine hK.out _ _ Q1.out.facts.2 (fun _ => ?_)
     clear hK
     try simp only [Act.put, z1, z2, z3, z4, z5, z6]
     refine wpAnyH_ready (rs := [7]) (by kernel_rfl) (by simp) ?_
     refine AllReadyH.cons rfl (fun k_ hK => ?_) (AllReadyH.nil)
     have hmk := HMK.out
     go_simp
     clear hmk
     have hq := Q1.out.bel' ((Below.refl _ u1).alloc (Nat.le_refl _) (.cells MM 4))
     have hf := (FRat.made u1 HMM.out).mono Q1.out.bel.size
     refine hK.out _ _ hq.facts.2 (fun _ => ?_)
     clear hK
     try simp only [Act.put, z1, z2, z3, z4, z5, z6]
     obtain ⟨gr, hgr⟩ : ∃ z, u1.heap.size = z := ⟨_, rfl⟩
     have hnew := Q1.out.fresh
     rw [hgr] at hf hnew ⊢
     obtain ⟨u2, hu2⟩ : ∃ z, u1.alloc (.cells MM 4) = z := ⟨_, rfl⟩
     rw [hu2] at hq hf ⊢
     have Q2 := Lib.hid (And.intro hq (And.intro hf hnew))
     clear hq hf hu2 hgr hnew
     refine wpAnyH_ready (rs := [8]) (by kernel_rfl) (by simp) ?_
     refine AllReadyH.cons rfl (fun k_ hK => ?_) (AllReadyH.nil)
     go_simp
     have hb := (Below.refl _ u2).alloc (Nat.le_refl _) (.cells #[.slice (some ⟨gr, 0, none⟩) (n + 1) (n + 1)] 42)
     have hq := Q2.out.1.bel' hb
     have hf := Q2.out.2.1.bel hb
     have hp := at_push u2 (.cells #[.slice (some ⟨gr, 0, none⟩) (n + 1) (n + 1)] 42)
     refine hK.out _ _ hq.facts.2 (fun _ => ?_)
     clear hK
     try simp only [Act.put, z1, z2, z3, z4, z5, z6]
     obtain ⟨gs, hgs⟩ : ∃ z, u2.heap.size = z := ⟨_, rfl⟩
     rw [hgs] at hp ⊢
     obtain ⟨u3, hu3⟩ : ∃ z, u2.alloc (.cells #[.slice (some ⟨gr, 0, none⟩) (n + 1) (n + 1)] 42) = z := ⟨_, rfl⟩
     rw [hu3] at hq hf hp ⊢
     have Q3 := Lib.hid (And.intro hq (And.intro hf hp))
     clear hq hf hu3 hgs hp hb
     refine wpAnyH_ready (rs := [9]) (by kernel_rfl) (by simp) ?_
     refine AllReadyH.cons rfl (fun k_ hK => ?_) AllReadyH.nil
     refine step_append_own rfl (.tmp 25) (.tmp 29) rfl (base := w.heap.size) Tryd.underlying43 hi42 hz42 hs42 hb42 rfl (by decide) (v := .slice Av t cv) (by simp [Act.eval]) Q3.out.1.row (ad := ⟨gs, 0, none⟩) (m := 1) (c := 1) (news := [.slice (some ⟨gr, 0, none⟩) (n + 1) (n + 1)]) (by simp [Act.eval]) rfl (row_cells8 Q3.out.2.2) (by simp [Value.oneCell']) (by unfold maxLen; omega) (by omega) Q3.out.1.bel.size ?_
     intro v' u4 hown' hgrow' hat'
     have hm := Q3.out.1.more hown' hgrow' Q3.out.2.1 Q2.out.2.2
     obtain ⟨A6, c6, e6⟩ := row_form hown'
     subst e6
     have Q4 := Lib.hid hm
     clear hown' hgrow' hat' hm
     refine hK.out _ _ Q4.out.1.2 (fun _ => ?_)
     clear hK
     try simp only [Act.put, z1, z2, z3, z4, z5, z6]
     refine tkI (i := 10) (v := .pointer (some ⟨R, 0, none⟩)) rfl ⟨by rfl, ?_⟩ Q4.out.1.2 ?_
     ·intro ww hSw
      obtain ⟨hs0, hs1, hs2⟩ := hSw
      go_simp
     try simp only [Act.put, z1, z2, z3, z4, z5, z6]
     refine tkI (i := 11) (v := .pointer (some ⟨R, 3, none⟩)) rfl ⟨by rfl, ?_⟩ Q4.out.1.2 ?_
     ·intro ww hSw
      obtain ⟨hs0, hs1, hs2⟩ := hSw
      go_simp
     try simp only [Act.put, z1, z2, z3, z4, z5, z6]
     refine wpAnyH_ready (rs := [12]) (by kernel_rfl) (by simp) ?_
     refine AllReadyH.cons rfl (fun k_ hK => ?_) AllReadyH.nil
     have q0 := Q4.out.1.1
     have q1 := Q4.out.2.1
     go_simp
     clear q0 q1
     refine hK.out _ _ Q4.out.2.2.facts.2 (fun _ => ?_)
     clear hK
     try simp only [Act.put, z1, z2, z3, z4, z5, z6]
     refine ⟨by kernel_rfl, ?_⟩
     refine NoPanic.normal ?_
     have HN6 := Lib.hid Q4.out.2.2
     go_wp2_with fail
     go_roundw
     case rel => exact ⟨t + 1, _, _, by omega, by rw [show (n : Int) + 1 - ((t + 1 : Nat) : Int) = j - 1 by have := HJ.out; omega], HN6.out⟩
     case measure => simp [intOf]; omega
    ·go_simp
     refine (HMANY.out _ Q0.out.bel).mono ?_
     rintro e u1 ⟨rfl, hb⟩
     have Q1 := Lib.hid (Q0.out.bel' hb)
     clear hb
     refine hK.out _ _ Q1.out.facts.2 (fun _ => ?_)
     clear hK
     try simp only [Act.put, z1, z2, z3, z4, z5, z6]
     refine wpAnyH_ready (rs := [4, 7]) (by kernel_rfl) (by simp) ?_
     refine AllReadyH.cons rfl (fun k_ hK => ?_) (AllReadyH.cons rfl (fun k_ hK => ?_) (AllReadyH.nil))
     ·have q0 := Q1.out.facts.1
      go_simp
      clear q0
      refine hK.out _ _ Q1.out.facts.2 (fun _ => ?_)
      clear hK
      try simp only [Act.put, z1, z2, z3, z4, z5, z6]
      refine wpAnyH_ready (rs := [7]) (by kernel_rfl) (by simp) ?_
      refine AllReadyH.cons rfl (fun k_ hK => ?_) (AllReadyH.nil)
      have hmk := HMK.out
      go_simp
      clear hmk
      have hq := Q1.out.bel' ((Below.refl _ u1).alloc (Nat.le_refl _) (.cells MM 4))
      have hf := (FRat.made u1 HMM.out).mono Q1.out.bel.size
      refine hK.out _ _ hq.facts.2 (fun _ => ?_)
      clear hK
      try simp only [Act.put, z1, z2, z3, z4, z5, z6]
      obtain ⟨gr, hgr⟩ : ∃ z, u1.heap.size = z := ⟨_, rfl⟩
      have hnew := Q1.out.fresh
      rw [hgr] at hf hnew ⊢
      obtain ⟨u2, hu2⟩ : ∃ z, u1.alloc (.cells MM 4) = z := ⟨_, rfl⟩
      rw [hu2] at hq hf ⊢
      have Q2 := Lib.hid (And.intro hq (And.intro hf hnew))
      clear hq hf hu2 hgr hnew
      refine wpAnyH_ready (rs := [8]) (by kernel_rfl) (by simp) ?_
      refine AllReadyH.cons rfl (fun k_ hK => ?_) (AllReadyH.nil)
      go_simp
      have hb := (Below.refl _ u2).alloc (Nat.le_refl _) (.cells #[.slice (some ⟨gr, 0, none⟩) (n + 1) (n + 1)] 42)
      have hq := Q2.out.1.bel' hb
      have hf := Q2.out.2.1.bel hb
      have hp := at_push u2 (.cells #[.slice (some ⟨gr, 0, none⟩) (n + 1) (n + 1)] 42)
      refine hK.out _ _ hq.facts.2 (fun _ => ?_)
      clear hK
      try simp only [Act.put, z1, z2, z3, z4, z5, z6]
      obtain ⟨gs, hgs⟩ : ∃ z, u2.heap.size = z := ⟨_, rfl⟩
      rw [hgs] at hp ⊢
      obtain ⟨u3, hu3⟩ : ∃ z, u2.alloc (.cells #[.slice (some ⟨gr, 0, none⟩) (n + 1) (n + 1)] 42) = z := ⟨_, rfl⟩
      rw [hu3] at hq hf hp ⊢
      have Q3 := Lib.hid (And.intro hq (And.intro hf hp))
      clear hq hf hu3 hgs hp hb
      refine wpAnyH_ready (rs := [9]) (by kernel_rfl) (by simp) ?_
      refine AllReadyH.cons rfl (fun k_ hK => ?_) AllReadyH.nil
      refine step_append_own rfl (.tmp 25) (.tmp 29) rfl (base := w.heap.size) Tryd.underlying43 hi42 hz42 hs42 hb42 rfl (by decide) (v := .slice Av t cv) (by simp [Act.eval]) Q3.out.1.row (ad := ⟨gs, 0, none⟩) (m := 1) (c := 1) (news := [.slice (some ⟨gr, 0, none⟩) (n + 1) (n + 1)]) (by simp [Act.eval]) rfl (row_cells8 Q3.out.2.2) (by simp [Value.oneCell']) (by unfold maxLen; omega) (by omega) Q3.out.1.bel.size ?_
      intro v' u4 hown' hgrow' hat'
      have hm := Q3.out.1.more hown' hgrow' Q3.out.2.1 Q2.out.2.2
      obtain ⟨A6, c6, e6⟩ := row_form hown'
      subst e6
      have Q4 := Lib.hid hm
      clear hown' hgrow' hat' hm
      refine hK.out _ _ Q4.out.1.2 (fun _ => ?_)
      clear hK
      try simp only [Act.put, z1, z2, z3, z4, z5, z6]
      refine tkI (i := 10) (v := .pointer (some ⟨R, 0, none⟩)) rfl ⟨by rfl, ?_⟩ Q4.out.1.2 ?_
      ·intro ww hSw
       obtain ⟨hs0, hs1, hs2⟩ := hSw
       go_simp
      try simp only [Act.put, z1, z2, z3, z4, z5, z6]
      refine tkI (i := 11) (v := .pointer (some ⟨R, 3, none⟩)) rfl ⟨by rfl, ?_⟩ Q4.out.1.2 ?_
      ·intro ww hSw
       obtain ⟨hs0, hs1, hs2⟩ := hSw
       go_simp
      try simp only [Act.put, z1, z2, z3, z4, z5, z6]
      refine wpAnyH_ready (rs := [12]) (by kernel_rfl) (by simp) ?_
      refine AllReadyH.cons rfl (fun k_ hK => ?_) AllReadyH.nil
      have q0 := Q4.out.1.1
      have q1 := Q4.out.2.1
      go_simp
      clear q0 q1
      refine hK.out _ _ Q4.out.2.2.facts.2 (fun _ => ?_)
      clear hK
      try simp only [Act.put, z1, z2, z3, z4, z5, z6]
      refine ⟨by kernel_rfl, ?_⟩
      refine NoPanic.normal ?_
      have HN6 := Lib.hid Q4.out.2.2
      go_wp2_with fail
      go_roundw
      case rel => exact ⟨t + 1, _, _, by omega, by rw [show (n : Int) + 1 - ((t + 1 : Nat) : Int) = j - 1 by have := HJ.out; omega], HN6.out⟩
      case measure => simp [intOf]; omega
     ·have hmk := HMK.out
      go_simp
      clear hmk
      have hq := Q1.out.bel' ((Below.refl _ u1).alloc (Nat.le_refl _) (.cells MM 4))
      have hf := (FRat.made u1 HMM.out).mono Q1.out.bel.size
      refine hK.out _ _ hq.facts.2 (fun _ => ?_)
      clear hK
      try simp only [Act.put, z1, z2, z3, z4, z5, z6]
      obtain ⟨gr, hgr⟩ : ∃ z, u1.heap.size = z := ⟨_, rfl⟩
      have hnew := Q1.out.fresh
      rw [hgr] at hf hnew ⊢
      obtain ⟨u2, hu2⟩ : ∃ z, u1.alloc (.cells MM 4) = z := ⟨_, rfl⟩
      rw [hu2] at hq hf ⊢
      have Q2 := Lib.hid (And.intro hq (And.intro hf hnew))
      clear hq hf hu2 hgr hnew
      refine wpAnyH_ready (rs := [4, 8]) (by kernel_rfl) (by simp) ?_
      refine AllReadyH.cons rfl (fun k_ hK => ?_) (AllReadyH.cons rfl (fun k_ hK => ?_) (AllReadyH.nil))
      ·have q0 := Q2.out.1.facts.1
       go_simp
       clear q0
       refine hK.out _ _ Q2.out.1.facts.2 (fun _ => ?_)
       clear hK
       try simp only [Act.put, z1, z2, z3, z4, z5, z6]
       refine wpAnyH_ready (rs := [8]) (by kernel_rfl) (by simp) ?_
       refine AllReadyH.cons rfl (fun k_ hK => ?_) (AllReadyH.nil)
       go_simp
       have hb := (Below.refl _ u2).alloc (Nat.le_refl _) (.cells #[.slice (some ⟨gr, 0, none⟩) (n + 1) (n + 1)] 42)
       have hq := Q2.out.1.bel' hb
       have hf := Q2.out.2.1.bel hb
       have hp := at_push u2 (.cells #[.slice (some ⟨gr, 0, none⟩) (n + 1) (n + 1)] 42)
       refine hK.out _ _ hq.facts.2 (fun _ => ?_)
       clear hK
       try simp only [Act.put, z1, z2, z3, z4, z5, z6]
       obtain ⟨gs, hgs⟩ : ∃ z, u2.heap.size = z := ⟨_, rfl⟩
       rw [hgs] at hp ⊢
       obtain ⟨u3, hu3⟩ : ∃ z, u2.alloc (.cells #[.slice (some ⟨gr, 0, none⟩) (n + 1) (n + 1)] 42) = z := ⟨_, rfl⟩
       rw [hu3] at hq hf hp ⊢
       have Q3 := Lib.hid (And.intro hq (And.intro hf hp))
       clear hq hf hu3 hgs hp hb
       refine wpAnyH_ready (rs := [9]) (by kernel_rfl) (by simp) ?_
       refine AllReadyH.cons rfl (fun k_ hK => ?_) AllReadyH.nil
       refine step_append_own rfl (.tmp 25) (.tmp 29) rfl (base := w.heap.size) Tryd.underlying43 hi42 hz42 hs42 hb42 rfl (by decide) (v := .slice Av t cv) (by simp [Act.eval]) Q3.out.1.row (ad := ⟨gs, 0, none⟩) (m := 1) (c := 1) (news := [.slice (some ⟨gr, 0, none⟩) (n + 1) (n + 1)]) (by simp [Act.eval]) rfl (row_cells8 Q3.out.2.2) (by simp [Value.oneCell']) (by unfold maxLen; omega) (by omega) Q3.out.1.bel.size ?_
       intro v' u4 hown' hgrow' hat'
       have hm := Q3.out.1.more hown' hgrow' Q3.out.2.1 Q2.out.2.2
       obtain ⟨A6, c6, e6⟩ := row_form hown'
       subst e6
       have Q4 := Lib.hid hm
       clear hown' hgrow' hat' hm
       refine hK.out _ _ Q4.out.1.2 (fun _ => ?_)
       clear hK
       try simp only [Act.put, z1, z2, z3, z4, z5, z6]
       refine tkI (i := 10) (v := .pointer (some ⟨R, 0, none⟩)) rfl ⟨by rfl, ?_⟩ Q4.out.1.2 ?_
       ·intro ww hSw
        obtain ⟨hs0, hs1, hs2⟩ := hSw
        go_simp
       try simp only [Act.put, z1, z2, z3, z4, z5, z6]
       refine tkI (i := 11) (v := .pointer (some ⟨R, 3, none⟩)) rfl ⟨by rfl, ?_⟩ Q4.out.1.2 ?_
       ·intro ww hSw
        obtain ⟨hs0, hs1, hs2⟩ := hSw
        go_simp
       try simp only [Act.put, z1, z2, z3, z4, z5, z6]
       refine wpAnyH_ready (rs := [12]) (by kernel_rfl) (by simp) ?_
       refine AllReadyH.cons rfl (fun k_ hK => ?_) AllReadyH.nil
       have q0 := Q4.out.1.1
       have q1 := Q4.out.2.1
       go_simp
       clear q0 q1
       refine hK.out _ _ Q4.out.2.2.facts.2 (fun _ => ?_)
       clear hK
       try simp only [Act.put, z1, z2, z3, z4, z5, z6]
       refine ⟨by kernel_rfl, ?_⟩
       refine NoPanic.normal ?_
       have HN6 := Lib.hid Q4.out.2.2
       go_wp2_with fail
       go_roundw
       case rel => exact ⟨t + 1, _, _, by omega, by rw [show (n : Int) + 1 - ((t + 1 : Nat) : Int) = j - 1 by have := HJ.out; omega], HN6.out⟩
       case measure => simp [intOf]; omega
      ·go_simp
       have hb := (Below.refl _ u2).alloc (Nat.le_refl _) (.cells #[.slice (some ⟨gr, 0, none⟩) (n + 1) (n + 1)] 42)
       have hq := Q2.out.1.bel' hb
       have hf := Q2.out.2.1.bel hb
       have hp := at_push u2 (.cells #[.slice (some ⟨gr, 0, none⟩) (n + 1) (n + 1)] 42)
       refine hK.out _ _ hq.facts.2 (fun _ => ?_)
       clear hK
       try simp only [Act.put, z1, z2, z3, z4, z5, z6]
       obtain ⟨gs, hgs⟩ : ∃ z, u2.heap.size = z := ⟨_, rfl⟩
       rw [hgs] at hp ⊢
       obtain ⟨u3, hu3⟩ : ∃ z, u2.alloc (.cells #[.slice (some ⟨gr, 0, none⟩) (n + 1) (n + 1)] 42) = z := ⟨_, rfl⟩
       rw [hu3] at hq hf hp ⊢
       have Q3 := Lib.hid (And.intro hq (And.intro hf hp))
       clear hq hf hu3 hgs hp hb
       refine wpAnyH_ready (rs := [4]) (by kernel_rfl) (by simp) ?_
       refine AllReadyH.cons rfl (fun k_ hK => ?_) (AllReadyH.nil)
       have q0 := Q3.out.1.facts.1
       go_simp
       clear q0
       refine hK.out _ _ Q3.out.1.facts.2 (fun _ => ?_)
       clear hK
       try simp only [Act.put, z1, z2, z3, z4, z5, z6]
       refine wpAnyH_ready (rs := [9]) (by kernel_rfl) (by simp) ?_
       refine AllReadyH.cons rfl (fun k_ hK => ?_) AllReadyH.nil
       refine step_append_own rfl (.tmp 25) (.tmp 29) rfl (base := w.heap.size) Tryd.underlying43 hi42 hz42 hs42 hb42 rfl (by decide) (v := .slice Av t cv) (by simp [Act.eval]) Q3.out.1.row (ad := ⟨gs, 0, none⟩) (m := 1) (c := 1) (news := [.slice (some ⟨gr, 0, none⟩) (n + 1) (n + 1)]) (by simp [Act.eval]) rfl (row_cells8 Q3.out.2.2) (by simp [Value.oneCell']) (by unfold maxLen; omega) (by omega) Q3.out.1.bel.size ?_
       intro v' u4 hown' hgrow' hat'
       have hm := Q3.out.1.more hown' hgrow' Q3.out.2.1 Q2.out.2.2
       obtain ⟨A6, c6, e6⟩ := row_form hown'
       subst e6
       have Q4 := Lib.hid hm
       clear hown' hgrow' hat' hm
       refine hK.out _ _ Q4.out.1.2 (fun _ => ?_)
       clear hK
       try simp only [Act.put, z1, z2, z3, z4, z5, z6]
       refine tkI (i := 10) (v := .pointer (some ⟨R, 0, none⟩)) rfl ⟨by rfl, ?_⟩ Q4.out.1.2 ?_
       ·intro ww hSw
        obtain ⟨hs0, hs1, hs2⟩ := hSw
        go_simp
       try simp only [Act.put, z1, z2, z3, z4, z5, z6]
       refine tkI (i := 11) (v := .pointer (some ⟨R, 3, none⟩)) rfl ⟨by rfl, ?_⟩ Q4.out.1.2 ?_
       ·intro ww hSw
        obtain ⟨hs0, hs1, hs2⟩ := hSw
        go_simp
       try simp only [Act.put, z1, z2, z3, z4, z5, z6]
       refine wpAnyH_ready (rs := [12]) (by kernel_rfl) (by simp) ?_
       refine AllReadyH.cons rfl (fun k_ hK => ?_) AllReadyH.nil
       have q0 := Q4.out.1.1
       have q1 := Q4.out.2.1
       go_simp
       clear q0 q1
       refine hK.out _ _ Q4.out.2.2.facts.2 (fun _ => ?_)
       clear hK
       try simp only [Act.put, z1, z2, z3, z4, z5, z6]
       refine ⟨by kernel_rfl, ?_⟩
       refine NoPanic.normal ?_
       have HN6 := Lib.hid Q4.out.2.2
       go_wp2_with fail
       go_roundw
       case rel => exact ⟨t + 1, _, _, by omega, by rw [show (n : Int) + 1 - ((t + 1 : Nat) : Int) = j - 1 by have := HJ.out; omega], HN6.out⟩
       case measure => simp [intOf]; omega
   ·obtain rfl : t = n + 1 := by omega
    have hpos : ¬ (0 : Int) < (n : Int) + 1 - ((n + 1 : Nat) : Int) := by omega
    obtain ⟨g, c', e, hmt⟩ := HN.out.mt
    subst e
    obtain ⟨-, c0, c1, c2⟩ := HN.out.facts
    have hrn : RN w.heap.size W5 (RK0 R g n c' x.emp x.kind x.lab (.slice A nk c) r) (.slice none 0 0) [] (fun _ _ => False) :=
     ⟨Nat.le_of_lt HN.out.hR, HN.out.blk, World.ownsRow_nil _ _ _ _, hmt⟩
    have HOF := Lib.hid (ofP_any x w.heap.size w.heap.size W5 (RK0 R g n c' x.emp x.kind x.lab (.slice A nk c) r) (.slice none 0 0) (.agg #[.int .i64 x.kind, .string x.lab, .slice A nk c]) [] (fun _ _ => False) (HXV.out _ HN.out.bel) (Nat.le_refl _) hrn (show n ≤ 100000 by omega) HG.out.1 HG.out.2.1 HG.out.2.2.1 (show 0 + x.pn ≤ n + 1 by have := HG.out.2.2.2; omega))
    unfold OfR RK0 at HOF
    clear hmt hrn
    go_upto_region 9 with (go_at_call 49; go_loud (refine HOF.out.mono ?_; rintro e W6 ⟨vl', g1, g2, rfl, hrn, hf1, hf2, hkr⟩; have H6 := Lib.hid (And.intro hrn (And.intro hf1 (And.intro hf2 hkr))); clear hrn hf1 hf2 hkr))
    have hbel := (Below.refl _ W6).alloc (Nat.le_refl _) (.cells #[.slice (some ⟨g1, 0, none⟩) (n + 1) (n + 1), .slice (some ⟨g2, 0, none⟩) (n + 1) (n + 1), .bool x.emp] 79)
    have hp := at_push W6 (.cells #[.slice (some ⟨g1, 0, none⟩) (n + 1) (n + 1), .slice (some ⟨g2, 0, none⟩) (n + 1) (n + 1), .bool x.emp] 79)
    obtain ⟨W7, hW7⟩ : ∃ z, W6.alloc (.cells #[.slice (some ⟨g1, 0, none⟩) (n + 1) (n + 1), .slice (some ⟨g2, 0, none⟩) (n + 1) (n + 1), .bool x.emp] 79) = z := ⟨_, rfl⟩
    rw [hW7] at hbel hp ⊢
    have hne : W6.heap.size ≠ R := fun e => by have := H6.out.1.lt; dsimp only at this; omega
    obtain ⟨B6, hB6⟩ : ∃ z, W6.heap.size = z := ⟨_, rfl⟩
    rw [hB6] at hp hne ⊢
    have H7 := Lib.hid (And.intro (H6.out.1.bel hbel) (And.intro (H6.out.2.1.bel hbel) (And.intro (H6.out.2.2.1.bel hbel) (And.intro (HN.out.bel.trans (H6.out.2.2.2.below.trans (hbel.mono (Nat.le_trans HN.out.bel.size H6.out.2.2.2.size)))) hp))))
    clear hbel hW7 hB6 c0 c1 c2
    obtain ⟨⟨q0, q1, q2⟩, -⟩ := three_cells H7.out.2.2.2.2
    have d1 := H7.out.1.cells.2.1
    have f1 := H7.out.1.frz 1
    dsimp only at d1 f1
    go_upto_region 10 with (fail)
    have hr8 := H7.out.1.setK (RK0 R g n c' x.emp x.kind x.lab (.slice A nk c) r |>.withF (.slice (some ⟨g1, 0, none⟩) (n + 1) (n + 1))) rfl rfl rfl rfl (.slice (some ⟨g1, 0, none⟩) (n + 1) (n + 1)) 1 rfl
    have hx1 := H7.out.2.1.other (k := 1) H7.out.1.blk (by decide) (.slice (some ⟨g1, 0, none⟩) (n + 1) (n + 1))
    have hx2 := H7.out.2.2.1.other (k := 1) H7.out.1.blk (by decide) (.slice (some ⟨g1, 0, none⟩) (n + 1) (n + 1))
    have hx3 := H7.out.2.2.2.1.setCell (p := ⟨R, 1, none⟩) (Nat.le_of_lt HN.out.hR) (.slice (some ⟨g1, 0, none⟩) (n + 1) (n + 1))
    have hx4 := (Below.heap_setCell W7 ⟨R, 1, none⟩ (.slice (some ⟨g1, 0, none⟩) (n + 1) (n + 1)) B6 hne).trans hp
    dsimp only at hx1 hx2 hr8
    obtain ⟨W8, hW8⟩ : ∃ z, W7.setCell ⟨R, 1, none⟩ (.slice (some ⟨g1, 0, none⟩) (n + 1) (n + 1)) = z := ⟨_, rfl⟩
    rw [hW8] at hr8 hx1 hx2 hx3 hx4 ⊢
    have H8 := Lib.hid (And.intro hr8 (And.intro hx1 (And.intro hx2 (And.intro hx3 hx4))))
    clear hW8 hr8 hx1 hx2 hx3 hx4 q0 q1 q2 d1 f1 hp
    obtain ⟨⟨q0, q1, q2⟩, -⟩ := three_cells H8.out.2.2.2.2
    have d1 := H8.out.1.cells.2.2.1
    have f1 := H8.out.1.frz 2
    dsimp only [RK.withF, RK0] at d1 f1
    go_upto_region 11 with (fail)
    have hr8 := H8.out.1.setK (RK0 R g n c' x.emp x.kind x.lab (.slice A nk c) r |>.withF (.slice (some ⟨g1, 0, none⟩) (n + 1) (n + 1)) |>.withL (.slice (some ⟨g2, 0, none⟩) (n + 1) (n + 1))) rfl rfl rfl rfl (.slice (some ⟨g2, 0, none⟩) (n + 1) (n + 1)) 2 rfl
    have hx1 := H8.out.2.1.other (k := 2) H8.out.1.blk (by decide) (.slice (some ⟨g2, 0, none⟩) (n + 1) (n + 1))
    have hx2 := H8.out.2.2.1.other (k := 2) H8.out.1.blk (by decide) (.slice (some ⟨g2, 0, none⟩) (n + 1) (n + 1))
    have hx3 := H8.out.2.2.2.1.setCell (p := ⟨R, 2, none⟩) (Nat.le_of_lt HN.out.hR) (.slice (some ⟨g2, 0, none⟩) (n + 1) (n + 1))
    dsimp only [RK.withF, RK.withL, RK0] at hx1 hx2 hr8
    obtain ⟨W9, hW9⟩ : ∃ z, W8.setCell ⟨R, 2, none⟩ (.slice (some ⟨g2, 0, none⟩) (n + 1) (n + 1)) = z := ⟨_, rfl⟩
    rw [hW9] at hr8 hx1 hx2 hx3 ⊢
    have H9 := Lib.hid (And.intro hr8 (And.intro hx1 (And.intro hx2 hx3)))
    clear hW9 hr8 hx1 hx2 hx3 q0 q1 q2 d1 f1
    go_wp2_with fail
    go_ret2
    refine ⟨H9.out.2.2.2, ?_⟩
    refine ⟨R, rfl, ⟨R, g, r, n, c', .slice (some ⟨g1, 0, none⟩) (n + 1) (n + 1), .slice (some ⟨g2, 0, none⟩) (n + 1) (n + 1), x.emp, x.kind, x.lab, .slice A nk c⟩, vl', g1, g2, rfl, HG.out.2.2.2.symm, rfl, rfl, rfl, ?_, ?_, ?_, HXV.out W9 H9.out.2.2.2⟩
    ·have h1 := H9.out.1
     rw [List.nil_append] at h1
     exact h1.ext (fun i j _ _ => ⟨fun h => h.elim False.elim id, .inr⟩)
    ·exact H9.out.2.1.mono HN.out.bel.size
    ·exact H9.out.2.2.1.mono HN.out.bel.size
end Go.Proofs.YtnccgaanfjaimaaDoor

namespace Go.Proofs.YtnccgaanfjaimaaDoor
open Go.ChangeShapes Go.WideShapes Go.ChangeAt Go.RowKit Go.Sort
set_option linter.unusedVariables false
set_option linter.unusedSimpArgs false

attribute [local go_sem] Oper.semAt_some

theorem toList_inj {x y : ByteArray} (h : x.toList = y.toList) : x = y := by
 rw [ByteArray.toList_eq, ByteArray.toList_eq] at h
 exact ByteArray.ext (Array.ext' h)

set_option maxHeartbeats 2000000 in
theorem ret_str {a b : ByteArray} (h : a = b) : Ending.returned (.string a) = .returned (.string b) := by rw [h]
def mtN (k i : Int) : List Int := [35, k, k / 256, k / 65536, 47, i % 256, i / 256, i / 65536]
/-- the mark of a place in a row of texts -/
def mT (k i : Int) : ByteArray := strOfNums (mtN k i)
set_option maxHeartbeats 2000000 in
theorem markText_any (k i : Int) (w : World) (hk1 : 0 ≤ k) (hk2 : k ≤ 2) (hi1 : 0 ≤ i) (hi2 : i ≤ 1000) : Calls Tryd.prog 56 #[.int .i64 k, .int .i64 i] w fun e w' => e = .returned (.string (mT k i)) ∧ Below w.heap.size w w' := by
 have hrun := run_convert_bytes_arg (P := Tryd.prog) (w.alloc (.cells #[.int .u8 35, .int .u8 k, .int .u8 (k / 256), .int .u8 (k / 65536), .int .u8 47, .int .u8 (i % 256), .int .u8 (i / 256), .int .u8 (i / 65536)] 5)) 104 5 Tryd.underlying104 Tryd.underlying5 w.heap.size 0 8 8 (mtN k i) rfl (by
  intro j hj
  rw [Nat.zero_add, cell_of_row _ _ _ _ 5 (0, 0) (heap_alloc_new w _)]
  have h : j = 0 ∨ j = 1 ∨ j = 2 ∨ j = 3 ∨ j = 4 ∨ j = 5 ∨ j = 6 ∨ j = 7 := by omega
  rcases h with rfl | rfl | rfl | rfl | rfl | rfl | rfl | rfl <;> rfl) 9 Tryd.underlying9
 obtain ⟨t, ht⟩ : ∃ t, strOfNums (mtN k i) = t := ⟨_, rfl⟩
 have HT := Lib.hid (show mT k i = t from ht)
 rw [ht] at hrun
 clear ht
 go_enter Tryd.func56, Tryd.ntmps56
 go_wp2
 go_ret
 exact ⟨ret_str HT.out.symm, (Below.refl _ _).alloc (Nat.le_refl _) _⟩

/-- the marks behind a row that is lent -/
def mks : List ByteArray := (List.range 12).map fun i : Nat => mT 1 (i : Int)
theorem mks_len : mks.length = 12 := by simp [mks]
theorem mks_get (k : Nat) (h : k < mks.length) : mks[k] = mT 1 (k : Int) := by simp [mks]

/-- a row that is lent: a copy, with marks behind it -/
def LentR (l : List ByteArray) (w : World) (e : Ending) (w' : World) : Prop :=
 ∃ g c, e = .returned (.slice (some ⟨g, 0, none⟩) l.length c) ∧ w'.ownsRow w.heap.size 9 1 (.slice (some ⟨g, 0, none⟩) (l.length + 12) c) (l.length + 12) ((l ++ mks).map Value.string) ∧ Below w.heap.size w w'

theorem own_succ {w : World} {base e size k : Nat} {v : Value} {xs : List Value} (h : w.ownsRow base e size v (k + 1) xs) : ∃ g cap, v = .slice (some ⟨g, 0, none⟩) (k + 1) cap ∧ k + 1 ≤ cap ∧ cap ≤ maxLen := by
 rcases h.2 with ⟨_, h0⟩ | ⟨g, cap, cur, rfl, _, _, h1, h2, _⟩
 ·omega
 ·exact ⟨g, cap, rfl, h1, h2⟩

set_option maxHeartbeats 2000000 in
theorem lent_any {N : Nat} (v : Value) (l : Wd) (w : World) (hv : SR N w v l) (hN : N ≤ w.heap.size) (hll : l.length ≤ 100000) : Calls Tryd.prog 26 #[v] w (LentR l w) := by
 obtain ⟨i9, hi9, hz9, hs9, hb9⟩ := info_parts parts9
 have HV := Lib.hid (fun W (h : Below w.heap.size w W) => hv.bel (h.mono hN))
 obtain ⟨A, c, rfl, hv2⟩ := hv
 clear hv2
 unfold LentR
 obtain ⟨n, hn⟩ : ∃ n, l.length = n := ⟨_, rfl⟩
 have HLN := Lib.hid hn
 rw [hn] at HV hll ⊢
 clear hn
 obtain ⟨M, hM⟩ : ∃ M, M = madeCells (Value.string ⟨#[]⟩).cells ((n + 12) * i9.size) := ⟨_, rfl⟩
 have hMs : M.size = (n + 12) * 1 := by rw [hM, size_madeCells, hs9]
 have eN : ((n : Int) + 12).toNat = n + 12 := by omega
 have hmk : ∀ W : World, (Instr.makeSlice 41 (.int .i64 0) (.int .i64 ((n : Int) + 12))).run Tryd.prog W = .ok (.slice (some ⟨W.heap.size, 0, none⟩) 0 (n + 12)) (W.alloc (.cells M 9)) := fun W => by
  have h := run_make (P := Tryd.prog) W 41 9 i9 (.string ⟨#[]⟩) Tryd.underlying41 hi9 hz9 .i64 .i64 0 ((n : Int) + 12) (by omega) (by omega) (by rw [hb9]; omega) (by omega)
  rw [eN, ← hM] at h
  simpa using h
 have HMS := Lib.hid hMs
 clear hM hMs eN
 go_enter Tryd.func26, Tryd.ntmps26
 go_upto_region 4 with (at_builtin; refine wpList_append_sr rfl _ _ rfl w.heap.size (.slice (some ⟨w.heap.size, 0, none⟩) 0 (n + 12)) 0 [] rfl (World.ownsRow_made w M (n + 12) (Nat.le_refl _) (by unfold maxLen; omega) HMS.out) A n c l rfl (HV.out _ ((Below.refl _ _).alloc (Nat.le_refl _) _)) (by omega) (by simp) ?_; intro v1 w1 hown1 hgrow1 hloc1)
 have hB1 : Below w.heap.size w w1 := ((Below.refl _ w).alloc (Nat.le_refl _) _).grown hgrow1 (by simp) (fun k hk => by simp [Value.ownBlock] at hk; omega)
 have HB1 := Lib.hid hB1
 have HOWN1 := Lib.hid hown1
 clear hgrow1 hloc1 hown1 hB1 hmk
 go_loopw [3, 4] (fun v i wr => ∃ k : Nat, k ≤ 12 ∧ i = .int .i64 k ∧ wr.ownsRow w.heap.size 9 1 v (n + k) ((l ++ mks.take k).map Value.string) ∧ Below w.heap.size w wr) (fun _ i _ => 13 - (intOf i).toNat)
 case atStart => exact ⟨0, Nat.zero_le _, rfl, by simpa using HOWN1.out, HB1.out⟩
 case round =>
  obtain ⟨k, hk, rfl, hrow, hbe⟩ := hrel
  have HROW := Lib.hid hrow
  have HBE := Lib.hid hbe
  have hzr := hbe.size
  by_cases hlt : k < 12
  ·have hk12 : (k : Int) < 12 := by omega
   clear hrow hbe
   have HMK := Lib.hid (fun W => markText_any 1 (k : Int) W (by omega) (by omega) (by omega) (by omega))
   obtain ⟨t, ht⟩ : ∃ t, mT 1 (k : Int) = t := ⟨_, rfl⟩
   have HT := Lib.hid ht
   rw [ht] at HMK
   clear ht
   go_wp2_with (first
    | (go_at_call 56; refine (HMK.out _).mono ?_; rintro e w2 ⟨rfl, hb2⟩; have HB2 := Lib.hid hb2; have hz2 := hb2.size; have hrow2 := HROW.out.kept (w' := w2) (row := none) ⟨hb2.os, hb2.tape, hb2.output, hb2.size, fun i hi _ => hb2.block i hi⟩ (by cases hv : Value.ownBlock _ <;> simp); clear hb2)
    | (at_builtin; refine wpList_append_own_at _ rfl _ _ 41 rfl w.heap.size 9 i9 (.string ⟨#[]⟩) 1 16 Tryd.underlying41 hi9 hz9 hs9 hb9 rfl (by decide) _ _ _ rfl (hrow2.alloc _) ⟨w2.heap.size, 0, none⟩ 1 1 [.string t] rfl rfl (cell_one_new _ _ _) (by simp [Value.oneCell']) (by unfold maxLen; omega) (by omega) (by simp; omega) ?_; intro v' w4 hown' hgrow hnil hloc))
   go_roundw
   case rel =>
    refine ⟨k + 1, by omega, by go_num, ?_, ?_⟩
    ·rw [List.take_succ_eq_append_getElem (by rw [mks_len]; exact hlt), mks_get, HT.out]
     simpa [Nat.add_assoc] using hown'
    ·exact ((HBE.out.trans (HB2.out.mono hzr)).alloc (by omega) _).grown hgrow (by simp; omega) (fun g hg => (hrow2.lt g hg).1)
   case measure => simp [intOf]; omega
  ·obtain rfl : k = 12 := by omega
   rw [List.take_of_length_le (by rw [mks_len]; exact Nat.le_refl _)] at hrow
   obtain ⟨g, cap, rfl, hcap, _⟩ := own_succ (k := n + 11) hrow
   have hc2 : n ≤ cap := by omega
   have hc3 : (n : Int) ≤ (cap : Int) := by omega
   have HR2 := Lib.hid hrow
   clear hrow hbe
   go_wp2_with fail
   go_ret
   exact ⟨g, cap, rfl, HR2.out, HBE.out⟩

theorem set_blk {w : World} {g k c t : Nat} {cur : Array Value} (h : w.heap[g]? = some (.cells cur t (0, 0))) (hc : cur.size = c) (v : Value) : ∃ cur' : Array Value, cur'.size = c ∧ (w.setCell ⟨g, k, none⟩ v).heap[g]? = some (.cells cur' t (0, 0)) :=
 ⟨cur.setIfInBounds k v, by simpa using hc, by simp [World.setCell, Array.getElem?_modify, h]⟩

set_option maxHeartbeats 2000000 in
set_option maxHeartbeats 4000000 in
set_option maxRecDepth 100000 in
/-- a row that is lent stays as it was -/
theorem keptT_any {N B : Nat} {w : World} {g c : Nat} {l : Wd} {v : Value} (hcell : ∀ W, Below B w W → ∀ j (hj : j < (l ++ mks).length), W.cell? ⟨g, j, none⟩ = some (.string (l ++ mks)[j])) (hcap : l.length + 12 ≤ c) (hv : SR N w v l) (hN : N ≤ w.heap.size) (hB : B ≤ w.heap.size) (hl : l.length ≤ 900) :
  Calls Tryd.prog 32 #[.slice (some ⟨g, 0, none⟩) l.length c, v] w fun e w' => e = .returned (.bool true) ∧ Below w.heap.size w w' := by
 have HV := Lib.hid (fun W (h : Below w.heap.size w W) => hv.bel (h.mono hN))
 obtain ⟨A, cl, rfl, hv2⟩ := hv
 have HCELL := Lib.hid (fun W (h : Below w.heap.size w W) => hcell W (h.mono hB))
 obtain ⟨n, hn⟩ : ∃ n, l.length = n := ⟨_, rfl⟩
 have HN := Lib.hid hn
 rw [hn] at hcap hl HV
 obtain ⟨q, hq⟩ : ∃ q, q = n + 12 := ⟨_, rfl⟩
 have HQ := Lib.hid hq
 have hnat : ((n : Int) + 12).toNat = q := by omega
 have hci : (n : Int) + 12 ≤ (c : Int) := by omega
 have hqc : q ≤ c := by omega
 have hq9 : q ≤ 912 := by omega
 have hqi : (n : Int) + 12 = (q : Int) := by omega
 rw [hn]
 clear hn hq hcell hv2
 go_enter Tryd.func32, Tryd.ntmps32
 go_upto_region 5 with (fail)
 clear hnat hci
 go_loopw [6] (fun i wr => ∃ k : Nat, k ≤ q ∧ i = .int .i64 k ∧ Below w.heap.size w wr) (fun i _ => q + 1 - (intOf i).toNat)
 case atStart => exact ⟨0, Nat.zero_le _, rfl, Below.refl _ _⟩
 case round =>
  obtain ⟨k, hk, rfl, hbe⟩ := hrel
  have HBE := Lib.hid hbe
  by_cases hlt : k < q
  ·have hkl : k < (l ++ mks).length := by rw [List.length_append, mks_len, HN.out, ← HQ.out]; exact hlt
   have gk := fun W (h : Below wr.heap.size wr W) => HCELL.out W (hbe.trans (h.mono hbe.size)) k hkl
   obtain ⟨t, ht⟩ : ∃ t, (l ++ mks)[k] = t := ⟨_, rfl⟩
   rw [ht] at gk
   have hk0 : (0 : Int) ≤ (k : Int) := by omega
   have hkq : (k : Int) < (q : Int) := by omega
   have hkqn : ¬ (q ≤ k) := by omega
   go_upto_region 7 with (fail)
   have G0 := Lib.hid (Below.refl wr.heap.size wr).drew
   by_cases hkn : k < n
   ·obtain ⟨A', c', hA, hr3⟩ := HV.out wr hbe
    injection hA with hA1 hA2 hA3
    subst hA1
    subst hA3
    obtain ⟨ad, rfl, hg3, hc3⟩ := hr3 (by rw [HN.out]; omega)
    have hck := hc3 k (by rw [HN.out]; exact hkn)
    have e : l[k]'(by rw [HN.out]; exact hkn) = t := by rw [← ht, List.getElem_append_left]
    rw [e] at hck
    have hkni : (k : Int) < (n : Int) := by omega
    have hkni2 : ¬ (n : Int) ≤ (k : Int) := by omega
    have HS := Lib.hid (fun W (h : Below wr.heap.size wr W) => And.intro (gk W h) ((World.cell?_of_block (h.block _ (by rw [block_add]; have := hbe.size; omega))).trans hck))
    clear hc3 hr3 e ht hbe gk hck hA2 HV HCELL HQ hcap hl
    refine wp_region_noPanic ?_
    refine wp_region_held_drew (S := fun W => (W.cell? ⟨g, k, none⟩ = some (.string t) ∧ W.cell? (ad.add k) = some (.string t))) (by kernel_rfl) (HS.out _ G0.out) (fun hHeld => ?_)
    clear hHeld
    refine tkI (i := 0) (v := .int .i64 k) rfl ⟨by rfl, ?_⟩ (HS.out _ G0.out) ?_
    ·intro w hSw
     obtain ⟨hs0, hs1⟩ := hSw
     go_simp
    try simp only [Act.put, z1, z2, z3, z4, z5, z6]
    refine tkI (i := 1) (v := .slice (some ad) n cl) rfl ⟨by rfl, ?_⟩ (HS.out _ G0.out) ?_
    ·intro w hSw
     obtain ⟨hs0, hs1⟩ := hSw
     go_simp
    try simp only [Act.put, z1, z2, z3, z4, z5, z6]
    refine tkI (i := 2) (v := .int .i64 n) rfl ⟨by rfl, ?_⟩ (HS.out _ G0.out) ?_
    ·intro w hSw
     obtain ⟨hs0, hs1⟩ := hSw
     go_simp
    try simp only [Act.put, z1, z2, z3, z4, z5, z6]
    refine tkI (i := 3) (v := .bool true) rfl ⟨by rfl, ?_⟩ (HS.out _ G0.out) ?_
    ·intro w hSw
     obtain ⟨hs0, hs1⟩ := hSw
     go_simp
    try simp only [Act.put, z1, z2, z3, z4, z5, z6]
    refine tkI (i := 4) (v := .bool true) rfl ⟨by rfl, ?_⟩ (HS.out _ G0.out) ?_
    ·intro w hSw
     obtain ⟨hs0, hs1⟩ := hSw
     go_simp
    try simp only [Act.put, z1, z2, z3, z4, z5, z6]
    refine tkI (i := 5) (v := .slice (some ⟨g, 0, none⟩) q c) rfl ⟨by rfl, ?_⟩ (HS.out _ G0.out) ?_
    ·intro w hSw
     obtain ⟨hs0, hs1⟩ := hSw
     go_simp
    try simp only [Act.put, z1, z2, z3, z4, z5, z6]
    refine tkI (i := 6) (v := .int .i64 k) rfl ⟨by rfl, ?_⟩ (HS.out _ G0.out) ?_
    ·intro w hSw
     obtain ⟨hs0, hs1⟩ := hSw
     go_simp
    try simp only [Act.put, z1, z2, z3, z4, z5, z6]
    refine tkI (i := 7) (v := .pointer (some ⟨g, k, none⟩)) rfl ⟨by rfl, ?_⟩ (HS.out _ G0.out) ?_
    ·intro w hSw
     obtain ⟨hs0, hs1⟩ := hSw
     go_simp
    try simp only [Act.put, z1, z2, z3, z4, z5, z6]
    refine tkI (i := 8) (v := .string t) rfl ⟨by rfl, ?_⟩ (HS.out _ G0.out) ?_
    ·intro w hSw
     obtain ⟨hs0, hs1⟩ := hSw
     go_simp
    try simp only [Act.put, z1, z2, z3, z4, z5, z6]
    refine tkI (i := 9) (v := .slice (some ad) n cl) rfl ⟨by rfl, ?_⟩ (HS.out _ G0.out) ?_
    ·intro w hSw
     obtain ⟨hs0, hs1⟩ := hSw
     go_simp
    try simp only [Act.put, z1, z2, z3, z4, z5, z6]
    refine tkI (i := 10) (v := .int .i64 k) rfl ⟨by rfl, ?_⟩ (HS.out _ G0.out) ?_
    ·intro w hSw
     obtain ⟨hs0, hs1⟩ := hSw
     go_simp
    try simp only [Act.put, z1, z2, z3, z4, z5, z6]
    refine tkI (i := 11) (v := .pointer (some (ad.add k))) rfl ⟨by rfl, ?_⟩ (HS.out _ G0.out) ?_
    ·intro w hSw
     obtain ⟨hs0, hs1⟩ := hSw
     go_simp
    try simp only [Act.put, z1, z2, z3, z4, z5, z6]
    refine tkI (i := 12) (v := .string t) rfl ⟨by rfl, ?_⟩ (HS.out _ G0.out) ?_
    ·intro w hSw
     obtain ⟨hs0, hs1⟩ := hSw
     go_simp
    try simp only [Act.put, z1, z2, z3, z4, z5, z6]
    refine tkI (i := 13) (v := .bool true) rfl ⟨by rfl, ?_⟩ (HS.out _ G0.out) ?_
    ·intro w hSw
     obtain ⟨hs0, hs1⟩ := hSw
     (go_simp; try simp)
    try simp only [Act.put, z1, z2, z3, z4, z5, z6]
    refine tkI (i := 14) (v := .bool false) rfl ⟨by rfl, ?_⟩ (HS.out _ G0.out) ?_
    ·intro w hSw
     obtain ⟨hs0, hs1⟩ := hSw
     go_simp
    try simp only [Act.put, z1, z2, z3, z4, z5, z6]
    refine tkI (i := 15) (v := .bool false) rfl ⟨by rfl, ?_⟩ (HS.out _ G0.out) ?_
    ·intro w hSw
     obtain ⟨hs0, hs1⟩ := hSw
     go_simp
    try simp only [Act.put, z1, z2, z3, z4, z5, z6]
    refine tkI (i := 16) (v := .bool false) rfl ⟨by rfl, ?_⟩ (HS.out _ G0.out) ?_
    ·intro w hSw
     obtain ⟨hs0, hs1⟩ := hSw
     go_simp
    try simp only [Act.put, z1, z2, z3, z4, z5, z6]
    refine tkI (i := 17) (v := .int .i64 k) rfl ⟨by rfl, ?_⟩ (HS.out _ G0.out) ?_
    ·intro w hSw
     obtain ⟨hs0, hs1⟩ := hSw
     go_simp
    try simp only [Act.put, z1, z2, z3, z4, z5, z6]
    refine tkI (i := 18) (v := .slice (some ad) n cl) rfl ⟨by rfl, ?_⟩ (HS.out _ G0.out) ?_
    ·intro w hSw
     obtain ⟨hs0, hs1⟩ := hSw
     go_simp
    try simp only [Act.put, z1, z2, z3, z4, z5, z6]
    refine tkI (i := 19) (v := .int .i64 n) rfl ⟨by rfl, ?_⟩ (HS.out _ G0.out) ?_
    ·intro w hSw
     obtain ⟨hs0, hs1⟩ := hSw
     go_simp
    try simp only [Act.put, z1, z2, z3, z4, z5, z6]
    refine tkI (i := 20) (v := .bool false) rfl ⟨by rfl, ?_⟩ (HS.out _ G0.out) ?_
    ·intro w hSw
     obtain ⟨hs0, hs1⟩ := hSw
     go_simp
    try simp only [Act.put, z1, z2, z3, z4, z5, z6]
    refine tkI (i := 21) (v := .bool false) rfl ⟨by rfl, ?_⟩ (HS.out _ G0.out) ?_
    ·intro w hSw
     obtain ⟨hs0, hs1⟩ := hSw
     go_simp
    try simp only [Act.put, z1, z2, z3, z4, z5, z6]
    refine tkU (i := 22) rfl (by rfl) (HS.out _ G0.out) ?_
    try simp only [Act.put, z1, z2, z3, z4, z5, z6]
    refine tkU (i := 23) rfl (by rfl) (HS.out _ G0.out) ?_
    try simp only [Act.put, z1, z2, z3, z4, z5, z6]
    refine tkU (i := 24) rfl (by rfl) (HS.out _ G0.out) ?_
    try simp only [Act.put, z1, z2, z3, z4, z5, z6]
    refine tkU (i := 25) rfl (by rfl) (HS.out _ G0.out) ?_
    try simp only [Act.put, z1, z2, z3, z4, z5, z6]
    refine tkU (i := 26) rfl (by rfl) (HS.out _ G0.out) ?_
    try simp only [Act.put, z1, z2, z3, z4, z5, z6]
    refine tkU (i := 27) rfl (by rfl) (HS.out _ G0.out) ?_
    try simp only [Act.put, z1, z2, z3, z4, z5, z6]
    refine tkU (i := 28) rfl (by rfl) (HS.out _ G0.out) ?_
    try simp only [Act.put, z1, z2, z3, z4, z5, z6]
    refine tkU (i := 29) rfl (by rfl) (HS.out _ G0.out) ?_
    try simp only [Act.put, z1, z2, z3, z4, z5, z6]
    refine tkU (i := 30) rfl (by rfl) (HS.out _ G0.out) ?_
    try simp only [Act.put, z1, z2, z3, z4, z5, z6]
    refine tkU (i := 31) rfl (by rfl) (HS.out _ G0.out) ?_
    try simp only [Act.put, z1, z2, z3, z4, z5, z6]
    refine tkU (i := 32) rfl (by rfl) (HS.out _ G0.out) ?_
    try simp only [Act.put, z1, z2, z3, z4, z5, z6]
    refine tkI (i := 33) (v := .bool false) rfl ⟨by rfl, ?_⟩ (HS.out _ G0.out) ?_
    ·intro w hSw
     obtain ⟨hs0, hs1⟩ := hSw
     go_simp
    try simp only [Act.put, z1, z2, z3, z4, z5, z6]
    refine tkI (i := 34) (v := .bool false) rfl ⟨by rfl, ?_⟩ (HS.out _ G0.out) ?_
    ·intro w hSw
     obtain ⟨hs0, hs1⟩ := hSw
     go_simp
    try simp only [Act.put, z1, z2, z3, z4, z5, z6]
    refine ⟨by kernel_rfl, ?_⟩
    refine NoPanic.normal ?_
    go_wp2_with fail
    go_roundw
    case rel => exact ⟨k + 1, by omega, by go_num, HBE.out.trans (G0.out.mono HBE.out.size)⟩
    case measure => simp [intOf]; omega
   ·obtain ⟨j, hj⟩ : ∃ j : Nat, j = k - n := ⟨_, rfl⟩
    have hsub : (k : Int) - (n : Int) = (j : Int) := by omega
    have hj12 : j < 12 := by have := HQ.out; omega
    have hwr : IntKind.i64.wrap (j : Int) = (j : Int) := IntWalk.i64_in _ ⟨by omega, by omega⟩
    have hjm : j < mks.length := by rw [mks_len]; exact hj12
    have hT : mT 1 (j : Int) = t := by
     rw [← mks_get j hjm, ← ht, List.getElem_append_right (by rw [HN.out]; omega)]
     congr 1
     rw [HN.out, hj]
    have HMK := Lib.hid (fun W => markText_any 1 (j : Int) W (by omega) (by omega) (by omega) (by omega))
    rw [hT] at HMK
    have hkni : ¬ (k : Int) < (n : Int) := by omega
    have hkni2 : (n : Int) ≤ (k : Int) := by omega
    have HS := Lib.hid gk
    clear ht hT hj hbe gk HV HCELL HQ hcap hl hjm
    refine wp_region_noPanic ?_
    refine wp_region_held_drew (S := fun W => W.cell? ⟨g, k, none⟩ = some (.string t)) (by kernel_rfl) (HS.out _ G0.out) (fun hHeld => ?_)
    clear hHeld
    refine tkI (i := 0) (v := .int .i64 k) rfl ⟨by rfl, ?_⟩ (HS.out _ G0.out) ?_
    ·intro w hSw
     obtain hs0 := hSw
     go_simp
    try simp only [Act.put, z1, z2, z3, z4, z5, z6]
    refine tkI (i := 1) (v := .slice A n cl) rfl ⟨by rfl, ?_⟩ (HS.out _ G0.out) ?_
    ·intro w hSw
     obtain hs0 := hSw
     go_simp
    try simp only [Act.put, z1, z2, z3, z4, z5, z6]
    refine tkI (i := 2) (v := .int .i64 n) rfl ⟨by rfl, ?_⟩ (HS.out _ G0.out) ?_
    ·intro w hSw
     obtain hs0 := hSw
     go_simp
    try simp only [Act.put, z1, z2, z3, z4, z5, z6]
    refine tkI (i := 3) (v := .bool false) rfl ⟨by rfl, ?_⟩ (HS.out _ G0.out) ?_
    ·intro w hSw
     obtain hs0 := hSw
     go_simp
    try simp only [Act.put, z1, z2, z3, z4, z5, z6]
    refine tkI (i := 4) (v := .bool false) rfl ⟨by rfl, ?_⟩ (HS.out _ G0.out) ?_
    ·intro w hSw
     obtain hs0 := hSw
     go_simp
    try simp only [Act.put, z1, z2, z3, z4, z5, z6]
    refine tkU (i := 5) rfl (by rfl) (HS.out _ G0.out) ?_
    try simp only [Act.put, z1, z2, z3, z4, z5, z6]
    refine tkU (i := 6) rfl (by rfl) (HS.out _ G0.out) ?_
    try simp only [Act.put, z1, z2, z3, z4, z5, z6]
    refine tkU (i := 7) rfl (by rfl) (HS.out _ G0.out) ?_
    try simp only [Act.put, z1, z2, z3, z4, z5, z6]
    refine tkU (i := 8) rfl (by rfl) (HS.out _ G0.out) ?_
    try simp only [Act.put, z1, z2, z3, z4, z5, z6]
    refine tkU (i := 9) rfl (by rfl) (HS.out _ G0.out) ?_
    try simp only [Act.put, z1, z2, z3, z4, z5, z6]
    refine tkU (i := 10) rfl (by rfl) (HS.out _ G0.out) ?_
    try simp only [Act.put, z1, z2, z3, z4, z5, z6]
    refine tkU (i := 11) rfl (by rfl) (HS.out _ G0.out) ?_
    try simp only [Act.put, z1, z2, z3, z4, z5, z6]
    refine tkU (i := 12) rfl (by rfl) (HS.out _ G0.out) ?_
    try simp only [Act.put, z1, z2, z3, z4, z5, z6]
    refine tkU (i := 13) rfl (by rfl) (HS.out _ G0.out) ?_
    try simp only [Act.put, z1, z2, z3, z4, z5, z6]
    refine tkU (i := 14) rfl (by rfl) (HS.out _ G0.out) ?_
    try simp only [Act.put, z1, z2, z3, z4, z5, z6]
    refine tkI (i := 15) (v := .bool false) rfl ⟨by rfl, ?_⟩ (HS.out _ G0.out) ?_
    ·intro w hSw
     obtain hs0 := hSw
     go_simp
    try simp only [Act.put, z1, z2, z3, z4, z5, z6]
    refine tkI (i := 16) (v := .bool false) rfl ⟨by rfl, ?_⟩ (HS.out _ G0.out) ?_
    ·intro w hSw
     obtain hs0 := hSw
     go_simp
    try simp only [Act.put, z1, z2, z3, z4, z5, z6]
    refine tkI (i := 17) (v := .int .i64 k) rfl ⟨by rfl, ?_⟩ (HS.out _ G0.out) ?_
    ·intro w hSw
     obtain hs0 := hSw
     go_simp
    try simp only [Act.put, z1, z2, z3, z4, z5, z6]
    refine tkI (i := 18) (v := .slice A n cl) rfl ⟨by rfl, ?_⟩ (HS.out _ G0.out) ?_
    ·intro w hSw
     obtain hs0 := hSw
     go_simp
    try simp only [Act.put, z1, z2, z3, z4, z5, z6]
    refine tkI (i := 19) (v := .int .i64 n) rfl ⟨by rfl, ?_⟩ (HS.out _ G0.out) ?_
    ·intro w hSw
     obtain hs0 := hSw
     go_simp
    try simp only [Act.put, z1, z2, z3, z4, z5, z6]
    refine tkI (i := 20) (v := .bool true) rfl ⟨by rfl, ?_⟩ (HS.out _ G0.out) ?_
    ·intro w hSw
     obtain hs0 := hSw
     go_simp
    try simp only [Act.put, z1, z2, z3, z4, z5, z6]
    refine tkI (i := 21) (v := .bool true) rfl ⟨by rfl, ?_⟩ (HS.out _ G0.out) ?_
    ·intro w hSw
     obtain hs0 := hSw
     go_simp
    try simp only [Act.put, z1, z2, z3, z4, z5, z6]
    refine tkI (i := 22) (v := .slice (some ⟨g, 0, none⟩) q c) rfl ⟨by rfl, ?_⟩ (HS.out _ G0.out) ?_
    ·intro w hSw
     obtain hs0 := hSw
     go_simp
    try simp only [Act.put, z1, z2, z3, z4, z5, z6]
    refine tkI (i := 23) (v := .int .i64 k) rfl ⟨by rfl, ?_⟩ (HS.out _ G0.out) ?_
    ·intro w hSw
     obtain hs0 := hSw
     go_simp
    try simp only [Act.put, z1, z2, z3, z4, z5, z6]
    refine tkI (i := 24) (v := .pointer (some ⟨g, k, none⟩)) rfl ⟨by rfl, ?_⟩ (HS.out _ G0.out) ?_
    ·intro w hSw
     obtain hs0 := hSw
     go_simp
    try simp only [Act.put, z1, z2, z3, z4, z5, z6]
    refine tkI (i := 25) (v := .string t) rfl ⟨by rfl, ?_⟩ (HS.out _ G0.out) ?_
    ·intro w hSw
     obtain hs0 := hSw
     go_simp
    try simp only [Act.put, z1, z2, z3, z4, z5, z6]
    refine tkI (i := 26) (v := .int .i64 k) rfl ⟨by rfl, ?_⟩ (HS.out _ G0.out) ?_
    ·intro w hSw
     obtain hs0 := hSw
     go_simp
    try simp only [Act.put, z1, z2, z3, z4, z5, z6]
    refine tkI (i := 27) (v := .slice A n cl) rfl ⟨by rfl, ?_⟩ (HS.out _ G0.out) ?_
    ·intro w hSw
     obtain hs0 := hSw
     go_simp
    try simp only [Act.put, z1, z2, z3, z4, z5, z6]
    refine tkI (i := 28) (v := .int .i64 n) rfl ⟨by rfl, ?_⟩ (HS.out _ G0.out) ?_
    ·intro w hSw
     obtain hs0 := hSw
     go_simp
    try simp only [Act.put, z1, z2, z3, z4, z5, z6]
    refine tkI (i := 29) (v := .int .i64 j) rfl ⟨by rfl, ?_⟩ (HS.out _ G0.out) ?_
    ·intro w hSw
     obtain hs0 := hSw
     (go_simp; try rw [hsub]; try rw [hwr])
    try simp only [Act.put, z1, z2, z3, z4, z5, z6]
    refine wpAnyH_ready (rs := [30]) (by kernel_rfl) (by simp) ?_
    refine AllReadyH.cons rfl (fun K hK => ?_) AllReadyH.nil
    go_simp
    refine (HMK.out _).mono ?_
    rintro e y1 ⟨rfl, hq⟩
    have G1 := Lib.hid (G0.out.trans (hq.mono G0.out.size))
    clear hq
    refine hK.out _ _ (HS.out _ G1.out) (fun _ => ?_)
    clear hK
    try simp only [Act.put, z1, z2, z3, z4, z5, z6]
    refine tkI (i := 31) (v := .bool true) rfl ⟨by rfl, ?_⟩ (HS.out _ G1.out) ?_
    ·intro w hSw
     obtain hs0 := hSw
     (go_simp; try simp)
    try simp only [Act.put, z1, z2, z3, z4, z5, z6]
    refine tkI (i := 32) (v := .bool false) rfl ⟨by rfl, ?_⟩ (HS.out _ G1.out) ?_
    ·intro w hSw
     obtain hs0 := hSw
     go_simp
    try simp only [Act.put, z1, z2, z3, z4, z5, z6]
    refine tkI (i := 33) (v := .bool false) rfl ⟨by rfl, ?_⟩ (HS.out _ G1.out) ?_
    ·intro w hSw
     obtain hs0 := hSw
     go_simp
    try simp only [Act.put, z1, z2, z3, z4, z5, z6]
    refine tkI (i := 34) (v := .bool false) rfl ⟨by rfl, ?_⟩ (HS.out _ G1.out) ?_
    ·intro w hSw
     obtain hs0 := hSw
     go_simp
    try simp only [Act.put, z1, z2, z3, z4, z5, z6]
    refine ⟨by kernel_rfl, ?_⟩
    refine NoPanic.normal ?_
    go_wp2_with fail
    go_roundw
    case rel => exact ⟨k + 1, by omega, by go_num, HBE.out.trans (G1.out.mono HBE.out.size)⟩
    case measure => simp [intOf]; omega
  ·have hkq : ¬ (k : Int) < (q : Int) := by omega
   clear hbe
   go_wp2_with fail
   go_ret
   exact ⟨rfl, HBE.out⟩
end Go.Proofs.YtnccgaanfjaimaaDoor
