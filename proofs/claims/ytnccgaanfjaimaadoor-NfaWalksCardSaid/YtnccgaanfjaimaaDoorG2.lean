/- Texts J, K, NG, NH, L, M, one behind the other. -/
import Derived.Test.YtnccgaanfjaimaaDoorG0
import Derived.Test.YtnccgaanfjaimaaDoorG1
import Derived.Deep.Cut
import Derived.BigQuiet
import Derived.Laws.RangeString
import Derived.Laws.RangeAny
set_option linter.unusedSimpArgs false
set_option linter.unusedVariables false
namespace Go.Proofs.YtnccgaanfjaimaaDoor
open Go.ChangeShapes Go.WideShapes Go.ChangeAt Go.RowKit
set_option linter.unusedVariables false
set_option linter.unusedSimpArgs false

attribute [local go_sem] Oper.semAt_some

/-- the box of a tree -/
def BoxT (W : World) (B : Nat) (t : T) : Prop := W.heap[B]? = some (.cells #[.int .i64 t.kind, .string t.lab, t.kv] 25 (0, 0))
theorem BoxT.lt {W : World} {B : Nat} {t : T} (h : BoxT W B t) : B < W.heap.size := (Array.getElem?_eq_some_iff.1 h).1
theorem BoxT.bel {W W' : World} {B : Nat} {t : T} (h : BoxT W B t) (hb : Below W.heap.size W W') : BoxT W' B t := (hb.block _ h.lt).trans h
theorem BoxT.cells {W : World} {B : Nat} {t : T} {A : Option Addr} {n c : Nat} (h : BoxT W B t) (hk : t.kv = .slice A n c) : W.cell? ⟨B, 0, none⟩ = some (.int .i64 t.kind) ∧ W.cell? ⟨B, 1, none⟩ = some (.string t.lab) ∧ W.cell? ⟨B, 2, none⟩ = some (.slice A n c) := by
  unfold BoxT at h
  rw [hk] at h
  exact ⟨cell_of_row _ _ 0 _ 25 (0, 0) h, cell_of_row _ _ 1 _ 25 (0, 0) h, cell_of_row _ _ 2 _ 25 (0, 0) h⟩

theorem pairs_any {a b : T} {A1 A2 : Option Addr} {n1 c1 n2 c2 : Nat} (h1 : a.kv = .slice A1 n1 c1) (h2 : b.kv = .slice A2 n2 c2) (w : World) :
    Calls Tryd.prog 76 #[.agg #[.int .i64 a.kind, .string a.lab, .slice A1 n1 c1], .agg #[.int .i64 b.kind, .string b.lab, .slice A2 n2 c2]] w fun e w' => e = .returned (.func (.func 92) #[] #[.pointer (some ⟨w.heap.size, 0, none⟩), .pointer (some ⟨w.heap.size + 1, 0, none⟩)]) ∧ BoxT w' w.heap.size a ∧ BoxT w' (w.heap.size + 1) b ∧ Below w.heap.size w w' := by
  have HX : ∀ W, (w.alloc (.cells #[.int .i64 a.kind, .string a.lab, .slice A1 n1 c1] 25)).alloc (.cells #[.int .i64 b.kind, .string b.lab, .slice A2 n2 c2] 25) = W → BoxT W w.heap.size a ∧ BoxT W (w.heap.size + 1) b ∧ Below w.heap.size w W := by
    rintro W rfl
    refine ⟨?_, ?_, ((Below.refl _ w).alloc (Nat.le_refl _) _).alloc (by simp) _⟩
    · unfold BoxT
      rw [h1, Below.heap_alloc _ _ _ (by simp)]
      exact World.alloc_heap_new w _
    · unfold BoxT
      rw [h2]
      have := World.alloc_heap_new (w.alloc (.cells #[.int .i64 a.kind, .string a.lab, .slice A1 n1 c1] 25)) (.cells #[.int .i64 b.kind, .string b.lab, .slice A2 n2 c2] 25)
      rwa [World.size_alloc] at this
  have H := Lib.hid HX
  clear HX h1 h2
  go_enter Tryd.func76, Tryd.ntmps76
  go_wp2_with fail
  go_ret
  exact ⟨rfl, H.out _ rfl⟩

theorem partsOf_any {a : T} {A1 : Option Addr} {n1 c1 : Nat} (h1 : a.kv = .slice A1 n1 c1) (w : World) :
    Calls Tryd.prog 60 #[.agg #[.int .i64 a.kind, .string a.lab, .slice A1 n1 c1]] w fun e w' => e = .returned (.func (.func 75) #[] #[.pointer (some ⟨w.heap.size, 0, none⟩)]) ∧ BoxT w' w.heap.size a ∧ Below w.heap.size w w' := by
  have HX : ∀ W, (w.alloc (.cells #[.int .i64 a.kind, .string a.lab, .slice A1 n1 c1] 25)) = W → BoxT W w.heap.size a ∧ Below w.heap.size w W := by
    rintro W rfl
    refine ⟨?_, (Below.refl _ w).alloc (Nat.le_refl _) _⟩
    unfold BoxT
    rw [h1]
    exact World.alloc_heap_new w _
  have H := Lib.hid HX
  clear HX h1
  go_enter Tryd.func60, Tryd.ntmps60
  go_wp2_with fail
  go_ret
  exact ⟨rfl, H.out _ rfl⟩

section
variable {F : Fence} {n : Nat} {P : Program} {gf : Nat} {lb : Array Value} {Kp : World → World → Prop} {w0 : World}
theorem yield_round {m m' l l1 : Nat} {args : Array Value} {W : World} {R : Ending → World → Prop} (h : YieldAt Fence.wide m P l args W R) : YieldAt (Fence.wide.inRound l1) m' P l args W R := by
  obtain ⟨fn, tmps, assign, body, hy, hR⟩ := h
  exact ⟨fn, tmps, assign, body, hy, ⟨hR.1, fun c cs _ => hR.2 c cs (fun d h => by cases h)⟩⟩
theorem SeqX.map {α β : Type} {f : α → β} {encs : β → Array Value} {xs : List α} (h : SeqX F n P gf lb encs Kp (xs.map f) w0) : SeqX F n P gf lb (fun x => encs (f x)) Kp xs w0 := by
  intro l J Jx W hW hJ hJx hY h0
  refine (h l (fun ys W => J (xs.take ys.length) W) (fun ys W => Jx (xs.take ys.length) W) W hW (fun s => hJ _) (fun s => hJx _) ?_ (by simpa using h0)).mono ?_
  · intro pre y W1 hp hs hj
    have hl : pre.length < xs.length := by have := hp.length_le; simp at this; omega
    have hy : y = f xs[pre.length] := by
      obtain ⟨t, ht⟩ := hp
      have h1 : (pre ++ [y] ++ t)[pre.length]? = some y := by simp
      rw [ht] at h1
      simpa [hl] using h1.symm
    subst hy
    have e : xs.take (pre ++ [f xs[pre.length]]).length = xs.take pre.length ++ [xs[pre.length]] := by
      rw [List.length_append, List.length_singleton]
      exact List.take_succ_eq_append_getElem hl
    rw [e]
    exact hY (xs.take pre.length) xs[pre.length] W1 (by rw [← List.take_succ_eq_append_getElem hl]; exact List.take_prefix _ _) hs hj
  · rintro e W' ⟨hv, (hj | ⟨pre, hp, hj⟩)⟩
    · exact ⟨hv, .inl (by simpa using hj)⟩
    · exact ⟨hv, .inr ⟨_, List.take_prefix _ _, hj⟩⟩
end

theorem below_others {w W : World} (h : Below w.heap.size w W) : KeepsOthers w W := ⟨h.size, fun k o hk _ => (h.block k (Array.getElem?_eq_some_iff.1 hk).1).trans hk⟩
theorem OwnQ.cellsQ {β : Type} (B r : Nat) (v : β → Array Value) (t : TypeId) (fr : Nat × Nat) (ht : t ≠ 122) : OwnQ B (fun (s : β) W => W.heap[r]? = some (.cells (v s) t fr)) := fun s X Y hs hr => hr.cells hs ht

mutual
def partsT : T → List T
  | .mk k l v ks => .mk k l v ks :: partsTL ks
def partsTL : List T → List T
  | [] => []
  | t :: ts => partsT t ++ partsTL ts
end
theorem partsT_eq (t : T) : partsT t = t :: partsTL t.kids := by cases t; simp [partsT, T.kids]
theorem partsTL_nil : partsTL [] = [] := by simp [partsTL]
theorem partsTL_cons (t : T) (ts : List T) : partsTL (t :: ts) = partsT t ++ partsTL ts := by simp [partsTL]
theorem zip_self (t : T) : zipT t t = (partsT t).map fun p => (p, p) := by
  induction t using T.ind' with
  | h t ih =>
    rw [zipT_eq, partsT_eq, List.map_cons]
    congr 1
    generalize t.kids = ks at ih
    induction ks with
    | nil => rw [zipTL_nil, partsTL_nil]; rfl
    | cons k ks ihk => rw [zipTL_cons, partsTL_cons, List.map_append, ih k (by simp), ihk fun y hy => ih y (by simp [hy])]
theorem partsT_x (t : T) : (partsT t).map T.x = t.x.parts := by
  induction t using T.ind' with
  | h t ih =>
    rw [partsT_eq, X.parts_eq, List.map_cons, T.x_kids]
    congr 1
    generalize t.kids = ks at ih
    induction ks with
    | nil => simp [partsTL, partsL]
    | cons k ks ihk => rw [partsTL_cons, List.map_append, List.map_cons, partsL_cons, ih k (by simp), ihk fun y hy => ih y (by simp [hy])]
theorem partsT_len (t : T) : (partsT t).length = t.x.sz := by rw [← List.length_map (f := T.x), partsT_x]; rfl

def encT (z : T × T) : Array Value := #[z.1.v]

set_option maxRecDepth 100000 in
set_option maxHeartbeats 4000000 in
theorem parts_seq0 {w0 : World} {N : Nat} (n : Nat) (hn : 4 ≤ n) {a : T} {Ba : Nat} (hA : BoxT w0 Ba a) (ha : TR N w0 a.kv a.kids) (hN : N ≤ w0.heap.size) (hsz : (zipT a a).length ≤ 100000) :
    SeqX Fence.wide n Tryd.prog 75 #[.pointer (some ⟨Ba, 0, none⟩)] encT (KpX N) (zipT a a) w0 := by
  intro l J Jx W hW hJ hJx hY h0
  obtain ⟨A1, c1, hka, -⟩ := ha.form
  obtain ⟨a0, a1, a2⟩ := (hA.bel hW).cells hka
  have hl := Nat.lt_of_lt_of_le hA.lt hW.size
  have HY := Lib.hid hY
  have HJ := Lib.hid hJ
  have HJX := Lib.hid hJx
  have HJ0 := Lib.hid h0
  have HA := Lib.hid (And.intro (ha.bel (hW.mono hN)) (And.intro (Nat.le_trans hN hW.size) hka))
  clear hY hJ hJx h0 hA ha hW hN hka
  refine callsIn_of_wp_marks Tryd.func75 rfl trivial ?_ rfl
  simp only [Tryd.ntmps75, List.size_toArray, List.length_cons, List.length_nil, Nat.reduceAdd, Nat.reduceSub, Array.replicate_succ, Array.replicate_zero, List.push_toArray, List.append_toArray, List.nil_append, List.cons_append]
  refine wpIn_wide.2 ?_
  go_wp2_with (go_at_call 76; refine (pairs_any (a := a) (b := a) HA.out.2.2 HA.out.2.2 _).mono ?_; rintro e w1 ⟨rfl, hx1, hx2, hbw⟩)
  have hb1 : Below W.heap.size W w1 := ((Below.refl _ W).alloc (Nat.le_refl _) _).trans (hbw.mono (by simp))
  have hyb : Boxed w1 W.heap.size 61 (.func (.yield l) #[] #[]) := (hbw.block _ (by simp)).trans (Boxed.new W _ _)
  have hseq := pairs_seq (n - 1) (by omega) hx1 hx2 (HA.out.1.bel (hb1.mono HA.out.2.1)) (HA.out.1.bel (hb1.mono HA.out.2.1)) (Nat.le_trans HA.out.2.1 hb1.size) hsz
  have hj1 : J [] w1 := HJ.out [] W w1 HJ0.out (Rel.of_below hb1)
  try simp only [World.size_alloc] at hseq
  try simp only [World.size_alloc]
  have HSEQ := Lib.hid hseq
  have HYB := Lib.hid hyb
  have HJ1 := Lib.hid hj1
  have hz1 : W.heap.size ≤ w1.heap.size := hb1.size
  have hNw : N ≤ w1.heap.size := Nat.le_trans HA.out.2.1 hz1
  have hkv : Hid (∀ z ∈ zipT a a, ∃ A c, z.1.kv = .slice A z.1.kids.length c) := Lib.hid fun z hz => by
    obtain ⟨A, c, h, _⟩ := (zip_ok a a HA.out.1 HA.out.1 z hz).1.form
    exact ⟨A, c, h⟩
  clear hbw hb1 hyb hseq hj1 hx1 hx2 a0 a1 a2
  refine wpIn_wide.1 (?_ : Code.wpIn Fence.wide n Tryd.prog _ _ _ _)
  refine wpIn_rangeFunc_X rfl (by omega) (gf := 92) (lb := #[.pointer (some ⟨W.heap.size + 1, 0, none⟩), .pointer (some ⟨W.heap.size + 1 + 1, 0, none⟩)]) rfl trivial (enters_of Tryd.func92 (by kernel_rfl) rfl)
    HSEQ.out KpX.trans (fun W' l' o o' hlw hl' ho _ => KpX.putObj W' l' o o' (by omega) hl' ho) (Below.refl _ _) (fun _ => rfl)
    (fun pre W' => J pre W' ∧ Boxed W' W.heap.size 61 (.func (.yield l) #[] #[]) ∧ W.heap.size ≤ W'.heap.size) (fun c pre W' => c = .ret ∧ Jx pre W') ?hI ?hX ⟨HJ1.out, HYB.out, hz1⟩
    (fun z a' W' => ∃ A, a' = { tmps := #[.func (.yield l) #[] #[], .pointer (some ⟨Ba, 0, none⟩), .pointer (some ⟨W.heap.size, 0, none⟩), .pointer (some ⟨A, 0, none⟩), .agg #[.int .i64 a.kind, .string a.lab, .slice A1 a.kids.length c1], .agg #[.int .i64 a.kind, .string a.lab, .slice A1 a.kids.length c1], .func (.func 92) #[] #[.pointer (some ⟨W.heap.size + 1, 0, none⟩), .pointer (some ⟨W.heap.size + 1 + 1, 0, none⟩)], z.1.v, z.2.v, undef, undef, undef, undef], defers := [] } ∧ BoxT W' A z.1) ?hA ?assign ?body ?done ?stop
  case hI =>
    rintro s X Y ⟨hj, hy, hz⟩ hr
    exact ⟨HJ.out s X Y hj (hr.mono hz1), hr.cells hy (by decide), Nat.le_trans hz hr.size⟩
  case hX =>
    rintro c s X Y ⟨rfl, hj⟩ hr
    exact ⟨rfl, HJX.out s X Y hj (hr.mono hz1)⟩
  case hA =>
    rintro z a' _ X Y ⟨A, rfl, hc⟩ hr
    exact ⟨A, rfl, hr.cells hc (by decide)⟩
  case assign =>
    intro l1 pre z W' K hI hpx hK
    obtain ⟨A, c, hk⟩ := hkv.out z (hpx.subset (by simp))
    have HK := Lib.hid hK
    have HI' := Lib.hid hI
    have HKV := Lib.hid hk
    unfold encZ T.v
    rw [hk]
    clear hK hI hk
    gi_wp2
    have hbw : Below W'.heap.size W' (W'.alloc (.cells #[.int .i64 z.1.kind, .string z.1.lab, .slice A z.1.kids.length c] 25)) := (Below.refl _ W').alloc (Nat.le_refl _) _
    obtain ⟨hj, hy, hz⟩ := HI'.out
    refine HK.out _ _ ((below_others hbw).from _) (KpX.of_below hbw (by have := HA.out.2.1; omega)) ⟨HJ.out pre W' _ hj (Rel.of_below hbw), hy.alloc _, Nat.le_trans hz hbw.size⟩ ⟨W'.heap.size, ?_, ?_⟩
    · simp only [T.v, HKV.out]
    · unfold BoxT
      rw [HKV.out]
      exact World.alloc_heap_new W' _
  case body =>
    rintro l1 pre z a' W' hwl hloop hpx ⟨hj, hy, hz⟩ ⟨A, rfl, hc⟩
    obtain ⟨A7, c7, hk⟩ := hkv.out z (hpx.subset (by simp))
    obtain ⟨c0, c1', c2'⟩ := hc.cells hk
    have cy := hy.cell
    obtain ⟨fn, tmps, assign, body, hy', hR⟩ := yield_round (l1 := l1) (m' := n - 1 - 1 - 1) (HY.out pre z W' hpx hz hj)
    simp only [encT, T.v] at hy'
    rw [hk] at hy'
    have HYY := Lib.hid (And.intro hy hz)
    clear hk hc hy hz hj
    gi_wp2
    refine ⟨fun h => (by cases h), ?_⟩
    refine hR.mono ?_
    rintro e W4 ⟨hkf, (⟨rfl, hJ4, hk4⟩ | ⟨rfl, hJx4⟩)⟩
    · have R4 := Lib.hid (show KeepsFrom w1.heap.size W' W4 ∧ KpX N W' W4 ∧ J (pre ++ [z]) W4 ∧ Boxed W4 W.heap.size 61 (.func (.yield l) #[] #[]) ∧ W.heap.size ≤ W4.heap.size from ⟨kf_mono hkf hz1, hk4, hJ4, hk4.cells _ _ _ _ HYY.out.1 rfl, Nat.le_trans HYY.out.2 hkf.size⟩)
      clear hkf hJ4 hk4
      gi_wp2
      exact R4.out
    · have R4 := Lib.hid (show KeepsFrom w1.heap.size W' W4 ∧ Code.ret = Code.ret ∧ Jx (pre ++ [z]) W4 from ⟨kf_mono hkf hz1, rfl, hJx4⟩)
      clear hkf hJx4
      gi_wp2
      exact ⟨R4.out.1, rfl, R4.out.2.2⟩
  case done =>
    rintro D W' hD ⟨hj, hy, hz⟩ hK
    have R := Lib.hid (HJ.out.putObj (.deferred none) hj (Nat.le_trans hz1 hD) hK rfl)
    clear hj hy
    go_wp2
    refine ⟨by simp, .inl ⟨_, _, rfl, run_takeDeferred hK, ?_⟩⟩
    exact ⟨_, results_none rfl _ _ _, ⟨_, rfl⟩, .inl R.out⟩
  case stop =>
    rintro D c pre W' hD hpre ⟨rfl, hj⟩ hK
    have R := Lib.hid (HJX.out.putObj (.deferred none) hj (Nat.le_trans hz1 hD) hK rfl)
    clear hj
    gi_wp2
    refine ⟨by simp, .inl ⟨_, _, rfl, run_takeDeferred hK, ?_⟩⟩
    exact ⟨_, results_none rfl _ _ _, ⟨_, rfl⟩, .inr ⟨pre, hpre, R.out⟩⟩

def encP (p : T) : Array Value := #[p.v]
theorem parts_seq {w0 : World} {N : Nat} (n : Nat) (hn : 4 ≤ n) {a : T} {Ba : Nat} (hA : BoxT w0 Ba a) (ha : TR N w0 a.kv a.kids) (hN : N ≤ w0.heap.size) (hsz : a.x.sz ≤ 100000) :
    SeqX Fence.wide n Tryd.prog 75 #[.pointer (some ⟨Ba, 0, none⟩)] encP (KpX N) (partsT a) w0 := by
  have h := parts_seq0 n hn hA ha hN (by rw [zip_self, List.length_map, partsT_len]; exact hsz)
  rw [zip_self] at h
  exact SeqX.map (f := fun p : T => (p, p)) (encs := encT) h
theorem parts_ok {N : Nat} {w : World} {a : T} (ha : TR N w a.kv a.kids) : ∀ p ∈ partsT a, TR N w p.kv p.kids := by
  intro p hp
  have := zip_ok a a ha ha (p, p) (by rw [zip_self]; exact List.mem_map.2 ⟨p, hp, rfl⟩)
  exact this.1
end Go.Proofs.YtnccgaanfjaimaaDoor

namespace Go.Proofs.YtnccgaanfjaimaaDoor
open Go.ChangeShapes Go.WideShapes Go.ChangeAt Go.RowKit
set_option linter.unusedVariables false
set_option linter.unusedSimpArgs false

attribute [local go_sem] Oper.semAt_some

theorem XV.tree {N : Nat} {w : World} {v : Value} {x : X} (h : XV N w v x) : ∃ a : T, a.x = x ∧ v = a.v ∧ TR N w a.kv a.kids := by
  obtain ⟨kv, rfl, h⟩ := h
  obtain ⟨ts, h1, h2⟩ := h.ann
  refine ⟨.mk x.kind x.lab kv ts, ?_, rfl, h2⟩
  exact X.ext' (by rw [T.x_kind]; rfl) (by rw [T.x_lab]; rfl) (by rw [T.x_kids]; exact h1)
theorem TR.xv {N : Nat} {w : World} {a : T} (h : TR N w a.kv a.kids) : XV N w a.v a.x := by
  refine ⟨a.kv, ?_, ?_⟩
  · rw [T.x_kind, T.x_lab]; rfl
  · rw [T.x_kids]; exact h.xr
theorem TR.cells {N : Nat} {w : World} {a : T} (h : TR N w a.kv a.kids) : ∃ A c, a.kv = .slice A a.kids.length c ∧ a.v = .agg #[.int .i64 a.kind, .string a.lab, .slice A a.kids.length c] := by
  obtain ⟨A, c, h1, _⟩ := h.form
  exact ⟨A, c, h1, by rw [T.v, h1]⟩
theorem belowK (w : World) {W : World} {D : Nat} {o' : Obj} (h : Below w.heap.size w W) (hD : w.heap.size ≤ D) : Below w.heap.size w (W.putObj D o') :=
  h.trans ⟨rfl, rfl, rfl, by simp, fun k hk => World.putObj_heap_other (by omega)⟩
theorem OwnQ.boxed {β : Type} (N B : Nat) (t : TypeId) (f : β → Value) (ht : t ≠ 122) : OwnQ N (fun (s : β) W => Boxed W B t (f s)) := fun s X Y hs hr => hr.cells hs ht

set_option maxRecDepth 100000 in
set_option maxHeartbeats 4000000 in
theorem size14_any {N : Nat} {w : World} {v : Value} {x : X} (hx : XV N w v x) (hN : N ≤ w.heap.size) (hsz : x.sz ≤ 100000) :
    Calls Tryd.prog 78 #[v] w fun e w' => e = .returned (.int .i64 x.sz) ∧ Below w.heap.size w w' := by
  obtain ⟨a, rfl, rfl, ha⟩ := hx.tree
  obtain ⟨A, c, hk, hv⟩ := ha.cells
  rw [hv]
  have HA := Lib.hid (And.intro ha (And.intro hN hk))
  clear ha hk hv hx
  refine (callsIn_wide (n := 12)).1 ?_
  refine callsIn_of_wp_marks Tryd.func78 rfl trivial ?_ rfl
  simp only [Tryd.ntmps78, List.size_toArray, List.length_cons, List.length_nil, Nat.reduceAdd, Nat.reduceSub, Array.replicate_succ, Array.replicate_zero, List.push_toArray, List.append_toArray, List.nil_append, List.cons_append]
  refine wpIn_wide.2 ?_
  go_wp2_with (go_at_call 60; refine (partsOf_any (a := a) HA.out.2.2 _).mono ?_; rintro e w1 ⟨rfl, hx1, hbw⟩)
  have hb0 : Below w.heap.size w ((w.alloc (.cells #[.int .i64 a.kind, .string a.lab, .slice A a.kids.length c] 25)).alloc (.cells #[.int .i64 0] 3)) := ((Below.refl _ w).alloc (Nat.le_refl _) _).alloc (by simp) _
  have hb1 : Below w.heap.size w w1 := hb0.trans (hbw.mono (by simp; try omega))
  have hbx : Boxed w1 (w.heap.size + 1) 3 (.int .i64 0) := (hbw.block _ (by simp)).trans (by
    have := Boxed.new (w.alloc (.cells #[.int .i64 a.kind, .string a.lab, .slice A a.kids.length c] 25)) 3 (.int .i64 0)
    rwa [World.size_alloc] at this)
  have hz1 : w.heap.size + 2 ≤ w1.heap.size := by have := hbw.size; simp at this; omega
  have hNw : N ≤ w1.heap.size := Nat.le_trans HA.out.2.1 (by omega)
  have hseq := parts_seq 11 (by decide) hx1 (HA.out.1.bel (hb1.mono HA.out.2.1)) hNw hsz
  try simp only [World.size_alloc] at hseq
  have HSEQ := Lib.hid hseq
  have HB1 := Lib.hid hb1
  have HBX := Lib.hid hbx
  have hsz2 : (partsT a).length ≤ 100000 := by rw [partsT_len]; exact hsz
  clear hb0 hbw hb1 hbx hseq hx1
  refine wpIn_wide.1 (?_ : Code.wpIn Fence.wide 12 Tryd.prog _ _ _ _)
  refine wpIn_rangeFunc_X rfl (by omega) (gf := 75) (lb := #[.pointer (some ⟨w.heap.size + 1 + 1, 0, none⟩)]) rfl trivial (enters_of Tryd.func75 (by kernel_rfl) rfl)
    HSEQ.out KpX.trans (fun W' l' o o' hlw hl' ho _ => KpX.putObj W' l' o o' (by omega) hl' ho) (Below.refl _ _) (fun _ => rfl)
    (fun pre W' => Boxed W' (w.heap.size + 1) 3 (.int .i64 (pre.length : Nat)) ∧ Below w.heap.size w W') (fun _ _ _ => False)
    (OwnQ.and (OwnQ.boxed _ _ _ _ (by decide)) (ownQ_below (Nat.le_refl _) (by omega))) (fun c s X Y h => h.elim) ⟨HBX.out, HB1.out⟩
    (fun p a' W' => a' = { tmps := #[.agg #[.int .i64 a.kind, .string a.lab, .slice A a.kids.length c], .pointer (some ⟨w.heap.size, 0, none⟩), .int .i64 0, .pointer (some ⟨w.heap.size + 1, 0, none⟩), .agg #[.int .i64 a.kind, .string a.lab, .slice A a.kids.length c], .func (.func 75) #[] #[.pointer (some ⟨w.heap.size + 1 + 1, 0, none⟩)], p.v, undef, undef, undef], defers := [] })
    (fun p a' s X Y h _ => h) ?assign ?body ?done (fun _ _ _ _ _ _ h _ => h.elim)
  case assign =>
    intro l1 pre p W' K hI hpx hK
    have HK := Lib.hid hK
    have HI' := Lib.hid hI
    clear hK hI
    gi_wp2
    exact HK.out _ _ (KeepsFrom.refl _ _) (KpX.refl _ _) HI'.out (by simp [encP])
  case body =>
    rintro l1 pre p a' W' hwl hloop hpx ⟨hb, hbw⟩ rfl
    have hc := hb.cell
    have hf := hb.frozen
    have hlt : pre.length < 100000 := by have := hpx.length_le; simp at this; omega
    have HB := Lib.hid (And.intro hb hbw)
    clear hb hbw
    gi_wp2
    have hb2 : Boxed (W'.setCell ⟨w.heap.size + 1, 0, none⟩ (.int .i64 ((pre.length : Int) + 1))) (w.heap.size + 1) 3 (.int .i64 ((pre ++ [p]).length : Nat)) := by
      have := HB.out.1.set (.int .i64 ((pre.length : Int) + 1))
      simpa using this
    refine ⟨?_, ?_, hb2, HB.out.2.setCell (by show w.heap.size ≤ w.heap.size + 1; omega) _⟩
    · exact (KeepsOthers.setCell _ _ _).from _
    · refine ⟨by simp [World.setCell], fun k hk => Below.heap_setCell _ _ _ k (by have := HA.out.2.1; show k ≠ w.heap.size + 1; omega), fun k v t fr hk ht => ?_⟩
      by_cases e : k = w.heap.size + 1
      · subst e
        rw [show W'.heap[w.heap.size + 1]? = _ from HB.out.1] at hk
        injection hk with hk
        injection hk with _ hk _
        subst hk
        cases ht
      · exact (Below.heap_setCell _ _ _ k e).trans hk
  case done =>
    rintro D W' hD ⟨hb, hbw⟩ hK
    have hc := hb.cell
    have HB := Lib.hid hbw
    clear hb hbw
    go_wp2_with fail
    refine ⟨by simp, .inl ⟨_, _, rfl, run_takeDeferred hK, ?_⟩⟩
    exact ⟨.int .i64 ((partsT a).length : Nat), by simp [results, Tryd.f78, go_sem], by rw [partsT_len], belowK w HB.out (by omega)⟩
end Go.Proofs.YtnccgaanfjaimaaDoor

namespace Go.Proofs.YtnccgaanfjaimaaDoor
open Go.ChangeShapes Go.WideShapes Go.ChangeAt Go.RowKit
set_option linter.unusedVariables false
set_option linter.unusedSimpArgs false

def letB (r : Int) : Bool := decide (97 ≤ r ∧ r ≤ 122)
def sgnB (r : Int) : Bool := decide ((97 ≤ r ∧ r ≤ 122) ∨ (48 ≤ r ∧ r ≤ 57) ∨ r = 95)
def allS (l : List UInt8) : Bool := l.all fun c => sgnB c.toNat
def verB (s : ByteArray) : Bool := decide (1 ≤ s.size ∧ s.size ≤ 20) && allS s.data.toList
def wordB (s : ByteArray) : Bool := s.toList == [97, 115] || s.toList == [109, 97, 116, 99, 104] || s.toList == [119, 104, 101, 114, 101] || s.toList == [97, 110, 100] || s.toList == [114, 101, 116, 117, 114, 110] || s.toList == [114, 97, 110, 103, 101] || s.toList == [115, 108, 105, 100, 101]

theorem isLetter_any (r : Int) (w : World) : Calls Tryd.prog 96 #[.int .i32 r] w fun e w' => e = .returned (.bool (letB r)) ∧ w = w' := by
  have h : r < 97 ∨ (97 ≤ r ∧ 122 < r) ∨ (97 ≤ r ∧ r ≤ 122) := by omega
  rcases h with h | ⟨h1, h2⟩ | ⟨h1, h2⟩
  all_goals
    go_enter Tryd.func96, Tryd.ntmps96
    go_wp2
    go_ret
    exact ⟨ret_bool (by simp [letB]; try omega), rfl⟩

theorem letter_any (r : Int) (w : World) : Calls Tryd.prog 102 #[.int .u8 r] w fun e w' => e = .returned (.bool (letB r)) ∧ w = w' := by
  have h : r < 97 ∨ (97 ≤ r ∧ 122 < r) ∨ (97 ≤ r ∧ r ≤ 122) := by omega
  rcases h with h | ⟨h1, h2⟩ | ⟨h1, h2⟩
  all_goals
    go_enter Tryd.func102, Tryd.ntmps102
    go_wp2
    go_ret
    exact ⟨ret_bool (by simp [letB]; try omega), rfl⟩

theorem isSign_any (r : Int) (w : World) : Calls Tryd.prog 103 #[.int .i32 r] w fun e w' => e = .returned (.bool (sgnB r)) ∧ w = w' := by
  cases hl : letB r with
  | true =>
    have HL := Lib.hid hl
    go_enter Tryd.func103, Tryd.ntmps103
    go_wp2_with (go_at_call 96; refine (isLetter_any _ _).mono ?_; rintro e w' ⟨rfl, rfl⟩)
    go_ret
    exact ⟨ret_bool (by have := HL.out; simp [letB] at this; simp [sgnB]; omega), rfl⟩
  | false =>
    have HL := Lib.hid hl
    have h : r < 48 ∨ (48 ≤ r ∧ r ≤ 57) ∨ (48 ≤ r ∧ 57 < r) := by omega
    rcases h with h | ⟨h1, h2⟩ | ⟨h1, h2⟩
    · have hb : (r == 95) = false := by rw [beq_eq_false_iff_ne]; omega
      go_enter Tryd.func103, Tryd.ntmps103
      go_wp2_with (go_at_call 96; refine (isLetter_any _ _).mono ?_; rintro e w' ⟨rfl, rfl⟩)
      go_ret
      exact ⟨ret_bool (by simp [sgnB]; omega), rfl⟩
    · go_enter Tryd.func103, Tryd.ntmps103
      go_wp2_with (go_at_call 96; refine (isLetter_any _ _).mono ?_; rintro e w' ⟨rfl, rfl⟩)
      go_ret
      exact ⟨ret_bool (by simp [sgnB]; omega), rfl⟩
    · by_cases h3 : r = 95
      · subst h3
        go_enter Tryd.func103, Tryd.ntmps103
        go_wp2_with (go_at_call 96; refine (isLetter_any _ _).mono ?_; rintro e w' ⟨rfl, rfl⟩)
        go_ret
        exact ⟨ret_bool (by simp [sgnB]), rfl⟩
      · have hb : (r == 95) = false := by rw [beq_eq_false_iff_ne]; omega
        go_enter Tryd.func103, Tryd.ntmps103
        go_wp2_with (go_at_call 96; refine (isLetter_any _ _).mono ?_; rintro e w' ⟨rfl, rfl⟩)
        go_ret
        exact ⟨ret_bool (by rw [decide_eq_false (show ¬ r ≤ 57 by omega)]; symm; unfold sgnB; rw [decide_eq_false_iff_not]; have := HL.out; unfold letB at this; rw [decide_eq_false_iff_not] at this; omega), rfl⟩

theorem sign_any (r : Int) (w : World) : Calls Tryd.prog 104 #[.int .u8 r] w fun e w' => e = .returned (.bool (sgnB r)) ∧ w = w' := by
  cases hl : letB r with
  | true =>
    have HL := Lib.hid hl
    go_enter Tryd.func104, Tryd.ntmps104
    go_wp2_with (go_at_call 102; refine (letter_any _ _).mono ?_; rintro e w' ⟨rfl, rfl⟩)
    go_ret
    exact ⟨ret_bool (by have := HL.out; simp [letB] at this; simp [sgnB]; omega), rfl⟩
  | false =>
    have HL := Lib.hid hl
    have h : r < 48 ∨ (48 ≤ r ∧ r ≤ 57) ∨ (48 ≤ r ∧ 57 < r) := by omega
    rcases h with h | ⟨h1, h2⟩ | ⟨h1, h2⟩
    · have hb : (r == 95) = false := by rw [beq_eq_false_iff_ne]; omega
      go_enter Tryd.func104, Tryd.ntmps104
      go_wp2_with (go_at_call 102; refine (letter_any _ _).mono ?_; rintro e w' ⟨rfl, rfl⟩)
      go_ret
      exact ⟨ret_bool (by simp [sgnB]; omega), rfl⟩
    · go_enter Tryd.func104, Tryd.ntmps104
      go_wp2_with (go_at_call 102; refine (letter_any _ _).mono ?_; rintro e w' ⟨rfl, rfl⟩)
      go_ret
      exact ⟨ret_bool (by simp [sgnB]; omega), rfl⟩
    · by_cases h3 : r = 95
      · subst h3
        go_enter Tryd.func104, Tryd.ntmps104
        go_wp2_with (go_at_call 102; refine (letter_any _ _).mono ?_; rintro e w' ⟨rfl, rfl⟩)
        go_ret
        exact ⟨ret_bool (by simp [sgnB]), rfl⟩
      · have hb : (r == 95) = false := by rw [beq_eq_false_iff_ne]; omega
        go_enter Tryd.func104, Tryd.ntmps104
        go_wp2_with (go_at_call 102; refine (letter_any _ _).mono ?_; rintro e w' ⟨rfl, rfl⟩)
        go_ret
        exact ⟨ret_bool (by rw [decide_eq_false (show ¬ r ≤ 57 by omega)]; symm; unfold sgnB; rw [decide_eq_false_iff_not]; have := HL.out; unfold letB at this; rw [decide_eq_false_iff_not] at this; omega), rfl⟩

theorem isWord_any (s : ByteArray) (w : World) : Calls Tryd.prog 97 #[.string s] w fun e w' => e = .returned (.bool (wordB s)) ∧ w = w' := by
  cases w1 : (s.toList == [97, 115]) with
  | true =>
    go_enter Tryd.func97, Tryd.ntmps97
    go_wp2
    go_ret
    exact ⟨ret_bool (by simp [wordB, w1]), rfl⟩
  | false =>
    cases w2 : (s.toList == [109, 97, 116, 99, 104]) with
    | true =>
      go_enter Tryd.func97, Tryd.ntmps97
      go_wp2
      go_ret
      exact ⟨ret_bool (by simp [wordB, w1, w2]), rfl⟩
    | false =>
      cases w3 : (s.toList == [119, 104, 101, 114, 101]) with
      | true =>
        go_enter Tryd.func97, Tryd.ntmps97
        go_wp2
        go_ret
        exact ⟨ret_bool (by simp [wordB, w1, w2, w3]), rfl⟩
      | false =>
        cases w4 : (s.toList == [97, 110, 100]) with
        | true =>
          go_enter Tryd.func97, Tryd.ntmps97
          go_wp2
          go_ret
          exact ⟨ret_bool (by simp [wordB, w1, w2, w3, w4]), rfl⟩
        | false =>
          cases w5 : (s.toList == [114, 101, 116, 117, 114, 110]) with
          | true =>
            go_enter Tryd.func97, Tryd.ntmps97
            go_wp2
            go_ret
            exact ⟨ret_bool (by simp [wordB, w1, w2, w3, w4, w5]), rfl⟩
          | false =>
            cases w6 : (s.toList == [114, 97, 110, 103, 101]) with
            | true =>
              go_enter Tryd.func97, Tryd.ntmps97
              go_wp2
              go_ret
              exact ⟨ret_bool (by simp [wordB, w1, w2, w3, w4, w5, w6]), rfl⟩
            | false =>
              cases w7 : (s.toList == [115, 108, 105, 100, 101]) with
              | true =>
                go_enter Tryd.func97, Tryd.ntmps97
                go_wp2
                go_ret
                exact ⟨ret_bool (by simp [wordB, w1, w2, w3, w4, w5, w6, w7]), rfl⟩
              | false =>
                go_enter Tryd.func97, Tryd.ntmps97
                go_wp2
                go_ret
                exact ⟨ret_bool (by simp [wordB, w1, w2, w3, w4, w5, w6, w7]), rfl⟩

theorem allS_get {l : List UInt8} (h : allS l = true) (k : Nat) (hk : k < l.length) : sgnB (l[k]).toNat = true := by
  unfold allS at h
  rw [List.all_eq_true] at h
  exact h _ (List.getElem_mem hk)
theorem allS_succ {l : List UInt8} {k : Nat} (h : allS (l.take k) = true) (hk : k < l.length) (hs : sgnB (l[k]).toNat = true) : allS (l.take (k + 1)) = true := by
  rw [List.take_succ_eq_append_getElem hk]
  unfold allS at h ⊢
  rw [List.all_append, h]
  simpa using hs
theorem allS_not {l : List UInt8} {k : Nat} (hk : k < l.length) (hs : sgnB (l[k]).toNat = false) : allS l = false := by
  cases h : allS l with
  | false => rfl
  | true => rw [allS_get h k hk] at hs; cases hs

theorem rVertex_any (s : ByteArray) (w : World) (hm : s.size ≤ maxLen) : Calls Tryd.prog 101 #[.string s] w fun e w' => e = .returned (.bool (verB s)) ∧ w = w' := by
  unfold maxLen at hm
  have hsz : s.data.toList.length = s.size := by rw [Array.length_toList]; rfl
  have HSZ := Lib.hid hsz
  clear hsz
  go_enter Tryd.func101, Tryd.ntmps101
  go_wp2
  go_loop [3] (fun i => ∃ k : Nat, k ≤ s.size ∧ i = .int .i64 k ∧ allS (s.data.toList.take k) = true) (fun i => s.size - (intOf i).toNat)
  case atStart => exact ⟨0, Nat.zero_le _, rfl, rfl⟩
  case round =>
    obtain ⟨k, hk, rfl, hall⟩ := hrel
    have HALL := Lib.hid hall
    clear hall
    by_cases hlt : k < s.size
    · have hkl : k < s.data.toList.length := by rw [HSZ.out]; exact hlt
      have hb : s.data.toList[k] = s[k] := rfl
      have HB := Lib.hid hb
      clear hb
      cases hsg : sgnB (s[k].toNat : Int) with
      | true =>
        have HS := Lib.hid hsg
        go_wp2_with (go_at_call 104; refine (sign_any _ _).mono ?_; rintro e w' ⟨rfl, rfl⟩)
        go_round
        case rel => exact ⟨k + 1, by omega, by go_num, allS_succ HALL.out hkl (by rw [HB.out]; exact HS.out)⟩
        case measure => simp [intOf]; omega
      | false =>
        have HS := Lib.hid hsg
        go_wp2_with (go_at_call 104; refine (sign_any _ _).mono ?_; rintro e w' ⟨rfl, rfl⟩)
        go_ret
        exact ⟨ret_bool (by unfold verB; rw [allS_not hkl (by rw [HB.out]; exact HS.out), Bool.and_false]), rfl⟩
    · obtain rfl : k = s.size := by omega
      have h2 : s.size < 1 ∨ (1 ≤ s.size ∧ 20 < s.size) ∨ (1 ≤ s.size ∧ s.size ≤ 20) := by omega
      have hv : verB s = decide (1 ≤ s.size ∧ s.size ≤ 20) := by
        have := HALL.out
        rw [List.take_of_length_le (by rw [HSZ.out]; exact Nat.le_refl _)] at this
        unfold verB
        rw [this, Bool.and_true]
      have HV := Lib.hid hv
      clear hv
      rcases h2 with h2 | ⟨h2, h3⟩ | ⟨h2, h3⟩
      all_goals
        go_wp2
        go_ret
        exact ⟨ret_bool (by rw [HV.out, Bool.eq_iff_iff]; simp; try omega), rfl⟩

theorem vertex_any (s : ByteArray) (w : World) (hm : s.size ≤ maxLen) : Calls Tryd.prog 95 #[.string s] w fun e w' => e = .returned (.bool (verB s)) ∧ Below w.heap.size w w' := by
  unfold maxLen at hm
  have h2 : s.size < 1 ∨ (1 ≤ s.size ∧ 20 < s.size) ∨ (1 ≤ s.size ∧ s.size ≤ 20) := by omega
  rcases h2 with h2 | ⟨h2, h3⟩ | ⟨h2, h3⟩
  · go_enter Tryd.func95, Tryd.ntmps95
    go_wp2
    go_ret
    exact ⟨ret_bool (by unfold verB; simp; omega), Below.refl _ _⟩
  · go_enter Tryd.func95, Tryd.ntmps95
    go_wp2
    go_ret
    exact ⟨ret_bool (by unfold verB; simp; omega), Below.refl _ _⟩
  · have hsz : s.data.toList.length = s.size := by rw [Array.length_toList]; rfl
    have HSZ := Lib.hid hsz
    clear hsz
    go_enter Tryd.func95, Tryd.ntmps95
    go_wp2
    go_loopw [4] (fun _ wr => ∃ k : Nat, k ≤ s.size ∧ wr = w.iter s k ∧ allS (s.data.toList.take k) = true) (fun _ wr => s.size - wr.iterPos w.heap.size)
    case atStart => exact ⟨0, Nat.zero_le _, rfl, rfl⟩
    case round =>
      obtain ⟨k, hk, rfl, hall⟩ := hrel
      have HALL := Lib.hid hall
      clear hall
      by_cases hlt : k < s.size
      · have hkl : k < s.data.toList.length := by rw [HSZ.out]; exact hlt
        have hb : s.data.toList[k] = s[k] := rfl
        have HB := Lib.hid hb
        clear hb
        by_cases hasc : (s[k].toNat) < 128
        · have hnx := fun ty => run_next_ascii (P := Tryd.prog) w s k ty hlt hasc
          cases hsg : sgnB (s[k].toNat : Int) with
          | true =>
            have HS := Lib.hid hsg
            go_wp2_with (go_at_call 103; refine (isSign_any _ _).mono ?_; rintro e w' ⟨rfl, rfl⟩)
            go_roundw
            case rel => exact ⟨k + 1, by omega, rfl, allS_succ HALL.out hkl (by rw [HB.out]; exact HS.out)⟩
            case measure => simp; omega
          | false =>
            have HS := Lib.hid hsg
            go_wp2_with (go_at_call 103; refine (isSign_any _ _).mono ?_; rintro e w' ⟨rfl, rfl⟩)
            go_ret
            exact ⟨ret_bool (by unfold verB; rw [allS_not hkl (by rw [HB.out]; exact HS.out), Bool.and_false]), (Below.refl _ _).alloc (Nat.le_refl _) _⟩
        · have hhi := (decode_high s k hlt (by omega)).1
          have hnx := fun ty => run_next_any (P := Tryd.prog) w s k ty hlt
          obtain ⟨rn, hrn⟩ : ∃ rn, Utf8.decode s k = rn := ⟨_, rfl⟩
          obtain ⟨r, n⟩ := rn
          rw [hrn] at hhi
          simp only [hrn] at hnx
          have hsg : sgnB (r : Int) = false := by unfold sgnB; rw [decide_eq_false_iff_not]; simp at hhi; omega
          have hsg2 : sgnB (s[k].toNat : Int) = false := by unfold sgnB; rw [decide_eq_false_iff_not]; omega
          have HS := Lib.hid hsg2
          clear hsg2 hrn
          go_wp2_with (go_at_call 103; refine (isSign_any _ _).mono ?_; rintro e w' ⟨rfl, rfl⟩)
          go_ret
          exact ⟨ret_bool (by unfold verB; rw [allS_not hkl (by rw [HB.out]; exact HS.out), Bool.and_false]), (Below.refl _ _).alloc (Nat.le_refl _) _⟩
      · obtain rfl : k = s.size := by omega
        have hnx := fun ty => run_next_end (P := Tryd.prog) w s s.size ty hlt
        have hv : verB s = true := by
          have := HALL.out
          rw [List.take_of_length_le (by rw [HSZ.out]; exact Nat.le_refl _)] at this
          unfold verB
          rw [this, decide_eq_true ⟨h2, h3⟩]; rfl
        have HV := Lib.hid hv
        clear hv
        go_wp2
        go_ret
        exact ⟨ret_bool HV.out.symm, (Below.refl _ _).alloc (Nat.le_refl _) _⟩
end Go.Proofs.YtnccgaanfjaimaaDoor

namespace Go.Proofs.YtnccgaanfjaimaaDoor
open Go.ChangeShapes Go.WideShapes Go.ChangeAt Go.RowKit
set_option linter.unusedVariables false
set_option linter.unusedSimpArgs false

def firstB (s : ByteArray) : Int := if h : 0 < s.size then (s[0]'h).toNat else 0
def freB (s : ByteArray) : Bool := verB s && (letB (firstB s) && !wordB s)

theorem verB_pos {s : ByteArray} (h : verB s = true) : 1 ≤ s.size := by
  unfold verB at h
  rw [Bool.and_eq_true, decide_eq_true_eq] at h
  exact h.1.1

theorem free_any (s : ByteArray) (w : World) (hm : s.size ≤ maxLen) : Calls Tryd.prog 77 #[.string s] w fun e w' => e = .returned (.bool (freB s)) ∧ Below w.heap.size w w' := by
  cases hv : verB s with
  | false =>
    have HE := Lib.hid (show freB s = false by unfold freB; rw [hv]; rfl)
    go_enter Tryd.func77, Tryd.ntmps77
    go_wp2_with (go_at_call 95; refine (vertex_any s _ hm).mono ?_; rintro e w' ⟨rfl, hb⟩)
    go_ret
    exact ⟨ret_bool HE.out.symm, hb⟩
  | true =>
    have hp := verB_pos hv
    have hf : firstB s = (s[0]'hp).toNat := dif_pos hp
    have hu1 : ((s[0]'hp).toNat : Int) ≤ 255 := by have := (s[0]'hp).toNat_lt; omega
    have hw32 : wrap32 ((s[0]'hp).toNat : Int) = ((s[0]'hp).toNat : Int) := by unfold wrap32; omega
    cases hl : letB ((s[0]'hp).toNat : Int) with
    | false =>
      have HE := Lib.hid (show freB s = false by unfold freB; rw [hf, hl]; simp)
      clear hf
      go_enter Tryd.func77, Tryd.ntmps77
      go_wp2_with (first | (go_at_call 95; refine (vertex_any s _ hm).mono ?_; rintro e w' ⟨rfl, hb⟩) | (go_at_call 96; refine (isLetter_any _ _).mono ?_; rintro e w' ⟨rfl, rfl⟩))
      go_ret
      exact ⟨ret_bool HE.out.symm, hb⟩
    | true =>
      have HE := Lib.hid (show freB s = !wordB s by unfold freB; rw [hv, hf, hl]; simp)
      clear hf
      go_enter Tryd.func77, Tryd.ntmps77
      go_wp2_with (first | (go_at_call 95; refine (vertex_any s _ hm).mono ?_; rintro e w' ⟨rfl, hb⟩) | (go_at_call 96; refine (isLetter_any _ _).mono ?_; rintro e w' ⟨rfl, rfl⟩) | (go_at_call 97; refine (isWord_any _ _).mono ?_; rintro e w' ⟨rfl, rfl⟩))
      go_ret
      exact ⟨ret_bool HE.out.symm, hb⟩

theorem rFree_any (s : ByteArray) (w : World) (hm : s.size ≤ maxLen) : Calls Tryd.prog 86 #[.string s] w fun e w' => e = .returned (.bool (freB s)) ∧ w = w' := by
  cases hv : verB s with
  | false =>
    have HE := Lib.hid (show freB s = false by unfold freB; rw [hv]; rfl)
    go_enter Tryd.func86, Tryd.ntmps86
    go_wp2_with (go_at_call 101; refine (rVertex_any s _ hm).mono ?_; rintro e w' ⟨rfl, rfl⟩)
    go_ret
    exact ⟨ret_bool HE.out.symm, rfl⟩
  | true =>
    have hp := verB_pos hv
    have hf : firstB s = (s[0]'hp).toNat := dif_pos hp
    cases hl : letB ((s[0]'hp).toNat : Int) with
    | false =>
      have HE := Lib.hid (show freB s = false by unfold freB; rw [hf, hl]; simp)
      clear hf
      go_enter Tryd.func86, Tryd.ntmps86
      go_wp2_with (first | (go_at_call 101; refine (rVertex_any s _ hm).mono ?_; rintro e w' ⟨rfl, rfl⟩) | (go_at_call 102; refine (letter_any _ _).mono ?_; rintro e w' ⟨rfl, rfl⟩))
      go_ret
      exact ⟨ret_bool HE.out.symm, rfl⟩
    | true =>
      have HE := Lib.hid (show freB s = !wordB s by unfold freB; rw [hv, hf, hl]; simp)
      clear hf
      cases w1 : (s.toList == [97, 115]) with
      | true =>
        go_enter Tryd.func86, Tryd.ntmps86
        go_wp2_with (first | (go_at_call 101; refine (rVertex_any s _ hm).mono ?_; rintro e w' ⟨rfl, rfl⟩) | (go_at_call 102; refine (letter_any _ _).mono ?_; rintro e w' ⟨rfl, rfl⟩))
        go_ret
        exact ⟨ret_bool (by rw [HE.out]; simp [wordB, w1]), rfl⟩
      | false =>
        cases w2 : (s.toList == [109, 97, 116, 99, 104]) with
        | true =>
          go_enter Tryd.func86, Tryd.ntmps86
          go_wp2_with (first | (go_at_call 101; refine (rVertex_any s _ hm).mono ?_; rintro e w' ⟨rfl, rfl⟩) | (go_at_call 102; refine (letter_any _ _).mono ?_; rintro e w' ⟨rfl, rfl⟩))
          go_ret
          exact ⟨ret_bool (by rw [HE.out]; simp [wordB, w1, w2]), rfl⟩
        | false =>
          cases w3 : (s.toList == [119, 104, 101, 114, 101]) with
          | true =>
            go_enter Tryd.func86, Tryd.ntmps86
            go_wp2_with (first | (go_at_call 101; refine (rVertex_any s _ hm).mono ?_; rintro e w' ⟨rfl, rfl⟩) | (go_at_call 102; refine (letter_any _ _).mono ?_; rintro e w' ⟨rfl, rfl⟩))
            go_ret
            exact ⟨ret_bool (by rw [HE.out]; simp [wordB, w1, w2, w3]), rfl⟩
          | false =>
            cases w4 : (s.toList == [97, 110, 100]) with
            | true =>
              go_enter Tryd.func86, Tryd.ntmps86
              go_wp2_with (first | (go_at_call 101; refine (rVertex_any s _ hm).mono ?_; rintro e w' ⟨rfl, rfl⟩) | (go_at_call 102; refine (letter_any _ _).mono ?_; rintro e w' ⟨rfl, rfl⟩))
              go_ret
              exact ⟨ret_bool (by rw [HE.out]; simp [wordB, w1, w2, w3, w4]), rfl⟩
            | false =>
              cases w5 : (s.toList == [114, 101, 116, 117, 114, 110]) with
              | true =>
                go_enter Tryd.func86, Tryd.ntmps86
                go_wp2_with (first | (go_at_call 101; refine (rVertex_any s _ hm).mono ?_; rintro e w' ⟨rfl, rfl⟩) | (go_at_call 102; refine (letter_any _ _).mono ?_; rintro e w' ⟨rfl, rfl⟩))
                go_ret
                exact ⟨ret_bool (by rw [HE.out]; simp [wordB, w1, w2, w3, w4, w5]), rfl⟩
              | false =>
                cases w6 : (s.toList == [114, 97, 110, 103, 101]) with
                | true =>
                  go_enter Tryd.func86, Tryd.ntmps86
                  go_wp2_with (first | (go_at_call 101; refine (rVertex_any s _ hm).mono ?_; rintro e w' ⟨rfl, rfl⟩) | (go_at_call 102; refine (letter_any _ _).mono ?_; rintro e w' ⟨rfl, rfl⟩))
                  go_ret
                  exact ⟨ret_bool (by rw [HE.out]; simp [wordB, w1, w2, w3, w4, w5, w6]), rfl⟩
                | false =>
                  cases w7 : (s.toList == [115, 108, 105, 100, 101]) with
                  | true =>
                    go_enter Tryd.func86, Tryd.ntmps86
                    go_wp2_with (first | (go_at_call 101; refine (rVertex_any s _ hm).mono ?_; rintro e w' ⟨rfl, rfl⟩) | (go_at_call 102; refine (letter_any _ _).mono ?_; rintro e w' ⟨rfl, rfl⟩))
                    go_ret
                    exact ⟨ret_bool (by rw [HE.out]; simp [wordB, w1, w2, w3, w4, w5, w6, w7]), rfl⟩
                  | false =>
                    go_enter Tryd.func86, Tryd.ntmps86
                    go_wp2_with (first | (go_at_call 101; refine (rVertex_any s _ hm).mono ?_; rintro e w' ⟨rfl, rfl⟩) | (go_at_call 102; refine (letter_any _ _).mono ?_; rintro e w' ⟨rfl, rfl⟩))
                    go_ret
                    exact ⟨ret_bool (by rw [HE.out]; simp [wordB, w1, w2, w3, w4, w5, w6, w7]), rfl⟩
end Go.Proofs.YtnccgaanfjaimaaDoor

namespace Go.Proofs.YtnccgaanfjaimaaDoor
open Go.ChangeShapes Go.WideShapes Go.ChangeAt Go.RowKit
set_option linter.unusedVariables false
set_option linter.unusedSimpArgs false

def fitB (k : Int) (s : ByteArray) (n : Nat) : Bool :=
  if k = 1 then freB s && decide (n = 0)
  else if k = 2 ∨ k = 3 then decide (s = ⟨#[]⟩) && decide (2 ≤ n)
  else if k = 4 ∨ k = 5 ∨ k = 6 then decide (s = ⟨#[]⟩) && decide (n = 1)
  else false
def X.fits (x : X) : Bool := fitB x.kind x.lab x.kids.length

theorem tl_nil {s : ByteArray} (h : s ≠ ⟨#[]⟩) : s.toList ≠ [] := fun e => h (by
  have : s.data.toList = [] := by rw [← ByteArray.toList_eq]; exact e
  exact ByteArray.ext (by simpa using this))

set_option maxHeartbeats 4000000 in
theorem fits0 (k : Int) (s : ByteArray) (A : Option Addr) (n c : Nat) (w : World) (hm : s.size ≤ maxLen) : Calls Tryd.prog 61 #[.agg #[.int .i64 k, .string s, .slice A n c]] w fun e w' => e = .returned (.bool (fitB k s n)) ∧ Below w.heap.size w w' := by
  have hb0 : ∀ W, Below (w.heap.size + 1) (w.alloc (.cells #[.int .i64 k, .string s, .slice A n c] 25)) W → Below w.heap.size w W := fun W h => ((Below.refl _ w).alloc (Nat.le_refl _) _).trans (h.mono (by omega))
  have HB := Lib.hid hb0
  have hb1 : Hid (Below w.heap.size w (w.alloc (.cells #[.int .i64 k, .string s, .slice A n c] 25))) := Lib.hid ((Below.refl _ w).alloc (Nat.le_refl _) _)
  clear hb0
  unfold fitB
  by_cases h1 : k = 1
  · subst h1
    rw [if_pos rfl]
    cases hf : freB s with
    | false =>
      have HF := Lib.hid hf
      go_enter Tryd.func61, Tryd.ntmps61
      go_wp2_with (go_at_call 77; refine (free_any s _ hm).mono ?_; rintro e w1 ⟨rfl, hb⟩; have HB2 := Lib.hid hb; clear hb; rw [HF.out])
      go_ret
      exact ⟨by simp, HB.out _ (by have := HB2.out; simpa using this)⟩
    | true =>
      have HF := Lib.hid hf
      go_enter Tryd.func61, Tryd.ntmps61
      by_cases hn : n = 0
      · subst hn
        go_wp2_with (go_at_call 77; refine (free_any s _ hm).mono ?_; rintro e w1 ⟨rfl, hb⟩; have HB2 := Lib.hid hb; have hc := (box_cells (w := w) (W := w1) (a := .int .i64 1) (b := .string s) (c := .slice A 0 c) (by have := HB2.out; simpa using this)).2.2; clear hb; rw [HF.out])
        go_ret
        exact ⟨by simp, HB.out _ (by have := HB2.out; simpa using this)⟩
      · have hn' : (n : Int) ≠ 0 := by omega
        go_wp2_with (go_at_call 77; refine (free_any s _ hm).mono ?_; rintro e w1 ⟨rfl, hb⟩; have HB2 := Lib.hid hb; have hc := (box_cells (w := w) (W := w1) (a := .int .i64 1) (b := .string s) (c := .slice A n c) (by have := HB2.out; simpa using this)).2.2; clear hb; rw [HF.out])
        go_ret
        exact ⟨by simp [hn], HB.out _ (by have := HB2.out; simpa using this)⟩
  · rw [if_neg h1]
    by_cases h2 : k = 2 ∨ k = 3
    · rw [if_pos h2]
      by_cases hs : s = ⟨#[]⟩
      · subst hs
        by_cases hn : 2 ≤ n
        · have hn' : (2 : Int) ≤ (n : Int) := by omega
          rcases h2 with rfl | rfl
          all_goals
            go_enter Tryd.func61, Tryd.ntmps61
            go_wp2_with fail
            go_ret
            exact ⟨(by simp [hn]; try omega), hb1.out⟩
        · have hn' : ¬ (2 : Int) ≤ (n : Int) := by omega
          rcases h2 with rfl | rfl
          all_goals
            go_enter Tryd.func61, Tryd.ntmps61
            go_wp2_with fail
            go_ret
            exact ⟨(by simp [hn]; try omega), hb1.out⟩
      · have hs' := tl_nil hs
        rcases h2 with rfl | rfl
        all_goals
          go_enter Tryd.func61, Tryd.ntmps61
          go_wp2_with fail
          go_ret
          exact ⟨by simp [hs], hb1.out⟩
    · rw [if_neg h2]
      by_cases h3 : k = 4 ∨ k = 5 ∨ k = 6
      · rw [if_pos h3]
        by_cases hs : s = ⟨#[]⟩
        · subst hs
          by_cases hn : n = 1
          · subst hn
            rcases h3 with rfl | rfl | rfl
            all_goals
              go_enter Tryd.func61, Tryd.ntmps61
              go_wp2_with fail
              go_ret
              exact ⟨by simp, hb1.out⟩
          · have hn' : (n : Int) ≠ 1 := by omega
            rcases h3 with rfl | rfl | rfl
            all_goals
              go_enter Tryd.func61, Tryd.ntmps61
              go_wp2_with fail
              go_ret
              exact ⟨(by simp [hn]; try omega), hb1.out⟩
        · have hs' := tl_nil hs
          rcases h3 with rfl | rfl | rfl
          all_goals
            go_enter Tryd.func61, Tryd.ntmps61
            go_wp2_with fail
            go_ret
            exact ⟨by simp [hs], hb1.out⟩
      · rw [if_neg h3]
        simp only [not_or] at h2 h3
        obtain ⟨g2, g3⟩ := h2
        obtain ⟨g4, g5, g6⟩ := h3
        go_enter Tryd.func61, Tryd.ntmps61
        go_wp2_with fail
        go_ret
        exact ⟨rfl, hb1.out⟩
theorem fits_any {N : Nat} {w : World} {v : Value} {x : X} (hx : XV N w v x) (hm : x.lab.size ≤ maxLen) : Calls Tryd.prog 61 #[v] w fun e w' => e = .returned (.bool x.fits) ∧ Below w.heap.size w w' := by
  obtain ⟨kv, rfl, h⟩ := hx
  obtain ⟨A, c, rfl⟩ := h.form
  exact fits0 _ _ _ _ _ _ hm
end Go.Proofs.YtnccgaanfjaimaaDoor

namespace Go.Proofs.YtnccgaanfjaimaaDoor
open Go.ChangeShapes Go.WideShapes Go.ChangeAt Go.RowKit
set_option linter.unusedVariables false
set_option linter.unusedSimpArgs false

attribute [local go_sem] Oper.semAt_some

def X.right (x : X) : Bool := decide (x.sz ≤ 24) && x.parts.all X.fits
/-- no label is longer than a text may be -/
def X.lit (x : X) : Prop := ∀ p ∈ x.parts, p.lab.size ≤ maxLen

theorem not_right {x : X} {ps : List X} (hp : ps <+: x.parts) (h : 24 < ps.length ∨ ∃ p ∈ ps, p.fits = false) : x.right = false := by
  unfold X.right
  rcases h with h | ⟨p, hm, hf⟩
  · have h1 := hp.length_le
    have : ¬ x.sz ≤ 24 := by unfold X.sz; omega
    simp [this]
  · have : x.parts.all X.fits = false := by
      rw [List.all_eq_false]
      exact ⟨p, hp.subset hm, by simp [hf]⟩
    rw [this, Bool.and_false]
theorem is_right {x : X} (h : x.sz ≤ 24) (hf : ∀ p ∈ x.parts, p.fits = true) : x.right = true := by
  unfold X.right
  rw [decide_eq_true h, List.all_eq_true.2 hf]
  rfl

theorem kpx_set {N : Nat} {W : World} {B : Nat} {t : TypeId} {v : Value} (h : Boxed W B t v) (ht : still t = false) (hN : N ≤ B) (u : Value) : KpX N W (W.setCell ⟨B, 0, none⟩ u) := by
  refine ⟨by simp [World.setCell], fun k hk => Below.heap_setCell _ _ _ k (by show k ≠ B; omega), fun k v' t' fr hk ht' => ?_⟩
  by_cases e : k = B
  · subst e
    rw [show W.heap[k]? = _ from h] at hk
    injection hk with hk
    injection hk with _ hk _
    subst hk
    rw [ht] at ht'
    cases ht'
  · exact (Below.heap_setCell _ _ _ k e).trans hk
theorem BoxT.ne {W : World} {A B : Nat} {p : T} {t : TypeId} {v : Value} (h : BoxT W A p) (hb : Boxed W B t v) (ht : t ≠ 25) : B ≠ A := by
  rintro rfl
  have := (show W.heap[B]? = _ from h).symm.trans (show W.heap[B]? = _ from hb)
  injection this with this
  injection this with _ this _
  exact ht this.symm
theorem Boxed.bel {W W' : World} {B : Nat} {t : TypeId} {v : Value} (h : Boxed W B t v) (hb : Below W.heap.size W W') : Boxed W' B t v := (hb.block _ h.lt).trans h
theorem alloc_at {w W : World} {o : Obj} {n : Nat} (hn : w.heap.size = n) (h : Below (w.alloc o).heap.size (w.alloc o) W) : W.heap[n]? = some o := by
  subst hn
  exact (h.block _ (by simp)).trans (World.alloc_heap_new w o)

set_option maxRecDepth 100000 in
set_option maxHeartbeats 4000000 in
theorem right12_any {N : Nat} {w : World} {v : Value} {x : X} (hx : XV N w v x) (hN : N ≤ w.heap.size) (hsz : x.sz ≤ 100000) (hl : x.lit) :
    Calls Tryd.prog 37 #[v] w fun e w' => e = .returned (.bool x.right) ∧ Below w.heap.size w w' := by
  obtain ⟨a, rfl, rfl, ha⟩ := hx.tree
  obtain ⟨A, c, hk, hv⟩ := ha.cells
  rw [hv]
  have HA := Lib.hid (And.intro ha (And.intro hN (And.intro hk hl)))
  clear ha hk hv hx hl
  refine (callsIn_wide (n := 12)).1 ?_
  refine callsIn_of_wp_marks Tryd.func37 rfl trivial ?_ rfl
  simp only [Tryd.ntmps37, List.size_toArray, List.length_cons, List.length_nil, Nat.reduceAdd, Nat.reduceSub, Array.replicate_succ, Array.replicate_zero, List.push_toArray, List.append_toArray, List.nil_append, List.cons_append]
  refine wpIn_wide.2 ?_
  go_wp2_with (go_at_call 60; refine (partsOf_any (a := a) HA.out.2.2.1 _).mono ?_; rintro e w1 ⟨rfl, hx1, hbw⟩)
  have hq1 : Below w.heap.size w (w.alloc (.cells #[.int .i64 a.kind, .string a.lab, .slice A a.kids.length c] 25)) := (Below.refl _ w).alloc (Nat.le_refl _) _
  generalize hQ1 : w.alloc (.cells #[.int .i64 a.kind, .string a.lab, .slice A a.kids.length c] 25) = Q1 at *
  have hz1 : Q1.heap.size = w.heap.size + 1 := by rw [← hQ1]; simp
  have hb2 : Below (Q1.alloc (.cells #[.bool false] 4)).heap.size (Q1.alloc (.cells #[.bool false] 4)) w1 := ((Below.refl _ _).alloc (Nat.le_refl _) _).trans (hbw.mono (by simp))
  have hbk : Boxed w1 (w.heap.size + 1) 4 (.bool false) := alloc_at hz1 hb2
  have hbc : Boxed w1 (w.heap.size + 1 + 1) 3 (.int .i64 0) := alloc_at (by simp [hz1]) hbw
  have hb1 : Below w.heap.size w w1 := hq1.trans (((Below.refl _ Q1).alloc (Nat.le_refl _) _ |>.trans (hb2.mono (by simp))).mono (by omega))
  have hz1 : w.heap.size + 3 ≤ w1.heap.size := by have := hbw.size; simp at this; omega
  have hNw : N ≤ w1.heap.size := Nat.le_trans HA.out.2.1 (by omega)
  have hseq := parts_seq 11 (by decide) hx1 (HA.out.1.bel (hb1.mono HA.out.2.1)) hNw hsz
  simp only [World.size_alloc, show Q1.heap.size = w.heap.size + 1 by rw [← hQ1]; simp] at hseq
  have HSEQ := Lib.hid hseq
  have HB1 := Lib.hid hb1
  have HBX := Lib.hid (And.intro hbk hbc)
  have HPO := Lib.hid (parts_ok HA.out.1)
  have HPL := Lib.hid (partsT_x a)
  try simp only [World.size_alloc, show Q1.heap.size = w.heap.size + 1 by rw [← hQ1]; simp]
  clear hbw hb1 hbk hbc hseq hx1 hq1 hb2 hQ1
  refine wpIn_wide.1 (?_ : Code.wpIn Fence.wide 12 Tryd.prog _ _ _ _)
  refine wpIn_rangeFunc_X rfl (by omega) (gf := 75) (lb := #[.pointer (some ⟨w.heap.size + 1 + 1 + 1, 0, none⟩)]) rfl trivial (enters_of Tryd.func75 (by kernel_rfl) rfl)
    HSEQ.out KpX.trans (fun W' l' o o' hlw hl' ho _ => KpX.putObj W' l' o o' (by omega) hl' ho) (Below.refl _ _) (fun _ => rfl)
    (fun pre W' => (Boxed W' (w.heap.size + 1) 4 (.bool false) ∧ Boxed W' (w.heap.size + 1 + 1) 3 (.int .i64 (pre.length : Nat))) ∧ Below w.heap.size w W' ∧ (pre.length ≤ 24 ∧ ∀ p ∈ pre, p.x.fits = true))
    (fun c pre W' => (c = .ret ∧ a.x.right = false) ∧ Boxed W' (w.heap.size + 1) 4 (.bool false) ∧ Below w.heap.size w W')
    (OwnQ.and (OwnQ.and (OwnQ.boxed _ _ _ (fun _ => _) (by decide)) (OwnQ.boxed _ _ _ _ (by decide))) (OwnQ.and (ownQ_below (Nat.le_refl _) (by omega)) (ownQ_pure _ _)))
    (fun c => OwnQ.and (ownQ_pure _ _) (OwnQ.and (OwnQ.boxed _ _ _ (fun _ => _) (by decide)) (ownQ_below (Nat.le_refl _) (by omega)))) ⟨HBX.out, HB1.out, by simp, fun p hp => by cases hp⟩
    (fun p a' W' => ∃ A4, a' = { tmps := #[.agg #[.int .i64 a.kind, .string a.lab, .slice A a.kids.length c], .pointer (some ⟨w.heap.size, 0, none⟩), .pointer (some ⟨w.heap.size + 1, 0, none⟩), .pointer (some ⟨w.heap.size + 1 + 1, 0, none⟩), .pointer (some ⟨A4, 0, none⟩), .agg #[.int .i64 a.kind, .string a.lab, .slice A a.kids.length c], .func (.func 75) #[] #[.pointer (some ⟨w.heap.size + 1 + 1 + 1, 0, none⟩)], p.v, undef, undef, undef, undef, undef, undef, undef, undef, undef], defers := [] } ∧ BoxT W' A4 p)
    ?hA ?assign ?body ?done ?stop
  case hA =>
    rintro p a' _ X Y ⟨A4, rfl, hc⟩ hr
    exact ⟨A4, rfl, hr.cells hc (by decide)⟩
  case assign =>
    intro l1 pre p W' K hI hpx hK
    obtain ⟨A4, c4, hk, hv⟩ := (HPO.out p (hpx.subset (by simp))).cells
    have HK := Lib.hid hK
    have HI' := Lib.hid hI
    have HKV := Lib.hid (And.intro hk hv)
    unfold encP
    rw [hv]
    clear hK hI hk hv
    gi_wp2
    have hbw : Below W'.heap.size W' (W'.alloc (.cells #[.int .i64 p.kind, .string p.lab, .slice A4 p.kids.length c4] 25)) := (Below.refl _ W').alloc (Nat.le_refl _) _
    obtain ⟨⟨hb1, hb2⟩, hb3, hb4⟩ := HI'.out
    refine HK.out _ _ ((below_others hbw).from _) (KpX.of_below hbw (by have := hb3.size; omega)) ⟨⟨hb1.alloc _, hb2.alloc _⟩, hb3.alloc hb3.size _, hb4⟩ ⟨W'.heap.size, ?_, ?_⟩
    · simp only [HKV.out.2]
    · unfold BoxT
      rw [HKV.out.1]
      exact World.alloc_heap_new W' _
  case body =>
    rintro l1 pre p a' W' hwl hloop hpx ⟨⟨hb1, hb2⟩, hb3, hb4, hb5⟩ ⟨A4, rfl, hc⟩
    have hpm : p ∈ partsT a := hpx.subset (by simp)
    obtain ⟨A7, c7, hk, hv⟩ := (HPO.out p hpm).cells
    have hne := hc.ne hb2 (by decide)
    have hne' := hne.symm
    have hcc := hb2.cell
    have hff := hb2.frozen
    have hpxx : (pre ++ [p]).map T.x <+: a.x.parts := by rw [← HPL.out]; obtain ⟨t, ht⟩ := hpx; exact ⟨t.map T.x, by rw [← List.map_append, ht]⟩
    have hlm : p.lab.size ≤ maxLen := by
      have := HA.out.2.2.2 p.x (by rw [← HPL.out]; exact List.mem_map.2 ⟨p, hpm, rfl⟩)
      rwa [T.x_lab] at this
    have hfx : p.x.fits = fitB p.kind p.lab p.kids.length := by unfold X.fits; rw [T.x_kind, T.x_lab, T.x_kids, List.length_map]
    have hset := hb2.set (.int .i64 ((pre.length : Int) + 1))
    have hbk2 : Boxed (W'.setCell ⟨w.heap.size + 1 + 1, 0, none⟩ (.int .i64 ((pre.length : Int) + 1))) (w.heap.size + 1) 4 (.bool false) := hb1.other (by omega) _
    have hbl2 : Below w.heap.size w (W'.setCell ⟨w.heap.size + 1 + 1, 0, none⟩ (.int .i64 ((pre.length : Int) + 1))) := hb3.setCell (by show w.heap.size ≤ w.heap.size + 1 + 1; omega) _
    have hkf2 : KeepsFrom w1.heap.size W' (W'.setCell ⟨w.heap.size + 1 + 1, 0, none⟩ (.int .i64 ((pre.length : Int) + 1))) := (KeepsOthers.setCell _ _ _).from _
    have hkp2 : KpX N W' (W'.setCell ⟨w.heap.size + 1 + 1, 0, none⟩ (.int .i64 ((pre.length : Int) + 1))) := kpx_set hb2 rfl (by omega) _
    have hc2 : BoxT (W'.setCell ⟨w.heap.size + 1 + 1, 0, none⟩ (.int .i64 ((pre.length : Int) + 1))) A4 p := (Below.heap_setCell _ _ _ _ hne').trans hc
    have kc := hset.cell
    obtain ⟨d0, d1, d2⟩ := hc2.cells hk
    have H2 := Lib.hid (And.intro hset (And.intro hbk2 (And.intro hbl2 (And.intro hkf2 hkp2))))
    have HP := Lib.hid (And.intro hpxx (And.intro hb5 hfx))
    clear hc hk hv hb1 hb2 hb3 hb5 hset hbk2 hbl2 hkf2 hkp2 hpxx hfx hpm hc2
    generalize hWS : W'.setCell ⟨w.heap.size + 1 + 1, 0, none⟩ (.int .i64 ((pre.length : Int) + 1)) = WS at *
    have hwl : ∀ W5 : World, Below WS.heap.size WS W5 → KeepsFrom w1.heap.size W' W5 ∧ KpX N W' W5 ∧ Below w.heap.size w W5 := fun W5 hb => by
      obtain ⟨-, -, h3, h4, h5⟩ := H2.out
      exact ⟨h4.trans ((below_others hb).from _), h5.trans (KpX.of_below hb (by have := h3.size; omega)), h3.trans (hb.mono h3.size)⟩
    have HWL := Lib.hid hwl
    clear hwl
    have no : ∀ (W5 : World), Below WS.heap.size WS W5 → a.x.right = false → (KeepsFrom w1.heap.size W' (W5.setCell ⟨w.heap.size + 1, 0, none⟩ (.bool false)) ∧ (Code.ret = Code.ret ∧ a.x.right = false) ∧ Boxed (W5.setCell ⟨w.heap.size + 1, 0, none⟩ (.bool false)) (w.heap.size + 1) 4 (.bool false) ∧ Below w.heap.size w (W5.setCell ⟨w.heap.size + 1, 0, none⟩ (.bool false))) := fun W5 hb hr => by
      obtain ⟨h1, h2, h3⟩ := HWL.out _ hb
      exact ⟨h1.trans ((KeepsOthers.setCell _ _ _).from _), ⟨rfl, hr⟩, (Boxed.bel H2.out.2.1 hb).set _, h3.setCell (by show w.heap.size ≤ w.heap.size + 1; omega) _⟩
    have HNO := Lib.hid no
    have HBKC := Lib.hid (And.intro (Boxed.cell H2.out.2.1) (Boxed.frozen H2.out.2.1))
    clear no
    have hlen : pre.length < 100000 := by omega
    by_cases hlt : pre.length < 24
    · have hlt' : ¬ (24 : Int) < (pre.length : Int) + 1 := by omega
      cases hft : fitB p.kind p.lab p.kids.length with
      | true =>
        have HFT := Lib.hid hft
        clear hft hpx
        gi_wp2
        refine ⟨trivial, ?_⟩
        refine (CallsIn.inRound l1 (callsIn_wide.2 (fits0 _ _ _ _ _ _ hlm))).mono ?_
        rintro e w5 ⟨rfl, hb5⟩
        have HB5 := Lib.hid hb5
        rw [HFT.out]
        clear hb5
        gi_wp2
        obtain ⟨h1, h2, h3⟩ := HWL.out _ HB5.out
        refine ⟨h1, h2, ⟨⟨Boxed.bel H2.out.2.1 HB5.out, ?_⟩, h3, by simp; omega, fun q hq => ?_⟩⟩
        · have := Boxed.bel H2.out.1 HB5.out
          simpa using this
        · rcases List.mem_append.1 hq with hq | hq
          · exact HP.out.2.1 q hq
          · obtain rfl : q = p := by simpa using hq
            rw [HP.out.2.2, HFT.out]
      | false =>
        have HFT := Lib.hid hft
        have HNR := Lib.hid (not_right HP.out.1 (.inr ⟨p.x, by simp, by rw [HP.out.2.2]; exact hft⟩))
        clear hft hpx
        gi_wp2
        refine ⟨trivial, ?_⟩
        refine (CallsIn.inRound l1 (callsIn_wide.2 (fits0 _ _ _ _ _ _ hlm))).mono ?_
        rintro e w5 ⟨rfl, hb5⟩
        have HB5 := Lib.hid hb5
        have kc5 := (Boxed.bel H2.out.2.1 hb5).cell
        have kf5 := (Boxed.bel H2.out.2.1 hb5).frozen
        rw [HFT.out]
        clear hb5
        gi_wp2
        obtain ⟨g1, ⟨-, g2⟩, g3⟩ := HNO.out _ HB5.out HNR.out
        exact ⟨g1, ⟨rfl, g2⟩, g3⟩
    · have hlt' : (24 : Int) < (pre.length : Int) + 1 := by omega
      have HNR := Lib.hid (not_right HP.out.1 (.inl (by simp; omega)))
      obtain ⟨kc5, kf5⟩ := HBKC.out
      clear hpx
      gi_wp2
      refine ⟨trivial, ?_⟩
      gi_wp2
      obtain ⟨g1, ⟨-, g2⟩, g3⟩ := HNO.out _ (Below.refl _ _) HNR.out
      exact ⟨g1, ⟨rfl, g2⟩, g3⟩
  case done =>
    rintro D W' hD ⟨⟨hb1, hb2⟩, hb3, hb4, hb5⟩ hK
    have hr : a.x.right = true := is_right (by rw [← partsT_len]; exact hb4) (fun p hp => by
      rw [← HPL.out] at hp
      obtain ⟨q, hq, rfl⟩ := List.mem_map.1 hp
      exact hb5 q hq)
    have hc := hb1.cell
    have hf := hb1.frozen
    have hs := hb1.set (.bool true)
    have hDn : D ≠ w.heap.size + 1 := by omega
    have HB := Lib.hid (And.intro hb3 (And.intro hs hr))
    have hK2 : (W'.setCell ⟨w.heap.size + 1, 0, none⟩ (.bool true)).heap[D]? = some (.deferred (some [])) := (Below.heap_setCell _ _ _ _ hDn).trans hK
    have hs2 : ((W'.setCell ⟨w.heap.size + 1, 0, none⟩ (.bool true)).putObj D (.deferred none)).cell? ⟨w.heap.size + 1, 0, none⟩ = some (.bool true) := (World.cell?_of_block (World.putObj_heap_other (by show w.heap.size + 1 ≠ D; omega))).trans hs.cell
    have HS2 := Lib.hid hs2
    clear hb1 hb2 hb3 hb4 hb5 hs hr hs2
    go_wp2_with fail
    refine ⟨by simp, .inl ⟨_, _, rfl, run_takeDeferred hK2, ?_⟩⟩
    exact ⟨.bool true, by simp [results, Tryd.results37, go_sem, HS2.out], by rw [HB.out.2.2], belowK w (HB.out.1.setCell (by show w.heap.size ≤ w.heap.size + 1; omega) _) (by omega)⟩
  case stop =>
    rintro D c2 pre W' hD hpre ⟨⟨rfl, hr⟩, hb1, hb3⟩ hK
    have HB := Lib.hid (And.intro hb3 hr)
    have hs2 : (W'.putObj D (.deferred none)).cell? ⟨w.heap.size + 1, 0, none⟩ = some (.bool false) := (World.cell?_of_block (World.putObj_heap_other (by show w.heap.size + 1 ≠ D; omega))).trans hb1.cell
    have HS2 := Lib.hid hs2
    clear hb1 hb3 hr hs2
    gi_wp2
    refine ⟨by simp, .inl ⟨_, _, rfl, run_takeDeferred hK, ?_⟩⟩
    exact ⟨.bool false, by simp [results, Tryd.results37, go_sem, HS2.out], by rw [HB.out.2], belowK w HB.out.1 (by omega)⟩
end Go.Proofs.YtnccgaanfjaimaaDoor
