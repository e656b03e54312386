/- The parts of one, as a function to range over. -/
import Derived.Test.YtnohnkhhkeikoaaI
namespace Go.Proofs.Ytnohnkhhkeikoaa
open Go.ChangeShapes Go.WideShapes Go.ChangeAt Go.RowKit
set_option linter.unusedVariables false

attribute [local go_sem] Oper.semAt_some

/-- the box of a tree -/
def BoxT (W : World) (B : Nat) (t : T) : Prop := W.heap[B]? = some (.cells #[.int .i64 t.kind, .string t.lab, t.kv] 25 (0, 0))
theorem BoxT.lt {W : World} {B : Nat} {t : T} (h : BoxT W B t) : B < W.heap.size := (Array.getElem?_eq_some_iff.1 h).1
theorem BoxT.bel {W W' : World} {B : Nat} {t : T} (h : BoxT W B t) (hb : Below W.heap.size W W') : BoxT W' B t := (hb.block _ h.lt).trans h
theorem BoxT.cells {W : World} {B : Nat} {t : T} {A : Option Addr} {n c : Nat} (h : BoxT W B t) (hk : t.kv = .slice A n c) : W.cell? ⟨B, 0, none⟩ = some (.int .i64 t.kind) ∧ W.cell? ⟨B, 1, none⟩ = some (.string t.lab) ∧ W.cell? ⟨B, 2, none⟩ = some (.slice A n c) := by
  unfold BoxT at h
  rw [hk] at h
  exact ⟨cell_of_row _ _ 0 _ 25 (0, 0) h, cell_of_row _ _ 1 _ 25 (0, 0) h, cell_of_row _ _ 2 _ 25 (0, 0) h⟩

theorem pairs_any {a b : T} {A1 A2 : Option Addr} {n1 c1 n2 c2 : Nat} (h1 : a.kv = .slice A1 n1 c1) (h2 : b.kv = .slice A2 n2 c2) (w : World) :
    Calls Try.prog 39 #[.agg #[.int .i64 a.kind, .string a.lab, .slice A1 n1 c1], .agg #[.int .i64 b.kind, .string b.lab, .slice A2 n2 c2]] w fun e w' => e = .returned (.func (.func 53) #[] #[.pointer (some ⟨w.heap.size, 0, none⟩), .pointer (some ⟨w.heap.size + 1, 0, none⟩)]) ∧ BoxT w' w.heap.size a ∧ BoxT w' (w.heap.size + 1) b ∧ Below w.heap.size w w' := by
  have HX : ∀ W, (w.alloc (.cells #[.int .i64 a.kind, .string a.lab, .slice A1 n1 c1] 25)).alloc (.cells #[.int .i64 b.kind, .string b.lab, .slice A2 n2 c2] 25) = W → BoxT W w.heap.size a ∧ BoxT W (w.heap.size + 1) b ∧ Below w.heap.size w W := by
    rintro W rfl
    refine ⟨?_, ?_, ((Below.refl _ w).alloc (Nat.le_refl _) _).alloc (by simp) _⟩
    · unfold BoxT
      rw [h1, Below.heap_alloc _ _ _ (by simp)]
      exact World.alloc_heap_new w _
    · unfold BoxT
      rw [h2]
      have := World.alloc_heap_new (w.alloc (.cells #[.int .i64 a.kind, .string a.lab, .slice A1 n1 c1] 25)) (.cells #[.int .i64 b.kind, .string b.lab, .slice A2 n2 c2] 25)
      rwa [World.size_alloc] at this
  have H := Lib.hid HX
  clear HX h1 h2
  go_enter Try.func39, Try.ntmps39
  go_wp2_with fail
  go_ret
  exact ⟨rfl, H.out _ rfl⟩

theorem partsOf_any {a : T} {A1 : Option Addr} {n1 c1 : Nat} (h1 : a.kv = .slice A1 n1 c1) (w : World) :
    Calls Try.prog 34 #[.agg #[.int .i64 a.kind, .string a.lab, .slice A1 n1 c1]] w fun e w' => e = .returned (.func (.func 48) #[] #[.pointer (some ⟨w.heap.size, 0, none⟩)]) ∧ BoxT w' w.heap.size a ∧ Below w.heap.size w w' := by
  have HX : ∀ W, (w.alloc (.cells #[.int .i64 a.kind, .string a.lab, .slice A1 n1 c1] 25)) = W → BoxT W w.heap.size a ∧ Below w.heap.size w W := by
    rintro W rfl
    refine ⟨?_, (Below.refl _ w).alloc (Nat.le_refl _) _⟩
    unfold BoxT
    rw [h1]
    exact World.alloc_heap_new w _
  have H := Lib.hid HX
  clear HX h1
  go_enter Try.func34, Try.ntmps34
  go_wp2_with fail
  go_ret
  exact ⟨rfl, H.out _ rfl⟩

section
variable {F : Fence} {n : Nat} {P : Program} {gf : Nat} {lb : Array Value} {Kp : World → World → Prop} {w0 : World}
theorem yield_round {m m' l l1 : Nat} {args : Array Value} {W : World} {R : Ending → World → Prop} (h : YieldAt Fence.wide m P l args W R) : YieldAt (Fence.wide.inRound l1) m' P l args W R := by
  obtain ⟨fn, tmps, assign, body, hy, hR⟩ := h
  exact ⟨fn, tmps, assign, body, hy, ⟨hR.1, fun c cs _ => hR.2 c cs (fun d h => by cases h)⟩⟩
theorem SeqX.map {α β : Type} {f : α → β} {encs : β → Array Value} {xs : List α} (h : SeqX F n P gf lb encs Kp (xs.map f) w0) : SeqX F n P gf lb (fun x => encs (f x)) Kp xs w0 := by
  intro l J Jx W hW hJ hJx hY h0
  refine (h l (fun ys W => J (xs.take ys.length) W) (fun ys W => Jx (xs.take ys.length) W) W hW (fun s => hJ _) (fun s => hJx _) ?_ (by simpa using h0)).mono ?_
  · intro pre y W1 hp hs hj
    have hl : pre.length < xs.length := by have := hp.length_le; simp at this; omega
    have hy : y = f xs[pre.length] := by
      obtain ⟨t, ht⟩ := hp
      have h1 : (pre ++ [y] ++ t)[pre.length]? = some y := by simp
      rw [ht] at h1
      simpa [hl] using h1.symm
    subst hy
    have e : xs.take (pre ++ [f xs[pre.length]]).length = xs.take pre.length ++ [xs[pre.length]] := by
      rw [List.length_append, List.length_singleton]
      exact List.take_succ_eq_append_getElem hl
    rw [e]
    exact hY (xs.take pre.length) xs[pre.length] W1 (by rw [← List.take_succ_eq_append_getElem hl]; exact List.take_prefix _ _) hs hj
  · rintro e W' ⟨hv, (hj | ⟨pre, hp, hj⟩)⟩
    · exact ⟨hv, .inl (by simpa using hj)⟩
    · exact ⟨hv, .inr ⟨_, List.take_prefix _ _, hj⟩⟩
end

theorem below_others {w W : World} (h : Below w.heap.size w W) : KeepsOthers w W := ⟨h.size, fun k o hk _ => (h.block k (Array.getElem?_eq_some_iff.1 hk).1).trans hk⟩
theorem OwnQ.cellsQ {β : Type} (B r : Nat) (v : β → Array Value) (t : TypeId) (fr : Nat × Nat) (ht : t ≠ 68) : OwnQ B (fun (s : β) W => W.heap[r]? = some (.cells (v s) t fr)) := fun s X Y hs hr => hr.cells hs ht

mutual
def partsT : T → List T
  | .mk k l v ks => .mk k l v ks :: partsTL ks
def partsTL : List T → List T
  | [] => []
  | t :: ts => partsT t ++ partsTL ts
end
theorem partsT_eq (t : T) : partsT t = t :: partsTL t.kids := by cases t; simp [partsT, T.kids]
theorem partsTL_nil : partsTL [] = [] := by simp [partsTL]
theorem partsTL_cons (t : T) (ts : List T) : partsTL (t :: ts) = partsT t ++ partsTL ts := by simp [partsTL]
theorem zip_self (t : T) : zipT t t = (partsT t).map fun p => (p, p) := by
  induction t using T.ind' with
  | h t ih =>
    rw [zipT_eq, partsT_eq, List.map_cons]
    congr 1
    generalize t.kids = ks at ih
    induction ks with
    | nil => rw [zipTL_nil, partsTL_nil]; rfl
    | cons k ks ihk => rw [zipTL_cons, partsTL_cons, List.map_append, ih k (by simp), ihk fun y hy => ih y (by simp [hy])]
theorem partsT_x (t : T) : (partsT t).map T.x = t.x.parts := by
  induction t using T.ind' with
  | h t ih =>
    rw [partsT_eq, X.parts_eq, List.map_cons, T.x_kids]
    congr 1
    generalize t.kids = ks at ih
    induction ks with
    | nil => simp [partsTL, partsL]
    | cons k ks ihk => rw [partsTL_cons, List.map_append, List.map_cons, partsL_cons, ih k (by simp), ihk fun y hy => ih y (by simp [hy])]
theorem partsT_len (t : T) : (partsT t).length = t.x.sz := by rw [← List.length_map (f := T.x), partsT_x]; rfl

def encT (z : T × T) : Array Value := #[z.1.v]

set_option maxRecDepth 100000 in
set_option maxHeartbeats 4000000 in
theorem parts_seq0 {w0 : World} {N : Nat} (n : Nat) (hn : 4 ≤ n) {a : T} {Ba : Nat} (hA : BoxT w0 Ba a) (ha : TR N w0 a.kv a.kids) (hN : N ≤ w0.heap.size) (hsz : (zipT a a).length ≤ 100000) :
    SeqX Fence.wide n Try.prog 48 #[.pointer (some ⟨Ba, 0, none⟩)] encT (KpX N) (zipT a a) w0 := by
  intro l J Jx W hW hJ hJx hY h0
  obtain ⟨A1, c1, hka, -⟩ := ha.form
  obtain ⟨a0, a1, a2⟩ := (hA.bel hW).cells hka
  have hl := Nat.lt_of_lt_of_le hA.lt hW.size
  have HY := Lib.hid hY
  have HJ := Lib.hid hJ
  have HJX := Lib.hid hJx
  have HJ0 := Lib.hid h0
  have HA := Lib.hid (And.intro (ha.bel (hW.mono hN)) (And.intro (Nat.le_trans hN hW.size) hka))
  clear hY hJ hJx h0 hA ha hW hN hka
  refine callsIn_of_wp_marks Try.func48 rfl trivial ?_ rfl
  simp only [Try.ntmps48, List.size_toArray, List.length_cons, List.length_nil, Nat.reduceAdd, Nat.reduceSub, Array.replicate_succ, Array.replicate_zero, List.push_toArray, List.append_toArray, List.nil_append, List.cons_append]
  refine wpIn_wide.2 ?_
  go_wp2_with (go_at_call 39; refine (pairs_any (a := a) (b := a) HA.out.2.2 HA.out.2.2 _).mono ?_; rintro e w1 ⟨rfl, hx1, hx2, hbw⟩)
  have hb1 : Below W.heap.size W w1 := ((Below.refl _ W).alloc (Nat.le_refl _) _).trans (hbw.mono (by simp))
  have hyb : Boxed w1 W.heap.size 32 (.func (.yield l) #[] #[]) := (hbw.block _ (by simp)).trans (Boxed.new W _ _)
  have hseq := pairs_seq (n - 1) (by omega) hx1 hx2 (HA.out.1.bel (hb1.mono HA.out.2.1)) (HA.out.1.bel (hb1.mono HA.out.2.1)) (Nat.le_trans HA.out.2.1 hb1.size) hsz
  have hj1 : J [] w1 := HJ.out [] W w1 HJ0.out (Rel.of_below hb1)
  try simp only [World.size_alloc] at hseq
  try simp only [World.size_alloc]
  have HSEQ := Lib.hid hseq
  have HYB := Lib.hid hyb
  have HJ1 := Lib.hid hj1
  have hz1 : W.heap.size ≤ w1.heap.size := hb1.size
  have hNw : N ≤ w1.heap.size := Nat.le_trans HA.out.2.1 hz1
  have hkv : Hid (∀ z ∈ zipT a a, ∃ A c, z.1.kv = .slice A z.1.kids.length c) := Lib.hid fun z hz => by
    obtain ⟨A, c, h, _⟩ := (zip_ok a a HA.out.1 HA.out.1 z hz).1.form
    exact ⟨A, c, h⟩
  clear hbw hb1 hyb hseq hj1 hx1 hx2 a0 a1 a2
  refine wpIn_wide.1 (?_ : Code.wpIn Fence.wide n Try.prog _ _ _ _)
  refine wpIn_rangeFunc_X rfl (by omega) (gf := 53) (lb := #[.pointer (some ⟨W.heap.size + 1, 0, none⟩), .pointer (some ⟨W.heap.size + 1 + 1, 0, none⟩)]) rfl trivial (enters_of Try.func53 (by kernel_rfl) rfl)
    HSEQ.out KpX.trans (fun W' l' o o' hlw hl' ho _ => KpX.putObj W' l' o o' (by omega) hl' ho) (Below.refl _ _) (fun _ => rfl)
    (fun pre W' => J pre W' ∧ Boxed W' W.heap.size 32 (.func (.yield l) #[] #[]) ∧ W.heap.size ≤ W'.heap.size) (fun c pre W' => c = .ret ∧ Jx pre W') ?hI ?hX ⟨HJ1.out, HYB.out, hz1⟩
    (fun z a' W' => ∃ A, a' = { tmps := #[.func (.yield l) #[] #[], .pointer (some ⟨Ba, 0, none⟩), .pointer (some ⟨W.heap.size, 0, none⟩), .pointer (some ⟨A, 0, none⟩), .agg #[.int .i64 a.kind, .string a.lab, .slice A1 a.kids.length c1], .agg #[.int .i64 a.kind, .string a.lab, .slice A1 a.kids.length c1], .func (.func 53) #[] #[.pointer (some ⟨W.heap.size + 1, 0, none⟩), .pointer (some ⟨W.heap.size + 1 + 1, 0, none⟩)], z.1.v, z.2.v, undef, undef, undef, undef], defers := [] } ∧ BoxT W' A z.1) ?hA ?assign ?body ?done ?stop
  case hI =>
    rintro s X Y ⟨hj, hy, hz⟩ hr
    exact ⟨HJ.out s X Y hj (hr.mono hz1), hr.cells hy (by decide), Nat.le_trans hz hr.size⟩
  case hX =>
    rintro c s X Y ⟨rfl, hj⟩ hr
    exact ⟨rfl, HJX.out s X Y hj (hr.mono hz1)⟩
  case hA =>
    rintro z a' _ X Y ⟨A, rfl, hc⟩ hr
    exact ⟨A, rfl, hr.cells hc (by decide)⟩
  case assign =>
    intro l1 pre z W' K hI hpx hK
    obtain ⟨A, c, hk⟩ := hkv.out z (hpx.subset (by simp))
    have HK := Lib.hid hK
    have HI' := Lib.hid hI
    have HKV := Lib.hid hk
    unfold encZ T.v
    rw [hk]
    clear hK hI hk
    gi_wp2
    have hbw : Below W'.heap.size W' (W'.alloc (.cells #[.int .i64 z.1.kind, .string z.1.lab, .slice A z.1.kids.length c] 25)) := (Below.refl _ W').alloc (Nat.le_refl _) _
    obtain ⟨hj, hy, hz⟩ := HI'.out
    refine HK.out _ _ ((below_others hbw).from _) (KpX.of_below hbw (by have := HA.out.2.1; omega)) ⟨HJ.out pre W' _ hj (Rel.of_below hbw), hy.alloc _, Nat.le_trans hz hbw.size⟩ ⟨W'.heap.size, ?_, ?_⟩
    · simp only [T.v, HKV.out]
    · unfold BoxT
      rw [HKV.out]
      exact World.alloc_heap_new W' _
  case body =>
    rintro l1 pre z a' W' hwl hloop hpx ⟨hj, hy, hz⟩ ⟨A, rfl, hc⟩
    obtain ⟨A7, c7, hk⟩ := hkv.out z (hpx.subset (by simp))
    obtain ⟨c0, c1', c2'⟩ := hc.cells hk
    have cy := hy.cell
    obtain ⟨fn, tmps, assign, body, hy', hR⟩ := yield_round (l1 := l1) (m' := n - 1 - 1 - 1) (HY.out pre z W' hpx hz hj)
    simp only [encT, T.v] at hy'
    rw [hk] at hy'
    have HYY := Lib.hid (And.intro hy hz)
    clear hk hc hy hz hj
    gi_wp2
    refine ⟨fun h => (by cases h), ?_⟩
    refine hR.mono ?_
    rintro e W4 ⟨hkf, (⟨rfl, hJ4, hk4⟩ | ⟨rfl, hJx4⟩)⟩
    · have R4 := Lib.hid (show KeepsFrom w1.heap.size W' W4 ∧ KpX N W' W4 ∧ J (pre ++ [z]) W4 ∧ Boxed W4 W.heap.size 32 (.func (.yield l) #[] #[]) ∧ W.heap.size ≤ W4.heap.size from ⟨kf_mono hkf hz1, hk4, hJ4, hk4.cells _ _ _ _ HYY.out.1 rfl, Nat.le_trans HYY.out.2 hkf.size⟩)
      clear hkf hJ4 hk4
      gi_wp2
      exact R4.out
    · have R4 := Lib.hid (show KeepsFrom w1.heap.size W' W4 ∧ Code.ret = Code.ret ∧ Jx (pre ++ [z]) W4 from ⟨kf_mono hkf hz1, rfl, hJx4⟩)
      clear hkf hJx4
      gi_wp2
      exact ⟨R4.out.1, rfl, R4.out.2.2⟩
  case done =>
    rintro D W' hD ⟨hj, hy, hz⟩ hK
    have R := Lib.hid (HJ.out.putObj (.deferred none) hj (Nat.le_trans hz1 hD) hK rfl)
    clear hj hy
    go_wp2
    refine ⟨by simp, .inl ⟨_, _, rfl, run_takeDeferred hK, ?_⟩⟩
    exact ⟨_, results_none rfl _ _ _, ⟨_, rfl⟩, .inl R.out⟩
  case stop =>
    rintro D c pre W' hD hpre ⟨rfl, hj⟩ hK
    have R := Lib.hid (HJX.out.putObj (.deferred none) hj (Nat.le_trans hz1 hD) hK rfl)
    clear hj
    gi_wp2
    refine ⟨by simp, .inl ⟨_, _, rfl, run_takeDeferred hK, ?_⟩⟩
    exact ⟨_, results_none rfl _ _ _, ⟨_, rfl⟩, .inr ⟨pre, hpre, R.out⟩⟩

def encP (p : T) : Array Value := #[p.v]
theorem parts_seq {w0 : World} {N : Nat} (n : Nat) (hn : 4 ≤ n) {a : T} {Ba : Nat} (hA : BoxT w0 Ba a) (ha : TR N w0 a.kv a.kids) (hN : N ≤ w0.heap.size) (hsz : a.x.sz ≤ 100000) :
    SeqX Fence.wide n Try.prog 48 #[.pointer (some ⟨Ba, 0, none⟩)] encP (KpX N) (partsT a) w0 := by
  have h := parts_seq0 n hn hA ha hN (by rw [zip_self, List.length_map, partsT_len]; exact hsz)
  rw [zip_self] at h
  exact SeqX.map (f := fun p : T => (p, p)) (encs := encT) h
theorem parts_ok {N : Nat} {w : World} {a : T} (ha : TR N w a.kv a.kids) : ∀ p ∈ partsT a, TR N w p.kv p.kids := by
  intro p hp
  have := zip_ok a a ha ha (p, p) (by rw [zip_self]; exact List.mem_map.2 ⟨p, hp, rfl⟩)
  exact this.1
end Go.Proofs.Ytnohnkhhkeikoaa
