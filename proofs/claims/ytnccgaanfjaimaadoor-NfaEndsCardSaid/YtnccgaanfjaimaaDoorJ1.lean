/- Texts H, I, J, K, NG, NH, L, one behind the other. -/
import Derived.Test.YtnccgaanfjaimaaDoorJ0
import Derived.Deep.LoopGhost
import Derived.Deep.Cut
import Derived.BigQuiet
import Derived.Laws.RangeString
import Derived.Laws.RangeAny
set_option linter.unusedSimpArgs false
set_option linter.unusedVariables false
namespace Go.Proofs.YtnccgaanfjaimaaDoor
open Go.ChangeShapes Go.WideShapes Go.ChangeAt Go.RowKit
set_option linter.unusedVariables false
set_option linter.unusedSimpArgs false

/-- types of cells that rounds keep -/
def still (t : TypeId) : Bool := t == 25 || t == 122 || t == 23 || t == 61 || t == 36
/-- blocks below N, and such cells, lie as they lay -/
structure KpX (N : Nat) (A B : World) : Prop where
 size : A.heap.size ≤ B.heap.size
 low : ∀ k, k < N → B.heap[k]? = A.heap[k]?
 cells : ∀ (k : Nat) (v : Array Value) (t : TypeId) (fr : Nat × Nat), A.heap[k]? = some (Obj.cells v t fr) → still t = true → B.heap[k]? = some (Obj.cells v t fr)
theorem KpX.trans {N : Nat} {A B C : World} (h : KpX N A B) (k : KpX N B C) : KpX N A C := ⟨Nat.le_trans h.size k.size, fun i hi => (k.low i hi).trans (h.low i hi), fun i v t fr hi ht => k.cells i v t fr (h.cells i v t fr hi ht) ht⟩
theorem KpX.refl (N : Nat) (A : World) : KpX N A A := ⟨Nat.le_refl _, fun _ _ => rfl, fun _ _ _ _ h _ => h⟩
theorem KpX.putObj {N : Nat} (W : World) (l : Nat) (o o' : Obj) (hN : N ≤ l) (hl : W.heap[l]? = some o) (ho : o.isCells = false) : KpX N W (W.putObj l o') := by
 refine ⟨by simp, fun k hk => World.putObj_heap_other (by omega), fun k v t fr hk ht => ?_⟩
 by_cases e : k = l
 ·subst e
  rw [hk] at hl
  cases hl
  simp [Obj.isCells] at ho
 ·exact (World.putObj_heap_other e).trans hk
theorem KpX.of_below {N : Nat} {A B : World} (h : Below A.heap.size A B) (hN : N ≤ A.heap.size) : KpX N A B := ⟨h.size, fun k hk => h.block k (by omega), fun k v t fr hk ht => (h.block k (Array.getElem?_eq_some_iff.1 hk).1).trans hk⟩
theorem KpX.mono {N N' : Nat} {A B : World} (h : KpX N A B) (hN : N' ≤ N) : KpX N' A B := ⟨h.size, fun k hk => h.low k (by omega), h.cells⟩
theorem KpX.row {N : Nat} {A B : World} {base e sz n : Nat} {v : Value} {xs : List Value} (h : A.ownsRow base e sz v n xs) (hk : KpX N A B) (he : still e = true) : B.ownsRow base e sz v n xs := by
 refine ⟨h.1, ?_⟩
 rcases h.2 with hn | ⟨g, cap, cur, e1, hbg, hg, rest⟩
 ·exact .inl hn
 ·exact .inr ⟨g, cap, cur, e1, hbg, hk.cells g _ _ _ hg he, rest⟩
theorem TR.kp {N : Nat} {A B : World} {v : Value} {l : List T} (h : TR N A v l) (hk : KpX N A B) : TR N B v l := h.keep hk.low
theorem TR.nil_any {N N' : Nat} {w w' : World} {v : Value} (h : TR N w v []) : TR N' w' v [] := by
 obtain ⟨A, c, rfl, _⟩ := h.form
 exact .mk A c [] ⟨0, 0, none⟩ (Nat.zero_le _) (fun h => absurd h (by simp)) (fun i h => absurd h (by simp)) (fun i h => absurd h (by simp)) (fun i h => absurd h (by simp)) (fun i h => absurd h (by simp))

/-- what is still to come of rows that stand behind one another, the last one first -/
def outS (st : List Rw) : List (T × T) := st.reverse.flatMap fun r => zipTL r.a r.b
theorem outS_snoc (st : List Rw) (r : Rw) : outS (st ++ [r]) = zipTL r.a r.b ++ outS st := by simp [outS]
theorem outS_fulls (st : List Rw) (r1 r2 : Rw) : outS (st ++ fulls [r1, r2]) = zipTL r2.a r2.b ++ (zipTL r1.a r1.b ++ outS st) := by
 have hz : ∀ r : Rw, ¬ r.full → zipTL r.a r.b = [] := by
  intro r h
  unfold Rw.full at h
  cases ha : r.a with
  | nil => exact zipTL_nil _
  | cons x xs =>
   cases hb : r.b with
   | nil => exact zipTL_nil' _
   | cons y ys => rw [ha, hb] at h; exact absurd ⟨by simp, by simp⟩ h
 by_cases h1 : r1.full <;> by_cases h2 : r2.full
 ·rw [show fulls [r1, r2] = [r1] ++ [r2] by simp [fulls, h1, h2], ← List.append_assoc, outS_snoc, outS_snoc]
 ·rw [show fulls [r1, r2] = [r1] by simp [fulls, h1, h2], outS_snoc, hz r2 h2]; rfl
 ·rw [show fulls [r1, r2] = [r2] by simp [fulls, h1, h2], outS_snoc, hz r1 h1]; rfl
 ·rw [show fulls [r1, r2] = [] by simp [fulls, h1, h2], List.append_nil, hz r1 h1, hz r2 h2]; rfl
theorem zipTL_pos {ts us : List T} (h1 : 0 < ts.length) (h2 : 0 < us.length) : 0 < (zipTL ts us).length := by
 cases ts with
 | nil => simp at h1
 | cons t ts =>
  cases us with
  | nil => simp at h2
  | cons u us => rw [zipTL_cons, zipT_eq]; simp
theorem flat_len : ∀ (l : List Rw), (∀ r ∈ l, r.full) → l.length ≤ (l.flatMap fun r => zipTL r.a r.b).length
 | [], _ => by simp
 | r :: l, h => by
  have h1 := flat_len l fun x hx => h x (by simp [hx])
  have h2 := zipTL_pos (h r (by simp)).1 (h r (by simp)).2
  rw [List.flatMap_cons, List.length_append, List.length_cons]
  omega
theorem outS_len (st : List Rw) (h : ∀ r ∈ st, r.full) : st.length ≤ (outS st).length := by
 have := flat_len st.reverse fun r hr => h r (by simpa using hr)
 rwa [List.length_reverse] at this

/-- the rows that stand: each lies in memory; or there is but the first one -/
def Rl (N : Nat) (W : World) (st : List Rw) : Prop :=
 (∀ r ∈ st, r.full ∧ r.ok N W) ∨ ∃ r t u, st = [r] ∧ r.a = [t] ∧ r.b = [u] ∧ r.ok W.heap.size W ∧ TR N W t.kv t.kids ∧ TR N W u.kv u.kids
theorem Rl.full {N : Nat} {W : World} {st : List Rw} (h : Rl N W st) : ∀ r ∈ st, r.full := by
 rcases h with h | ⟨r, t, u, rfl, h1, h2, _⟩
 ·exact fun r hr => (h r hr).1
 ·intro x hx
  obtain rfl : x = r := by simpa using hx
  exact ⟨by rw [h1]; simp, by rw [h2]; simp⟩

theorem Rl.top {N : Nat} {W : World} {st : List Rw} (h : Rl N W st) (hN : N ≤ W.heap.size) (h0 : st ≠ []) :
  ∃ pre r t ts u us va' vb', st = pre ++ [r] ∧ r.a = t :: ts ∧ r.b = u :: us ∧ (∀ x ∈ pre, x.full ∧ x.ok N W) ∧ TR N W t.kv t.kids ∧ TR N W u.kv u.kids ∧ TR N W va' ts ∧ TR N W vb' us ∧
   Calls Tryd.prog 93 #[r.v] W (FirstR t u va' vb' W) := by
 rcases h with h | ⟨r, t, u, rfl, h1, h2, h3, h4, h5⟩
 ·obtain ⟨pre, r, rfl⟩ : ∃ pre r, st = pre ++ [r] := ⟨_, _, (List.dropLast_concat_getLast h0).symm⟩
  obtain ⟨hf, hok⟩ := h r (by simp)
  obtain ⟨t, ts, ha⟩ := List.exists_cons_of_length_pos hf.1
  obtain ⟨u, us, hb⟩ := List.exists_cons_of_length_pos hf.2
  have k1 := hok.1
  have k2 := hok.2
  rw [ha] at k1
  rw [hb] at k2
  obtain ⟨va', vb', h1, h2⟩ := first_any k1 k2 hN
  obtain ⟨_, _, _, _, _, _, _, _, q1, _⟩ := k1.first
  obtain ⟨_, _, _, _, _, _, _, _, q2, _⟩ := k2.first
  exact ⟨pre, r, t, ts, u, us, va', vb', rfl, ha, hb, fun x hx => h x (by simp [hx]), q1, q2, (h1 W (Below.refl _ _)).1, (h1 W (Below.refl _ _)).2, h2⟩
 ·have k1 := h3.1
  have k2 := h3.2
  rw [h1] at k1
  rw [h2] at k2
  obtain ⟨va', vb', q1, q2⟩ := first_any k1 k2 (Nat.le_refl _)
  exact ⟨[], r, t, [], u, [], va', vb', rfl, h1, h2, (fun x hx => by cases hx), h4, h5, (q1 W (Below.refl _ _)).1.nil_any, (q1 W (Below.refl _ _)).2.nil_any, q2⟩

/-- the row without its last one -/
theorem own_cut {w : World} {base e sz n cap : Nat} {A : Option Addr} {xs ys : List Value} {m : Nat} (h : w.ownsRow base e sz (.slice A n cap) n (xs ++ ys)) (hx : xs.length = m * sz) (hm : m < n) : w.ownsRow base e sz (.slice A m cap) m xs := by
 refine ⟨hx, ?_⟩
 rcases h.2 with ⟨he, h0⟩ | ⟨g, c2, cur, he, hb, hg, hc, hc2, hs, ht⟩
 ·omega
 ·injection he with e1 e2 e3
  subst e1 e3
  refine .inr ⟨g, cap, cur, rfl, hb, hg, by omega, hc2, hs, ?_⟩
  have : cur.toList.take (m * sz) = (cur.toList.take (n * sz)).take (m * sz) := by rw [List.take_take, Nat.min_eq_left (Nat.mul_le_mul_right _ (by omega))]
  rw [this, ht, ← hx, List.take_left']
  rfl
end Go.Proofs.YtnccgaanfjaimaaDoor

namespace Go.Proofs.YtnccgaanfjaimaaDoor
open Go.ChangeShapes Go.WideShapes Go.ChangeAt Go.RowKit
set_option linter.unusedVariables false
set_option linter.unusedSimpArgs false

attribute [local go_sem] Oper.semAt_some

theorem own_bel {w w' : World} {base e sz n : Nat} {v : Value} {xs : List Value} (h : w.ownsRow base e sz v n xs) (hb : Below w.heap.size w w') : w'.ownsRow base e sz v n xs := by
 refine ⟨h.1, ?_⟩
 rcases h.2 with hn | ⟨g, cap, cur, e1, hbg, hg, rest⟩
 ·exact .inl hn
 ·exact .inr ⟨g, cap, cur, e1, hbg, (hb.block _ (Array.getElem?_eq_some_iff.1 hg).1).trans hg, rest⟩

/-- what the next rows are made of lies as it lay -/
def S5 (W4 : World) (p : Nat) (k6 k7 u v : Value) (w' : World) : Prop := w'.cell? ⟨p, 2, none⟩ = some k6 ∧ w'.cell? ⟨p + 1, 2, none⟩ = some k7 ∧ w'.cell? ⟨p + 1 + 1, 0, none⟩ = some u ∧ w'.cell? ⟨p + 1 + 1, 1, none⟩ = some v
theorem S5.drew {W4 : World} {p : Nat} {k6 k7 u v : Value} {w' : World} (h : S5 W4 p k6 k7 u v w') : S5 W4 p k6 k7 u v w'.drew := ⟨h.1, h.2.1, h.2.2.1, h.2.2.2⟩
theorem S5.alloc {W4 : World} {p : Nat} {k6 k7 u v : Value} {w' : World} (h : S5 W4 p k6 k7 u v w') (o : Obj) : S5 W4 p k6 k7 u v (w'.alloc o) := by
 have hb : Below w'.heap.size w' (w'.alloc o) := (Below.refl _ _).alloc (Nat.le_refl _) o
 obtain ⟨h1, h2, h3, h4⟩ := h
 have hc : ∀ {a : Addr} {x : Value}, w'.cell? a = some x → (w'.alloc o).cell? a = some x := fun {a x} hx => (hb.cell (World.block_lt_of_cell? _ _ hx)).trans hx
 exact ⟨hc h1, hc h2, hc h3, hc h4⟩
theorem S5.fr {W4 : World} {p : Nat} {k6 k7 u v : Value} {w' w6 : World} {g n q : Nat} (h : S5 W4 p k6 k7 u v w') (hg : g < p) (hf : Fr (.slice (some ⟨g, 0, none⟩) n q) w' w6) : S5 W4 p k6 k7 u v w6 := by
 obtain ⟨h1, h2, h3, h4⟩ := h
 have hc : ∀ {a : Addr} {x : Value}, g < a.block → w'.cell? a = some x → w6.cell? a = some x := fun {a x} ha hx => (World.cell?_of_block (hf _ (World.block_lt_of_cell? _ _ hx) (by simp only [Value.ownBlock]; intro e; injection e with e; omega))).trans hx
 exact ⟨hc hg h1, hc (by show g < p + 1; omega) h2, hc (by show g < p + 1 + 1; omega) h3, hc (by show g < p + 1 + 1; omega) h4⟩

def encZ (z : T × T) : Array Value := #[z.1.v, z.2.v]

set_option maxRecDepth 100000 in
set_option maxHeartbeats 8000000 in
theorem pairs_seq {w0 : World} {N : Nat} (n : Nat) (hn : 2 ≤ n) {a b : T} {Ba Bb : Nat} (hA : w0.heap[Ba]? = some (.cells #[.int .i64 a.kind, .string a.lab, a.kv] 25 (0, 0))) (hB : w0.heap[Bb]? = some (.cells #[.int .i64 b.kind, .string b.lab, b.kv] 25 (0, 0)))
  (ha : TR N w0 a.kv a.kids) (hb : TR N w0 b.kv b.kids) (hN : N ≤ w0.heap.size) (hsz : (zipT a b).length ≤ 100000) :
  SeqX Fence.wide n Tryd.prog 92 #[.pointer (some ⟨Ba, 0, none⟩), .pointer (some ⟨Bb, 0, none⟩)] encZ (KpX N) (zipT a b) w0 := by
 intro l J Jx W hW hJ hJx hY h0
 have HY := Lib.hid hY
 have HJ := Lib.hid hJ
 have HA := Lib.hid ((hW.block _ (Array.getElem?_eq_some_iff.1 hA).1).trans hA)
 have HB := Lib.hid ((hW.block _ (Array.getElem?_eq_some_iff.1 hB).1).trans hB)
 have hNW : N ≤ W.heap.size := Nat.le_trans hN hW.size
 have HTa := Lib.hid (ha.bel (hW.mono hN))
 have HTb := Lib.hid (hb.bel (hW.mono hN))
 have HJ0 := Lib.hid h0
 obtain ⟨A1, c1, hka, -⟩ := ha.form
 obtain ⟨A2, c2, hkb, -⟩ := hb.form
 have a0 := cell_of_row _ _ 0 _ 25 (0, 0) HA.out
 have a1 := cell_of_row _ _ 1 _ 25 (0, 0) HA.out
 have a2 := cell_of_row _ _ 2 _ 25 (0, 0) HA.out
 have b0 := cell_of_row _ _ 0 _ 25 (0, 0) HB.out
 have b1 := cell_of_row _ _ 1 _ 25 (0, 0) HB.out
 have b2 := cell_of_row _ _ 2 _ 25 (0, 0) HB.out
 simp only [List.getElem?_toArray, List.getElem?_cons_zero, List.getElem?_cons_succ] at a0 a1 a2 b0 b1 b2
 rw [hka] at a2
 rw [hkb] at b2
 have HK := Lib.hid (And.intro hka hkb)
 have hla : Ba < W.heap.size := (Array.getElem?_eq_some_iff.1 HA.out).1
 have hlb : Bb < W.heap.size := (Array.getElem?_eq_some_iff.1 HB.out).1
 clear hY hJ h0 hJx hA hB ha hb hW hN hka hkb
 refine callsIn_of_wp Tryd.func92 rfl trivial ?_ rfl
 simp only [Tryd.ntmps92, List.size_toArray, List.length_cons, List.length_nil, Nat.reduceAdd, Nat.reduceSub, Array.replicate_succ, Array.replicate_zero, List.push_toArray, List.append_toArray, List.nil_append, List.cons_append]
 refine wpIn_wide.2 ?_
 go_wp2_with fail
 obtain ⟨W1, hW1⟩ : ∃ W1, (((W.alloc (.cells #[.int .i64 a.kind, .string a.lab, .slice A1 a.kids.length c1] 25)).alloc (.cells #[.int .i64 b.kind, .string b.lab, .slice A2 b.kids.length c2] 25)).alloc (.cells #[.slice (some ⟨W.heap.size, 0, none⟩) 1 1, .slice (some ⟨W.heap.size + 1, 0, none⟩) 1 1] 122)) = W1 := ⟨_, rfl⟩
 have hB1 : Below W.heap.size W W1 := by rw [← hW1]; exact (((Below.refl _ W).alloc (Nat.le_refl _) _).alloc (by simp) _).alloc (by simp; try omega) _
 have hz1 : W1.heap.size = W.heap.size + 3 := by rw [← hW1]; simp
 obtain ⟨r0, hr0⟩ : ∃ r0 : Rw, r0 = ⟨.slice (some ⟨W.heap.size, 0, none⟩) 1 1, .slice (some ⟨W.heap.size + 1, 0, none⟩) 1 1, [a], [b]⟩ := ⟨_, rfl⟩
 have hrow0 : W1.ownsRow W.heap.size 122 2 (.slice (some ⟨W.heap.size + 1 + 1, 0, none⟩) [r0].length 1) [r0].length (flatR [r0]) := by
  rw [hr0]
  refine ⟨by simp [flatR], .inr ⟨W.heap.size + 1 + 1, 1, #[.slice (some ⟨W.heap.size, 0, none⟩) 1 1, .slice (some ⟨W.heap.size + 1, 0, none⟩) 1 1], rfl, by omega, ?_, by simp, by unfold maxLen; omega, rfl, rfl⟩⟩
  rw [← hW1]
  have := World.alloc_heap_new ((W.alloc (.cells #[.int .i64 a.kind, .string a.lab, .slice A1 a.kids.length c1] 25)).alloc (.cells #[.int .i64 b.kind, .string b.lab, .slice A2 b.kids.length c2] 25)) (.cells #[.slice (some ⟨W.heap.size, 0, none⟩) 1 1, .slice (some ⟨W.heap.size + 1, 0, none⟩) 1 1] 122)
  simpa [flatR] using this
 have hone : ∀ (t : T) (g : Nat) (A : Option Addr) (c : Nat), t.kv = .slice A t.kids.length c → W1.heap[g]? = some (.cells #[.int .i64 t.kind, .string t.lab, .slice A t.kids.length c] 25 (0, 0)) → TR N W1 t.kv t.kids → TR W1.heap.size W1 (.slice (some ⟨g, 0, none⟩) 1 1) [t] := by
  intro t g A c hkv hg ht
  have hgl := (Array.getElem?_eq_some_iff.1 hg).1
  refine .mk (some ⟨g, 0, none⟩) 1 [t] ⟨g, 0, none⟩ (by simp) (fun _ => ⟨rfl, hgl⟩) (fun i hi => ?_) (fun i hi => ?_) (fun i hi => ?_) (fun i hi => ?_)
  all_goals obtain rfl : i = 0 := by simpa using hi
  ·simpa [Addr.add] using cell_of_row _ _ 0 _ 25 (0, 0) hg
  ·simpa [Addr.add] using cell_of_row _ _ 1 _ 25 (0, 0) hg
  ·simpa [Addr.add, hkv] using cell_of_row _ _ 2 _ 25 (0, 0) hg
  ·have hms : ∀ {N N' : Nat} {w : World} {v : Value} {l : List T}, TR N w v l → N ≤ N' → TR N' w v l := by
    intro N N' w v l h hN
    induction h with
    | mk A c l ad hlc hA h0 h1 h2 hk ih => exact .mk A c l ad hlc (fun h => ⟨(hA h).1, Nat.lt_of_lt_of_le (hA h).2 hN⟩) h0 h1 h2 ih
   exact hms ht (by omega)
 have hrl0 : Rl N W1 [r0] := by
  refine .inr ⟨r0, a, b, rfl, by rw [hr0], by rw [hr0], ?_, HTa.out.bel (hB1.mono hNW), HTb.out.bel (hB1.mono hNW)⟩
  rw [hr0]
  refine ⟨hone a _ A1 c1 HK.out.1 ?_ (HTa.out.bel (hB1.mono hNW)), hone b _ A2 c2 HK.out.2 ?_ (HTb.out.bel (hB1.mono hNW))⟩
  ·show W1.heap[W.heap.size]? = _
   rw [← hW1, Below.heap_alloc _ _ _ (by simp; try omega), Below.heap_alloc _ _ _ (by simp)]
   exact World.alloc_heap_new W _
  ·show W1.heap[W.heap.size + 1]? = _
   rw [← hW1, Below.heap_alloc _ _ _ (by simp)]
   have := World.alloc_heap_new (W.alloc (.cells #[.int .i64 a.kind, .string a.lab, .slice A1 a.kids.length c1] 25)) (.cells #[.int .i64 b.kind, .string b.lab, .slice A2 b.kids.length c2] 25)
   rwa [World.size_alloc] at this
 have hj1 : J [] W1 := HJ.out [] W W1 HJ0.out (Rel.of_below hB1)
 have hout0 : [] ++ outS [r0] = zipT a b := by rw [hr0]; simp [outS, zipTL_cons, zipTL_nil]
 have S0 := Lib.hid (show W1.ownsRow W.heap.size 122 2 (.slice (some ⟨W.heap.size + 1 + 1, 0, none⟩) [r0].length 1) [r0].length (flatR [r0]) ∧ Rl N W1 [r0] ∧ [] ++ outS [r0] = zipT a b ∧ J [] W1 ∧ W.heap.size ≤ W1.heap.size from ⟨hrow0, hrl0, hout0, hj1, hB1.size⟩)
 try rw [hW1]
 clear a0 a1 a2 b0 b1 b2 hrow0 hone hrl0 hj1 hout0 hr0 hB1 hz1 HK HTa HTb HA HB hW1 HJ0
 go_loopg [4] ((outS [r0]).length) (fun k v wr => ∃ (st : List Rw) (done : List (T × T)) (A : Option Addr) (q : Nat), v = .slice A st.length q ∧ wr.ownsRow W.heap.size 122 2 (.slice A st.length q) st.length (flatR st) ∧ Rl N wr st ∧ done ++ outS st = zipT a b ∧ J done wr ∧ W.heap.size ≤ wr.heap.size ∧ k = (outS st).length)
 case atStart => exact ⟨[r0], [], _, _, rfl, S0.out.1, S0.out.2.1, S0.out.2.2.1, S0.out.2.2.2.1, S0.out.2.2.2.2, rfl⟩
 case round =>
  obtain ⟨st, done, A, q, rfl, hrow, hrl, hdone, hj, hwz, rfl⟩ := hrel
  by_cases h0 : st = []
  ·subst h0
   have hd : done = zipT a b := by rw [← hdone]; simp [outS]
   subst hd
   have HJE := Lib.hid hj
   clear hrow hrl hdone hj
   go_wp2_with fail
   go_end0
   exact ⟨⟨_, rfl⟩, .inl HJE.out⟩
  ·obtain ⟨pre, r, t, ts, u, us, va', vb', rfl, hra, hrb, hpre, ht, hu, hva, hvb, hcall⟩ := hrl.top (Nat.le_trans hNW hwz) h0
   obtain ⟨A3, c3, hkt, -⟩ := ht.form
   obtain ⟨A4, c4, hku, -⟩ := hu.form
   obtain ⟨A5, c5, hk5, -⟩ := hva.form
   obtain ⟨A6, c6, hk6, -⟩ := hvb.form
   have hrl2 : 0 < (pre ++ [r]).length := by simp
   have hcut : wr.ownsRow W.heap.size 122 2 (.slice A pre.length q) pre.length (flatR pre) := own_cut (n := (pre ++ [r]).length) (ys := flatR [r]) (by rw [← flatR_app]; exact hrow) (flatR_len pre) (by simp)
   obtain ⟨g, rfl⟩ : ∃ g, A = some ⟨g, 0, none⟩ := by
    rcases hrow.2 with ⟨he, h0⟩ | ⟨g, c2, cur, he, _⟩
    ·simp at h0
    ·injection he with e1 _ _; exact ⟨g, e1⟩
   have q0 : wr.cell? ⟨g, pre.length * 2, none⟩ = some r.va := by
    have := hrow.cells (g := g) rfl (pre.length * 2) r.va (by rw [flatR_app, List.getElem?_append_right (by rw [flatR_len]; exact Nat.le_refl _), flatR_len, Nat.sub_self]; simp [flatR])
    by_cases hk0 : pre.length * 2 = 0
    ·rw [hk0] at this ⊢; simpa [Addr.add] using this
    ·simpa [Addr.add, hk0] using this
   have q1 : wr.cell? ⟨g, pre.length * 2 + 1, none⟩ = some r.vb := by
    have := hrow.cells (g := g) rfl (pre.length * 2 + 1) r.vb (by rw [flatR_app, List.getElem?_append_right (by rw [flatR_len]; omega), flatR_len, Nat.add_sub_cancel_left]; simp [flatR])
    simpa [Addr.add] using this
   have hlast : ((pre ++ [r]).length : Int) - 1 = (pre.length : Int) := by simp
   have hlt1 : (pre.length : Int) < ((pre ++ [r]).length : Int) := by simp; omega
   have hge1 : (0 : Int) < ((pre ++ [r]).length : Int) := by simp; try omega
   have hlen : (pre ++ [r]).length ≤ 100000 := by
    have h1 := outS_len _ hrl.full
    have h2 : (outS (pre ++ [r])).length ≤ (zipT a b).length := by rw [← hdone]; simp
    omega
   have hdn : done ++ (t, u) :: outS (pre ++ fulls [⟨va', vb', ts, us⟩, ⟨t.kv, u.kv, t.kids, u.kids⟩]) = zipT a b := by
    rw [← hdone, outS_fulls, outS_snoc, hra, hrb, zipTL_cons, zipT_eq]
    simp
   have hme : (outS (pre ++ [r])).length = (outS (pre ++ fulls [⟨va', vb', ts, us⟩, ⟨t.kv, u.kv, t.kids, u.kids⟩])).length + 1 := by
    rw [outS_fulls, outS_snoc, hra, hrb, zipTL_cons, zipT_eq]
    simp
   unfold FirstR T.v Rw.v at hcall
   have S1 := Lib.hid (And.intro hcut (And.intro hpre (And.intro hdn (And.intro hme (And.intro hj hwz)))))
   have S2 := Lib.hid (And.intro ht (And.intro hu (And.intro hva hvb)))
   have HC := Lib.hid hcall
   have HK2 := Lib.hid (And.intro hkt (And.intro hku (And.intro hk5 hk6)))
   rw [hkt, hku, hk5, hk6] at HC
   have hpn : (pre ++ [r]).length = pre.length + 1 := by simp
   rw [hpn] at hlast hlt1 hge1 hlen ⊢
   generalize r.va = Va at *
   generalize r.vb = Vb at *
   clear hrow hrl hdone hj hwz hra hrb hpre ht hu hva hvb hcall hcut hdn hme hkt hku hk5 hk6 h0 hrl2 hpn
   go_upto_region 4 with (go_at_call 93; refine HC.out.mono ?_; rintro e w1 ⟨rfl, hb1⟩; have HB1 := Lib.hid hb1; clear hb1)
   obtain ⟨W3, hW3⟩ : ∃ W3, ((w1.alloc (.cells #[.int .i64 t.kind, .string t.lab, .slice A3 t.kids.length c3] 25)).alloc (.cells #[.int .i64 u.kind, .string u.lab, .slice A4 u.kids.length c4] 25)).alloc (.cells #[.slice A5 ts.length c5, .slice A6 us.length c6] 122) = W3 := ⟨_, rfl⟩
   have hb3 : Below wr.heap.size wr W3 := by rw [← hW3]; exact (((HB1.out.alloc HB1.out.size _).alloc (by have := HB1.out.size; simp; omega) _).alloc (by have := HB1.out.size; simp; omega) _)
   have x6 : W3.heap[w1.heap.size]? = some (.cells #[.int .i64 t.kind, .string t.lab, .slice A3 t.kids.length c3] 25 (0, 0)) := by
    rw [← hW3, Below.heap_alloc _ _ _ (by simp; try omega), Below.heap_alloc _ _ _ (by simp)]
    exact World.alloc_heap_new w1 _
   have x7 : W3.heap[w1.heap.size + 1]? = some (.cells #[.int .i64 u.kind, .string u.lab, .slice A4 u.kids.length c4] 25 (0, 0)) := by
    rw [← hW3, Below.heap_alloc _ _ _ (by simp)]
    have := World.alloc_heap_new (w1.alloc (.cells #[.int .i64 t.kind, .string t.lab, .slice A3 t.kids.length c3] 25)) (.cells #[.int .i64 u.kind, .string u.lab, .slice A4 u.kids.length c4] 25)
    rwa [World.size_alloc] at this
   have x8 : W3.heap[w1.heap.size + 1 + 1]? = some (.cells #[.slice A5 ts.length c5, .slice A6 us.length c6] 122 (0, 0)) := by
    rw [← hW3]
    have := World.alloc_heap_new ((w1.alloc (.cells #[.int .i64 t.kind, .string t.lab, .slice A3 t.kids.length c3] 25)).alloc (.cells #[.int .i64 u.kind, .string u.lab, .slice A4 u.kids.length c4] 25)) (.cells #[.slice A5 ts.length c5, .slice A6 us.length c6] 122)
    rwa [World.size_alloc, World.size_alloc] at this
   have y0 := cell_of_row _ _ 0 _ 25 (0, 0) x6
   have y1 := cell_of_row _ _ 1 _ 25 (0, 0) x6
   have y2 := cell_of_row _ _ 2 _ 25 (0, 0) x6
   have z0 := cell_of_row _ _ 0 _ 25 (0, 0) x7
   have z1 := cell_of_row _ _ 1 _ 25 (0, 0) x7
   have z2 := cell_of_row _ _ 2 _ 25 (0, 0) x7
   simp only [List.getElem?_toArray, List.getElem?_cons_zero, List.getElem?_cons_succ] at y0 y1 y2 z0 z1 z2
   have hj3 : J done W3 := HJ.out done wr W3 S1.out.2.2.2.2.1 (Rel.of_below hb3)
   have hw3 : W.heap.size ≤ W3.heap.size := Nat.le_trans S1.out.2.2.2.2.2 hb3.size
   have hpfx : done ++ [(t, u)] <+: zipT a b := ⟨_, (List.append_assoc _ _ _).trans S1.out.2.2.1⟩
   have HPF := Lib.hid hpfx
   obtain ⟨fn, tmps, assign, body, hy, hR⟩ := HY.out done (t, u) W3 hpfx hw3 hj3
   simp only [encZ, T.v] at hy
   rw [HK2.out.1, HK2.out.2.1] at hy
   have X3 := Lib.hid (And.intro x6 (And.intro x7 (And.intro x8 (And.intro hb3 hw3))))
   have HR := Lib.hid hR
   clear x6 x7 x8 hb3 hj3 hw3 hpfx hR
   try rw [hW3]
   clear hW3
   refine wpIn_wide.1 (?_ : Code.wpIn Fence.wide n Tryd.prog _ _ _ _)
   gi_wp2
   refine ⟨fun h => (by cases h), ?_⟩
   refine HR.out.mono ?_
   rintro e W4 ⟨hkf, (⟨rfl, hJ4, hk4⟩ | ⟨rfl, hJx4⟩)⟩
   ·have X4 := Lib.hid (And.intro hkf (And.intro hJ4 hk4))
    clear hkf hJ4 hk4
    gi_wp2
    go_upto_region 5 with (fail)
    obtain ⟨x6, x7, x8, hb3, hw3⟩ := X3.out
    obtain ⟨hkf, hJ4, hk4⟩ := X4.out
    have x6' := hk4.cells _ _ _ _ x6 rfl
    have x7' := hk4.cells _ _ _ _ x7 rfl
    have x8' := hk4.cells _ _ _ _ x8 rfl
    have y2' := cell_of_row _ _ 2 _ 25 (0, 0) x6'
    have z2' := cell_of_row _ _ 2 _ 25 (0, 0) x7'
    have u0 := cell_of_row _ _ 0 _ 122 (0, 0) x8'
    have u1 := cell_of_row _ _ 1 _ 122 (0, 0) x8'
    simp only [List.getElem?_toArray, List.getElem?_cons_zero, List.getElem?_cons_succ] at y2' z2' u0 u1
    have S5' := Lib.hid (show S5 W4 w1.heap.size (.slice A3 t.kids.length c3) (.slice A4 u.kids.length c4) (.slice A5 ts.length c5) (.slice A6 us.length c6) W4.drew from S5.drew ⟨y2', z2', u0, u1⟩)
    -- what stands lies as it lay
    obtain ⟨hcut, hpre, hdn, hme, -, hwz⟩ := S1.out
    obtain ⟨ht, hu, hva, hvb⟩ := S2.out
    have hNr : N ≤ wr.heap.size := Nat.le_trans hNW hwz
    have hall : ∀ {v : Value} {l : List T}, TR N wr v l → TR N W4 v l := fun h => (h.bel (hb3.mono hNr)).kp hk4
    have hcut4 : W4.ownsRow W.heap.size 122 2 (.slice (some ⟨g, 0, none⟩) pre.length q) pre.length (flatR pre) := KpX.row (own_bel hcut hb3) hk4 rfl
    have hgl : g < W4.heap.size := by
     rcases hcut4.2 with ⟨he, _⟩ | ⟨g', c2, cur, he, _, hg', _⟩
     ·cases he
     ·injection he with e1 _ _
      injection e1 with e1
      injection e1 with e1 _ _
      subst e1
      exact (Array.getElem?_eq_some_iff.1 hg').1
    have hrl4 : ∀ x ∈ pre ++ fulls [(⟨va', vb', ts, us⟩ : Rw), ⟨t.kv, u.kv, t.kids, u.kids⟩], x.full ∧ x.ok N W4 := by
     intro x hx
     rcases List.mem_append.1 hx with hx | hx
     ·obtain ⟨h1, h2, h3⟩ := hpre x hx
      exact ⟨h1, hall h2, hall h3⟩
     ·obtain ⟨h1, h2⟩ := List.mem_filter.1 hx
      refine ⟨by simpa using h2, ?_⟩
      simp only [List.mem_cons, List.not_mem_nil, or_false] at h1
      rcases h1 with rfl | rfl
      ·exact ⟨hall hva, hall hvb⟩
      ·exact ⟨hall ht, hall hu⟩
    have hform : ∀ r ∈ [(⟨va', vb', ts, us⟩ : Rw), ⟨t.kv, u.kv, t.kids, u.kids⟩], r.formed := by
     intro x hx
     simp only [List.mem_cons, List.not_mem_nil, or_false] at hx
     rcases hx with rfl | rfl
     ·exact ⟨_, _, _, _, HK2.out.2.2.1, HK2.out.2.2.2⟩
     ·exact ⟨_, _, _, _, HK2.out.1, HK2.out.2.1⟩
    have hbA : Below W4.heap.size W4 (W4.alloc (.cells #[.slice A5 ts.length c5, .slice A6 us.length c6, .slice A3 t.kids.length c3, .slice A4 u.kids.length c4] 122)).drew := ((Below.refl _ W4).alloc (Nat.le_refl _) _).drew
    have hwith : Calls Tryd.prog 94 #[.slice (some ⟨g, 0, none⟩) pre.length q, .slice (some ⟨W4.heap.size, 0, none⟩) 2 2] (W4.alloc (.cells #[.slice A5 ts.length c5, .slice A6 us.length c6, .slice A3 t.kids.length c3, .slice A4 u.kids.length c4] 122)).drew (WithR W.heap.size (.slice (some ⟨g, 0, none⟩) pre.length q) (pre ++ fulls [⟨va', vb', ts, us⟩, ⟨t.kv, u.kv, t.kids, u.kids⟩]) (W4.alloc (.cells #[.slice A5 ts.length c5, .slice A6 us.length c6, .slice A3 t.kids.length c3, .slice A4 u.kids.length c4] 122)).drew) := by
     refine with_any (own_bel hcut4 hbA) ?_ ?_ ?_ hform ?_
     ·have := hkf.size; have := hbA.size; omega
     ·rw [HK2.out.1, HK2.out.2.1, HK2.out.2.2.1, HK2.out.2.2.2]; exact World.alloc_heap_new W4 _
     ·simp only [Value.ownBlock]; intro e; injection e with e; omega
     ·omega
    have SA := Lib.hid (show S5 W4 w1.heap.size (.slice A3 t.kids.length c3) (.slice A4 u.kids.length c4) (.slice A5 ts.length c5) (.slice A6 us.length c6) (W4.alloc (.cells #[.slice A5 ts.length c5, .slice A6 us.length c6, .slice A3 t.kids.length c3, .slice A4 u.kids.length c4] 122)).drew from S5.drew (S5.alloc ⟨y2', z2', u0, u1⟩ _))
    have hRA : Rel W.heap.size W4 (W4.alloc (.cells #[.slice A5 ts.length c5, .slice A6 us.length c6, .slice A3 t.kids.length c3, .slice A4 u.kids.length c4] 122)).drew := Rel.of_below hbA
    have HRA := Lib.hid hRA
    have hgp : g < w1.heap.size := by
     have h1 := HB1.out.size
     rcases hcut.2 with ⟨he, _⟩ | ⟨g', c2, cur, he, _, hg', _⟩
     ·cases he
     ·injection he with e1 _ _
      injection e1 with e1
      injection e1 with e1 _ _
      subst e1
      have := (Array.getElem?_eq_some_iff.1 hg').1
      omega
    have HGP := Lib.hid hgp
    clear hgp
    have HWT := Lib.hid hwith
    have HRL := Lib.hid hrl4
    have X5 := Lib.hid (And.intro hJ4 (And.intro hkf (And.intro hdn hme)))
    have hlq : (pre.length : Int) ≤ (q : Int) := by
     rcases hcut4.2 with ⟨he, _⟩ | ⟨g', c2, cur, he, _, _, hc, _⟩
     ·cases he
     ·injection he with _ _ e3; omega
    clear x6 x7 x8 hb3 hw3 hkf hJ4 hk4 x6' x7' x8' hcut hpre hdn hme hwz ht hu hva hvb hNr hall hcut4 hgl hrl4 hform hwith hbA hRA y0 y1 y2 z0 z1 z2 y2' z2' u0 u1 hy
    generalize w1.heap.size = p at *
    generalize hTs : ts.length = n5 at *
    generalize hUs : us.length = n6 at *
    generalize hTk : t.kids.length = n3 at *
    generalize hUk : u.kids.length = n4 at *
    go_region_held3 (fun w' => w'.cell? ⟨p, 2, none⟩ = some (.slice A3 n3 c3) ∧ w'.cell? ⟨p + 1, 2, none⟩ = some (.slice A4 n4 c4) ∧ w'.cell? ⟨p + 1 + 1, 0, none⟩ = some (.slice A5 n5 c5) ∧ w'.cell? ⟨p + 1 + 1, 1, none⟩ = some (.slice A6 n6 c6)) (first | exact S5'.out | exact SA.out | exact S6.out)
     (first | (go_at_call 94; refine HWT.out.mono ?_; rintro e w6 ⟨v6, rfl, hrow6, hrel6, hfr6⟩; have X6 := Lib.hid (And.intro hrow6 hrel6); have S6 := Lib.hid (S5.fr SA.out HGP.out hfr6); clear hrow6 hrel6 hfr6))
    obtain ⟨hrow6, hrel6⟩ := X6.out
    obtain ⟨hJ4, hkf, hdn, hme⟩ := X5.out
    have hrl6 := HRA.out.trans hrel6
    have hj6 := HJ.out _ W4 w6 hJ4 hrl6
    have hsz6 : W.heap.size ≤ w6.heap.size := by have h1 := hrl6.size; have h2 := hkf.size; have h3 := X3.out.2.2.2.2; omega
    have hok6 : Rl N w6 (pre ++ fulls [⟨va', vb', ts, us⟩, ⟨t.kv, u.kv, t.kids, u.kids⟩]) := by
     refine .inl fun x hx => ?_
     obtain ⟨h1, h2, h3⟩ := HRL.out x hx
     have hlow : ∀ k, k < N → w6.heap[k]? = W4.heap[k]? := fun k hk => hrl6.block k (by have h2 := hkf.size; have h3 := X3.out.2.2.2.2; omega) (.inl (by omega))
     exact ⟨h1, h2.keep hlow, h3.keep hlow⟩
    obtain ⟨A7, q7, rfl⟩ := row_form hrow6
    have R := Lib.hid (And.intro hrow6 (And.intro hok6 (And.intro hdn (And.intro hj6 (And.intro hsz6 hme)))))
    clear hrow6 hrel6 hJ4 hkf hdn hme hrl6 hj6 hsz6 hok6
    go_wp2_with fail
    go_roundg ((outS (pre ++ fulls [⟨va', vb', ts, us⟩, ⟨t.kv, u.kv, t.kids, u.kids⟩])).length)
    case measure => have := R.out.2.2.2.2.2; omega
    case rel => exact ⟨_, _, _, _, rfl, R.out.1, R.out.2.1, by rw [List.append_assoc]; exact R.out.2.2.1, R.out.2.2.2.1, R.out.2.2.2.2.1, rfl⟩
   ·have X4 := Lib.hid hJx4
    clear hkf hJx4
    gi_wp2
    go_wp2_with fail
    refine bodyPost_ret (results_none rfl _ _ _) rfl ?_
    exact ⟨⟨_, rfl⟩, .inr ⟨_, HPF.out, X4.out⟩⟩
end Go.Proofs.YtnccgaanfjaimaaDoor

namespace Go.Proofs.YtnccgaanfjaimaaDoor
open Go.ChangeShapes Go.WideShapes Go.ChangeAt Go.RowKit
set_option linter.unusedVariables false
set_option linter.unusedSimpArgs false

attribute [local go_sem] Oper.semAt_some

/-- the box of a tree -/
def BoxT (W : World) (B : Nat) (t : T) : Prop := W.heap[B]? = some (.cells #[.int .i64 t.kind, .string t.lab, t.kv] 25 (0, 0))
theorem BoxT.lt {W : World} {B : Nat} {t : T} (h : BoxT W B t) : B < W.heap.size := (Array.getElem?_eq_some_iff.1 h).1
theorem BoxT.bel {W W' : World} {B : Nat} {t : T} (h : BoxT W B t) (hb : Below W.heap.size W W') : BoxT W' B t := (hb.block _ h.lt).trans h
theorem BoxT.cells {W : World} {B : Nat} {t : T} {A : Option Addr} {n c : Nat} (h : BoxT W B t) (hk : t.kv = .slice A n c) : W.cell? ⟨B, 0, none⟩ = some (.int .i64 t.kind) ∧ W.cell? ⟨B, 1, none⟩ = some (.string t.lab) ∧ W.cell? ⟨B, 2, none⟩ = some (.slice A n c) := by
 unfold BoxT at h
 rw [hk] at h
 exact ⟨cell_of_row _ _ 0 _ 25 (0, 0) h, cell_of_row _ _ 1 _ 25 (0, 0) h, cell_of_row _ _ 2 _ 25 (0, 0) h⟩

theorem pairs_any {a b : T} {A1 A2 : Option Addr} {n1 c1 n2 c2 : Nat} (h1 : a.kv = .slice A1 n1 c1) (h2 : b.kv = .slice A2 n2 c2) (w : World) :
  Calls Tryd.prog 76 #[.agg #[.int .i64 a.kind, .string a.lab, .slice A1 n1 c1], .agg #[.int .i64 b.kind, .string b.lab, .slice A2 n2 c2]] w fun e w' => e = .returned (.func (.func 92) #[] #[.pointer (some ⟨w.heap.size, 0, none⟩), .pointer (some ⟨w.heap.size + 1, 0, none⟩)]) ∧ BoxT w' w.heap.size a ∧ BoxT w' (w.heap.size + 1) b ∧ Below w.heap.size w w' := by
 have HX : ∀ W, (w.alloc (.cells #[.int .i64 a.kind, .string a.lab, .slice A1 n1 c1] 25)).alloc (.cells #[.int .i64 b.kind, .string b.lab, .slice A2 n2 c2] 25) = W → BoxT W w.heap.size a ∧ BoxT W (w.heap.size + 1) b ∧ Below w.heap.size w W := by
  rintro W rfl
  refine ⟨?_, ?_, ((Below.refl _ w).alloc (Nat.le_refl _) _).alloc (by simp) _⟩
  ·unfold BoxT
   rw [h1, Below.heap_alloc _ _ _ (by simp)]
   exact World.alloc_heap_new w _
  ·unfold BoxT
   rw [h2]
   have := World.alloc_heap_new (w.alloc (.cells #[.int .i64 a.kind, .string a.lab, .slice A1 n1 c1] 25)) (.cells #[.int .i64 b.kind, .string b.lab, .slice A2 n2 c2] 25)
   rwa [World.size_alloc] at this
 have H := Lib.hid HX
 clear HX h1 h2
 go_enter Tryd.func76, Tryd.ntmps76
 go_wp2_with fail
 go_ret
 exact ⟨rfl, H.out _ rfl⟩

theorem partsOf_any {a : T} {A1 : Option Addr} {n1 c1 : Nat} (h1 : a.kv = .slice A1 n1 c1) (w : World) :
  Calls Tryd.prog 60 #[.agg #[.int .i64 a.kind, .string a.lab, .slice A1 n1 c1]] w fun e w' => e = .returned (.func (.func 75) #[] #[.pointer (some ⟨w.heap.size, 0, none⟩)]) ∧ BoxT w' w.heap.size a ∧ Below w.heap.size w w' := by
 have HX : ∀ W, (w.alloc (.cells #[.int .i64 a.kind, .string a.lab, .slice A1 n1 c1] 25)) = W → BoxT W w.heap.size a ∧ Below w.heap.size w W := by
  rintro W rfl
  refine ⟨?_, (Below.refl _ w).alloc (Nat.le_refl _) _⟩
  unfold BoxT
  rw [h1]
  exact World.alloc_heap_new w _
 have H := Lib.hid HX
 clear HX h1
 go_enter Tryd.func60, Tryd.ntmps60
 go_wp2_with fail
 go_ret
 exact ⟨rfl, H.out _ rfl⟩

section
variable {F : Fence} {n : Nat} {P : Program} {gf : Nat} {lb : Array Value} {Kp : World → World → Prop} {w0 : World}
theorem yield_round {m m' l l1 : Nat} {args : Array Value} {W : World} {R : Ending → World → Prop} (h : YieldAt Fence.wide m P l args W R) : YieldAt (Fence.wide.inRound l1) m' P l args W R := by
 obtain ⟨fn, tmps, assign, body, hy, hR⟩ := h
 exact ⟨fn, tmps, assign, body, hy, ⟨hR.1, fun c cs _ => hR.2 c cs (fun d h => by cases h)⟩⟩
theorem SeqX.map {α β : Type} {f : α → β} {encs : β → Array Value} {xs : List α} (h : SeqX F n P gf lb encs Kp (xs.map f) w0) : SeqX F n P gf lb (fun x => encs (f x)) Kp xs w0 := by
 intro l J Jx W hW hJ hJx hY h0
 refine (h l (fun ys W => J (xs.take ys.length) W) (fun ys W => Jx (xs.take ys.length) W) W hW (fun s => hJ _) (fun s => hJx _) ?_ (by simpa using h0)).mono ?_
 ·intro pre y W1 hp hs hj
  have hl : pre.length < xs.length := by have := hp.length_le; simp at this; omega
  have hy : y = f xs[pre.length] := by
   obtain ⟨t, ht⟩ := hp
   have h1 : (pre ++ [y] ++ t)[pre.length]? = some y := by simp
   rw [ht] at h1
   simpa [hl] using h1.symm
  subst hy
  have e : xs.take (pre ++ [f xs[pre.length]]).length = xs.take pre.length ++ [xs[pre.length]] := by
   rw [List.length_append, List.length_singleton]
   exact List.take_succ_eq_append_getElem hl
  rw [e]
  exact hY (xs.take pre.length) xs[pre.length] W1 (by rw [← List.take_succ_eq_append_getElem hl]; exact List.take_prefix _ _) hs hj
 ·rintro e W' ⟨hv, (hj | ⟨pre, hp, hj⟩)⟩
  ·exact ⟨hv, .inl (by simpa using hj)⟩
  ·exact ⟨hv, .inr ⟨_, List.take_prefix _ _, hj⟩⟩
end

theorem below_others {w W : World} (h : Below w.heap.size w W) : KeepsOthers w W := ⟨h.size, fun k o hk _ => (h.block k (Array.getElem?_eq_some_iff.1 hk).1).trans hk⟩
theorem OwnQ.cellsQ {β : Type} (B r : Nat) (v : β → Array Value) (t : TypeId) (fr : Nat × Nat) (ht : t ≠ 122) : OwnQ B (fun (s : β) W => W.heap[r]? = some (.cells (v s) t fr)) := fun s X Y hs hr => hr.cells hs ht

mutual
def partsT : T → List T
 | .mk k l v ks => .mk k l v ks :: partsTL ks
def partsTL : List T → List T
 | [] => []
 | t :: ts => partsT t ++ partsTL ts
end
theorem partsT_eq (t : T) : partsT t = t :: partsTL t.kids := by cases t; simp [partsT, T.kids]
theorem partsTL_nil : partsTL [] = [] := by simp [partsTL]
theorem partsTL_cons (t : T) (ts : List T) : partsTL (t :: ts) = partsT t ++ partsTL ts := by simp [partsTL]
theorem zip_self (t : T) : zipT t t = (partsT t).map fun p => (p, p) := by
 induction t using T.ind' with
 | h t ih =>
  rw [zipT_eq, partsT_eq, List.map_cons]
  congr 1
  generalize t.kids = ks at ih
  induction ks with
  | nil => rw [zipTL_nil, partsTL_nil]; rfl
  | cons k ks ihk => rw [zipTL_cons, partsTL_cons, List.map_append, ih k (by simp), ihk fun y hy => ih y (by simp [hy])]
theorem partsT_x (t : T) : (partsT t).map T.x = t.x.parts := by
 induction t using T.ind' with
 | h t ih =>
  rw [partsT_eq, X.parts_eq, List.map_cons, T.x_kids]
  congr 1
  generalize t.kids = ks at ih
  induction ks with
  | nil => simp [partsTL, partsL]
  | cons k ks ihk => rw [partsTL_cons, List.map_append, List.map_cons, partsL_cons, ih k (by simp), ihk fun y hy => ih y (by simp [hy])]
theorem partsT_len (t : T) : (partsT t).length = t.x.sz := by rw [← List.length_map (f := T.x), partsT_x]; rfl

def encT (z : T × T) : Array Value := #[z.1.v]

set_option maxRecDepth 100000 in
set_option maxHeartbeats 4000000 in
theorem parts_seq0 {w0 : World} {N : Nat} (n : Nat) (hn : 4 ≤ n) {a : T} {Ba : Nat} (hA : BoxT w0 Ba a) (ha : TR N w0 a.kv a.kids) (hN : N ≤ w0.heap.size) (hsz : (zipT a a).length ≤ 100000) :
  SeqX Fence.wide n Tryd.prog 75 #[.pointer (some ⟨Ba, 0, none⟩)] encT (KpX N) (zipT a a) w0 := by
 intro l J Jx W hW hJ hJx hY h0
 obtain ⟨A1, c1, hka, -⟩ := ha.form
 obtain ⟨a0, a1, a2⟩ := (hA.bel hW).cells hka
 have hl := Nat.lt_of_lt_of_le hA.lt hW.size
 have HY := Lib.hid hY
 have HJ := Lib.hid hJ
 have HJX := Lib.hid hJx
 have HJ0 := Lib.hid h0
 have HA := Lib.hid (And.intro (ha.bel (hW.mono hN)) (And.intro (Nat.le_trans hN hW.size) hka))
 clear hY hJ hJx h0 hA ha hW hN hka
 refine callsIn_of_wp_marks Tryd.func75 rfl trivial ?_ rfl
 simp only [Tryd.ntmps75, List.size_toArray, List.length_cons, List.length_nil, Nat.reduceAdd, Nat.reduceSub, Array.replicate_succ, Array.replicate_zero, List.push_toArray, List.append_toArray, List.nil_append, List.cons_append]
 refine wpIn_wide.2 ?_
 go_wp2_with (go_at_call 76; refine (pairs_any (a := a) (b := a) HA.out.2.2 HA.out.2.2 _).mono ?_; rintro e w1 ⟨rfl, hx1, hx2, hbw⟩)
 have hb1 : Below W.heap.size W w1 := ((Below.refl _ W).alloc (Nat.le_refl _) _).trans (hbw.mono (by simp))
 have hyb : Boxed w1 W.heap.size 61 (.func (.yield l) #[] #[]) := (hbw.block _ (by simp)).trans (Boxed.new W _ _)
 have hseq := pairs_seq (n - 1) (by omega) hx1 hx2 (HA.out.1.bel (hb1.mono HA.out.2.1)) (HA.out.1.bel (hb1.mono HA.out.2.1)) (Nat.le_trans HA.out.2.1 hb1.size) hsz
 have hj1 : J [] w1 := HJ.out [] W w1 HJ0.out (Rel.of_below hb1)
 try simp only [World.size_alloc] at hseq
 try simp only [World.size_alloc]
 have HSEQ := Lib.hid hseq
 have HYB := Lib.hid hyb
 have HJ1 := Lib.hid hj1
 have hz1 : W.heap.size ≤ w1.heap.size := hb1.size
 have hNw : N ≤ w1.heap.size := Nat.le_trans HA.out.2.1 hz1
 have hkv : Hid (∀ z ∈ zipT a a, ∃ A c, z.1.kv = .slice A z.1.kids.length c) := Lib.hid fun z hz => by
  obtain ⟨A, c, h, _⟩ := (zip_ok a a HA.out.1 HA.out.1 z hz).1.form
  exact ⟨A, c, h⟩
 clear hbw hb1 hyb hseq hj1 hx1 hx2 a0 a1 a2
 refine wpIn_wide.1 (?_ : Code.wpIn Fence.wide n Tryd.prog _ _ _ _)
 refine wpIn_rangeFunc_X rfl (by omega) (gf := 92) (lb := #[.pointer (some ⟨W.heap.size + 1, 0, none⟩), .pointer (some ⟨W.heap.size + 1 + 1, 0, none⟩)]) rfl trivial (enters_of Tryd.func92 (by kernel_rfl) rfl)
  HSEQ.out KpX.trans (fun W' l' o o' hlw hl' ho _ => KpX.putObj W' l' o o' (by omega) hl' ho) (Below.refl _ _) (fun _ => rfl)
  (fun pre W' => J pre W' ∧ Boxed W' W.heap.size 61 (.func (.yield l) #[] #[]) ∧ W.heap.size ≤ W'.heap.size) (fun c pre W' => c = .ret ∧ Jx pre W') ?hI ?hX ⟨HJ1.out, HYB.out, hz1⟩
  (fun z a' W' => ∃ A, a' = { tmps := #[.func (.yield l) #[] #[], .pointer (some ⟨Ba, 0, none⟩), .pointer (some ⟨W.heap.size, 0, none⟩), .pointer (some ⟨A, 0, none⟩), .agg #[.int .i64 a.kind, .string a.lab, .slice A1 a.kids.length c1], .agg #[.int .i64 a.kind, .string a.lab, .slice A1 a.kids.length c1], .func (.func 92) #[] #[.pointer (some ⟨W.heap.size + 1, 0, none⟩), .pointer (some ⟨W.heap.size + 1 + 1, 0, none⟩)], z.1.v, z.2.v, undef, undef, undef, undef], defers := [] } ∧ BoxT W' A z.1) ?hA ?assign ?body ?done ?stop
 case hI =>
  rintro s X Y ⟨hj, hy, hz⟩ hr
  exact ⟨HJ.out s X Y hj (hr.mono hz1), hr.cells hy (by decide), Nat.le_trans hz hr.size⟩
 case hX =>
  rintro c s X Y ⟨rfl, hj⟩ hr
  exact ⟨rfl, HJX.out s X Y hj (hr.mono hz1)⟩
 case hA =>
  rintro z a' _ X Y ⟨A, rfl, hc⟩ hr
  exact ⟨A, rfl, hr.cells hc (by decide)⟩
 case assign =>
  intro l1 pre z W' K hI hpx hK
  obtain ⟨A, c, hk⟩ := hkv.out z (hpx.subset (by simp))
  have HK := Lib.hid hK
  have HI' := Lib.hid hI
  have HKV := Lib.hid hk
  unfold encZ T.v
  rw [hk]
  clear hK hI hk
  gi_wp2
  have hbw : Below W'.heap.size W' (W'.alloc (.cells #[.int .i64 z.1.kind, .string z.1.lab, .slice A z.1.kids.length c] 25)) := (Below.refl _ W').alloc (Nat.le_refl _) _
  obtain ⟨hj, hy, hz⟩ := HI'.out
  refine HK.out _ _ ((below_others hbw).from _) (KpX.of_below hbw (by have := HA.out.2.1; omega)) ⟨HJ.out pre W' _ hj (Rel.of_below hbw), hy.alloc _, Nat.le_trans hz hbw.size⟩ ⟨W'.heap.size, ?_, ?_⟩
  ·simp only [T.v, HKV.out]
  ·unfold BoxT
   rw [HKV.out]
   exact World.alloc_heap_new W' _
 case body =>
  rintro l1 pre z a' W' hwl hloop hpx ⟨hj, hy, hz⟩ ⟨A, rfl, hc⟩
  obtain ⟨A7, c7, hk⟩ := hkv.out z (hpx.subset (by simp))
  obtain ⟨c0, c1', c2'⟩ := hc.cells hk
  have cy := hy.cell
  obtain ⟨fn, tmps, assign, body, hy', hR⟩ := yield_round (l1 := l1) (m' := n - 1 - 1 - 1) (HY.out pre z W' hpx hz hj)
  simp only [encT, T.v] at hy'
  rw [hk] at hy'
  have HYY := Lib.hid (And.intro hy hz)
  clear hk hc hy hz hj
  gi_wp2
  refine ⟨fun h => (by cases h), ?_⟩
  refine hR.mono ?_
  rintro e W4 ⟨hkf, (⟨rfl, hJ4, hk4⟩ | ⟨rfl, hJx4⟩)⟩
  ·have R4 := Lib.hid (show KeepsFrom w1.heap.size W' W4 ∧ KpX N W' W4 ∧ J (pre ++ [z]) W4 ∧ Boxed W4 W.heap.size 61 (.func (.yield l) #[] #[]) ∧ W.heap.size ≤ W4.heap.size from ⟨kf_mono hkf hz1, hk4, hJ4, hk4.cells _ _ _ _ HYY.out.1 rfl, Nat.le_trans HYY.out.2 hkf.size⟩)
   clear hkf hJ4 hk4
   gi_wp2
   exact R4.out
  ·have R4 := Lib.hid (show KeepsFrom w1.heap.size W' W4 ∧ Code.ret = Code.ret ∧ Jx (pre ++ [z]) W4 from ⟨kf_mono hkf hz1, rfl, hJx4⟩)
   clear hkf hJx4
   gi_wp2
   exact ⟨R4.out.1, rfl, R4.out.2.2⟩
 case done =>
  rintro D W' hD ⟨hj, hy, hz⟩ hK
  have R := Lib.hid (HJ.out.putObj (.deferred none) hj (Nat.le_trans hz1 hD) hK rfl)
  clear hj hy
  go_wp2
  refine ⟨by simp, .inl ⟨_, _, rfl, run_takeDeferred hK, ?_⟩⟩
  exact ⟨_, results_none rfl _ _ _, ⟨_, rfl⟩, .inl R.out⟩
 case stop =>
  rintro D c pre W' hD hpre ⟨rfl, hj⟩ hK
  have R := Lib.hid (HJX.out.putObj (.deferred none) hj (Nat.le_trans hz1 hD) hK rfl)
  clear hj
  gi_wp2
  refine ⟨by simp, .inl ⟨_, _, rfl, run_takeDeferred hK, ?_⟩⟩
  exact ⟨_, results_none rfl _ _ _, ⟨_, rfl⟩, .inr ⟨pre, hpre, R.out⟩⟩

def encP (p : T) : Array Value := #[p.v]
theorem parts_seq {w0 : World} {N : Nat} (n : Nat) (hn : 4 ≤ n) {a : T} {Ba : Nat} (hA : BoxT w0 Ba a) (ha : TR N w0 a.kv a.kids) (hN : N ≤ w0.heap.size) (hsz : a.x.sz ≤ 100000) :
  SeqX Fence.wide n Tryd.prog 75 #[.pointer (some ⟨Ba, 0, none⟩)] encP (KpX N) (partsT a) w0 := by
 have h := parts_seq0 n hn hA ha hN (by rw [zip_self, List.length_map, partsT_len]; exact hsz)
 rw [zip_self] at h
 exact SeqX.map (f := fun p : T => (p, p)) (encs := encT) h
theorem parts_ok {N : Nat} {w : World} {a : T} (ha : TR N w a.kv a.kids) : ∀ p ∈ partsT a, TR N w p.kv p.kids := by
 intro p hp
 have := zip_ok a a ha ha (p, p) (by rw [zip_self]; exact List.mem_map.2 ⟨p, hp, rfl⟩)
 exact this.1
end Go.Proofs.YtnccgaanfjaimaaDoor

namespace Go.Proofs.YtnccgaanfjaimaaDoor
open Go.ChangeShapes Go.WideShapes Go.ChangeAt Go.RowKit
set_option linter.unusedVariables false
set_option linter.unusedSimpArgs false

attribute [local go_sem] Oper.semAt_some

theorem XV.tree {N : Nat} {w : World} {v : Value} {x : X} (h : XV N w v x) : ∃ a : T, a.x = x ∧ v = a.v ∧ TR N w a.kv a.kids := by
 obtain ⟨kv, rfl, h⟩ := h
 obtain ⟨ts, h1, h2⟩ := h.ann
 refine ⟨.mk x.kind x.lab kv ts, ?_, rfl, h2⟩
 exact X.ext' (by rw [T.x_kind]; rfl) (by rw [T.x_lab]; rfl) (by rw [T.x_kids]; exact h1)
theorem TR.xv {N : Nat} {w : World} {a : T} (h : TR N w a.kv a.kids) : XV N w a.v a.x := by
 refine ⟨a.kv, ?_, ?_⟩
 ·rw [T.x_kind, T.x_lab]; rfl
 ·rw [T.x_kids]; exact h.xr
theorem TR.cells {N : Nat} {w : World} {a : T} (h : TR N w a.kv a.kids) : ∃ A c, a.kv = .slice A a.kids.length c ∧ a.v = .agg #[.int .i64 a.kind, .string a.lab, .slice A a.kids.length c] := by
 obtain ⟨A, c, h1, _⟩ := h.form
 exact ⟨A, c, h1, by rw [T.v, h1]⟩
theorem belowK (w : World) {W : World} {D : Nat} {o' : Obj} (h : Below w.heap.size w W) (hD : w.heap.size ≤ D) : Below w.heap.size w (W.putObj D o') :=
 h.trans ⟨rfl, rfl, rfl, by simp, fun k hk => World.putObj_heap_other (by omega)⟩
theorem OwnQ.boxed {β : Type} (N B : Nat) (t : TypeId) (f : β → Value) (ht : t ≠ 122) : OwnQ N (fun (s : β) W => Boxed W B t (f s)) := fun s X Y hs hr => hr.cells hs ht

set_option maxRecDepth 100000 in
set_option maxHeartbeats 4000000 in
theorem size14_any {N : Nat} {w : World} {v : Value} {x : X} (hx : XV N w v x) (hN : N ≤ w.heap.size) (hsz : x.sz ≤ 100000) :
  Calls Tryd.prog 78 #[v] w fun e w' => e = .returned (.int .i64 x.sz) ∧ Below w.heap.size w w' := by
 obtain ⟨a, rfl, rfl, ha⟩ := hx.tree
 obtain ⟨A, c, hk, hv⟩ := ha.cells
 rw [hv]
 have HA := Lib.hid (And.intro ha (And.intro hN hk))
 clear ha hk hv hx
 refine (callsIn_wide (n := 12)).1 ?_
 refine callsIn_of_wp_marks Tryd.func78 rfl trivial ?_ rfl
 simp only [Tryd.ntmps78, List.size_toArray, List.length_cons, List.length_nil, Nat.reduceAdd, Nat.reduceSub, Array.replicate_succ, Array.replicate_zero, List.push_toArray, List.append_toArray, List.nil_append, List.cons_append]
 refine wpIn_wide.2 ?_
 go_wp2_with (go_at_call 60; refine (partsOf_any (a := a) HA.out.2.2 _).mono ?_; rintro e w1 ⟨rfl, hx1, hbw⟩)
 have hb0 : Below w.heap.size w ((w.alloc (.cells #[.int .i64 a.kind, .string a.lab, .slice A a.kids.length c] 25)).alloc (.cells #[.int .i64 0] 3)) := ((Below.refl _ w).alloc (Nat.le_refl _) _).alloc (by simp) _
 have hb1 : Below w.heap.size w w1 := hb0.trans (hbw.mono (by simp; try omega))
 have hbx : Boxed w1 (w.heap.size + 1) 3 (.int .i64 0) := (hbw.block _ (by simp)).trans (by
  have := Boxed.new (w.alloc (.cells #[.int .i64 a.kind, .string a.lab, .slice A a.kids.length c] 25)) 3 (.int .i64 0)
  rwa [World.size_alloc] at this)
 have hz1 : w.heap.size + 2 ≤ w1.heap.size := by have := hbw.size; simp at this; omega
 have hNw : N ≤ w1.heap.size := Nat.le_trans HA.out.2.1 (by omega)
 have hseq := parts_seq 11 (by decide) hx1 (HA.out.1.bel (hb1.mono HA.out.2.1)) hNw hsz
 try simp only [World.size_alloc] at hseq
 have HSEQ := Lib.hid hseq
 have HB1 := Lib.hid hb1
 have HBX := Lib.hid hbx
 have hsz2 : (partsT a).length ≤ 100000 := by rw [partsT_len]; exact hsz
 clear hb0 hbw hb1 hbx hseq hx1
 refine wpIn_wide.1 (?_ : Code.wpIn Fence.wide 12 Tryd.prog _ _ _ _)
 refine wpIn_rangeFunc_X rfl (by omega) (gf := 75) (lb := #[.pointer (some ⟨w.heap.size + 1 + 1, 0, none⟩)]) rfl trivial (enters_of Tryd.func75 (by kernel_rfl) rfl)
  HSEQ.out KpX.trans (fun W' l' o o' hlw hl' ho _ => KpX.putObj W' l' o o' (by omega) hl' ho) (Below.refl _ _) (fun _ => rfl)
  (fun pre W' => Boxed W' (w.heap.size + 1) 3 (.int .i64 (pre.length : Nat)) ∧ Below w.heap.size w W') (fun _ _ _ => False)
  (OwnQ.and (OwnQ.boxed _ _ _ _ (by decide)) (ownQ_below (Nat.le_refl _) (by omega))) (fun c s X Y h => h.elim) ⟨HBX.out, HB1.out⟩
  (fun p a' W' => a' = { tmps := #[.agg #[.int .i64 a.kind, .string a.lab, .slice A a.kids.length c], .pointer (some ⟨w.heap.size, 0, none⟩), .int .i64 0, .pointer (some ⟨w.heap.size + 1, 0, none⟩), .agg #[.int .i64 a.kind, .string a.lab, .slice A a.kids.length c], .func (.func 75) #[] #[.pointer (some ⟨w.heap.size + 1 + 1, 0, none⟩)], p.v, undef, undef, undef], defers := [] })
  (fun p a' s X Y h _ => h) ?assign ?body ?done (fun _ _ _ _ _ _ h _ => h.elim)
 case assign =>
  intro l1 pre p W' K hI hpx hK
  have HK := Lib.hid hK
  have HI' := Lib.hid hI
  clear hK hI
  gi_wp2
  exact HK.out _ _ (KeepsFrom.refl _ _) (KpX.refl _ _) HI'.out (by simp [encP])
 case body =>
  rintro l1 pre p a' W' hwl hloop hpx ⟨hb, hbw⟩ rfl
  have hc := hb.cell
  have hf := hb.frozen
  have hlt : pre.length < 100000 := by have := hpx.length_le; simp at this; omega
  have HB := Lib.hid (And.intro hb hbw)
  clear hb hbw
  gi_wp2
  have hb2 : Boxed (W'.setCell ⟨w.heap.size + 1, 0, none⟩ (.int .i64 ((pre.length : Int) + 1))) (w.heap.size + 1) 3 (.int .i64 ((pre ++ [p]).length : Nat)) := by
   have := HB.out.1.set (.int .i64 ((pre.length : Int) + 1))
   simpa using this
  refine ⟨?_, ?_, hb2, HB.out.2.setCell (by show w.heap.size ≤ w.heap.size + 1; omega) _⟩
  ·exact (KeepsOthers.setCell _ _ _).from _
  ·refine ⟨by simp [World.setCell], fun k hk => Below.heap_setCell _ _ _ k (by have := HA.out.2.1; show k ≠ w.heap.size + 1; omega), fun k v t fr hk ht => ?_⟩
   by_cases e : k = w.heap.size + 1
   ·subst e
    rw [show W'.heap[w.heap.size + 1]? = _ from HB.out.1] at hk
    injection hk with hk
    injection hk with _ hk _
    subst hk
    cases ht
   ·exact (Below.heap_setCell _ _ _ k e).trans hk
 case done =>
  rintro D W' hD ⟨hb, hbw⟩ hK
  have hc := hb.cell
  have HB := Lib.hid hbw
  clear hb hbw
  go_wp2_with fail
  refine ⟨by simp, .inl ⟨_, _, rfl, run_takeDeferred hK, ?_⟩⟩
  exact ⟨.int .i64 ((partsT a).length : Nat), by simp [results, Tryd.f78, go_sem], by rw [partsT_len], belowK w HB.out (by omega)⟩
end Go.Proofs.YtnccgaanfjaimaaDoor

namespace Go.Proofs.YtnccgaanfjaimaaDoor
open Go.ChangeShapes Go.WideShapes Go.ChangeAt Go.RowKit
set_option linter.unusedVariables false
set_option linter.unusedSimpArgs false

def letB (r : Int) : Bool := decide (97 ≤ r ∧ r ≤ 122)
def sgnB (r : Int) : Bool := decide ((97 ≤ r ∧ r ≤ 122) ∨ (48 ≤ r ∧ r ≤ 57) ∨ r = 95)
def allS (l : List UInt8) : Bool := l.all fun c => sgnB c.toNat
def verB (s : ByteArray) : Bool := decide (1 ≤ s.size ∧ s.size ≤ 20) && allS s.data.toList
def wordB (s : ByteArray) : Bool := s.toList == [97, 115] || s.toList == [109, 97, 116, 99, 104] || s.toList == [119, 104, 101, 114, 101] || s.toList == [97, 110, 100] || s.toList == [114, 101, 116, 117, 114, 110] || s.toList == [114, 97, 110, 103, 101] || s.toList == [115, 108, 105, 100, 101]

theorem isLetter_any (r : Int) (w : World) : Calls Tryd.prog 96 #[.int .i32 r] w fun e w' => e = .returned (.bool (letB r)) ∧ w = w' := by
 have h : r < 97 ∨ (97 ≤ r ∧ 122 < r) ∨ (97 ≤ r ∧ r ≤ 122) := by omega
 rcases h with h | ⟨h1, h2⟩ | ⟨h1, h2⟩
 all_goals
  go_enter Tryd.func96, Tryd.ntmps96
  go_wp2
  go_ret
  exact ⟨ret_bool (by simp [letB]; try omega), rfl⟩

theorem letter_any (r : Int) (w : World) : Calls Tryd.prog 102 #[.int .u8 r] w fun e w' => e = .returned (.bool (letB r)) ∧ w = w' := by
 have h : r < 97 ∨ (97 ≤ r ∧ 122 < r) ∨ (97 ≤ r ∧ r ≤ 122) := by omega
 rcases h with h | ⟨h1, h2⟩ | ⟨h1, h2⟩
 all_goals
  go_enter Tryd.func102, Tryd.ntmps102
  go_wp2
  go_ret
  exact ⟨ret_bool (by simp [letB]; try omega), rfl⟩

theorem isSign_any (r : Int) (w : World) : Calls Tryd.prog 103 #[.int .i32 r] w fun e w' => e = .returned (.bool (sgnB r)) ∧ w = w' := by
 cases hl : letB r with
 | true =>
  have HL := Lib.hid hl
  go_enter Tryd.func103, Tryd.ntmps103
  go_wp2_with (go_at_call 96; refine (isLetter_any _ _).mono ?_; rintro e w' ⟨rfl, rfl⟩)
  go_ret
  exact ⟨ret_bool (by have := HL.out; simp [letB] at this; simp [sgnB]; omega), rfl⟩
 | false =>
  have HL := Lib.hid hl
  have h : r < 48 ∨ (48 ≤ r ∧ r ≤ 57) ∨ (48 ≤ r ∧ 57 < r) := by omega
  rcases h with h | ⟨h1, h2⟩ | ⟨h1, h2⟩
  ·have hb : (r == 95) = false := by rw [beq_eq_false_iff_ne]; omega
   go_enter Tryd.func103, Tryd.ntmps103
   go_wp2_with (go_at_call 96; refine (isLetter_any _ _).mono ?_; rintro e w' ⟨rfl, rfl⟩)
   go_ret
   exact ⟨ret_bool (by simp [sgnB]; omega), rfl⟩
  ·go_enter Tryd.func103, Tryd.ntmps103
   go_wp2_with (go_at_call 96; refine (isLetter_any _ _).mono ?_; rintro e w' ⟨rfl, rfl⟩)
   go_ret
   exact ⟨ret_bool (by simp [sgnB]; omega), rfl⟩
  ·by_cases h3 : r = 95
   ·subst h3
    go_enter Tryd.func103, Tryd.ntmps103
    go_wp2_with (go_at_call 96; refine (isLetter_any _ _).mono ?_; rintro e w' ⟨rfl, rfl⟩)
    go_ret
    exact ⟨ret_bool (by simp [sgnB]), rfl⟩
   ·have hb : (r == 95) = false := by rw [beq_eq_false_iff_ne]; omega
    go_enter Tryd.func103, Tryd.ntmps103
    go_wp2_with (go_at_call 96; refine (isLetter_any _ _).mono ?_; rintro e w' ⟨rfl, rfl⟩)
    go_ret
    exact ⟨ret_bool (by rw [decide_eq_false (show ¬ r ≤ 57 by omega)]; symm; unfold sgnB; rw [decide_eq_false_iff_not]; have := HL.out; unfold letB at this; rw [decide_eq_false_iff_not] at this; omega), rfl⟩

theorem sign_any (r : Int) (w : World) : Calls Tryd.prog 104 #[.int .u8 r] w fun e w' => e = .returned (.bool (sgnB r)) ∧ w = w' := by
 cases hl : letB r with
 | true =>
  have HL := Lib.hid hl
  go_enter Tryd.func104, Tryd.ntmps104
  go_wp2_with (go_at_call 102; refine (letter_any _ _).mono ?_; rintro e w' ⟨rfl, rfl⟩)
  go_ret
  exact ⟨ret_bool (by have := HL.out; simp [letB] at this; simp [sgnB]; omega), rfl⟩
 | false =>
  have HL := Lib.hid hl
  have h : r < 48 ∨ (48 ≤ r ∧ r ≤ 57) ∨ (48 ≤ r ∧ 57 < r) := by omega
  rcases h with h | ⟨h1, h2⟩ | ⟨h1, h2⟩
  ·have hb : (r == 95) = false := by rw [beq_eq_false_iff_ne]; omega
   go_enter Tryd.func104, Tryd.ntmps104
   go_wp2_with (go_at_call 102; refine (letter_any _ _).mono ?_; rintro e w' ⟨rfl, rfl⟩)
   go_ret
   exact ⟨ret_bool (by simp [sgnB]; omega), rfl⟩
  ·go_enter Tryd.func104, Tryd.ntmps104
   go_wp2_with (go_at_call 102; refine (letter_any _ _).mono ?_; rintro e w' ⟨rfl, rfl⟩)
   go_ret
   exact ⟨ret_bool (by simp [sgnB]; omega), rfl⟩
  ·by_cases h3 : r = 95
   ·subst h3
    go_enter Tryd.func104, Tryd.ntmps104
    go_wp2_with (go_at_call 102; refine (letter_any _ _).mono ?_; rintro e w' ⟨rfl, rfl⟩)
    go_ret
    exact ⟨ret_bool (by simp [sgnB]), rfl⟩
   ·have hb : (r == 95) = false := by rw [beq_eq_false_iff_ne]; omega
    go_enter Tryd.func104, Tryd.ntmps104
    go_wp2_with (go_at_call 102; refine (letter_any _ _).mono ?_; rintro e w' ⟨rfl, rfl⟩)
    go_ret
    exact ⟨ret_bool (by rw [decide_eq_false (show ¬ r ≤ 57 by omega)]; symm; unfold sgnB; rw [decide_eq_false_iff_not]; have := HL.out; unfold letB at this; rw [decide_eq_false_iff_not] at this; omega), rfl⟩

theorem isWord_any (s : ByteArray) (w : World) : Calls Tryd.prog 97 #[.string s] w fun e w' => e = .returned (.bool (wordB s)) ∧ w = w' := by
 cases w1 : (s.toList == [97, 115]) with
 | true =>
  go_enter Tryd.func97, Tryd.ntmps97
  go_wp2
  go_ret
  exact ⟨ret_bool (by simp [wordB, w1]), rfl⟩
 | false =>
  cases w2 : (s.toList == [109, 97, 116, 99, 104]) with
  | true =>
   go_enter Tryd.func97, Tryd.ntmps97
   go_wp2
   go_ret
   exact ⟨ret_bool (by simp [wordB, w1, w2]), rfl⟩
  | false =>
   cases w3 : (s.toList == [119, 104, 101, 114, 101]) with
   | true =>
    go_enter Tryd.func97, Tryd.ntmps97
    go_wp2
    go_ret
    exact ⟨ret_bool (by simp [wordB, w1, w2, w3]), rfl⟩
   | false =>
    cases w4 : (s.toList == [97, 110, 100]) with
    | true =>
     go_enter Tryd.func97, Tryd.ntmps97
     go_wp2
     go_ret
     exact ⟨ret_bool (by simp [wordB, w1, w2, w3, w4]), rfl⟩
    | false =>
     cases w5 : (s.toList == [114, 101, 116, 117, 114, 110]) with
     | true =>
      go_enter Tryd.func97, Tryd.ntmps97
      go_wp2
      go_ret
      exact ⟨ret_bool (by simp [wordB, w1, w2, w3, w4, w5]), rfl⟩
     | false =>
      cases w6 : (s.toList == [114, 97, 110, 103, 101]) with
      | true =>
       go_enter Tryd.func97, Tryd.ntmps97
       go_wp2
       go_ret
       exact ⟨ret_bool (by simp [wordB, w1, w2, w3, w4, w5, w6]), rfl⟩
      | false =>
       cases w7 : (s.toList == [115, 108, 105, 100, 101]) with
       | true =>
        go_enter Tryd.func97, Tryd.ntmps97
        go_wp2
        go_ret
        exact ⟨ret_bool (by simp [wordB, w1, w2, w3, w4, w5, w6, w7]), rfl⟩
       | false =>
        go_enter Tryd.func97, Tryd.ntmps97
        go_wp2
        go_ret
        exact ⟨ret_bool (by simp [wordB, w1, w2, w3, w4, w5, w6, w7]), rfl⟩

theorem allS_get {l : List UInt8} (h : allS l = true) (k : Nat) (hk : k < l.length) : sgnB (l[k]).toNat = true := by
 unfold allS at h
 rw [List.all_eq_true] at h
 exact h _ (List.getElem_mem hk)
theorem allS_succ {l : List UInt8} {k : Nat} (h : allS (l.take k) = true) (hk : k < l.length) (hs : sgnB (l[k]).toNat = true) : allS (l.take (k + 1)) = true := by
 rw [List.take_succ_eq_append_getElem hk]
 unfold allS at h ⊢
 rw [List.all_append, h]
 simpa using hs
theorem allS_not {l : List UInt8} {k : Nat} (hk : k < l.length) (hs : sgnB (l[k]).toNat = false) : allS l = false := by
 cases h : allS l with
 | false => rfl
 | true => rw [allS_get h k hk] at hs; cases hs

theorem rVertex_any (s : ByteArray) (w : World) (hm : s.size ≤ maxLen) : Calls Tryd.prog 101 #[.string s] w fun e w' => e = .returned (.bool (verB s)) ∧ w = w' := by
 unfold maxLen at hm
 have hsz : s.data.toList.length = s.size := by rw [Array.length_toList]; rfl
 have HSZ := Lib.hid hsz
 clear hsz
 go_enter Tryd.func101, Tryd.ntmps101
 go_wp2
 go_loop [3] (fun i => ∃ k : Nat, k ≤ s.size ∧ i = .int .i64 k ∧ allS (s.data.toList.take k) = true) (fun i => s.size - (intOf i).toNat)
 case atStart => exact ⟨0, Nat.zero_le _, rfl, rfl⟩
 case round =>
  obtain ⟨k, hk, rfl, hall⟩ := hrel
  have HALL := Lib.hid hall
  clear hall
  by_cases hlt : k < s.size
  ·have hkl : k < s.data.toList.length := by rw [HSZ.out]; exact hlt
   have hb : s.data.toList[k] = s[k] := rfl
   have HB := Lib.hid hb
   clear hb
   cases hsg : sgnB (s[k].toNat : Int) with
   | true =>
    have HS := Lib.hid hsg
    go_wp2_with (go_at_call 104; refine (sign_any _ _).mono ?_; rintro e w' ⟨rfl, rfl⟩)
    go_round
    case rel => exact ⟨k + 1, by omega, by go_num, allS_succ HALL.out hkl (by rw [HB.out]; exact HS.out)⟩
    case measure => simp [intOf]; omega
   | false =>
    have HS := Lib.hid hsg
    go_wp2_with (go_at_call 104; refine (sign_any _ _).mono ?_; rintro e w' ⟨rfl, rfl⟩)
    go_ret
    exact ⟨ret_bool (by unfold verB; rw [allS_not hkl (by rw [HB.out]; exact HS.out), Bool.and_false]), rfl⟩
  ·obtain rfl : k = s.size := by omega
   have h2 : s.size < 1 ∨ (1 ≤ s.size ∧ 20 < s.size) ∨ (1 ≤ s.size ∧ s.size ≤ 20) := by omega
   have hv : verB s = decide (1 ≤ s.size ∧ s.size ≤ 20) := by
    have := HALL.out
    rw [List.take_of_length_le (by rw [HSZ.out]; exact Nat.le_refl _)] at this
    unfold verB
    rw [this, Bool.and_true]
   have HV := Lib.hid hv
   clear hv
   rcases h2 with h2 | ⟨h2, h3⟩ | ⟨h2, h3⟩
   all_goals
    go_wp2
    go_ret
    exact ⟨ret_bool (by rw [HV.out, Bool.eq_iff_iff]; simp; try omega), rfl⟩

theorem vertex_any (s : ByteArray) (w : World) (hm : s.size ≤ maxLen) : Calls Tryd.prog 95 #[.string s] w fun e w' => e = .returned (.bool (verB s)) ∧ Below w.heap.size w w' := by
 unfold maxLen at hm
 have h2 : s.size < 1 ∨ (1 ≤ s.size ∧ 20 < s.size) ∨ (1 ≤ s.size ∧ s.size ≤ 20) := by omega
 rcases h2 with h2 | ⟨h2, h3⟩ | ⟨h2, h3⟩
 ·go_enter Tryd.func95, Tryd.ntmps95
  go_wp2
  go_ret
  exact ⟨ret_bool (by unfold verB; simp; omega), Below.refl _ _⟩
 ·go_enter Tryd.func95, Tryd.ntmps95
  go_wp2
  go_ret
  exact ⟨ret_bool (by unfold verB; simp; omega), Below.refl _ _⟩
 ·have hsz : s.data.toList.length = s.size := by rw [Array.length_toList]; rfl
  have HSZ := Lib.hid hsz
  clear hsz
  go_enter Tryd.func95, Tryd.ntmps95
  go_wp2
  go_loopw [4] (fun _ wr => ∃ k : Nat, k ≤ s.size ∧ wr = w.iter s k ∧ allS (s.data.toList.take k) = true) (fun _ wr => s.size - wr.iterPos w.heap.size)
  case atStart => exact ⟨0, Nat.zero_le _, rfl, rfl⟩
  case round =>
   obtain ⟨k, hk, rfl, hall⟩ := hrel
   have HALL := Lib.hid hall
   clear hall
   by_cases hlt : k < s.size
   ·have hkl : k < s.data.toList.length := by rw [HSZ.out]; exact hlt
    have hb : s.data.toList[k] = s[k] := rfl
    have HB := Lib.hid hb
    clear hb
    by_cases hasc : (s[k].toNat) < 128
    ·have hnx := fun ty => run_next_ascii (P := Tryd.prog) w s k ty hlt hasc
     cases hsg : sgnB (s[k].toNat : Int) with
     | true =>
      have HS := Lib.hid hsg
      go_wp2_with (go_at_call 103; refine (isSign_any _ _).mono ?_; rintro e w' ⟨rfl, rfl⟩)
      go_roundw
      case rel => exact ⟨k + 1, by omega, rfl, allS_succ HALL.out hkl (by rw [HB.out]; exact HS.out)⟩
      case measure => simp; omega
     | false =>
      have HS := Lib.hid hsg
      go_wp2_with (go_at_call 103; refine (isSign_any _ _).mono ?_; rintro e w' ⟨rfl, rfl⟩)
      go_ret
      exact ⟨ret_bool (by unfold verB; rw [allS_not hkl (by rw [HB.out]; exact HS.out), Bool.and_false]), (Below.refl _ _).alloc (Nat.le_refl _) _⟩
    ·have hhi := (decode_high s k hlt (by omega)).1
     have hnx := fun ty => run_next_any (P := Tryd.prog) w s k ty hlt
     obtain ⟨rn, hrn⟩ : ∃ rn, Utf8.decode s k = rn := ⟨_, rfl⟩
     obtain ⟨r, n⟩ := rn
     rw [hrn] at hhi
     simp only [hrn] at hnx
     have hsg : sgnB (r : Int) = false := by unfold sgnB; rw [decide_eq_false_iff_not]; simp at hhi; omega
     have hsg2 : sgnB (s[k].toNat : Int) = false := by unfold sgnB; rw [decide_eq_false_iff_not]; omega
     have HS := Lib.hid hsg2
     clear hsg2 hrn
     go_wp2_with (go_at_call 103; refine (isSign_any _ _).mono ?_; rintro e w' ⟨rfl, rfl⟩)
     go_ret
     exact ⟨ret_bool (by unfold verB; rw [allS_not hkl (by rw [HB.out]; exact HS.out), Bool.and_false]), (Below.refl _ _).alloc (Nat.le_refl _) _⟩
   ·obtain rfl : k = s.size := by omega
    have hnx := fun ty => run_next_end (P := Tryd.prog) w s s.size ty hlt
    have hv : verB s = true := by
     have := HALL.out
     rw [List.take_of_length_le (by rw [HSZ.out]; exact Nat.le_refl _)] at this
     unfold verB
     rw [this, decide_eq_true ⟨h2, h3⟩]; rfl
    have HV := Lib.hid hv
    clear hv
    go_wp2
    go_ret
    exact ⟨ret_bool HV.out.symm, (Below.refl _ _).alloc (Nat.le_refl _) _⟩
end Go.Proofs.YtnccgaanfjaimaaDoor

namespace Go.Proofs.YtnccgaanfjaimaaDoor
open Go.ChangeShapes Go.WideShapes Go.ChangeAt Go.RowKit
set_option linter.unusedVariables false
set_option linter.unusedSimpArgs false

def firstB (s : ByteArray) : Int := if h : 0 < s.size then (s[0]'h).toNat else 0
def freB (s : ByteArray) : Bool := verB s && (letB (firstB s) && !wordB s)

theorem verB_pos {s : ByteArray} (h : verB s = true) : 1 ≤ s.size := by
 unfold verB at h
 rw [Bool.and_eq_true, decide_eq_true_eq] at h
 exact h.1.1

theorem free_any (s : ByteArray) (w : World) (hm : s.size ≤ maxLen) : Calls Tryd.prog 77 #[.string s] w fun e w' => e = .returned (.bool (freB s)) ∧ Below w.heap.size w w' := by
 cases hv : verB s with
 | false =>
  have HE := Lib.hid (show freB s = false by unfold freB; rw [hv]; rfl)
  go_enter Tryd.func77, Tryd.ntmps77
  go_wp2_with (go_at_call 95; refine (vertex_any s _ hm).mono ?_; rintro e w' ⟨rfl, hb⟩)
  go_ret
  exact ⟨ret_bool HE.out.symm, hb⟩
 | true =>
  have hp := verB_pos hv
  have hf : firstB s = (s[0]'hp).toNat := dif_pos hp
  have hu1 : ((s[0]'hp).toNat : Int) ≤ 255 := by have := (s[0]'hp).toNat_lt; omega
  have hw32 : wrap32 ((s[0]'hp).toNat : Int) = ((s[0]'hp).toNat : Int) := by unfold wrap32; omega
  cases hl : letB ((s[0]'hp).toNat : Int) with
  | false =>
   have HE := Lib.hid (show freB s = false by unfold freB; rw [hf, hl]; simp)
   clear hf
   go_enter Tryd.func77, Tryd.ntmps77
   go_wp2_with (first | (go_at_call 95; refine (vertex_any s _ hm).mono ?_; rintro e w' ⟨rfl, hb⟩) | (go_at_call 96; refine (isLetter_any _ _).mono ?_; rintro e w' ⟨rfl, rfl⟩))
   go_ret
   exact ⟨ret_bool HE.out.symm, hb⟩
  | true =>
   have HE := Lib.hid (show freB s = !wordB s by unfold freB; rw [hv, hf, hl]; simp)
   clear hf
   go_enter Tryd.func77, Tryd.ntmps77
   go_wp2_with (first | (go_at_call 95; refine (vertex_any s _ hm).mono ?_; rintro e w' ⟨rfl, hb⟩) | (go_at_call 96; refine (isLetter_any _ _).mono ?_; rintro e w' ⟨rfl, rfl⟩) | (go_at_call 97; refine (isWord_any _ _).mono ?_; rintro e w' ⟨rfl, rfl⟩))
   go_ret
   exact ⟨ret_bool HE.out.symm, hb⟩

theorem rFree_any (s : ByteArray) (w : World) (hm : s.size ≤ maxLen) : Calls Tryd.prog 86 #[.string s] w fun e w' => e = .returned (.bool (freB s)) ∧ w = w' := by
 cases hv : verB s with
 | false =>
  have HE := Lib.hid (show freB s = false by unfold freB; rw [hv]; rfl)
  go_enter Tryd.func86, Tryd.ntmps86
  go_wp2_with (go_at_call 101; refine (rVertex_any s _ hm).mono ?_; rintro e w' ⟨rfl, rfl⟩)
  go_ret
  exact ⟨ret_bool HE.out.symm, rfl⟩
 | true =>
  have hp := verB_pos hv
  have hf : firstB s = (s[0]'hp).toNat := dif_pos hp
  cases hl : letB ((s[0]'hp).toNat : Int) with
  | false =>
   have HE := Lib.hid (show freB s = false by unfold freB; rw [hf, hl]; simp)
   clear hf
   go_enter Tryd.func86, Tryd.ntmps86
   go_wp2_with (first | (go_at_call 101; refine (rVertex_any s _ hm).mono ?_; rintro e w' ⟨rfl, rfl⟩) | (go_at_call 102; refine (letter_any _ _).mono ?_; rintro e w' ⟨rfl, rfl⟩))
   go_ret
   exact ⟨ret_bool HE.out.symm, rfl⟩
  | true =>
   have HE := Lib.hid (show freB s = !wordB s by unfold freB; rw [hv, hf, hl]; simp)
   clear hf
   cases w1 : (s.toList == [97, 115]) with
   | true =>
    go_enter Tryd.func86, Tryd.ntmps86
    go_wp2_with (first | (go_at_call 101; refine (rVertex_any s _ hm).mono ?_; rintro e w' ⟨rfl, rfl⟩) | (go_at_call 102; refine (letter_any _ _).mono ?_; rintro e w' ⟨rfl, rfl⟩))
    go_ret
    exact ⟨ret_bool (by rw [HE.out]; simp [wordB, w1]), rfl⟩
   | false =>
    cases w2 : (s.toList == [109, 97, 116, 99, 104]) with
    | true =>
     go_enter Tryd.func86, Tryd.ntmps86
     go_wp2_with (first | (go_at_call 101; refine (rVertex_any s _ hm).mono ?_; rintro e w' ⟨rfl, rfl⟩) | (go_at_call 102; refine (letter_any _ _).mono ?_; rintro e w' ⟨rfl, rfl⟩))
     go_ret
     exact ⟨ret_bool (by rw [HE.out]; simp [wordB, w1, w2]), rfl⟩
    | false =>
     cases w3 : (s.toList == [119, 104, 101, 114, 101]) with
     | true =>
      go_enter Tryd.func86, Tryd.ntmps86
      go_wp2_with (first | (go_at_call 101; refine (rVertex_any s _ hm).mono ?_; rintro e w' ⟨rfl, rfl⟩) | (go_at_call 102; refine (letter_any _ _).mono ?_; rintro e w' ⟨rfl, rfl⟩))
      go_ret
      exact ⟨ret_bool (by rw [HE.out]; simp [wordB, w1, w2, w3]), rfl⟩
     | false =>
      cases w4 : (s.toList == [97, 110, 100]) with
      | true =>
       go_enter Tryd.func86, Tryd.ntmps86
       go_wp2_with (first | (go_at_call 101; refine (rVertex_any s _ hm).mono ?_; rintro e w' ⟨rfl, rfl⟩) | (go_at_call 102; refine (letter_any _ _).mono ?_; rintro e w' ⟨rfl, rfl⟩))
       go_ret
       exact ⟨ret_bool (by rw [HE.out]; simp [wordB, w1, w2, w3, w4]), rfl⟩
      | false =>
       cases w5 : (s.toList == [114, 101, 116, 117, 114, 110]) with
       | true =>
        go_enter Tryd.func86, Tryd.ntmps86
        go_wp2_with (first | (go_at_call 101; refine (rVertex_any s _ hm).mono ?_; rintro e w' ⟨rfl, rfl⟩) | (go_at_call 102; refine (letter_any _ _).mono ?_; rintro e w' ⟨rfl, rfl⟩))
        go_ret
        exact ⟨ret_bool (by rw [HE.out]; simp [wordB, w1, w2, w3, w4, w5]), rfl⟩
       | false =>
        cases w6 : (s.toList == [114, 97, 110, 103, 101]) with
        | true =>
         go_enter Tryd.func86, Tryd.ntmps86
         go_wp2_with (first | (go_at_call 101; refine (rVertex_any s _ hm).mono ?_; rintro e w' ⟨rfl, rfl⟩) | (go_at_call 102; refine (letter_any _ _).mono ?_; rintro e w' ⟨rfl, rfl⟩))
         go_ret
         exact ⟨ret_bool (by rw [HE.out]; simp [wordB, w1, w2, w3, w4, w5, w6]), rfl⟩
        | false =>
         cases w7 : (s.toList == [115, 108, 105, 100, 101]) with
         | true =>
          go_enter Tryd.func86, Tryd.ntmps86
          go_wp2_with (first | (go_at_call 101; refine (rVertex_any s _ hm).mono ?_; rintro e w' ⟨rfl, rfl⟩) | (go_at_call 102; refine (letter_any _ _).mono ?_; rintro e w' ⟨rfl, rfl⟩))
          go_ret
          exact ⟨ret_bool (by rw [HE.out]; simp [wordB, w1, w2, w3, w4, w5, w6, w7]), rfl⟩
         | false =>
          go_enter Tryd.func86, Tryd.ntmps86
          go_wp2_with (first | (go_at_call 101; refine (rVertex_any s _ hm).mono ?_; rintro e w' ⟨rfl, rfl⟩) | (go_at_call 102; refine (letter_any _ _).mono ?_; rintro e w' ⟨rfl, rfl⟩))
          go_ret
          exact ⟨ret_bool (by rw [HE.out]; simp [wordB, w1, w2, w3, w4, w5, w6, w7]), rfl⟩
end Go.Proofs.YtnccgaanfjaimaaDoor

namespace Go.Proofs.YtnccgaanfjaimaaDoor
open Go.ChangeShapes Go.WideShapes Go.ChangeAt Go.RowKit
set_option linter.unusedVariables false
set_option linter.unusedSimpArgs false

def fitB (k : Int) (s : ByteArray) (n : Nat) : Bool :=
 if k = 1 then freB s && decide (n = 0)
 else if k = 2 ∨ k = 3 then decide (s = ⟨#[]⟩) && decide (2 ≤ n)
 else if k = 4 ∨ k = 5 ∨ k = 6 then decide (s = ⟨#[]⟩) && decide (n = 1)
 else false
def X.fits (x : X) : Bool := fitB x.kind x.lab x.kids.length

theorem tl_nil {s : ByteArray} (h : s ≠ ⟨#[]⟩) : s.toList ≠ [] := fun e => h (by
 have : s.data.toList = [] := by rw [← ByteArray.toList_eq]; exact e
 exact ByteArray.ext (by simpa using this))

set_option maxHeartbeats 4000000 in
theorem fits0 (k : Int) (s : ByteArray) (A : Option Addr) (n c : Nat) (w : World) (hm : s.size ≤ maxLen) : Calls Tryd.prog 61 #[.agg #[.int .i64 k, .string s, .slice A n c]] w fun e w' => e = .returned (.bool (fitB k s n)) ∧ Below w.heap.size w w' := by
 have hb0 : ∀ W, Below (w.heap.size + 1) (w.alloc (.cells #[.int .i64 k, .string s, .slice A n c] 25)) W → Below w.heap.size w W := fun W h => ((Below.refl _ w).alloc (Nat.le_refl _) _).trans (h.mono (by omega))
 have HB := Lib.hid hb0
 have hb1 : Hid (Below w.heap.size w (w.alloc (.cells #[.int .i64 k, .string s, .slice A n c] 25))) := Lib.hid ((Below.refl _ w).alloc (Nat.le_refl _) _)
 clear hb0
 unfold fitB
 by_cases h1 : k = 1
 ·subst h1
  rw [if_pos rfl]
  cases hf : freB s with
  | false =>
   have HF := Lib.hid hf
   go_enter Tryd.func61, Tryd.ntmps61
   go_wp2_with (go_at_call 77; refine (free_any s _ hm).mono ?_; rintro e w1 ⟨rfl, hb⟩; have HB2 := Lib.hid hb; clear hb; rw [HF.out])
   go_ret
   exact ⟨by simp, HB.out _ (by have := HB2.out; simpa using this)⟩
  | true =>
   have HF := Lib.hid hf
   go_enter Tryd.func61, Tryd.ntmps61
   by_cases hn : n = 0
   ·subst hn
    go_wp2_with (go_at_call 77; refine (free_any s _ hm).mono ?_; rintro e w1 ⟨rfl, hb⟩; have HB2 := Lib.hid hb; have hc := (box_cells (w := w) (W := w1) (a := .int .i64 1) (b := .string s) (c := .slice A 0 c) (by have := HB2.out; simpa using this)).2.2; clear hb; rw [HF.out])
    go_ret
    exact ⟨by simp, HB.out _ (by have := HB2.out; simpa using this)⟩
   ·have hn' : (n : Int) ≠ 0 := by omega
    go_wp2_with (go_at_call 77; refine (free_any s _ hm).mono ?_; rintro e w1 ⟨rfl, hb⟩; have HB2 := Lib.hid hb; have hc := (box_cells (w := w) (W := w1) (a := .int .i64 1) (b := .string s) (c := .slice A n c) (by have := HB2.out; simpa using this)).2.2; clear hb; rw [HF.out])
    go_ret
    exact ⟨by simp [hn], HB.out _ (by have := HB2.out; simpa using this)⟩
 ·rw [if_neg h1]
  by_cases h2 : k = 2 ∨ k = 3
  ·rw [if_pos h2]
   by_cases hs : s = ⟨#[]⟩
   ·subst hs
    by_cases hn : 2 ≤ n
    ·have hn' : (2 : Int) ≤ (n : Int) := by omega
     rcases h2 with rfl | rfl
     all_goals
      go_enter Tryd.func61, Tryd.ntmps61
      go_wp2_with fail
      go_ret
      exact ⟨(by simp [hn]; try omega), hb1.out⟩
    ·have hn' : ¬ (2 : Int) ≤ (n : Int) := by omega
     rcases h2 with rfl | rfl
     all_goals
      go_enter Tryd.func61, Tryd.ntmps61
      go_wp2_with fail
      go_ret
      exact ⟨(by simp [hn]; try omega), hb1.out⟩
   ·have hs' := tl_nil hs
    rcases h2 with rfl | rfl
    all_goals
     go_enter Tryd.func61, Tryd.ntmps61
     go_wp2_with fail
     go_ret
     exact ⟨by simp [hs], hb1.out⟩
  ·rw [if_neg h2]
   by_cases h3 : k = 4 ∨ k = 5 ∨ k = 6
   ·rw [if_pos h3]
    by_cases hs : s = ⟨#[]⟩
    ·subst hs
     by_cases hn : n = 1
     ·subst hn
      rcases h3 with rfl | rfl | rfl
      all_goals
       go_enter Tryd.func61, Tryd.ntmps61
       go_wp2_with fail
       go_ret
       exact ⟨by simp, hb1.out⟩
     ·have hn' : (n : Int) ≠ 1 := by omega
      rcases h3 with rfl | rfl | rfl
      all_goals
       go_enter Tryd.func61, Tryd.ntmps61
       go_wp2_with fail
       go_ret
       exact ⟨(by simp [hn]; try omega), hb1.out⟩
    ·have hs' := tl_nil hs
     rcases h3 with rfl | rfl | rfl
     all_goals
      go_enter Tryd.func61, Tryd.ntmps61
      go_wp2_with fail
      go_ret
      exact ⟨by simp [hs], hb1.out⟩
   ·rw [if_neg h3]
    simp only [not_or] at h2 h3
    obtain ⟨g2, g3⟩ := h2
    obtain ⟨g4, g5, g6⟩ := h3
    go_enter Tryd.func61, Tryd.ntmps61
    go_wp2_with fail
    go_ret
    exact ⟨rfl, hb1.out⟩
theorem fits_any {N : Nat} {w : World} {v : Value} {x : X} (hx : XV N w v x) (hm : x.lab.size ≤ maxLen) : Calls Tryd.prog 61 #[v] w fun e w' => e = .returned (.bool x.fits) ∧ Below w.heap.size w w' := by
 obtain ⟨kv, rfl, h⟩ := hx
 obtain ⟨A, c, rfl⟩ := h.form
 exact fits0 _ _ _ _ _ _ hm
end Go.Proofs.YtnccgaanfjaimaaDoor
