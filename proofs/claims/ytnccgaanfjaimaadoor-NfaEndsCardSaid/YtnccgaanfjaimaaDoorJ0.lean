/- Texts A, B, C, D, E, F, G, one behind the other. -/
import Derived.Test.YtnccgaanfjaimaaDoorRows
import Derived.WalkKit
import Derived.ProofKit
import Derived.OpenShut
import Derived.Handy
import Derived.Outline
import Derived.Lib.Hide
import Derived.Below
import Derived.Lib.Small
import Derived.RegionTactic
import Derived.LoopTactic
import Derived.StillTailTactics
import Derived.Deep.RegionHeld3
import Derived.Deep.RegionWith
import Derived.Sort.Grow
import Derived.Deep.Draws
import Derived.RangeFuncNested
import Derived.RangeFuncLeaves
import Derived.RangeFuncBox
import Derived.Shelf.Abstract
import Derived.OwnWalkIn
import Derived.TacticsInMore
import Derived.LoopNIn
import Derived.LoopIn
import Derived.Maps.AppendAt
import Derived.Maps.OwnIn
import Derived.Deep.CutRange
import Derived.Deep.CutBlock
import Derived.Sort.CutIn
import Derived.RangeFuncCalls
import Derived.Deep.Cut
import Derived.BigQuiet
set_option linter.unusedSimpArgs false
set_option linter.unusedVariables false
namespace Go.Proofs.YtnccgaanfjaimaaDoor
open Go.ChangeShapes Go.WideShapes Go.ChangeAt Go.RowKit
set_option linter.unusedVariables false
set_option linter.unusedSimpArgs false

theorem ret_bool {a b : Bool} (h : a = b) : Ending.returned (.bool a) = .returned (.bool b) := by rw [h]
theorem ret_int {a b : Int} (h : a = b) : Ending.returned (.int .i64 a) = .returned (.int .i64 b) := by rw [h]
instance : DecidableEq ByteArray := fun a b => decidable_of_iff (a.data = b.data) ⟨fun h => ByteArray.ext h, fun h => congrArg _ h⟩

/-- blocks more, answers drawn -/
def Gr (w w' : World) : Prop := ∃ q os, w' = Sort.grow (w.drewN q) os
theorem Gr.refl (w : World) : Gr w w := ⟨0, #[], by rw [Sort.grow_empty]; rfl⟩
theorem Gr.trans {a b c : World} (h : Gr a b) (k : Gr b c) : Gr a c := by
 obtain ⟨q, os, rfl⟩ := h
 obtain ⟨q', os', rfl⟩ := k
 exact ⟨q + q', os ++ os', by simp [Sort.grow, World.drewN, Nat.add_assoc]⟩
theorem Gr.below {w w' : World} (h : Gr w w') : Below w.heap.size w w' := by
 obtain ⟨q, os, rfl⟩ := h
 exact ⟨rfl, rfl, rfl, by simp [Sort.grow, World.drewN], fun k hk => by simp only [Sort.grow, World.drewN]; exact Array.getElem?_append_left hk⟩
theorem Gr.alloc {a b : World} (h : Gr a b) (o : Obj) : Gr a (b.alloc o) := h.trans ⟨0, #[o], by rw [Sort.alloc_eq_grow]; rfl⟩
theorem Gr.drew {a b : World} (h : Gr a b) : Gr a b.drew := h.trans ⟨1, #[], by rw [Sort.grow_empty]; rfl⟩

/-- an expression: its kind, its label, its kids -/
inductive X where
 | mk (kind : Int) (lab : ByteArray) (kids : List X)
def X.kind : X → Int | .mk k _ _ => k
def X.lab : X → ByteArray | .mk _ l _ => l
def X.kids : X → List X | .mk _ _ ks => ks
theorem X.ind {P : X → Prop} (h : ∀ k l ks, (∀ x ∈ ks, P x) → P (.mk k l ks)) (x : X) : P x :=
 X.rec (motive_1 := P) (motive_2 := fun ks => ∀ x ∈ ks, P x) (fun k l ks ih => h k l ks ih) (fun x hx => by cases hx)
  (fun x xs h1 h2 y hy => by rcases List.mem_cons.1 hy with rfl | hy; exact h1; exact h2 y hy) x
theorem X.ind' {P : X → Prop} (h : ∀ x, (∀ y ∈ x.kids, P y) → P x) (x : X) : P x := X.ind (fun k l ks ih => h _ ih) x
theorem X.ext' {x y : X} (h1 : x.kind = y.kind) (h2 : x.lab = y.lab) (h3 : x.kids = y.kids) : x = y := by
 cases x; cases y
 simp only [X.kind, X.lab, X.kids] at h1 h2 h3
 rw [h1, h2, h3]

mutual
/-- the parts, each ahead of its kids -/
def X.parts : X → List X
 | .mk k l ks => .mk k l ks :: partsL ks
def partsL : List X → List X
 | [] => []
 | x :: xs => x.parts ++ partsL xs
end
def X.sz (x : X) : Nat := x.parts.length
def szL (xs : List X) : Nat := (partsL xs).length
theorem X.parts_eq (x : X) : x.parts = x :: partsL x.kids := by cases x; simp [X.parts, X.kids]
theorem partsL_nil : partsL [] = [] := by simp [partsL]
theorem partsL_cons (x : X) (xs : List X) : partsL (x :: xs) = x.parts ++ partsL xs := by simp [partsL]
theorem X.sz_eq (x : X) : x.sz = 1 + szL x.kids := by unfold X.sz szL; rw [X.parts_eq]; simp; omega
theorem szL_nil : szL [] = 0 := by simp [szL, partsL]
theorem szL_cons (x : X) (xs : List X) : szL (x :: xs) = x.sz + szL xs := by simp [szL, partsL, X.sz]
theorem X.sz_pos (x : X) : 0 < x.sz := by rw [X.sz_eq]; omega
theorem len_szL : ∀ xs : List X, xs.length ≤ szL xs
 | [] => by simp
 | x :: xs => by have := len_szL xs; have := x.sz_pos; rw [szL_cons]; simp; omega
theorem szL_mem : ∀ {xs : List X} {x : X}, x ∈ xs → x.sz ≤ szL xs
 | y :: ys, x, h => by
  rw [szL_cons]
  rcases List.mem_cons.1 h with rfl | h
  ·omega
  ·have := szL_mem h; omega
theorem szL_app (xs ys : List X) : szL (xs ++ ys) = szL xs + szL ys := by
 induction xs with
 | nil => simp [szL_nil]
 | cons x xs ih => rw [List.cons_append, szL_cons, szL_cons, ih]; omega
theorem szL_drop (xs : List X) (k : Nat) : szL (xs.drop k) ≤ szL xs := by
 have := szL_app (xs.take k) (xs.drop k)
 rw [List.take_append_drop] at this
 omega

theorem block_add (a : Addr) (n : Nat) : (a.add n).block = a.block := by unfold Addr.add; split <;> rfl
theorem add_of_add (a : Addr) (i j : Nat) : (a.add i).add j = a.add (i + j) := by
 unfold Addr.add
 by_cases hi : i = 0 <;> by_cases hj : j = 0 <;> simp [hi, hj, Nat.add_assoc]
theorem add_off (a : Addr) {k j : Nat} (hj : 0 < j) : a.add (k + j) = ⟨(a.add k).block, (a.add k).off + j, none⟩ := by
 rw [← add_of_add]
 obtain ⟨B, o, s⟩ := a.add k
 unfold Addr.add
 split
 ·rename_i h0
  omega
 ·simp

/-- the slice v holds just the expressions of l; all lies in blocks below B -/
inductive XR (B : Nat) (w : World) : Value → List X → Prop where
 | mk (A : Option Addr) (c : Nat) (l : List X) (ad : Addr) (K : Nat → Value) (hc : l.length ≤ c) (hA : 0 < l.length → A = some ad ∧ ad.block < B)
  (h0 : ∀ i (h : i < l.length), w.cell? (ad.add (i * 3)) = some (.int .i64 l[i].kind)) (h1 : ∀ i (h : i < l.length), w.cell? (ad.add (i * 3 + 1)) = some (.string l[i].lab))
  (h2 : ∀ i (h : i < l.length), w.cell? (ad.add (i * 3 + 2)) = some (K i)) (hk : ∀ i (h : i < l.length), XR B w (K i) l[i].kids) : XR B w (.slice A l.length c) l

theorem XR.bel {B : Nat} {w w' : World} {v : Value} {l : List X} (h : XR B w v l) (hb : Below B w w') : XR B w' v l := by
 induction h with
 | mk A c l ad K hlc hA h0 h1 h2 hk ih =>
  have hcl : ∀ i, i < l.length → ∀ j, w'.cell? (ad.add j) = w.cell? (ad.add j) := fun i hi j => World.cell?_of_block (a := ad.add j) (by rw [block_add]; exact hb.block _ (hA (by omega)).2)
  exact .mk A c l ad K hlc hA (fun i h => (hcl i h _).trans (h0 i h)) (fun i h => (hcl i h _).trans (h1 i h)) (fun i h => (hcl i h _).trans (h2 i h)) ih
theorem XR.mono {B B' : Nat} {w : World} {v : Value} {l : List X} (h : XR B w v l) (hB : B ≤ B') : XR B' w v l := by
 induction h with
 | mk A c l ad K hlc hA h0 h1 h2 hk ih => exact .mk A c l ad K hlc (fun h => ⟨(hA h).1, Nat.lt_of_lt_of_le (hA h).2 hB⟩) h0 h1 h2 ih
theorem XR.nil (B : Nat) (w : World) (A : Option Addr) (c : Nat) : XR B w (.slice A 0 c) [] := .mk A c [] ⟨0, 0, none⟩ (fun _ => .bool false) (Nat.zero_le _) (fun h => absurd h (by simp)) (fun i h => absurd h (by simp)) (fun i h => absurd h (by simp)) (fun i h => absurd h (by simp)) (fun i h => absurd h (by simp))
theorem XR.form {B : Nat} {w : World} {v : Value} {l : List X} (h : XR B w v l) : ∃ A c, v = .slice A l.length c := by
 cases h with
 | mk A c l ad K hlc hA h0 h1 h2 hk => exact ⟨A, c, rfl⟩

/-- the value v is the expression x -/
def XV (B : Nat) (w : World) (v : Value) (x : X) : Prop := ∃ kv, v = .agg #[.int .i64 x.kind, .string x.lab, kv] ∧ XR B w kv x.kids
theorem XV.bel {B : Nat} {w w' : World} {v : Value} {x : X} (h : XV B w v x) (hb : Below B w w') : XV B w' v x := by
 obtain ⟨kv, rfl, h⟩ := h
 exact ⟨kv, rfl, h.bel hb⟩
theorem XV.mono {B B' : Nat} {w : World} {v : Value} {x : X} (h : XV B w v x) (hB : B ≤ B') : XV B' w v x := by
 obtain ⟨kv, rfl, h⟩ := h
 exact ⟨kv, rfl, h.mono hB⟩

/-- a kid of the row, as the walk reads it -/
theorem XR.at3 {B : Nat} {w : World} {A : Option Addr} {n c : Nat} {l : List X} (h : XR B w (.slice A n c) l) {k : Nat} (hk : k < l.length) :
  ∃ ad kv, A = some ad ∧ ad.block < B ∧ w.cell? (ad.add (k * 3)) = some (.int .i64 l[k].kind) ∧ w.cell? ⟨(ad.add (k * 3)).block, (ad.add (k * 3)).off + 1, none⟩ = some (.string l[k].lab) ∧ w.cell? ⟨(ad.add (k * 3)).block, (ad.add (k * 3)).off + 2, none⟩ = some kv ∧ XR B w kv l[k].kids := by
 cases h with
 | mk A c l ad K hlc hA h0 h1 h2 hx =>
  obtain ⟨e, hb⟩ := hA (by omega)
  refine ⟨ad, K k, e, hb, h0 k hk, ?_, ?_, hx k hk⟩
  ·rw [← add_off ad (by omega)]; exact h1 k hk
  ·rw [← add_off ad (by omega)]; exact h2 k hk
theorem XR.len {B : Nat} {w : World} {A : Option Addr} {n c : Nat} {l : List X} (h : XR B w (.slice A n c) l) : n = l.length := by
 cases h with
 | mk A c l ad K hlc hA h0 h1 h2 hx => rfl
theorem XR.cap {B : Nat} {w : World} {A : Option Addr} {n c : Nat} {l : List X} (h : XR B w (.slice A n c) l) : n ≤ c := by
 cases h with
 | mk A c l ad K hlc hA h0 h1 h2 hx => exact hlc
theorem XR.nilrow {B : Nat} {w : World} {v : Value} (h : XR B w v []) : ∃ A c, v = .slice A 0 c := by
 obtain ⟨A, c, e⟩ := h.form
 exact ⟨A, c, e⟩

/-- how many parts, as far as 301 -/
def capS (f : X → Nat) : List X → Nat → Nat
 | [], n => n
 | x :: xs, n => if n ≤ 300 then capS f xs (n + f x) else n
def szD : Nat → X → Nat
 | 0, _ => 301
 | d + 1, x => capS (szD d) x.kids 1
theorem capS_le {f : X → Nat} {M : Nat} (hf : ∀ x, f x ≤ M) : ∀ (xs : List X) (n : Nat), n ≤ 300 + M → capS f xs n ≤ 300 + M
 | [], n, h => h
 | x :: xs, n, h => by
  unfold capS
  split
  ·exact capS_le hf xs _ (by have := hf x; omega)
  ·exact h
theorem szD_le : ∀ (d : Nat) (x : X), szD d x ≤ 301 + 300 * d
 | 0, x => by simp [szD]
 | d + 1, x => by
  have := capS_le (szD_le d) x.kids 1 (by omega)
  unfold szD
  omega
theorem capS_eq {f : X → Nat} : ∀ (xs : List X) (n : Nat), (∀ x ∈ xs, f x ≤ 300 → f x = x.sz) → capS f xs n ≤ 300 → capS f xs n = n + szL xs
 | [], n, hf, h => by simp [capS, szL_nil]
 | x :: xs, n, hf, h => by
  unfold capS at h ⊢
  split at h
  ·rename_i hn
   rw [if_pos hn]
   have h1 := capS_eq xs _ (fun y hy => hf y (List.mem_cons_of_mem _ hy)) h
   have h2 := hf x (by simp) (by omega)
   rw [h1, h2, szL_cons]
   omega
  ·omega
theorem szD_eq : ∀ (d : Nat) (x : X), szD d x ≤ 300 → szD d x = x.sz
 | 0, x, h => by simp [szD] at h
 | d + 1, x, h => by
  unfold szD at h ⊢
  rw [capS_eq _ _ (fun y _ hy => szD_eq d y hy) h, X.sz_eq]
theorem capS_ge {f : X → Nat} : ∀ (xs : List X) (n : Nat), n ≤ capS f xs n
 | [], n => Nat.le_refl _
 | x :: xs, n => by
  unfold capS
  split
  ·exact Nat.le_trans (Nat.le_add_right _ _) (capS_ge xs _)
  ·exact Nat.le_refl _

/-- are they too great? -/
def gsum : List X → Nat → Nat := capS (szD 61)
theorem gsum_le (xs : List X) : gsum xs 0 ≤ 20000 := by
 have := capS_le (f := szD 61) (M := 301 + 300 * 61) (szD_le 61) xs 0 (by omega)
 unfold gsum
 omega
theorem gsum_eq {xs : List X} (h : gsum xs 0 ≤ 300) : szL xs ≤ 300 := by
 have := capS_eq (f := szD 61) xs 0 (fun x _ => szD_eq 61 x) h
 unfold gsum at h
 omega
/-- short names of rules by which what a step writes is read -/
theorem z1 {α : Type} {xs : List α} {i : Nat} (h : i < xs.toArray.size) : xs.toArray[i] = xs[i]'(by simpa using h) := List.getElem_toArray h
theorem z2 {α : Type} {a : α} {ts : List α} {h : 0 < (a :: ts).length} : (a :: ts)[0] = a := rfl
theorem z3 {α : Type} {a : α} {ts : List α} {i : Nat} {h : i + 1 < (a :: ts).length} : (a :: ts)[i + 1] = ts[i]'(Nat.lt_of_succ_lt_succ h) := rfl
theorem z4 {α : Type} (l : List α) (i : Nat) (a : α) : l.toArray.setIfInBounds i a = (l.set i a).toArray := List.setIfInBounds_toArray l i a
theorem z5 {α : Type} {a b : α} {ts : List α} : (a :: ts).set 0 b = b :: ts := rfl
theorem z6 {α : Type} {a b : α} {ts : List α} {n : Nat} : (a :: ts).set (n + 1) b = a :: ts.set n b := rfl
/-- an operation is taken first: it yields a value, or is not wanted -/
theorem tkI {P : Program} {md : Region.Mode} {ops : Array Oper} {Q : Exit → Act → World → Prop} {S : World → Prop} {i : Nat} {oi : Oper} {v : Value} {fuel : Nat} {listed : Array Bool} {a : Act} {w : World} (hi : ops[i]? = some oi)
  (hy : Region.wanted oi (yielded ops a.tmps) = true ∧ ∀ w, S w → (execOp a.eval oi).run P w = .ok (.value v) w) (hS : S w)
  (h : wpAnyH P md ops Q S fuel (listed.setIfInBounds i true) (a.put oi.dst v) w)
  (hs : Region.noSelect ops = true := by kernel_rfl) (hf : Region.free md ops listed i = true := by kernel_rfl) (hr : (Region.ready md ops listed).contains i = true := by kernel_rfl)
  (hQ : ∀ c a w, Q (.panic c) (a.put oi.dst v) w → Q (.panic c) a w := by exact fun _ _ _ h => (h : False).elim) : wpAnyH P md ops Q S (fuel + 1) listed a w :=
 wpAnyH_take hi hs hf hr hQ (.inl hy) hS h
theorem tkU {P : Program} {md : Region.Mode} {ops : Array Oper} {Q : Exit → Act → World → Prop} {S : World → Prop} {i : Nat} {oi : Oper} {fuel : Nat} {listed : Array Bool} {a : Act} {w : World} (hi : ops[i]? = some oi)
  (hy : Region.wanted oi (yielded ops a.tmps) = false) (hS : S w)
  (h : wpAnyH P md ops Q S fuel (listed.setIfInBounds i true) (a.put oi.dst undef) w)
  (hs : Region.noSelect ops = true := by kernel_rfl) (hf : Region.free md ops listed i = true := by kernel_rfl) (hr : (Region.ready md ops listed).contains i = true := by kernel_rfl)
  (hQ : ∀ c a w, Q (.panic c) (a.put oi.dst undef) w → Q (.panic c) a w := by exact fun _ _ _ h => (h : False).elim) : wpAnyH P md ops Q S (fuel + 1) listed a w :=
 wpAnyH_take hi hs hf hr hQ (.inr ⟨hy, rfl⟩) hS h
end Go.Proofs.YtnccgaanfjaimaaDoor

namespace Go.Proofs.YtnccgaanfjaimaaDoor
open Go.ChangeShapes Go.WideShapes Go.ChangeAt Go.RowKit
set_option linter.unusedVariables false
set_option linter.unusedSimpArgs false

theorem box_cells {w W : World} {a b c : Value} (hb : Below (w.heap.size + 1) (w.alloc (.cells #[a, b, c] 25)) W) :
  W.cell? ⟨w.heap.size, 0, none⟩ = some a ∧ W.cell? ⟨w.heap.size, 1, none⟩ = some b ∧ W.cell? ⟨w.heap.size, 2, none⟩ = some c := by
 have h : W.heap[w.heap.size]? = some (.cells #[a, b, c] 25 (0, 0)) := (hb.block _ (by omega)).trans (World.alloc_heap_new w _)
 refine ⟨?_, ?_, ?_⟩ <;> simp [World.cell?, h]

theorem capS_step {f : X → Nat} {ks : List X} {k n : Nat} (hk : k < ks.length) (hn : n ≤ 300) : capS f (ks.drop k) n = capS f (ks.drop (k + 1)) (n + f ks[k]) := by
 rw [List.drop_eq_getElem_cons hk]
 conv => lhs; unfold capS
 rw [if_pos hn]
theorem capS_stop {f : X → Nat} (xs : List X) {n : Nat} (hn : ¬ n ≤ 300) : capS f xs n = n := by
 cases xs with
 | nil => rfl
 | cons x xs => unfold capS; rw [if_neg hn]

theorem szD_pos : ∀ (d : Nat) (x : X), 1 ≤ szD d x
 | 0, x => by simp [szD]
 | d + 1, x => by unfold szD; exact capS_ge _ _

set_option maxHeartbeats 2000000 in
theorem size_any : ∀ (d : Nat) (x : X) (B : Nat) (w : World) (v : Value) (hx : XV B w v x) (hB : B ≤ w.heap.size) (hd : d ≤ 61),
  Calls Tryd.prog 8 #[v, .int .i64 ((61 - d : Nat) : Int)] w fun e w' => e = .returned (.int .i64 (szD d x)) ∧ Gr w w' := by
 intro d
 induction d with
 | zero =>
  intro x B w v hx hB hd
  obtain ⟨kv, rfl, h⟩ := hx
  go_enter Tryd.func8, Tryd.ntmps8
  go_wp2_with fail
  go_ret
  exact ⟨rfl, (Gr.refl _).alloc _⟩
 | succ d ih =>
  intro x B w v hx hB hd
  obtain ⟨kv, rfl, h⟩ := hx
  obtain ⟨A, c, rfl⟩ := h.form
  have HX := Lib.hid h
  have HL := Lib.hid h.len
  clear h
  have hdeep : ¬ (60 : Int) < ((61 - (d + 1) : Nat) : Int) := by omega
  have hdp : ((61 - (d + 1) : Nat) : Int) + 1 = ((61 - d : Nat) : Int) := by omega
  generalize ((61 - (d + 1) : Nat) : Int) = dp at *
  obtain ⟨n, hN⟩ : ∃ n, x.kids.length = n := ⟨_, rfl⟩
  rw [hN]
  have HN := Lib.hid hN
  rw [hN] at HX HL
  clear hN
  have HIH := Lib.hid ih
  clear ih
  go_enter Tryd.func8, Tryd.ntmps8
  go_wp2_with fail
  go_loopw [5, 6] (fun m i wr => ∃ (k q : Nat), k ≤ n ∧ k < q ∧ m = .int .i64 q ∧ i = .int .i64 k ∧ q ≤ 300 + (301 + 300 * d) ∧ capS (szD d) (x.kids.drop k) q = capS (szD d) x.kids 1 ∧ Gr (w.alloc (.cells #[.int .i64 x.kind, .string x.lab, .slice A n c] 25)) wr) (fun _ i _ => n - (intOf i).toNat)
  case atStart => exact ⟨0, 1, Nat.zero_le _, by omega, rfl, rfl, by omega, by simp, Gr.refl _⟩
  case round =>
   obtain ⟨k, q, hk, hkq, rfl, rfl, hq, hs, hb⟩ := hrel
   have HS := Lib.hid hs
   have HB := Lib.hid hb
   have hbl := hb.below
   rw [World.size_alloc] at hbl
   obtain ⟨-, -, c2⟩ := box_cells hbl
   clear hs hb hbl
   by_cases hlt : k < n
   ·by_cases hq3 : q ≤ 300
    ·have e1 : k < x.kids.length := by have := HN.out; omega
     have hBw : Below B w wr := (((Below.refl _ w).alloc hB _).trans (HB.out.below.mono (by simp; omega)))
     obtain ⟨ad, k3, f1, _, q0, q1, q2, q3⟩ := XR.at3 (HX.out.bel hBw) e1
     subst f1
     have hxv : XV B wr (.agg #[.int .i64 x.kids[k].kind, .string x.kids[k].lab, k3]) x.kids[k] := ⟨k3, rfl, q3⟩
     have HXV := Lib.hid hxv
     have hBr : Hid (B ≤ wr.heap.size) := Lib.hid (Nat.le_trans hB hBw.size)
     clear q3 hBw hxv
     have hsd := szD_le d x.kids[k]
     have hsp := szD_pos d x.kids[k]
     go_wp2_with (go_at_call 8; refine (HIH.out _ _ _ _ HXV.out hBr.out (by omega)).mono ?_; rintro e w1 ⟨rfl, hg⟩; have HG := Lib.hid (HB.out.trans hg); clear hg)
     go_roundw
     case rel => exact ⟨k + 1, q + szD d x.kids[k], by omega, by omega, by go_num, by go_num, by omega, by rw [← capS_step e1 hq3]; exact HS.out, HG.out⟩
     case measure => simp [intOf]; omega
    ·go_wp2_with fail
     go_ret
     refine ⟨ret_int ?_, (Gr.refl _ |>.alloc _).trans HB.out⟩
     have := HS.out
     rw [capS_stop _ hq3] at this
     rw [this, szD]
   ·have : k = n := by omega
    subst this
    go_wp2_with fail
    go_ret
    refine ⟨ret_int ?_, (Gr.refl _ |>.alloc _).trans HB.out⟩
    have := HS.out
    rw [List.drop_of_length_le (by have := HN.out; omega)] at this
    rw [szD, ← this]
    simp [capS]
end Go.Proofs.YtnccgaanfjaimaaDoor

namespace Go.Proofs.YtnccgaanfjaimaaDoor
open Go.ChangeShapes Go.WideShapes Go.ChangeAt Go.RowKit
set_option linter.unusedVariables false
set_option linter.unusedSimpArgs false

set_option maxHeartbeats 2000000 in
theorem new3 (w : World) (a b c : Value) (t : TypeId) : (w.alloc (.cells #[a, b, c] t)).cell? ⟨w.heap.size, 0, none⟩ = some a ∧ (w.alloc (.cells #[a, b, c] t)).cell? ⟨w.heap.size, 1, none⟩ = some b ∧ (w.alloc (.cells #[a, b, c] t)).cell? ⟨w.heap.size, 2, none⟩ = some c := by
 have h := World.alloc_heap_new w (.cells #[a, b, c] t)
 refine ⟨?_, ?_, ?_⟩ <;> (simp only [World.cell?]; rw [h]; rfl)

theorem label_any (s : ByteArray) (w : World) : Calls Tryd.prog 35 #[.string s] w fun e w' => e = .returned (.agg #[.int .i64 1, .string s, .slice none 0 0]) ∧ Gr w w' := by
 go_enter Tryd.func35, Tryd.ntmps35
 go_wp2_with fail
 obtain ⟨n0, n1, n2⟩ := new3 w (.int .i64 1) (.string s) (.slice none 0 0) 25
 exact bodyPost_ret (v := .agg #[.int .i64 1, .string s, .slice none 0 0]) (by simp [results, Tryd.results35, go_sem, n0, n1, n2]) rfl ⟨rfl, (Gr.refl _).alloc _⟩

theorem of_any (k : Int) (A : Option Addr) (n c : Nat) (w : World) : Calls Tryd.prog 34 #[.int .i64 k, .slice A n c] w fun e w' => e = .returned (.agg #[.int .i64 k, .string ⟨#[]⟩, .slice A n c]) ∧ Gr w w' := by
 go_enter Tryd.func34, Tryd.ntmps34
 go_wp2_with fail
 obtain ⟨n0, n1, n2⟩ := new3 w (.int .i64 k) (.string ⟨#[]⟩) (.slice A n c) 25
 exact bodyPost_ret (v := .agg #[.int .i64 k, .string ⟨#[]⟩, .slice A n c]) (by simp [results, Tryd.results34, go_sem, n0, n1, n2]) rfl ⟨rfl, (Gr.refl _).alloc _⟩
end Go.Proofs.YtnccgaanfjaimaaDoor

namespace Go.Proofs.YtnccgaanfjaimaaDoor
open Go.ChangeShapes Go.WideShapes Go.ChangeAt Go.RowKit Go.Shelf
set_option linter.unusedVariables false
set_option linter.unusedSimpArgs false

/-- what is no cells, or rows of pairs of rows -/
def Qual (X : World) (r : Nat) : Prop := ∃ o : Obj, X.heap[r]? = some o ∧ (o.isCells = false ∨ ∃ v fr, o = .cells v 122 fr)
/-- at B or above such blocks may have turned; new blocks may be there; nothing else -/
structure Rel (B : Nat) (X Y : World) : Prop where
 os : Y.os = X.os
 tape : Y.tape = X.tape
 output : Y.output = X.output
 size : X.heap.size ≤ Y.heap.size
 block : ∀ k, k < X.heap.size → (k < B ∨ ¬ Qual X k) → Y.heap[k]? = X.heap[k]?
theorem Rel.refl (B : Nat) (X : World) : Rel B X X := ⟨rfl, rfl, rfl, Nat.le_refl _, fun _ _ _ => rfl⟩
theorem Rel.trans {B : Nat} {X Y Z : World} (h : Rel B X Y) (k : Rel B Y Z) : Rel B X Z :=
 ⟨k.os.trans h.os, k.tape.trans h.tape, k.output.trans h.output, Nat.le_trans h.size k.size, fun i hi hp => (k.block i (Nat.lt_of_lt_of_le hi h.size) (hp.imp id fun hn hq => hn (by
  obtain ⟨o, ho, hq⟩ := hq
  exact ⟨o, by rw [← h.block i hi hp]; exact ho, hq⟩))).trans (h.block i hi hp)⟩
theorem Rel.mono {B B' : Nat} {X Y : World} (h : Rel B X Y) (hB : B' ≤ B) : Rel B' X Y := ⟨h.os, h.tape, h.output, h.size, fun k hk hp => h.block k hk (hp.imp (fun h => by omega) id)⟩
theorem Rel.low {B : Nat} {X Y : World} (h : Rel B X Y) {k : Nat} {o : Obj} (hk : k < B) (ho : X.heap[k]? = some o) : Y.heap[k]? = some o := (h.block k (Array.getElem?_eq_some_iff.1 ho).1 (.inl hk)).trans ho
theorem Rel.of_below {B : Nat} {X Y : World} (h : Below X.heap.size X Y) : Rel B X Y := ⟨h.os, h.tape, h.output, h.size, fun k hk _ => h.block k hk⟩
theorem Rel.below {B : Nat} {X Y : World} (h : Rel B X Y) (hB : B ≤ X.heap.size) : Below B X Y := ⟨h.os, h.tape, h.output, h.size, fun k hk => h.block k (by omega) (.inl hk)⟩
theorem Rel.grown {B : Nat} {X Y : World} {row : Option Nat} (h : X.grownBy Y row) (hr : ∀ r, row = some r → B ≤ r ∧ Qual X r) : Rel B X Y :=
 ⟨h.os, h.tape, h.output, h.size, fun k hk hp => h.block k hk fun e => by
  obtain ⟨h1, h2⟩ := hr k e.symm
  rcases hp with hp | hp
  ·omega
  ·exact hp h2⟩
def OwnQ {β : Type} (B : Nat) (I : β → World → Prop) : Prop := ∀ s X Y, I s X → Rel B X Y → I s Y
theorem OwnQ.putObj {β : Type} {B : Nat} {I : β → World → Prop} (h : OwnQ B I) {s : β} {W : World} {l : Nat} {o : Obj} (o' : Obj) (hs : I s W) (hB : B ≤ l) (hl : W.heap[l]? = some o) (ho : o.isCells = false) : I s (W.putObj l o') :=
 h s W _ hs (Rel.grown (grownBy_putObj' W l o') fun r e => by cases e; exact ⟨hB, o, hl, .inl ho⟩)
theorem OwnQ.alloc {β : Type} {B : Nat} {I : β → World → Prop} (h : OwnQ B I) {s : β} {W : World} (o : Obj) (hs : I s W) : I s (W.alloc o) :=
 h s W _ hs (Rel.of_below ((Below.refl _ W).alloc (Nat.le_refl _) o))
theorem OwnQ.and {β : Type} {B : Nat} {I I' : β → World → Prop} (h : OwnQ B I) (h' : OwnQ B I') : OwnQ B (fun s W => I s W ∧ I' s W) := fun s X Y hs hr => ⟨h s X Y hs.1 hr, h' s X Y hs.2 hr⟩
theorem OwnQ.mono {β : Type} {B B' : Nat} {I : β → World → Prop} (h : OwnQ B I) (hB : B ≤ B') : OwnQ B' I := fun s X Y hs hr => h s X Y hs (hr.mono hB)
theorem ownQ_pure {β : Type} (B : Nat) (p : β → Prop) : OwnQ B (fun s (_ : World) => p s) := fun _ _ _ hs _ => hs
theorem ownQ_below {β : Type} {n₀ B : Nat} {w₀ : World} (hn : n₀ ≤ w₀.heap.size) (hB : n₀ ≤ B) : OwnQ B (fun (_ : β) W => Below n₀ w₀ W) := fun _ X Y hs hr => hs.trans ⟨hr.os, hr.tape, hr.output, hr.size, fun k hk => hr.block k (Nat.lt_of_lt_of_le hk (Nat.le_trans hn hs.size)) (.inl (by omega))⟩
theorem ownQ_size {β : Type} (B N : Nat) : OwnQ B (fun (_ : β) W => N ≤ W.heap.size) := fun _ X Y hs hr => Nat.le_trans hs hr.size
theorem not_qual {X : World} {r : Nat} {v : Array Value} {t : TypeId} {fr : Nat × Nat} (h : X.heap[r]? = some (.cells v t fr)) (ht : t ≠ 122) : ¬ Qual X r := by
 rintro ⟨o, ho, hq⟩
 rw [h] at ho
 cases ho
 rcases hq with hq | ⟨v', fr', e⟩
 ·cases hq
 ·injection e with _ e _; exact ht e
theorem Rel.cells {B : Nat} {X Y : World} (h : Rel B X Y) {r : Nat} {v : Array Value} {t : TypeId} {fr : Nat × Nat} (hr : X.heap[r]? = some (.cells v t fr)) (ht : t ≠ 122) : Y.heap[r]? = some (.cells v t fr) :=
 (h.block r (Array.getElem?_eq_some_iff.1 hr).1 (.inr (not_qual hr ht))).trans hr
theorem Rel.row {B : Nat} {X Y : World} (h : Rel B X Y) {base e sz n : Nat} {v : Value} {xs : List Value} (hr : X.ownsRow base e sz v n xs) (he : e ≠ 122) : Y.ownsRow base e sz v n xs := by
 refine ⟨hr.1, ?_⟩
 rcases hr.2 with hn | ⟨g, cap, cur, e1, hbg, hg, rest⟩
 ·exact .inl hn
 ·exact .inr ⟨g, cap, cur, e1, hbg, h.cells hg he, rest⟩

theorem kf_mono {B B' : Nat} {W W' : World} (h : KeepsFrom B W W') (hB : B ≤ B') : KeepsFrom B' W W' := ⟨h.size, fun k o hk => h.same k o (Nat.le_trans hB hk)⟩
theorem kf_low {B : Nat} (W : World) (l : Nat) (o : Obj) (h : l < B) : KeepsFrom B W (W.putObj l o) :=
 ⟨by simp, fun k o' hk hh _ => (World.putObj_heap_other (by omega)).trans hh⟩

/-- an iterator's contract: it tells the row xs, in order; a round keeps what lies apart from cells since the iterator began -/
def SeqX {α : Type} (F : Fence) (n : Nat) (P : Program) (gf : Nat) (lb : Array Value) (encs : α → Array Value) (Kp : World → World → Prop) (xs : List α) (w0 : World) : Prop :=
 ∀ (l : Nat) (J Jx : List α → World → Prop) (W : World), Below w0.heap.size w0 W → OwnQ W.heap.size J → OwnQ W.heap.size Jx →
  (∀ pre x W1, pre ++ [x] <+: xs → W.heap.size ≤ W1.heap.size → J pre W1 → YieldAt F (n - 1) P l (encs x) W1 fun e W' => KeepsFrom W.heap.size W1 W' ∧
   ((e = .returned (.bool true) ∧ J (pre ++ [x]) W' ∧ Kp W1 W') ∨ (e = .returned (.bool false) ∧ Jx (pre ++ [x]) W'))) →
  J [] W → CallsIn F n P gf (#[.func (.yield l) #[] #[]] ++ lb) W fun e W' => (∃ v, e = .returned v) ∧ (J xs W' ∨ ∃ pre, pre <+: xs ∧ Jx pre W')

theorem SeqX.inRound {α : Type} {F : Fence} {n : Nat} {P : Program} {gf : Nat} {lb : Array Value} {encs : α → Array Value} {Kp : World → World → Prop} {xs : List α} {w0 : World} (l : Nat)
  (h : SeqX F n P gf lb encs Kp xs w0) : SeqX (F.inRound l) n P gf lb encs Kp xs w0 := h

/-- how a round's body may be left -/
def xPost {α : Type} (B : Nat) (Kp : World → World → Prop) (I : List α → World → Prop) (Ix : Code → List α → World → Prop) (ys : List α) (W : World) : Exit → Act → World → Prop
 | .normal, _, W' => KeepsFrom B W W' ∧ Kp W W' ∧ I ys W'
 | .ret, _, W' => KeepsFrom B W W' ∧ Ix .ret ys W'
 | .exit id, _, W' => KeepsFrom B W W' ∧ Ix (.exit id) ys W'
 | .goto t, _, W' => KeepsFrom B W W' ∧ Ix (.goto t) ys W'
 | .panic _, _, _ => False
 | .outgrown, _, _ => False

variable {F : Fence} {n : Nat} {P : Program}

theorem wpIn_rangeFunc_X {α : Type} {g : Operand} {ps : Array Tmp} {assign body : Code} {Q : Exit → Act → World → Prop} {a : Act} {w : World}
  (hro : F.round = none) (h1 : 1 ≤ n) {gf : Nat} {lb : Array Value} (hg : a.eval g = .func (.func gf) #[] lb) (hFg : F.fn gf) (eg : ∀ args w, (callFunc gf args).run P w = .ok (.enter gf args) w)
  {encs : α → Array Value} {Kp : World → World → Prop} {xs : List α} {w0 : World} (hseq : SeqX F (n - 1) P gf lb encs Kp xs w0)
  (hKt : ∀ {A B C : World}, Kp A B → Kp B C → Kp A C) (hKb : ∀ (W : World) (l : Nat) (o o' : Obj), w.heap.size ≤ l → W.heap[l]? = some o → o.isCells = false → o.isWalk = false → Kp W (W.putObj l o')) (hb0 : Below w0.heap.size w0 w) (hps : ∀ x, (encs x).size = ps.size)
  (I : List α → World → Prop) (Ix : Code → List α → World → Prop) (hI : OwnQ w.heap.size I) (hIx : ∀ c, OwnQ w.heap.size (Ix c)) (h0 : I [] w) (Ax : α → Act → World → Prop) (hAx : ∀ x a', OwnQ w.heap.size (fun (_ : Unit) W => Ax x a' W))
  (hassign : ∀ (l : Nat) (pre : List α) (x : α) (W : World) (K : Act → World → Prop), I pre W → pre ++ [x] <+: xs → (∀ a' W', KeepsFrom w.heap.size W W' → Kp W W' → I pre W' → Ax x a' W' → K a' W') →
   assign.wpIn (F.inRound l) (n - 1 - 1) P (Exit.then K (fun _ _ _ => False)) { tmps := (ps.zip (encs x)).foldl (fun t (p, v) => t.setIfInBounds p v) a.tmps, defers := [] } W)
  (hbody : ∀ (l : Nat) (pre : List α) (x : α) (a' : Act) (W : World), w.heap.size ≤ l → (∃ r, W.heap[l]? = some (.loop r)) → pre ++ [x] <+: xs → I pre W → Ax x a' W → body.wpIn (F.inRound l) (n - 1 - 1) P (xPost w.heap.size Kp I Ix (pre ++ [x]) W) a' W)
  (hdone : ∀ (D : Nat) (W : World), w.heap.size ≤ D → I xs W → W.heap[D]? = some (.deferred (some [])) → Q .normal { a with defers := { target := .collected D, args := #[] } :: a.defers } W)
  (hstop : ∀ (D : Nat) (c : Code) (pre : List α) (W : World), w.heap.size ≤ D → pre <+: xs → Ix c pre W → W.heap[D]? = some (.deferred (some [])) → c.wpIn F n P Q { a with defers := { target := .collected D, args := #[] } :: a.defers } W) :
  (Code.rangeFunc g ps assign body).wpIn F n P Q a w := by
 refine wpIn_rangeFunc ?_
 intro fn hfn
 rw [hro]
 obtain ⟨rec, hrec⟩ : ∃ rec : LoopState → Option Code → Loop, rec = fun st pe => { state := st, pending := pe, fn, tmps := a.tmps, params := ps, assign, body, defers := w.heap.size } := ⟨_, rfl⟩
 obtain ⟨W1, hW1⟩ : ∃ W1, (w.alloc (.deferred (some []))).alloc (.loop (rec .ready none)) = W1 := ⟨_, rfl⟩
 have hL1 : W1.heap[w.heap.size + 1]? = some (.loop (rec .ready none)) := by
  rw [← hW1]; have := World.alloc_heap_new (w.alloc (.deferred (some []))) (.loop (rec .ready none)); rwa [World.size_alloc] at this
 have hK1 : W1.heap[w.heap.size]? = some (.deferred (some [])) := by
  rw [← hW1]; exact (Below.heap_alloc _ _ _ (by simp)).trans (World.alloc_heap_new w _)
 have hI1 : I [] W1 := by rw [← hW1]; exact hI.alloc _ (hI.alloc _ h0)
 have hs1 : W1.heap.size = w.heap.size + 2 := by rw [← hW1]; simp
 have hb1 : Below w0.heap.size w0 W1 := by
  rw [← hW1]; exact hb0.trans ((((Below.refl _ w).alloc (Nat.le_refl _) _).alloc (by simp) _).mono hb0.size)
 refine ⟨w.heap.size + 1, [{ target := .collected w.heap.size, args := #[] }], W1, { target := .fn (.func gf) lb, args := #[.func (.yield (w.heap.size + 1)) #[] #[]] }, W1, gf,
  #[.func (.yield (w.heap.size + 1)) #[] #[]] ++ lb, W1, ?_, ?_, ?_, ?_, fun _ => h1, ?_⟩
 ·rw [← hW1, hrec]; exact run_enterLoop_outer _ _ _ _ _
 ·simp only [resolve, hg]
  simp [go_sem]
 ·intro f' hf'; simp [Target.leads] at hf'; subst hf'; exact hFg
 ·simp [invoke, go_sem, eg]
 ·refine (hseq (w.heap.size + 1)
   (fun pre W => I pre W ∧ W.heap[w.heap.size + 1]? = some (.loop (rec .ready none)) ∧ W.heap[w.heap.size]? = some (.deferred (some [])))
   (fun pre W => ∃ c, Ix c pre W ∧ W.heap[w.heap.size + 1]? = some (.loop (rec .done (some c))) ∧ W.heap[w.heap.size]? = some (.deferred (some [])))
   W1 hb1 ?_ ?_ ?_ ⟨hI1, hL1, hK1⟩).mono ?_
  ·rintro pre A B ⟨hi, hl, hk⟩ hr
   exact ⟨hI pre A B hi (hr.mono (by omega)), hr.low (by omega) hl, hr.low (by omega) hk⟩
  ·rintro pre A B ⟨c, hi, hl, hk⟩ hr
   exact ⟨c, hIx c pre A B hi (hr.mono (by omega)), hr.low (by omega) hl, hr.low (by omega) hk⟩
  ·rintro pre x W hpx hsz ⟨hi0, hl, hk⟩
   have hlt : w.heap.size + 1 < W.heap.size := (Array.getElem?_eq_some_iff.1 hl).1
   have hy := run_yield (P := P) (args := encs x) hl (by rw [hrec]; exact hps x)
   rw [hrec] at hy
   refine ⟨fn, _, assign, body, hy, roundIn_of_wpIn hfn (hassign _ pre x W _ hi0 hpx ?_)⟩
   clear hy
   intro a' Wa hkfa hkpa hia hax
   have hla := hkfa.same _ _ (by omega) hl rfl
   have hka := hkfa.same _ _ (Nat.le_refl _) hk rfl
   have hlta : w.heap.size + 1 < Wa.heap.size := (Array.getElem?_eq_some_iff.1 hla).1
   refine ⟨_, run_beginRound hla (by rw [hrec]), ?_⟩
   obtain ⟨Wb, hWb⟩ : ∃ Wb, Wa.putObj (w.heap.size + 1) (.loop { rec .ready none with state := .busy }) = Wb := ⟨_, rfl⟩
   have hl2 : Wb.heap[w.heap.size + 1]? = some (.loop { rec .ready none with state := .busy }) := by rw [← hWb]; exact World.putObj_heap_same hlta
   have hk2 : Wb.heap[w.heap.size]? = some (.deferred (some [])) := by rw [← hWb]; exact (World.putObj_heap_other (by omega)).trans hka
   have hib : I pre Wb := by rw [← hWb]; exact hI.putObj _ hia (by omega) hla rfl
   have hab : Ax x a' Wb := by rw [← hWb]; exact (hAx x a').putObj (s := ()) _ hax (by omega) hla rfl
   have hkb : Kp W Wb := hKt hkpa (by rw [← hWb]; exact hKb _ _ _ _ (by omega) hla rfl rfl)
   have hfb : KeepsFrom (w.heap.size + 2) W Wb := (kf_mono hkfa (by omega)).trans (by rw [← hWb]; exact kf_low _ _ _ (by omega))
   rw [hWb]
   refine wpIn_mono (hbody _ pre x a' _ (by omega) ⟨_, hl2⟩ hpx hib hab) ?_
   have fin : ∀ (jump : Option Code) (W3 : World), KeepsFrom w.heap.size Wb W3 →
     (Instr.endRound (w.heap.size + 1) jump).run P W3 = .ok (.bool jump.isNone) (W3.putObj (w.heap.size + 1) (.loop (rec (if jump.isNone then .ready else .done) jump))) ∧
     W3.heap[w.heap.size + 1]? = some (.loop { rec .ready none with state := .busy }) ∧
     (W3.putObj (w.heap.size + 1) (.loop (rec (if jump.isNone then .ready else .done) jump))).heap[w.heap.size + 1]? = some (.loop (rec (if jump.isNone then .ready else .done) jump)) ∧
     (W3.putObj (w.heap.size + 1) (.loop (rec (if jump.isNone then .ready else .done) jump))).heap[w.heap.size]? = some (.deferred (some [])) ∧
     KeepsFrom (w.heap.size + 2) W (W3.putObj (w.heap.size + 1) (.loop (rec (if jump.isNone then .ready else .done) jump))) := fun jump W3 hk3 => by
    have hl3 := hk3.same _ _ (by omega) hl2 rfl
    have := run_endRound (P := P) jump hl3
    rw [hrec] at this ⊢
    exact ⟨this, by rw [hrec] at hl3; exact hl3, World.putObj_heap_same (Array.getElem?_eq_some_iff.1 hl3).1, (World.putObj_heap_other (by omega)).trans (hk3.same _ _ (Nat.le_refl _) hk2 rfl),
     (hfb.trans (kf_mono hk3 (by omega))).trans (kf_low _ _ _ (by omega))⟩
   rw [hs1]
   rintro e a3 W3 hp
   cases e with
   | normal =>
    obtain ⟨hk3, hkp3, hi3⟩ := hp
    obtain ⟨hr, hl3, hl4, hk4, hf4⟩ := fin none W3 hk3
    exact ⟨_, _, hr, hf4, .inl ⟨rfl, ⟨hI.putObj _ hi3 (by omega) hl3 rfl, hl4, hk4⟩, hKt (hKt hkb hkp3) (hKb _ _ _ _ (by omega) hl3 rfl rfl)⟩⟩
   | ret =>
    obtain ⟨hk3, hi3⟩ := hp
    obtain ⟨hr, hl3, hl4, hk4, hf4⟩ := fin (some .ret) W3 hk3
    exact ⟨_, _, hr, hf4, .inr ⟨rfl, .ret, (hIx _).putObj _ hi3 (by omega) hl3 rfl, hl4, hk4⟩⟩
   | exit id =>
    obtain ⟨hk3, hi3⟩ := hp
    obtain ⟨hr, hl3, hl4, hk4, hf4⟩ := fin (some (.exit id)) W3 hk3
    exact ⟨_, _, hr, hf4, .inr ⟨rfl, .exit id, (hIx _).putObj _ hi3 (by omega) hl3 rfl, hl4, hk4⟩⟩
   | goto t =>
    obtain ⟨hk3, hi3⟩ := hp
    obtain ⟨hr, hl3, hl4, hk4, hf4⟩ := fin (some (.goto t)) W3 hk3
    exact ⟨_, _, hr, hf4, .inr ⟨rfl, .goto t, (hIx _).putObj _ hi3 (by omega) hl3 rfl, hl4, hk4⟩⟩
   | panic ch => exact hp.elim
   | outgrown => exact hp.elim
  ·rintro e W2 ⟨⟨v, rfl⟩, (⟨hi, hl, hk⟩ | ⟨pre, hpre, c, hi, hl, hk⟩)⟩
   ·exact ⟨none, _, by have := run_endLoop (P := P) hl (by rw [hrec]; simp); rw [hrec] at this; exact this, hdone _ _ (Nat.le_refl _) (hI.putObj _ hi (by omega) hl rfl) ((World.putObj_heap_other (by omega)).trans hk)⟩
   ·exact ⟨some c, _, by have := run_endLoop (P := P) hl (by rw [hrec]; simp); rw [hrec] at this; exact this, hstop _ c pre _ (Nat.le_refl _) hpre ((hIx c).putObj _ hi (by omega) hl rfl) ((World.putObj_heap_other (by omega)).trans hk)⟩

/-- .. within a round of loop l₀ -/
theorem wpIn_rangeFunc_XN {α : Type} {g : Operand} {ps : Array Tmp} {assign body : Code} {Q : Exit → Act → World → Prop} {a : Act} {w : World}
  {l₀ : Nat} {r₀ : Loop} (hro : F.round = some l₀) (hl₀ : w.heap[l₀]? = some (.loop r₀)) (h1 : 1 ≤ n) {gf : Nat} {lb : Array Value} (hg : a.eval g = .func (.func gf) #[] lb) (hFg : F.fn gf) (eg : ∀ args w, (callFunc gf args).run P w = .ok (.enter gf args) w)
  {encs : α → Array Value} {Kp : World → World → Prop} {xs : List α} {w0 : World} (hseq : SeqX F (n - 1) P gf lb encs Kp xs w0)
  (hKt : ∀ {A B C : World}, Kp A B → Kp B C → Kp A C) (hKb : ∀ (W : World) (l : Nat) (o o' : Obj), w.heap.size ≤ l → W.heap[l]? = some o → o.isCells = false → o.isWalk = false → Kp W (W.putObj l o')) (hb0 : Below w0.heap.size w0 w) (hps : ∀ x, (encs x).size = ps.size)
  (I : List α → World → Prop) (Ix : Code → List α → World → Prop) (hI : OwnQ w.heap.size I) (hIx : ∀ c, OwnQ w.heap.size (Ix c)) (h0 : I [] w) (Ax : α → Act → World → Prop) (hAx : ∀ x a', OwnQ w.heap.size (fun (_ : Unit) W => Ax x a' W))
  (hassign : ∀ (l : Nat) (pre : List α) (x : α) (W : World) (K : Act → World → Prop), I pre W → pre ++ [x] <+: xs → (∀ a' W', KeepsFrom w.heap.size W W' → Kp W W' → I pre W' → Ax x a' W' → K a' W') →
   assign.wpIn (F.inRound l) (n - 1 - 1) P (Exit.then K (fun _ _ _ => False)) { tmps := (ps.zip (encs x)).foldl (fun t (p, v) => t.setIfInBounds p v) a.tmps, defers := [] } W)
  (hbody : ∀ (l : Nat) (pre : List α) (x : α) (a' : Act) (W : World), w.heap.size ≤ l → (∃ r, W.heap[l]? = some (.loop r)) → pre ++ [x] <+: xs → I pre W → Ax x a' W → body.wpIn (F.inRound l) (n - 1 - 1) P (xPost w.heap.size Kp I Ix (pre ++ [x]) W) a' W)
  (hdone : ∀ (W : World), I xs W → Q .normal a W)
  (hstop : ∀ (c : Code) (pre : List α) (W : World), pre <+: xs → Ix c pre W → c.wpIn F n P Q a W) :
  (Code.rangeFunc g ps assign body).wpIn F n P Q a w := by
 refine wpIn_rangeFunc ?_
 intro fn hfn
 rw [hro]
 obtain ⟨rec, hrec⟩ : ∃ rec : LoopState → Option Code → Loop, rec = fun st pe => { state := st, pending := pe, fn, tmps := a.tmps, params := ps, assign, body, defers := r₀.defers } := ⟨_, rfl⟩
 obtain ⟨W1, hW1⟩ : ∃ W1, w.alloc (.loop (rec .ready none)) = W1 := ⟨_, rfl⟩
 have hL1 : W1.heap[w.heap.size]? = some (.loop (rec .ready none)) := by rw [← hW1]; exact World.alloc_heap_new w _
 have hI1 : I [] W1 := by rw [← hW1]; exact hI.alloc _ h0
 have hs1 : W1.heap.size = w.heap.size + 1 := by rw [← hW1]; simp
 have hb1 : Below w0.heap.size w0 W1 := by
  rw [← hW1]; exact hb0.trans (((Below.refl _ w).alloc (Nat.le_refl _) _).mono hb0.size)
 refine ⟨w.heap.size, [], W1, { target := .fn (.func gf) lb, args := #[.func (.yield w.heap.size) #[] #[]] }, W1, gf,
  #[.func (.yield w.heap.size) #[] #[]] ++ lb, W1, ?_, ?_, ?_, ?_, fun _ => h1, ?_⟩
 ·rw [← hW1, hrec]; exact run_enterLoop_inner hl₀ _ _ _ _ _
 ·simp only [resolve, hg]
  simp [go_sem]
 ·intro f' hf'; simp [Target.leads] at hf'; subst hf'; exact hFg
 ·simp [invoke, go_sem, eg]
 ·refine (hseq w.heap.size
   (fun pre W => I pre W ∧ W.heap[w.heap.size]? = some (.loop (rec .ready none)))
   (fun pre W => ∃ c, Ix c pre W ∧ W.heap[w.heap.size]? = some (.loop (rec .done (some c))))
   W1 hb1 ?_ ?_ ?_ ⟨hI1, hL1⟩).mono ?_
  ·rintro pre A B ⟨hi, hl⟩ hr
   exact ⟨hI pre A B hi (hr.mono (by omega)), hr.low (by omega) hl⟩
  ·rintro pre A B ⟨c, hi, hl⟩ hr
   exact ⟨c, hIx c pre A B hi (hr.mono (by omega)), hr.low (by omega) hl⟩
  ·rintro pre x W hpx hsz ⟨hi0, hl⟩
   have hlt : w.heap.size < W.heap.size := (Array.getElem?_eq_some_iff.1 hl).1
   have hy := run_yield (P := P) (args := encs x) hl (by rw [hrec]; exact hps x)
   rw [hrec] at hy
   refine ⟨fn, _, assign, body, hy, roundIn_of_wpIn hfn (hassign _ pre x W _ hi0 hpx ?_)⟩
   clear hy
   intro a' Wa hkfa hkpa hia hax
   have hla := hkfa.same _ _ (Nat.le_refl _) hl rfl
   have hlta : w.heap.size < Wa.heap.size := (Array.getElem?_eq_some_iff.1 hla).1
   refine ⟨_, run_beginRound hla (by rw [hrec]), ?_⟩
   obtain ⟨Wb, hWb⟩ : ∃ Wb, Wa.putObj w.heap.size (.loop { rec .ready none with state := .busy }) = Wb := ⟨_, rfl⟩
   have hl2 : Wb.heap[w.heap.size]? = some (.loop { rec .ready none with state := .busy }) := by rw [← hWb]; exact World.putObj_heap_same hlta
   have hib : I pre Wb := by rw [← hWb]; exact hI.putObj _ hia (by omega) hla rfl
   have hab : Ax x a' Wb := by rw [← hWb]; exact (hAx x a').putObj (s := ()) _ hax (by omega) hla rfl
   have hkb : Kp W Wb := hKt hkpa (by rw [← hWb]; exact hKb _ _ _ _ (by omega) hla rfl rfl)
   have hfb : KeepsFrom (w.heap.size + 1) W Wb := (kf_mono hkfa (by omega)).trans (by rw [← hWb]; exact kf_low _ _ _ (by omega))
   rw [hWb]
   refine wpIn_mono (hbody _ pre x a' _ (by omega) ⟨_, hl2⟩ hpx hib hab) ?_
   have fin : ∀ (jump : Option Code) (W3 : World), KeepsFrom w.heap.size Wb W3 →
     (Instr.endRound w.heap.size jump).run P W3 = .ok (.bool jump.isNone) (W3.putObj w.heap.size (.loop (rec (if jump.isNone then .ready else .done) jump))) ∧
     W3.heap[w.heap.size]? = some (.loop { rec .ready none with state := .busy }) ∧
     (W3.putObj w.heap.size (.loop (rec (if jump.isNone then .ready else .done) jump))).heap[w.heap.size]? = some (.loop (rec (if jump.isNone then .ready else .done) jump)) ∧
     KeepsFrom (w.heap.size + 1) W (W3.putObj w.heap.size (.loop (rec (if jump.isNone then .ready else .done) jump))) := fun jump W3 hk3 => by
    have hl3 := hk3.same _ _ (Nat.le_refl _) hl2 rfl
    have := run_endRound (P := P) jump hl3
    rw [hrec] at this ⊢
    exact ⟨this, by rw [hrec] at hl3; exact hl3, World.putObj_heap_same (Array.getElem?_eq_some_iff.1 hl3).1,
     (hfb.trans (kf_mono hk3 (by omega))).trans (kf_low _ _ _ (by omega))⟩
   rw [hs1]
   rintro e a3 W3 hp
   cases e with
   | normal =>
    obtain ⟨hk3, hkp3, hi3⟩ := hp
    obtain ⟨hr, hl3, hl4, hf4⟩ := fin none W3 hk3
    exact ⟨_, _, hr, hf4, .inl ⟨rfl, ⟨hI.putObj _ hi3 (by omega) hl3 rfl, hl4⟩, hKt (hKt hkb hkp3) (hKb _ _ _ _ (by omega) hl3 rfl rfl)⟩⟩
   | ret =>
    obtain ⟨hk3, hi3⟩ := hp
    obtain ⟨hr, hl3, hl4, hf4⟩ := fin (some .ret) W3 hk3
    exact ⟨_, _, hr, hf4, .inr ⟨rfl, .ret, (hIx _).putObj _ hi3 (by omega) hl3 rfl, hl4⟩⟩
   | exit id =>
    obtain ⟨hk3, hi3⟩ := hp
    obtain ⟨hr, hl3, hl4, hf4⟩ := fin (some (.exit id)) W3 hk3
    exact ⟨_, _, hr, hf4, .inr ⟨rfl, .exit id, (hIx _).putObj _ hi3 (by omega) hl3 rfl, hl4⟩⟩
   | goto t =>
    obtain ⟨hk3, hi3⟩ := hp
    obtain ⟨hr, hl3, hl4, hf4⟩ := fin (some (.goto t)) W3 hk3
    exact ⟨_, _, hr, hf4, .inr ⟨rfl, .goto t, (hIx _).putObj _ hi3 (by omega) hl3 rfl, hl4⟩⟩
   | panic ch => exact hp.elim
   | outgrown => exact hp.elim
  ·rintro e W2 ⟨⟨v, rfl⟩, (⟨hi, hl⟩ | ⟨pre, hpre, c, hi, hl⟩)⟩
   ·exact ⟨none, _, by have := run_endLoop (P := P) hl (by rw [hrec]; simp); rw [hrec] at this; exact this, hdone _ (hI.putObj _ hi (by omega) hl rfl)⟩
   ·exact ⟨some c, _, by have := run_endLoop (P := P) hl (by rw [hrec]; simp); rw [hrec] at this; exact this, hstop c pre _ hpre ((hIx c).putObj _ hi (by omega) hl rfl)⟩
end Go.Proofs.YtnccgaanfjaimaaDoor

namespace Go.Proofs.YtnccgaanfjaimaaDoor
open Go.ChangeShapes Go.WideShapes Go.ChangeAt Go.RowKit
set_option linter.unusedVariables false
set_option linter.unusedSimpArgs false

/-- an expression, with the value of its row of kids -/
inductive T where
 | mk (kind : Int) (lab : ByteArray) (kv : Value) (kids : List T)
def T.kind : T → Int | .mk k _ _ _ => k
def T.lab : T → ByteArray | .mk _ l _ _ => l
def T.kv : T → Value | .mk _ _ v _ => v
def T.kids : T → List T | .mk _ _ _ ks => ks
theorem T.ind' {P : T → Prop} (h : ∀ t, (∀ y ∈ t.kids, P y) → P t) (t : T) : P t :=
 T.rec (motive_1 := P) (motive_2 := fun ks => ∀ x ∈ ks, P x) (fun k l v ks ih => h _ ih) (fun x hx => by cases hx)
  (fun x xs h1 h2 y hy => by rcases List.mem_cons.1 hy with rfl | hy; exact h1; exact h2 y hy) t
mutual
def T.x : T → X
 | .mk k l _ ks => .mk k l (xL ks)
def xL : List T → List X
 | [] => []
 | t :: ts => t.x :: xL ts
end
theorem xL_eq : ∀ ts : List T, xL ts = ts.map T.x
 | [] => rfl
 | t :: ts => by rw [xL, xL_eq ts]; rfl
theorem T.x_kind (t : T) : t.x.kind = t.kind := by cases t; simp [T.x, X.kind, T.kind]
theorem T.x_lab (t : T) : t.x.lab = t.lab := by cases t; simp [T.x, X.lab, T.lab]
theorem T.x_kids (t : T) : t.x.kids = t.kids.map T.x := by cases t; simp [T.x, X.kids, T.kids, xL_eq]
/-- its value -/
def T.v (t : T) : Value := .agg #[.int .i64 t.kind, .string t.lab, t.kv]

/-- the row v holds just the trees ts, each with its own row -/
inductive TR (B : Nat) (w : World) : Value → List T → Prop where
 | mk (A : Option Addr) (c : Nat) (l : List T) (ad : Addr) (hc : l.length ≤ c) (hA : 0 < l.length → A = some ad ∧ ad.block < B)
  (h0 : ∀ i (h : i < l.length), w.cell? (ad.add (i * 3)) = some (.int .i64 l[i].kind)) (h1 : ∀ i (h : i < l.length), w.cell? (ad.add (i * 3 + 1)) = some (.string l[i].lab))
  (h2 : ∀ i (h : i < l.length), w.cell? (ad.add (i * 3 + 2)) = some l[i].kv) (hk : ∀ i (h : i < l.length), TR B w l[i].kv l[i].kids) : TR B w (.slice A l.length c) l

theorem TR.bel {B : Nat} {w w' : World} {v : Value} {l : List T} (h : TR B w v l) (hb : Below B w w') : TR B w' v l := by
 induction h with
 | mk A c l ad hlc hA h0 h1 h2 hk ih =>
  have hcl : ∀ i, i < l.length → ∀ j, w'.cell? (ad.add j) = w.cell? (ad.add j) := fun i hi j => World.cell?_of_block (a := ad.add j) (by rw [block_add]; exact hb.block _ (hA (by omega)).2)
  exact .mk A c l ad hlc hA (fun i h => (hcl i h _).trans (h0 i h)) (fun i h => (hcl i h _).trans (h1 i h)) (fun i h => (hcl i h _).trans (h2 i h)) ih
theorem TR.keep {B : Nat} {w w' : World} {v : Value} {l : List T} (h : TR B w v l) (hb : ∀ k, k < B → w'.heap[k]? = w.heap[k]?) : TR B w' v l := by
 induction h with
 | mk A c l ad hlc hA h0 h1 h2 hk ih =>
  have hcl : ∀ i, i < l.length → ∀ j, w'.cell? (ad.add j) = w.cell? (ad.add j) := fun i hi j => World.cell?_of_block (a := ad.add j) (by rw [block_add]; exact hb _ (hA (by omega)).2)
  exact .mk A c l ad hlc hA (fun i h => (hcl i h _).trans (h0 i h)) (fun i h => (hcl i h _).trans (h1 i h)) (fun i h => (hcl i h _).trans (h2 i h)) ih
theorem TR.form {B : Nat} {w : World} {v : Value} {l : List T} (h : TR B w v l) : ∃ A c, v = .slice A l.length c ∧ l.length ≤ c := by
 cases h with
 | mk A c l ad hlc hA h0 h1 h2 hk => exact ⟨A, c, rfl, hlc⟩
theorem TR.xr {B : Nat} {w : World} {v : Value} {l : List T} (h : TR B w v l) : XR B w v (l.map T.x) := by
 induction h with
 | mk A c l ad hlc hA h0 h1 h2 hk ih =>
  have hl : (l.map T.x).length = l.length := by simp
  have : XR B w (.slice A (l.map T.x).length c) (l.map T.x) := by
   refine .mk A c _ ad (fun i => ((l[i]?).map T.kv).getD (.bool false)) (by omega) (fun h => hA (by omega)) (fun i h => ?_) (fun i h => ?_) (fun i h => ?_) (fun i h => ?_)
   all_goals rw [hl] at h
   ·simpa [T.x_kind] using h0 i h
   ·simpa [T.x_lab] using h1 i h
   ·simpa [h] using h2 i h
   ·simpa [h, T.x_kids] using ih i h
  rwa [hl] at this
theorem XR.ann {B : Nat} {w : World} {v : Value} {l : List X} (h : XR B w v l) : ∃ ts : List T, ts.map T.x = l ∧ TR B w v ts := by
 induction h with
 | mk A c l ad K hlc hA h0 h1 h2 hk ih =>
  have hch : ∀ i, ∃ ts : List T, ∀ h : i < l.length, ts.map T.x = l[i].kids ∧ TR B w (K i) ts := fun i => by
   by_cases h : i < l.length
   ·obtain ⟨ts, h1⟩ := ih i h
    exact ⟨ts, fun _ => h1⟩
   ·exact ⟨[], fun h' => absurd h' h⟩
  obtain ⟨F, hF⟩ := Classical.axiomOfChoice hch
  obtain ⟨ts, hts⟩ : ∃ ts : List T, ts = (List.range l.length).map fun i => T.mk ((l[i]?).map X.kind |>.getD 0) ((l[i]?).map X.lab |>.getD ⟨#[]⟩) (K i) (F i) := ⟨_, rfl⟩
  have hl : ts.length = l.length := by rw [hts]; simp
  have hg : ∀ i (h : i < ts.length), ts[i] = T.mk (l[i]'(by omega)).kind (l[i]'(by omega)).lab (K i) (F i) := fun i h => by
   have h' : i < l.length := by omega
   subst hts
   simp [h']
  refine ⟨ts, ?_, ?_⟩
  ·refine List.ext_getElem (by simpa using hl) fun i h3 h4 => ?_
   rw [List.getElem_map, hg i (by simpa using h3)]
   refine X.ext' (by simp [T.x, X.kind]) (by simp [T.x, X.lab]) ?_
   rw [T.x_kids]
   exact (hF i h4).1
  ·have : TR B w (.slice A ts.length c) ts := by
    refine .mk A c ts ad (by omega) (fun h => hA (by omega)) (fun i h => ?_) (fun i h => ?_) (fun i h => ?_) (fun i h => ?_)
    all_goals rw [hg i h]
    ·exact h0 i (by omega)
    ·exact h1 i (by omega)
    ·exact h2 i (by omega)
    ·exact (hF i (by omega)).2
   rwa [hl] at this
/-- the row's first tree, and what is behind it -/
theorem TR.first {B : Nat} {w : World} {v : Value} {t : T} {l : List T} (h : TR B w v (t :: l)) :
  ∃ ad c, v = .slice (some ad) (l.length + 1) c ∧ l.length + 1 ≤ c ∧ ad.block < B ∧ w.cell? ad = some (.int .i64 t.kind) ∧ w.cell? ⟨ad.block, ad.off + 1, none⟩ = some (.string t.lab) ∧ w.cell? ⟨ad.block, ad.off + 2, none⟩ = some t.kv ∧ TR B w t.kv t.kids ∧
   TR B w (.slice (if c = 1 then some ad else some (ad.add 3)) l.length (c - 1)) l := by
 generalize hl : t :: l = l' at h
 cases h with
 | mk A c l2 ad hlc hA h0 h1 h2 hx =>
  subst hl
  obtain ⟨e, hb⟩ := hA (by simp)
  subst e
  simp only [List.length_cons] at hlc
  have a0 : ad.add 0 = ad := by unfold Addr.add; simp
  have f0 := h0 0 (by simp)
  have f1 := h1 0 (by simp)
  have f2 := h2 0 (by simp)
  have f3 := hx 0 (by simp)
  simp only [List.getElem_cons_zero, Nat.zero_mul, Nat.zero_add] at f0 f1 f2 f3
  have a1 : ad.add 1 = ⟨ad.block, ad.off + 1, none⟩ := by have := add_off ad (k := 0) (j := 1) (by omega); rw [a0] at this; simpa using this
  have a2 : ad.add 2 = ⟨ad.block, ad.off + 2, none⟩ := by have := add_off ad (k := 0) (j := 2) (by omega); rw [a0] at this; simpa using this
  rw [a0] at f0
  rw [a1] at f1
  rw [a2] at f2
  refine ⟨ad, c, rfl, hlc, hb, f0, f1, f2, f3, ?_⟩
  by_cases hn : l.length = 0
  ·obtain rfl : l = [] := List.eq_nil_of_length_eq_zero hn
   exact .mk _ _ [] ad (Nat.zero_le _) (fun h => absurd h (by simp)) (fun i h => absurd h (by simp)) (fun i h => absurd h (by simp)) (fun i h => absurd h (by simp)) (fun i h => absurd h (by simp))
  ·rw [if_neg (by omega)]
   refine .mk _ _ _ (ad.add 3) (by omega) (fun _ => ⟨rfl, by rw [block_add]; exact hb⟩) (fun i hi => ?_) (fun i hi => ?_) (fun i hi => ?_) (fun i hi => ?_)
   ·have := h0 (i + 1) (by simp; omega)
    rw [add_of_add, show 3 + i * 3 = (i + 1) * 3 by omega]
    exact this
   ·have := h1 (i + 1) (by simp; omega)
    rw [add_of_add, show 3 + (i * 3 + 1) = (i + 1) * 3 + 1 by omega]
    exact this
   ·have := h2 (i + 1) (by simp; omega)
    rw [add_of_add, show 3 + (i * 3 + 2) = (i + 1) * 3 + 2 by omega]
    exact this
   ·have := hx (i + 1) (by simp; omega)
    exact this

mutual
/-- parts that stand at the same places in two -/
def zipT : T → T → List (T × T)
 | .mk k l v ks, b => (.mk k l v ks, b) :: zipTL ks b.kids
def zipTL : List T → List T → List (T × T)
 | t :: ts, u :: us => zipT t u ++ zipTL ts us
 | _, _ => []
end
theorem zipT_eq (a b : T) : zipT a b = (a, b) :: zipTL a.kids b.kids := by cases a; simp [zipT, T.kids]
theorem zipTL_cons (t u : T) (ts us : List T) : zipTL (t :: ts) (u :: us) = zipT t u ++ zipTL ts us := by simp [zipTL]
theorem zipTL_nil (us : List T) : zipTL [] us = [] := by simp [zipTL]
theorem zipTL_nil' (ts : List T) : zipTL ts [] = [] := by cases ts <;> simp [zipTL]

def T.sz (t : T) : Nat := t.x.sz
def szT (ts : List T) : Nat := szL (ts.map T.x)
theorem T.sz_eq (t : T) : t.sz = 1 + szT t.kids := by unfold T.sz szT; rw [X.sz_eq, T.x_kids]
theorem szT_cons (t : T) (ts : List T) : szT (t :: ts) = t.sz + szT ts := by unfold szT T.sz; rw [List.map_cons, szL_cons]
theorem szT_nil : szT [] = 0 := by simp [szT, szL_nil]

/-- all of what is paired lies in memory -/
theorem zip_ok {B : Nat} {w : World} : ∀ (a b : T), TR B w a.kv a.kids → TR B w b.kv b.kids → ∀ z ∈ zipT a b, TR B w z.1.kv z.1.kids ∧ TR B w z.2.kv z.2.kids := by
 intro a
 induction a using T.ind' with
 | h a ih =>
  intro b ha hb z hz
  rw [zipT_eq] at hz
  rcases List.mem_cons.1 hz with rfl | hz
  ·exact ⟨ha, hb⟩
  ·have hka : ∀ y ∈ a.kids, TR B w y.kv y.kids := by
    intro y hy
    obtain ⟨i, hi, rfl⟩ := List.mem_iff_getElem.1 hy
    generalize a.kv = v at ha
    generalize a.kids = l at ha hi
    cases ha with
    | mk A c l ad hlc hA h0 h1 h2 hx => exact hx i hi
   have hkb : ∀ y ∈ b.kids, TR B w y.kv y.kids := by
    intro y hy
    obtain ⟨i, hi, rfl⟩ := List.mem_iff_getElem.1 hy
    generalize b.kv = v at hb
    generalize b.kids = l at hb hi
    cases hb with
    | mk A c l ad hlc hA h0 h1 h2 hx => exact hx i hi
   generalize b.kids = us at hz hkb
   clear ha hb
   generalize a.kids = ts at hz hka ih
   induction ts generalizing us with
   | nil => rw [zipTL_nil] at hz; cases hz
   | cons t ts iht =>
    cases us with
    | nil => rw [zipTL_nil'] at hz; cases hz
    | cons u us =>
     rw [zipTL_cons] at hz
     rcases List.mem_append.1 hz with hz | hz
     ·exact ih t (by simp) u (hka t (by simp)) (hkb u (by simp)) z hz
     ·exact iht us (fun y hy => hkb y (by simp [hy])) hz (fun y hy => hka y (by simp [hy])) (fun y hy => ih y (by simp [hy]))
end Go.Proofs.YtnccgaanfjaimaaDoor

namespace Go.Proofs.YtnccgaanfjaimaaDoor
open Go.ChangeShapes Go.WideShapes Go.ChangeAt Go.RowKit
set_option linter.unusedVariables false
set_option linter.unusedSimpArgs false

/-- two rows of trees, as they stand side by side -/
structure Rw where
 va : Value
 vb : Value
 a : List T
 b : List T
def Rw.v (r : Rw) : Value := .agg #[r.va, r.vb]
def Rw.ok (B : Nat) (w : World) (r : Rw) : Prop := TR B w r.va r.a ∧ TR B w r.vb r.b
def Rw.full (r : Rw) : Prop := 0 < r.a.length ∧ 0 < r.b.length
def restV (c : Nat) (ad : Addr) (n : Nat) : Value := .slice (if c = 1 then some ad else some (ad.add 3)) n (c - 1)

theorem new2c (w : World) (a b : Value) (t : TypeId) : (w.alloc (.cells #[a, b] t)).cell? ⟨w.heap.size, 0, none⟩ = some a ∧ (w.alloc (.cells #[a, b] t)).cell? ⟨w.heap.size, 1, none⟩ = some b := by
 have h := World.alloc_heap_new w (.cells #[a, b] t)
 refine ⟨?_, ?_⟩ <;> (simp only [World.cell?]; rw [h]; rfl)

theorem fin8 {W0 : World} {N : Nat} {a0 a1 a2 b0 b1 b2 r0 r1 : Value} (c10 : W0.cell? ⟨N + 1, 0, none⟩ = some a0) (c11 : W0.cell? ⟨N + 1, 1, none⟩ = some a1) (c12 : W0.cell? ⟨N + 1, 2, none⟩ = some a2)
  (c20 : W0.cell? ⟨N + 1 + 1, 0, none⟩ = some b0) (c21 : W0.cell? ⟨N + 1 + 1, 1, none⟩ = some b1) (c22 : W0.cell? ⟨N + 1 + 1, 2, none⟩ = some b2) (c30 : W0.cell? ⟨N + 1 + 1 + 1, 0, none⟩ = some r0) (c31 : W0.cell? ⟨N + 1 + 1 + 1, 1, none⟩ = some r1) (x0 x1 x2 y0 y1 y2 z0 z1 : Value) :
  ∃ W, ((((((((W0.setCell ⟨N + 1, 0, none⟩ x0).setCell ⟨N + 1, 1, none⟩ x1).setCell ⟨N + 1, 2, none⟩ x2).setCell ⟨N + 1 + 1, 0, none⟩ y0).setCell ⟨N + 1 + 1, 1, none⟩ y1).setCell ⟨N + 1 + 1, 2, none⟩ y2).setCell ⟨N + 1 + 1 + 1, 0, none⟩ z0).setCell ⟨N + 1 + 1 + 1, 1, none⟩ z1).drew = W ∧
   W.cell? ⟨N + 1, 0, none⟩ = some x0 ∧ W.cell? ⟨N + 1, 1, none⟩ = some x1 ∧ W.cell? ⟨N + 1, 2, none⟩ = some x2 ∧ W.cell? ⟨N + 1 + 1, 0, none⟩ = some y0 ∧ W.cell? ⟨N + 1 + 1, 1, none⟩ = some y1 ∧ W.cell? ⟨N + 1 + 1, 2, none⟩ = some y2 ∧ W.cell? ⟨N + 1 + 1 + 1, 0, none⟩ = some z0 ∧ W.cell? ⟨N + 1 + 1 + 1, 1, none⟩ = some z1 ∧ Below N W0 W := by
 refine ⟨_, rfl, ?_⟩
 simp only [cell_drew_own]
 have hb : Below N W0 ((((((((W0.setCell ⟨N + 1, 0, none⟩ x0).setCell ⟨N + 1, 1, none⟩ x1).setCell ⟨N + 1, 2, none⟩ x2).setCell ⟨N + 1 + 1, 0, none⟩ y0).setCell ⟨N + 1 + 1, 1, none⟩ y1).setCell ⟨N + 1 + 1, 2, none⟩ y2).setCell ⟨N + 1 + 1 + 1, 0, none⟩ z0).setCell ⟨N + 1 + 1 + 1, 1, none⟩ z1).drew := by
  refine Below.drew ?_
  iterate 8 refine Below.setCell ?_ (by show _ ≤ _; simp; try omega) _
  exact Below.refl _ _
 refine ⟨?_, ?_, ?_, ?_, ?_, ?_, ?_, ?_, hb⟩
 all_goals simp [go_sem, World.cell?_setCell_other, c10, c11, c12, c20, c21, c22, c30, c31]

def FirstR (t u : T) (va' vb' : Value) (w : World) (e : Ending) (w' : World) : Prop := e = .returned (.tuple #[t.v, u.v, .agg #[va', vb']]) ∧ Below w.heap.size w w'

set_option maxHeartbeats 2000000 in
theorem first_any {B : Nat} {w : World} {va vb : Value} {t u : T} {ts us : List T} (ha : TR B w va (t :: ts)) (hb : TR B w vb (u :: us)) (hB : B ≤ w.heap.size) :
  ∃ va' vb', (∀ w', Below B w w' → TR B w' va' ts ∧ TR B w' vb' us) ∧ Calls Tryd.prog 93 #[.agg #[va, vb]] w (FirstR t u va' vb' w) := by
 obtain ⟨ad, c, rfl, hc, hab, a0, a1, a2, a3, a4⟩ := ha.first
 obtain ⟨bd, d, rfl, hd, hbb, b0, b1, b2, b3, b4⟩ := hb.first
 refine ⟨_, _, fun w' h => ⟨a4.bel h, b4.bel h⟩, ?_⟩
 obtain ⟨A1, c1, hk1, -⟩ := a3.form
 obtain ⟨B1, d1, hk2, -⟩ := b3.form
 unfold FirstR T.v
 rw [hk1, hk2]
 rw [hk1] at a2
 rw [hk2] at b2
 generalize t.kids.length = y1 at a2 ⊢
 generalize u.kids.length = y2 at b2 ⊢
 clear a3 a4 b3 b4 ha hb hk1 hk2
 obtain ⟨n1, hn1⟩ : ∃ n1, ts.length + 1 = n1 := ⟨_, rfl⟩
 obtain ⟨m1, hm1⟩ : ∃ m1, us.length + 1 = m1 := ⟨_, rfl⟩
 rw [hn1] at hc ⊢
 rw [hm1] at hd ⊢
 rw [show ts.length = n1 - 1 by omega, show us.length = m1 - 1 by omega]
 have i1 : (1 : Int) ≤ (n1 : Int) := by omega
 have i2 : (1 : Int) ≤ (m1 : Int) := by omega
 have i3 : (n1 : Int) ≤ (c : Int) := by omega
 have i4 : (m1 : Int) ≤ (d : Int) := by omega
 have i5 : (0 : Int) < (n1 : Int) := by omega
 have i6 : (0 : Int) < (m1 : Int) := by omega
 have i7 : 0 < n1 := by omega
 have i8 : 0 < m1 := by omega
 clear hn1 hm1 hc hd
 generalize hP1 : (if c = 1 then some ad else some (ad.add 3)) = P1
 generalize hP2 : (if d = 1 then some bd else some (bd.add 3)) = P2
 have HP1 := Lib.hid hP1
 have HP2 := Lib.hid hP2
 clear hP1 hP2
 obtain ⟨W0, hW0⟩ : ∃ W0, (((w.alloc (.cells #[.slice (some ad) n1 c, .slice (some bd) m1 d] 122)).alloc (.cells #[.int .i64 0, .string ⟨#[]⟩, .slice none 0 0] 25)).alloc (.cells #[.int .i64 0, .string ⟨#[]⟩, .slice none 0 0] 25)).alloc (.cells #[.slice none 0 0, .slice none 0 0] 122) = W0 := ⟨_, rfl⟩
 go_enter Tryd.func93, Tryd.ntmps93
 go_upto_region 1 with (fail)
 try rw [hW0]
 have hz : W0.heap.size = w.heap.size + 4 := by rw [← hW0]; simp
 have hb0 : Below w.heap.size w W0 := by rw [← hW0]; exact ((((Below.refl _ w).alloc (Nat.le_refl _) _).alloc (by simp) _).alloc (by simp; try omega) _).alloc (by simp; try omega) _
 have a0' := (hb0.cell (p := ad) (by omega)).trans a0
 have a1' := (hb0.cell (p := ⟨ad.block, ad.off + 1, none⟩) (by show ad.block < _; omega)).trans a1
 have a2' := (hb0.cell (p := ⟨ad.block, ad.off + 2, none⟩) (by show ad.block < _; omega)).trans a2
 have b0' := (hb0.cell (p := bd) (by omega)).trans b0
 have b1' := (hb0.cell (p := ⟨bd.block, bd.off + 1, none⟩) (by show bd.block < _; omega)).trans b1
 have b2' := (hb0.cell (p := ⟨bd.block, bd.off + 2, none⟩) (by show bd.block < _; omega)).trans b2
 have h0 : W0.heap[w.heap.size]? = some (.cells #[.slice (some ad) n1 c, .slice (some bd) m1 d] 122 (0, 0)) := by
  rw [← hW0, Below.heap_alloc _ _ _ (by simp; try omega), Below.heap_alloc _ _ _ (by simp; try omega), Below.heap_alloc _ _ _ (by simp)]; exact World.alloc_heap_new w _
 have h1 : W0.heap[w.heap.size + 1]? = some (.cells #[.int .i64 0, .string ⟨#[]⟩, .slice none 0 0] 25 (0, 0)) := by
  rw [← hW0, Below.heap_alloc _ _ _ (by simp), Below.heap_alloc _ _ _ (by simp)]
  have := World.alloc_heap_new (w.alloc (.cells #[.slice (some ad) n1 c, .slice (some bd) m1 d] 122)) (.cells #[.int .i64 0, .string ⟨#[]⟩, .slice none 0 0] 25)
  rwa [World.size_alloc] at this
 have h2 : W0.heap[w.heap.size + 1 + 1]? = some (.cells #[.int .i64 0, .string ⟨#[]⟩, .slice none 0 0] 25 (0, 0)) := by
  rw [← hW0, Below.heap_alloc _ _ _ (by simp)]
  have := World.alloc_heap_new ((w.alloc (.cells #[.slice (some ad) n1 c, .slice (some bd) m1 d] 122)).alloc (.cells #[.int .i64 0, .string ⟨#[]⟩, .slice none 0 0] 25)) (.cells #[.int .i64 0, .string ⟨#[]⟩, .slice none 0 0] 25)
  rwa [World.size_alloc, World.size_alloc] at this
 have h3 : W0.heap[w.heap.size + 1 + 1 + 1]? = some (.cells #[.slice none 0 0, .slice none 0 0] 122 (0, 0)) := by
  rw [← hW0]
  have := World.alloc_heap_new (((w.alloc (.cells #[.slice (some ad) n1 c, .slice (some bd) m1 d] 122)).alloc (.cells #[.int .i64 0, .string ⟨#[]⟩, .slice none 0 0] 25)).alloc (.cells #[.int .i64 0, .string ⟨#[]⟩, .slice none 0 0] 25)) (.cells #[.slice none 0 0, .slice none 0 0] 122)
  rwa [World.size_alloc, World.size_alloc, World.size_alloc] at this
 have c00 := cell_of_row _ _ 0 _ 122 (0, 0) h0
 have c01 := cell_of_row _ _ 1 _ 122 (0, 0) h0
 have c10 := cell_of_row _ _ 0 _ 25 (0, 0) h1
 have c11 := cell_of_row _ _ 1 _ 25 (0, 0) h1
 have c12 := cell_of_row _ _ 2 _ 25 (0, 0) h1
 have c20 := cell_of_row _ _ 0 _ 25 (0, 0) h2
 have c21 := cell_of_row _ _ 1 _ 25 (0, 0) h2
 have c22 := cell_of_row _ _ 2 _ 25 (0, 0) h2
 have c30 := cell_of_row _ _ 0 _ 122 (0, 0) h3
 have c31 := cell_of_row _ _ 1 _ 122 (0, 0) h3
 simp only [List.getElem?_toArray, List.getElem?_cons_zero, List.getElem?_cons_succ] at c00 c01 c10 c11 c12 c20 c21 c22 c30 c31
 have f1 : ∀ j, W0.frozen? ⟨w.heap.size + 1, j, none⟩ = false := fun j => by simp [World.frozen?, h1]
 have f2 : ∀ j, W0.frozen? ⟨w.heap.size + 1 + 1, j, none⟩ = false := fun j => by simp [World.frozen?, h2]
 have f3 : ∀ j, W0.frozen? ⟨w.heap.size + 1 + 1 + 1, j, none⟩ = false := fun j => by simp [World.frozen?, h3]
 have hab' : ad.block < w.heap.size := by omega
 have hbb' : bd.block < w.heap.size := by omega
 have HB0 := Lib.hid (And.intro hb0 hz)
 have S0 := Lib.hid (show W0.drew.cell? ⟨w.heap.size, 0, none⟩ = some (.slice (some ad) n1 c) ∧ W0.drew.cell? ⟨w.heap.size, 1, none⟩ = some (.slice (some bd) m1 d) ∧ W0.drew.cell? ad = some (.int .i64 t.kind) ∧ W0.drew.cell? ⟨ad.block, ad.off + 1, none⟩ = some (.string t.lab) ∧ W0.drew.cell? ⟨ad.block, ad.off + 2, none⟩ = some (.slice A1 y1 c1) ∧ W0.drew.cell? bd = some (.int .i64 u.kind) ∧ W0.drew.cell? ⟨bd.block, bd.off + 1, none⟩ = some (.string u.lab) ∧ W0.drew.cell? ⟨bd.block, bd.off + 2, none⟩ = some (.slice B1 y2 d1) from ⟨c00, c01, a0', a1', a2', b0', b1', b2'⟩)
 clear a0 a1 a2 b0 b1 b2 h0 h1 h2 h3 hb0 hz hW0 S0
 have g1 : w.heap.size + 1 ≠ ad.block := by omega
 have g2 : w.heap.size + 1 + 1 ≠ ad.block := by omega
 have g3 : w.heap.size + 1 + 1 + 1 ≠ ad.block := by omega
 have g4 : w.heap.size + 1 ≠ bd.block := by omega
 have g5 : w.heap.size + 1 + 1 ≠ bd.block := by omega
 have g6 : w.heap.size + 1 + 1 + 1 ≠ bd.block := by omega
 obtain ⟨ab, ao, asp⟩ := ad
 obtain ⟨bb, bo, bsp⟩ := bd
 simp only at *
 generalize hNN : w.heap.size = N at *
 have HNN := Lib.hid hNN
 clear hNN
 go_region
 have e1 : (if c = 1 then some (⟨ab, ao, asp⟩ : Addr) else some ⟨ab, ao + 3, none⟩) = P1 := by rw [← HP1.out]; simp [Addr.add]
 have e2 : (if d = 1 then some (⟨bb, bo, bsp⟩ : Addr) else some ⟨bb, bo + 3, none⟩) = P2 := by rw [← HP2.out]; simp [Addr.add]
 rw [e1, e2]
 have hN := HNN.out
 obtain ⟨WF, hWF, x0, x1, x2, y0', y1', y2', z0, z1, hbF⟩ := fin8 c10 c11 c12 c20 c21 c22 c30 c31 (.int .i64 t.kind) (.string t.lab) (.slice A1 y1 c1) (.int .i64 u.kind) (.string u.lab) (.slice B1 y2 d1) (.slice P1 (n1 - 1) (c - 1)) (.slice P2 (m1 - 1) (d - 1))
 rw [hWF]
 have HF := Lib.hid (show Below w.heap.size w WF by have := HB0.out.1; rw [hN]; exact this.trans hbF)
 clear hWF hbF c10 c11 c12 c20 c21 c22 c30 c31 f1 f2 f3 a0' a1' a2' b0' b1' b2' c00 c01 e1 e2 hN g1 g2 g3 g4 g5 g6 HB0
 go_wp2_with fail
 exact bodyPost_ret (v := .tuple #[.agg #[.int .i64 t.kind, .string t.lab, .slice A1 y1 c1], .agg #[.int .i64 u.kind, .string u.lab, .slice B1 y2 d1], .agg #[.slice P1 (n1 - 1) (c - 1), .slice P2 (m1 - 1) (d - 1)]]) (by simp [results, Tryd.results93, go_sem, x0, x1, x2, y0', y1', y2', z0, z1]) rfl ⟨rfl, HF.out⟩
end Go.Proofs.YtnccgaanfjaimaaDoor

namespace Go.Proofs.YtnccgaanfjaimaaDoor
open Go.ChangeShapes Go.WideShapes Go.ChangeAt Go.RowKit
set_option linter.unusedVariables false
set_option linter.unusedSimpArgs false

theorem info_parts {P : Program} {t : TypeId} {z : Option Value} {s b : Nat} (h : (P.info? t).map (fun i => (i.zero, i.size, i.bytes)) = some (z, s, b)) : ∃ i, P.info? t = some i ∧ i.zero = z ∧ i.size = s ∧ i.bytes = b := by
 cases hi : P.info? t with
 | none => rw [hi] at h; cases h
 | some i => rw [hi] at h; simp at h; exact ⟨i, rfl, h.1, h.2.1, h.2.2⟩
theorem parts68 : (Tryd.prog.info? 122).map (fun i => (i.zero, i.size, i.bytes)) = some (some (.agg #[.slice none 0 0, .slice none 0 0]), 2, 48) := by kernel_rfl

theorem row_form {w : World} {base e size n : Nat} {v : Value} {xs : List Value} (h : w.ownsRow base e size v n xs) : ∃ A c, v = .slice A n c := by
 rcases h.2 with ⟨rfl, rfl⟩ | ⟨g, cap, cur, rfl, _⟩
 ·exact ⟨none, 0, rfl⟩
 ·exact ⟨_, cap, rfl⟩

def flatR (st : List Rw) : List Value := st.flatMap fun r => [r.va, r.vb]
theorem flatR_len (l : List Rw) : (flatR l).length = l.length * 2 := by simp [flatR, List.length_flatMap, Function.comp_def, List.map_const']
theorem flatR_app (l m : List Rw) : flatR (l ++ m) = flatR l ++ flatR m := by simp [flatR]
def Rw.formed (r : Rw) : Prop := ∃ A c B d, r.va = .slice A r.a.length c ∧ r.vb = .slice B r.b.length d
theorem Rw.ok.formed {B : Nat} {w : World} {r : Rw} (h : r.ok B w) : r.formed := by
 obtain ⟨A, c, h1, _⟩ := h.1.form
 obtain ⟨A', c', h2, _⟩ := h.2.form
 exact ⟨A, c, A', c', h1, h2⟩
instance (r : Rw) : Decidable r.full := inferInstanceAs (Decidable (0 < r.a.length ∧ 0 < r.b.length))
def fulls (l : List Rw) : List Rw := l.filter fun r => decide r.full
theorem fulls_snoc (l : List Rw) (r : Rw) : fulls (l ++ [r]) = fulls l ++ (if r.full then [r] else []) := by
 unfold fulls
 rw [List.filter_append]
 by_cases h : r.full <;> simp [h]
theorem Rel.own_append {base : Nat} {w w1 w' : World} {v : Value} {n : Nat} {xs : List Value} (h : Rel base w w1) (hrow : w1.ownsRow base 122 2 v n xs) (hg : w1.grownBy w' v.ownBlock) : Rel base w w' := by
 refine h.trans (Rel.grown hg fun r e => ?_)
 rcases hrow.2 with ⟨rfl, _⟩ | ⟨g, cap, cur, rfl, hb, hh, _⟩
 ·cases e
 ·obtain rfl : g = r := by simpa [Value.ownBlock] using e
  exact ⟨hb, _, hh, .inr ⟨cur, (0, 0), rfl⟩⟩

def Fr (v : Value) (w w' : World) : Prop := ∀ k, k < w.heap.size → some k ≠ v.ownBlock → w'.heap[k]? = w.heap[k]?
def WithR (base : Nat) (v : Value) (st : List Rw) (w : World) (e : Ending) (w' : World) : Prop := ∃ v', e = .returned v' ∧ w'.ownsRow base 122 2 v' st.length (flatR st) ∧ Rel base w w' ∧ Fr v w w'

theorem lit_cells (w : World) (n : Nat) (hn : w.heap.size = n) (cs : List Value) (t : TypeId) : ∀ j u, cs[j]? = some u → (w.alloc (.cells cs.toArray t)).cell? ((⟨n, 0, none⟩ : Addr).add j) = some u := by
 intro j u hj
 subst hn
 have h := World.alloc_heap_new w (.cells cs.toArray t)
 have e : ((⟨w.heap.size, 0, none⟩ : Addr).add j) = ⟨w.heap.size, j, none⟩ := by unfold Addr.add; split <;> simp_all
 rw [e, cell_of_row _ _ _ _ _ _ h]
 simpa using hj

set_option maxRecDepth 100000 in
set_option maxHeartbeats 4000000 in
theorem with_any {w : World} {base : Nat} {v : Value} {st : List Rw} {r1 r2 : Rw} (hown : w.ownsRow base 122 2 v st.length (flatR st)) (hbase : base ≤ w.heap.size) {g : Nat} (hm : w.heap[g]? = some (.cells #[r1.va, r1.vb, r2.va, r2.vb] 122 (0, 0)))
  (hne : v.ownBlock ≠ some g) (hf : ∀ r ∈ [r1, r2], r.formed) (hn : st.length ≤ 100000) :
  Calls Tryd.prog 94 #[v, .slice (some ⟨g, 0, none⟩) 2 2] w (WithR base v (st ++ fulls [r1, r2]) w) := by
 unfold WithR
 obtain ⟨i0, hi, hy0, hy1, hy2⟩ := info_parts parts68
 have hgl : g < w.heap.size := (Array.getElem?_eq_some_iff.1 hm).1
 obtain ⟨A, q, rfl⟩ := row_form hown
 have HF := Lib.hid hf
 have H0 := Lib.hid (And.intro hown (And.intro hm hne))
 clear hown hm hne hf
 go_enter Tryd.func94, Tryd.ntmps94
 go_wp2_with fail
 go_loopw [0, 9] (fun v' i wr => ∃ (k : Nat) (A' : Option Addr) (n' q' : Nat), k ≤ 2 ∧ i = .int .i64 k ∧ v' = .slice A' n' q' ∧ (n' = (st ++ fulls ([r1, r2].take k)).length ∧ wr.ownsRow base 122 2 (.slice A' n' q') n' (flatR (st ++ fulls ([r1, r2].take k)))) ∧ wr.heap[g]? = some (.cells #[r1.va, r1.vb, r2.va, r2.vb] 122 (0, 0)) ∧ (Value.slice A' n' q').ownBlock ≠ some g ∧ Rel base w wr ∧ Fr (.slice A st.length q) w wr ∧ ((Value.slice A' n' q').ownBlock = (Value.slice A st.length q).ownBlock ∨ ∃ b, w.heap.size ≤ b ∧ (Value.slice A' n' q').ownBlock = some b)) (fun _ i _ => 2 - (intOf i).toNat)
 case atStart => exact ⟨0, A, _, q, by omega, rfl, rfl, ⟨by simp [fulls], by simpa [fulls] using H0.out.1⟩, H0.out.2.1, H0.out.2.2, Rel.refl _ _, fun _ _ _ => rfl, .inl rfl⟩
 case round =>
  obtain ⟨k, A', n', q', hk, rfl, rfl, ⟨hnl, hrow⟩, hg2, hnb, hrel2, hfr, hlc⟩ := hrel
  have HFR := Lib.hid (And.intro hfr hlc)
  clear hfr hlc
  by_cases hlt : k < 2
  ·obtain ⟨r, hr⟩ : ∃ r, [r1, r2][k]? = some r := by
    have : k = 0 ∨ k = 1 := by omega
    rcases this with rfl | rfl
    ·exact ⟨r1, rfl⟩
    ·exact ⟨r2, rfl⟩
   obtain ⟨fa, fc, fb, fd, e1, e2⟩ := HF.out r (List.mem_of_getElem? hr)
   have c0 : wr.cell? ⟨g, k * 2, none⟩ = some r.va := by
    rw [cell_of_row _ _ _ _ 122 (0, 0) hg2]
    have : k = 0 ∨ k = 1 := by omega
    rcases this with rfl | rfl
    ·injection hr with hr; rw [← hr]; rfl
    ·injection hr with hr; rw [← hr]; rfl
   have c1 : wr.cell? ⟨g, k * 2 + 1, none⟩ = some r.vb := by
    rw [cell_of_row _ _ _ _ 122 (0, 0) hg2]
    have : k = 0 ∨ k = 1 := by omega
    rcases this with rfl | rfl
    ·injection hr with hr; rw [← hr]; rfl
    ·injection hr with hr; rw [← hr]; rfl
   have hst : fulls ([r1, r2].take (k + 1)) = fulls ([r1, r2].take k) ++ (if r.full then [r] else []) := by
    rw [List.take_add_one, hr]
    exact fulls_snoc _ _
   rw [e1] at c0
   rw [e2] at c1
   have HI := Lib.hid (And.intro hst (And.intro e1 e2))
   have HR := Lib.hid (And.intro hrow (And.intro hnb hrel2))
   have HG := Lib.hid hg2
   have HN := Lib.hid hnl
   have hn' : n' ≤ 100002 := by
    have h1 : (fulls ([r1, r2].take k)).length ≤ 2 := Nat.le_trans (List.length_filter_le _ _) (by simp; omega)
    rw [hnl, List.length_append]; omega
   clear hst e1 e2 hrow hnb hrel2 hg2 hr hnl
   by_cases hfull : r.full
   ·obtain ⟨z1, z2⟩ := hfull
    have HFU := Lib.hid (show r.full from ⟨z1, z2⟩)
    have z1' : (0 : Int) < (r.a.length : Int) := by omega
    have z2' : (0 : Int) < (r.b.length : Int) := by omega
    generalize r.a.length = la at *
    generalize r.b.length = lb at *
    have hz : Hid (base ≤ wr.heap.size) := Lib.hid (Nat.le_trans hbase HR.out.2.2.size)
    go_wp2_with (at_builtin; go_loud (refine wpList_append_own_at _ rfl _ _ 123 rfl base 122 i0 (.agg #[.slice none 0 0, .slice none 0 0]) 2 48 Tryd.underlying123 hi hy0 hy1 hy2 rfl (by decide) (.slice A' n' q') n' _ rfl ((HR.out.1.alloc _).alloc _) ⟨wr.heap.size + 1, 0, none⟩ 1 1 [.slice fa la fc, .slice fb lb fd] rfl rfl (lit_cells (wr.alloc _) _ (by simp) _ 122) (by simp [Value.oneCell']) (by unfold maxLen; omega) (by omega) (by have := hz.out; simp; omega) ?_; intro v3 w3 hown3 hgrow3 hnil3 hloc3))
    have hb2 : Below wr.heap.size wr ((wr.alloc (.cells #[.slice fa la fc, .slice fb lb fd] 122)).alloc (.cells #[.slice fa la fc, .slice fb lb fd] 122)) := ((Below.refl _ wr).alloc (Nat.le_refl _) _).alloc (by simp) _
    have hrel3 : Rel base w w3 := Rel.own_append (HR.out.2.2.trans (Rel.of_below hb2)) ((HR.out.1.alloc _).alloc _) hgrow3
    have hgw : g < wr.heap.size := (Array.getElem?_eq_some_iff.1 HG.out).1
    have hg3 : w3.heap[g]? = some (.cells #[r1.va, r1.vb, r2.va, r2.vb] 122 (0, 0)) := by
     rw [hgrow3.block g (Nat.lt_of_lt_of_le hgw hb2.size) (fun e => HR.out.2.1 e.symm), hb2.block g hgw]
     exact HG.out
    have hne3 : v3.ownBlock ≠ some g := by
     rcases hloc3 with h | h
     ·rw [h]; exact HR.out.2.1
     ·rw [h]; simp; omega
    have hlc3 : v3.ownBlock = (Value.slice A st.length q).ownBlock ∨ ∃ b, w.heap.size ≤ b ∧ v3.ownBlock = some b := by
     rcases hloc3 with h | h
     ·rw [h]; exact HFR.out.2
     ·exact .inr ⟨_, by have := HR.out.2.2.size; simp; omega, h⟩
    have hfr3 : Fr (.slice A st.length q) w w3 := fun k hk hne => by
     have hkw : k < wr.heap.size := Nat.lt_of_lt_of_le hk HR.out.2.2.size
     rw [hgrow3.block k (Nat.lt_of_lt_of_le hkw hb2.size) (fun e => ?_), hb2.block k hkw]
     ·exact HFR.out.1 k hk hne
     ·rcases HFR.out.2 with h | ⟨b, hb, h⟩
      ·rw [h] at e; exact hne e
      ·rw [h] at e; injection e with e; omega
    obtain ⟨h1, h2, h3⟩ := HI.out
    rw [if_pos HFU.out] at h1
    obtain ⟨A3, q3, rfl⟩ := row_form hown3
    go_roundw
    case rel =>
     refine ⟨k + 1, A3, n' + 1, q3, by omega, by go_num, rfl, ⟨?_, ?_⟩, hg3, hne3, hrel3, hfr3, hlc3⟩
     ·rw [h1, HN.out]; simp; omega
     ·rw [h1, ← List.append_assoc, flatR_app]
      have : flatR [r] = [.slice fa la fc, .slice fb lb fd] := by simp [flatR, h2, h3]
      rw [this]
      exact hown3
    case measure => simp [intOf]; omega
   ·have hz : ¬ 0 < r.a.length ∨ 0 < r.a.length ∧ ¬ 0 < r.b.length := by
     unfold Rw.full at hfull
     by_cases h : 0 < r.a.length
     ·exact .inr ⟨h, fun h' => hfull ⟨h, h'⟩⟩
     ·exact .inl h
    obtain ⟨h1, h2, h3⟩ := HI.out
    rw [if_neg hfull, List.append_nil] at h1
    have H1 := Lib.hid h1
    clear h1 hfull
    rcases hz with hz | ⟨hz, hz2⟩
    ·have hz0 : r.a.length = 0 := by omega
     rw [hz0] at c0
     go_wp2_with fail
     go_roundw
     case rel => exact ⟨k + 1, A', n', q', by omega, by go_num, rfl, ⟨by rw [H1.out]; exact HN.out, by rw [H1.out]; exact HR.out.1.alloc _⟩, (Below.heap_alloc _ _ _ (Array.getElem?_eq_some_iff.1 HG.out).1).trans HG.out, HR.out.2.1, HR.out.2.2.trans (Rel.of_below ((Below.refl _ wr).alloc (Nat.le_refl _) _)), fun j hj hn => (Below.heap_alloc _ _ _ (Nat.lt_of_lt_of_le hj HR.out.2.2.size)).trans (HFR.out.1 j hj hn), HFR.out.2⟩
     case measure => simp [intOf]; omega
    ·have hz0 : r.b.length = 0 := by omega
     have hz' : (0 : Int) < (r.a.length : Int) := by omega
     rw [hz0] at c1
     go_wp2_with fail
     go_roundw
     case rel => exact ⟨k + 1, A', n', q', by omega, by go_num, rfl, ⟨by rw [H1.out]; exact HN.out, by rw [H1.out]; exact HR.out.1.alloc _⟩, (Below.heap_alloc _ _ _ (Array.getElem?_eq_some_iff.1 HG.out).1).trans HG.out, HR.out.2.1, HR.out.2.2.trans (Rel.of_below ((Below.refl _ wr).alloc (Nat.le_refl _) _)), fun j hj hn => (Below.heap_alloc _ _ _ (Nat.lt_of_lt_of_le hj HR.out.2.2.size)).trans (HFR.out.1 j hj hn), HFR.out.2⟩
     case measure => simp [intOf]; omega
  ·obtain rfl : k = 2 := by omega
   have HR := Lib.hid (show n' = (st ++ fulls [r1, r2]).length ∧ wr.ownsRow base 122 2 (.slice A' n' q') n' (flatR (st ++ fulls [r1, r2])) ∧ Rel base w wr from ⟨hnl, hrow, hrel2⟩)
   clear hnl hrow hrel2 hg2 hnb
   go_wp2_with fail
   go_ret
   obtain ⟨e, h1, h2⟩ := HR.out
   exact ⟨_, rfl, by rw [← e]; exact h1, h2, HFR.out.1⟩
end Go.Proofs.YtnccgaanfjaimaaDoor
