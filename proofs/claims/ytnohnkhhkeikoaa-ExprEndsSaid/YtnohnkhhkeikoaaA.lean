/- Words: expressions as trees, rows of them in memory, blocks more and answers drawn. -/
import Derived.Test.YtnohnkhhkeikoaaRows
import Derived.WalkKit
import Derived.ProofKit
import Derived.OpenShut
import Derived.Handy
import Derived.Outline
import Derived.Lib.Hide
import Derived.Below
import Derived.Lib.Small
import Derived.RegionTactic
import Derived.LoopTactic
import Derived.StillTailTactics
import Derived.Deep.RegionHeld3
import Derived.Deep.RegionWith
import Derived.Sort.Grow
import Derived.Deep.Draws
namespace Go.Proofs.Ytnohnkhhkeikoaa
open Go.ChangeShapes Go.WideShapes Go.ChangeAt Go.RowKit
set_option linter.unusedVariables false

theorem ret_bool {a b : Bool} (h : a = b) : Ending.returned (.bool a) = .returned (.bool b) := by rw [h]
theorem ret_int {a b : Int} (h : a = b) : Ending.returned (.int .i64 a) = .returned (.int .i64 b) := by rw [h]
instance : DecidableEq ByteArray := fun a b => decidable_of_iff (a.data = b.data) ⟨fun h => ByteArray.ext h, fun h => congrArg _ h⟩

/-- blocks more, answers drawn -/
def Gr (w w' : World) : Prop := ∃ q os, w' = Sort.grow (w.drewN q) os
theorem Gr.refl (w : World) : Gr w w := ⟨0, #[], by rw [Sort.grow_empty]; rfl⟩
theorem Gr.trans {a b c : World} (h : Gr a b) (k : Gr b c) : Gr a c := by
  obtain ⟨q, os, rfl⟩ := h
  obtain ⟨q', os', rfl⟩ := k
  exact ⟨q + q', os ++ os', by simp [Sort.grow, World.drewN, Nat.add_assoc]⟩
theorem Gr.below {w w' : World} (h : Gr w w') : Below w.heap.size w w' := by
  obtain ⟨q, os, rfl⟩ := h
  exact ⟨rfl, rfl, rfl, by simp [Sort.grow, World.drewN], fun k hk => by simp only [Sort.grow, World.drewN]; exact Array.getElem?_append_left hk⟩
theorem Gr.alloc {a b : World} (h : Gr a b) (o : Obj) : Gr a (b.alloc o) := h.trans ⟨0, #[o], by rw [Sort.alloc_eq_grow]; rfl⟩
theorem Gr.drew {a b : World} (h : Gr a b) : Gr a b.drew := h.trans ⟨1, #[], by rw [Sort.grow_empty]; rfl⟩

/-- an expression: its kind, its label, its kids -/
inductive X where
  | mk (kind : Int) (lab : ByteArray) (kids : List X)
def X.kind : X → Int | .mk k _ _ => k
def X.lab : X → ByteArray | .mk _ l _ => l
def X.kids : X → List X | .mk _ _ ks => ks
theorem X.ind {P : X → Prop} (h : ∀ k l ks, (∀ x ∈ ks, P x) → P (.mk k l ks)) (x : X) : P x :=
  X.rec (motive_1 := P) (motive_2 := fun ks => ∀ x ∈ ks, P x) (fun k l ks ih => h k l ks ih) (fun x hx => by cases hx)
    (fun x xs h1 h2 y hy => by rcases List.mem_cons.1 hy with rfl | hy; exact h1; exact h2 y hy) x
theorem X.ind' {P : X → Prop} (h : ∀ x, (∀ y ∈ x.kids, P y) → P x) (x : X) : P x := X.ind (fun k l ks ih => h _ ih) x
theorem X.ext' {x y : X} (h1 : x.kind = y.kind) (h2 : x.lab = y.lab) (h3 : x.kids = y.kids) : x = y := by
  cases x; cases y
  simp only [X.kind, X.lab, X.kids] at h1 h2 h3
  rw [h1, h2, h3]

mutual
/-- the parts, each ahead of its kids -/
def X.parts : X → List X
  | .mk k l ks => .mk k l ks :: partsL ks
def partsL : List X → List X
  | [] => []
  | x :: xs => x.parts ++ partsL xs
end
def X.sz (x : X) : Nat := x.parts.length
def szL (xs : List X) : Nat := (partsL xs).length
theorem X.parts_eq (x : X) : x.parts = x :: partsL x.kids := by cases x; simp [X.parts, X.kids]
theorem partsL_nil : partsL [] = [] := by simp [partsL]
theorem partsL_cons (x : X) (xs : List X) : partsL (x :: xs) = x.parts ++ partsL xs := by simp [partsL]
theorem X.sz_eq (x : X) : x.sz = 1 + szL x.kids := by unfold X.sz szL; rw [X.parts_eq]; simp; omega
theorem szL_nil : szL [] = 0 := by simp [szL, partsL]
theorem szL_cons (x : X) (xs : List X) : szL (x :: xs) = x.sz + szL xs := by simp [szL, partsL, X.sz]
theorem X.sz_pos (x : X) : 0 < x.sz := by rw [X.sz_eq]; omega
theorem len_szL : ∀ xs : List X, xs.length ≤ szL xs
  | [] => by simp
  | x :: xs => by have := len_szL xs; have := x.sz_pos; rw [szL_cons]; simp; omega
theorem szL_mem : ∀ {xs : List X} {x : X}, x ∈ xs → x.sz ≤ szL xs
  | y :: ys, x, h => by
    rw [szL_cons]
    rcases List.mem_cons.1 h with rfl | h
    · omega
    · have := szL_mem h; omega
theorem szL_app (xs ys : List X) : szL (xs ++ ys) = szL xs + szL ys := by
  induction xs with
  | nil => simp [szL_nil]
  | cons x xs ih => rw [List.cons_append, szL_cons, szL_cons, ih]; omega
theorem szL_drop (xs : List X) (k : Nat) : szL (xs.drop k) ≤ szL xs := by
  have := szL_app (xs.take k) (xs.drop k)
  rw [List.take_append_drop] at this
  omega

theorem block_add (a : Addr) (n : Nat) : (a.add n).block = a.block := by unfold Addr.add; split <;> rfl
theorem add_of_add (a : Addr) (i j : Nat) : (a.add i).add j = a.add (i + j) := by
  unfold Addr.add
  by_cases hi : i = 0 <;> by_cases hj : j = 0 <;> simp [hi, hj, Nat.add_assoc]
theorem add_off (a : Addr) {k j : Nat} (hj : 0 < j) : a.add (k + j) = ⟨(a.add k).block, (a.add k).off + j, none⟩ := by
  rw [← add_of_add]
  obtain ⟨B, o, s⟩ := a.add k
  unfold Addr.add
  split
  · rename_i h0
    omega
  · simp

/-- the slice v holds just the expressions of l; all lies in blocks below B -/
inductive XR (B : Nat) (w : World) : Value → List X → Prop where
  | mk (A : Option Addr) (c : Nat) (l : List X) (ad : Addr) (K : Nat → Value) (hc : l.length ≤ c) (hA : 0 < l.length → A = some ad ∧ ad.block < B)
    (h0 : ∀ i (h : i < l.length), w.cell? (ad.add (i * 3)) = some (.int .i64 l[i].kind)) (h1 : ∀ i (h : i < l.length), w.cell? (ad.add (i * 3 + 1)) = some (.string l[i].lab))
    (h2 : ∀ i (h : i < l.length), w.cell? (ad.add (i * 3 + 2)) = some (K i)) (hk : ∀ i (h : i < l.length), XR B w (K i) l[i].kids) : XR B w (.slice A l.length c) l

theorem XR.bel {B : Nat} {w w' : World} {v : Value} {l : List X} (h : XR B w v l) (hb : Below B w w') : XR B w' v l := by
  induction h with
  | mk A c l ad K hlc hA h0 h1 h2 hk ih =>
    have hcl : ∀ i, i < l.length → ∀ j, w'.cell? (ad.add j) = w.cell? (ad.add j) := fun i hi j => World.cell?_of_block (a := ad.add j) (by rw [block_add]; exact hb.block _ (hA (by omega)).2)
    exact .mk A c l ad K hlc hA (fun i h => (hcl i h _).trans (h0 i h)) (fun i h => (hcl i h _).trans (h1 i h)) (fun i h => (hcl i h _).trans (h2 i h)) ih
theorem XR.mono {B B' : Nat} {w : World} {v : Value} {l : List X} (h : XR B w v l) (hB : B ≤ B') : XR B' w v l := by
  induction h with
  | mk A c l ad K hlc hA h0 h1 h2 hk ih => exact .mk A c l ad K hlc (fun h => ⟨(hA h).1, Nat.lt_of_lt_of_le (hA h).2 hB⟩) h0 h1 h2 ih
theorem XR.nil (B : Nat) (w : World) (A : Option Addr) (c : Nat) : XR B w (.slice A 0 c) [] := .mk A c [] ⟨0, 0, none⟩ (fun _ => .bool false) (Nat.zero_le _) (fun h => absurd h (by simp)) (fun i h => absurd h (by simp)) (fun i h => absurd h (by simp)) (fun i h => absurd h (by simp)) (fun i h => absurd h (by simp))
theorem XR.form {B : Nat} {w : World} {v : Value} {l : List X} (h : XR B w v l) : ∃ A c, v = .slice A l.length c := by
  cases h with
  | mk A c l ad K hlc hA h0 h1 h2 hk => exact ⟨A, c, rfl⟩

/-- the value v is the expression x -/
def XV (B : Nat) (w : World) (v : Value) (x : X) : Prop := ∃ kv, v = .agg #[.int .i64 x.kind, .string x.lab, kv] ∧ XR B w kv x.kids
theorem XV.bel {B : Nat} {w w' : World} {v : Value} {x : X} (h : XV B w v x) (hb : Below B w w') : XV B w' v x := by
  obtain ⟨kv, rfl, h⟩ := h
  exact ⟨kv, rfl, h.bel hb⟩
theorem XV.mono {B B' : Nat} {w : World} {v : Value} {x : X} (h : XV B w v x) (hB : B ≤ B') : XV B' w v x := by
  obtain ⟨kv, rfl, h⟩ := h
  exact ⟨kv, rfl, h.mono hB⟩

/-- a kid of the row, as the walk reads it -/
theorem XR.at3 {B : Nat} {w : World} {A : Option Addr} {n c : Nat} {l : List X} (h : XR B w (.slice A n c) l) {k : Nat} (hk : k < l.length) :
    ∃ ad kv, A = some ad ∧ ad.block < B ∧ w.cell? (ad.add (k * 3)) = some (.int .i64 l[k].kind) ∧ w.cell? ⟨(ad.add (k * 3)).block, (ad.add (k * 3)).off + 1, none⟩ = some (.string l[k].lab) ∧ w.cell? ⟨(ad.add (k * 3)).block, (ad.add (k * 3)).off + 2, none⟩ = some kv ∧ XR B w kv l[k].kids := by
  cases h with
  | mk A c l ad K hlc hA h0 h1 h2 hx =>
    obtain ⟨e, hb⟩ := hA (by omega)
    refine ⟨ad, K k, e, hb, h0 k hk, ?_, ?_, hx k hk⟩
    · rw [← add_off ad (by omega)]; exact h1 k hk
    · rw [← add_off ad (by omega)]; exact h2 k hk
theorem XR.len {B : Nat} {w : World} {A : Option Addr} {n c : Nat} {l : List X} (h : XR B w (.slice A n c) l) : n = l.length := by
  cases h with
  | mk A c l ad K hlc hA h0 h1 h2 hx => rfl
theorem XR.cap {B : Nat} {w : World} {A : Option Addr} {n c : Nat} {l : List X} (h : XR B w (.slice A n c) l) : n ≤ c := by
  cases h with
  | mk A c l ad K hlc hA h0 h1 h2 hx => exact hlc
theorem XR.nilrow {B : Nat} {w : World} {v : Value} (h : XR B w v []) : ∃ A c, v = .slice A 0 c := by
  obtain ⟨A, c, e⟩ := h.form
  exact ⟨A, c, e⟩

/-- how many parts, as far as 301 -/
def capS (f : X → Nat) : List X → Nat → Nat
  | [], n => n
  | x :: xs, n => if n ≤ 300 then capS f xs (n + f x) else n
def szD : Nat → X → Nat
  | 0, _ => 301
  | d + 1, x => capS (szD d) x.kids 1
theorem capS_le {f : X → Nat} {M : Nat} (hf : ∀ x, f x ≤ M) : ∀ (xs : List X) (n : Nat), n ≤ 300 + M → capS f xs n ≤ 300 + M
  | [], n, h => h
  | x :: xs, n, h => by
    unfold capS
    split
    · exact capS_le hf xs _ (by have := hf x; omega)
    · exact h
theorem szD_le : ∀ (d : Nat) (x : X), szD d x ≤ 301 + 300 * d
  | 0, x => by simp [szD]
  | d + 1, x => by
    have := capS_le (szD_le d) x.kids 1 (by omega)
    unfold szD
    omega
theorem capS_eq {f : X → Nat} : ∀ (xs : List X) (n : Nat), (∀ x ∈ xs, f x ≤ 300 → f x = x.sz) → capS f xs n ≤ 300 → capS f xs n = n + szL xs
  | [], n, hf, h => by simp [capS, szL_nil]
  | x :: xs, n, hf, h => by
    unfold capS at h ⊢
    split at h
    · rename_i hn
      rw [if_pos hn]
      have h1 := capS_eq xs _ (fun y hy => hf y (List.mem_cons_of_mem _ hy)) h
      have h2 := hf x (by simp) (by omega)
      rw [h1, h2, szL_cons]
      omega
    · omega
theorem szD_eq : ∀ (d : Nat) (x : X), szD d x ≤ 300 → szD d x = x.sz
  | 0, x, h => by simp [szD] at h
  | d + 1, x, h => by
    unfold szD at h ⊢
    rw [capS_eq _ _ (fun y _ hy => szD_eq d y hy) h, X.sz_eq]
theorem capS_ge {f : X → Nat} : ∀ (xs : List X) (n : Nat), n ≤ capS f xs n
  | [], n => Nat.le_refl _
  | x :: xs, n => by
    unfold capS
    split
    · exact Nat.le_trans (Nat.le_add_right _ _) (capS_ge xs _)
    · exact Nat.le_refl _

/-- are they too great? -/
def gsum : List X → Nat → Nat := capS (szD 61)
theorem gsum_le (xs : List X) : gsum xs 0 ≤ 20000 := by
  have := capS_le (f := szD 61) (M := 301 + 300 * 61) (szD_le 61) xs 0 (by omega)
  unfold gsum
  omega
theorem gsum_eq {xs : List X} (h : gsum xs 0 ≤ 300) : szL xs ≤ 300 := by
  have := capS_eq (f := szD 61) xs 0 (fun x _ => szD_eq 61 x) h
  unfold gsum at h
  omega
end Go.Proofs.Ytnohnkhhkeikoaa
