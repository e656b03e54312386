/- Expressions with the values of their kids' rows: trees as they lie in memory; two of them side by side. -/
import Derived.Test.YtnohnkhhkeikoaaC
import Derived.RangeFuncCalls
namespace Go.Proofs.Ytnohnkhhkeikoaa
open Go.ChangeShapes Go.WideShapes Go.ChangeAt Go.RowKit
set_option linter.unusedVariables false

/-- an expression, with the value of its row of kids -/
inductive T where
  | mk (kind : Int) (lab : ByteArray) (kv : Value) (kids : List T)
def T.kind : T → Int | .mk k _ _ _ => k
def T.lab : T → ByteArray | .mk _ l _ _ => l
def T.kv : T → Value | .mk _ _ v _ => v
def T.kids : T → List T | .mk _ _ _ ks => ks
theorem T.ind' {P : T → Prop} (h : ∀ t, (∀ y ∈ t.kids, P y) → P t) (t : T) : P t :=
  T.rec (motive_1 := P) (motive_2 := fun ks => ∀ x ∈ ks, P x) (fun k l v ks ih => h _ ih) (fun x hx => by cases hx)
    (fun x xs h1 h2 y hy => by rcases List.mem_cons.1 hy with rfl | hy; exact h1; exact h2 y hy) t
mutual
def T.x : T → X
  | .mk k l _ ks => .mk k l (xL ks)
def xL : List T → List X
  | [] => []
  | t :: ts => t.x :: xL ts
end
theorem xL_eq : ∀ ts : List T, xL ts = ts.map T.x
  | [] => rfl
  | t :: ts => by rw [xL, xL_eq ts]; rfl
theorem T.x_kind (t : T) : t.x.kind = t.kind := by cases t; simp [T.x, X.kind, T.kind]
theorem T.x_lab (t : T) : t.x.lab = t.lab := by cases t; simp [T.x, X.lab, T.lab]
theorem T.x_kids (t : T) : t.x.kids = t.kids.map T.x := by cases t; simp [T.x, X.kids, T.kids, xL_eq]
/-- its value -/
def T.v (t : T) : Value := .agg #[.int .i64 t.kind, .string t.lab, t.kv]

/-- the row v holds just the trees ts, each with its own row -/
inductive TR (B : Nat) (w : World) : Value → List T → Prop where
  | mk (A : Option Addr) (c : Nat) (l : List T) (ad : Addr) (hc : l.length ≤ c) (hA : 0 < l.length → A = some ad ∧ ad.block < B)
    (h0 : ∀ i (h : i < l.length), w.cell? (ad.add (i * 3)) = some (.int .i64 l[i].kind)) (h1 : ∀ i (h : i < l.length), w.cell? (ad.add (i * 3 + 1)) = some (.string l[i].lab))
    (h2 : ∀ i (h : i < l.length), w.cell? (ad.add (i * 3 + 2)) = some l[i].kv) (hk : ∀ i (h : i < l.length), TR B w l[i].kv l[i].kids) : TR B w (.slice A l.length c) l

theorem TR.bel {B : Nat} {w w' : World} {v : Value} {l : List T} (h : TR B w v l) (hb : Below B w w') : TR B w' v l := by
  induction h with
  | mk A c l ad hlc hA h0 h1 h2 hk ih =>
    have hcl : ∀ i, i < l.length → ∀ j, w'.cell? (ad.add j) = w.cell? (ad.add j) := fun i hi j => World.cell?_of_block (a := ad.add j) (by rw [block_add]; exact hb.block _ (hA (by omega)).2)
    exact .mk A c l ad hlc hA (fun i h => (hcl i h _).trans (h0 i h)) (fun i h => (hcl i h _).trans (h1 i h)) (fun i h => (hcl i h _).trans (h2 i h)) ih
theorem TR.keep {B : Nat} {w w' : World} {v : Value} {l : List T} (h : TR B w v l) (hb : ∀ k, k < B → w'.heap[k]? = w.heap[k]?) : TR B w' v l := by
  induction h with
  | mk A c l ad hlc hA h0 h1 h2 hk ih =>
    have hcl : ∀ i, i < l.length → ∀ j, w'.cell? (ad.add j) = w.cell? (ad.add j) := fun i hi j => World.cell?_of_block (a := ad.add j) (by rw [block_add]; exact hb _ (hA (by omega)).2)
    exact .mk A c l ad hlc hA (fun i h => (hcl i h _).trans (h0 i h)) (fun i h => (hcl i h _).trans (h1 i h)) (fun i h => (hcl i h _).trans (h2 i h)) ih
theorem TR.form {B : Nat} {w : World} {v : Value} {l : List T} (h : TR B w v l) : ∃ A c, v = .slice A l.length c ∧ l.length ≤ c := by
  cases h with
  | mk A c l ad hlc hA h0 h1 h2 hk => exact ⟨A, c, rfl, hlc⟩
theorem TR.xr {B : Nat} {w : World} {v : Value} {l : List T} (h : TR B w v l) : XR B w v (l.map T.x) := by
  induction h with
  | mk A c l ad hlc hA h0 h1 h2 hk ih =>
    have hl : (l.map T.x).length = l.length := by simp
    have : XR B w (.slice A (l.map T.x).length c) (l.map T.x) := by
      refine .mk A c _ ad (fun i => ((l[i]?).map T.kv).getD (.bool false)) (by omega) (fun h => hA (by omega)) (fun i h => ?_) (fun i h => ?_) (fun i h => ?_) (fun i h => ?_)
      all_goals rw [hl] at h
      · simpa [T.x_kind] using h0 i h
      · simpa [T.x_lab] using h1 i h
      · simpa [h] using h2 i h
      · simpa [h, T.x_kids] using ih i h
    rwa [hl] at this
theorem XR.ann {B : Nat} {w : World} {v : Value} {l : List X} (h : XR B w v l) : ∃ ts : List T, ts.map T.x = l ∧ TR B w v ts := by
  induction h with
  | mk A c l ad K hlc hA h0 h1 h2 hk ih =>
    have hch : ∀ i, ∃ ts : List T, ∀ h : i < l.length, ts.map T.x = l[i].kids ∧ TR B w (K i) ts := fun i => by
      by_cases h : i < l.length
      · obtain ⟨ts, h1⟩ := ih i h
        exact ⟨ts, fun _ => h1⟩
      · exact ⟨[], fun h' => absurd h' h⟩
    obtain ⟨F, hF⟩ := Classical.axiomOfChoice hch
    obtain ⟨ts, hts⟩ : ∃ ts : List T, ts = (List.range l.length).map fun i => T.mk ((l[i]?).map X.kind |>.getD 0) ((l[i]?).map X.lab |>.getD ⟨#[]⟩) (K i) (F i) := ⟨_, rfl⟩
    have hl : ts.length = l.length := by rw [hts]; simp
    have hg : ∀ i (h : i < ts.length), ts[i] = T.mk (l[i]'(by omega)).kind (l[i]'(by omega)).lab (K i) (F i) := fun i h => by
      have h' : i < l.length := by omega
      subst hts
      simp [h']
    refine ⟨ts, ?_, ?_⟩
    · refine List.ext_getElem (by simpa using hl) fun i h3 h4 => ?_
      rw [List.getElem_map, hg i (by simpa using h3)]
      refine X.ext' (by simp [T.x, X.kind]) (by simp [T.x, X.lab]) ?_
      rw [T.x_kids]
      exact (hF i h4).1
    · have : TR B w (.slice A ts.length c) ts := by
        refine .mk A c ts ad (by omega) (fun h => hA (by omega)) (fun i h => ?_) (fun i h => ?_) (fun i h => ?_) (fun i h => ?_)
        all_goals rw [hg i h]
        · exact h0 i (by omega)
        · exact h1 i (by omega)
        · exact h2 i (by omega)
        · exact (hF i (by omega)).2
      rwa [hl] at this
/-- the row's first tree, and what is behind it -/
theorem TR.first {B : Nat} {w : World} {v : Value} {t : T} {l : List T} (h : TR B w v (t :: l)) :
    ∃ ad c, v = .slice (some ad) (l.length + 1) c ∧ l.length + 1 ≤ c ∧ ad.block < B ∧ w.cell? ad = some (.int .i64 t.kind) ∧ w.cell? ⟨ad.block, ad.off + 1, none⟩ = some (.string t.lab) ∧ w.cell? ⟨ad.block, ad.off + 2, none⟩ = some t.kv ∧ TR B w t.kv t.kids ∧
      TR B w (.slice (if c = 1 then some ad else some (ad.add 3)) l.length (c - 1)) l := by
  generalize hl : t :: l = l' at h
  cases h with
  | mk A c l2 ad hlc hA h0 h1 h2 hx =>
    subst hl
    obtain ⟨e, hb⟩ := hA (by simp)
    subst e
    simp only [List.length_cons] at hlc
    have a0 : ad.add 0 = ad := by unfold Addr.add; simp
    have f0 := h0 0 (by simp)
    have f1 := h1 0 (by simp)
    have f2 := h2 0 (by simp)
    have f3 := hx 0 (by simp)
    simp only [List.getElem_cons_zero, Nat.zero_mul, Nat.zero_add] at f0 f1 f2 f3
    have a1 : ad.add 1 = ⟨ad.block, ad.off + 1, none⟩ := by have := add_off ad (k := 0) (j := 1) (by omega); rw [a0] at this; simpa using this
    have a2 : ad.add 2 = ⟨ad.block, ad.off + 2, none⟩ := by have := add_off ad (k := 0) (j := 2) (by omega); rw [a0] at this; simpa using this
    rw [a0] at f0
    rw [a1] at f1
    rw [a2] at f2
    refine ⟨ad, c, rfl, hlc, hb, f0, f1, f2, f3, ?_⟩
    by_cases hn : l.length = 0
    · obtain rfl : l = [] := List.eq_nil_of_length_eq_zero hn
      exact .mk _ _ [] ad (Nat.zero_le _) (fun h => absurd h (by simp)) (fun i h => absurd h (by simp)) (fun i h => absurd h (by simp)) (fun i h => absurd h (by simp)) (fun i h => absurd h (by simp))
    · rw [if_neg (by omega)]
      refine .mk _ _ _ (ad.add 3) (by omega) (fun _ => ⟨rfl, by rw [block_add]; exact hb⟩) (fun i hi => ?_) (fun i hi => ?_) (fun i hi => ?_) (fun i hi => ?_)
      · have := h0 (i + 1) (by simp; omega)
        rw [add_of_add, show 3 + i * 3 = (i + 1) * 3 by omega]
        exact this
      · have := h1 (i + 1) (by simp; omega)
        rw [add_of_add, show 3 + (i * 3 + 1) = (i + 1) * 3 + 1 by omega]
        exact this
      · have := h2 (i + 1) (by simp; omega)
        rw [add_of_add, show 3 + (i * 3 + 2) = (i + 1) * 3 + 2 by omega]
        exact this
      · have := hx (i + 1) (by simp; omega)
        exact this

mutual
/-- parts that stand at the same places in two -/
def zipT : T → T → List (T × T)
  | .mk k l v ks, b => (.mk k l v ks, b) :: zipTL ks b.kids
def zipTL : List T → List T → List (T × T)
  | t :: ts, u :: us => zipT t u ++ zipTL ts us
  | _, _ => []
end
theorem zipT_eq (a b : T) : zipT a b = (a, b) :: zipTL a.kids b.kids := by cases a; simp [zipT, T.kids]
theorem zipTL_cons (t u : T) (ts us : List T) : zipTL (t :: ts) (u :: us) = zipT t u ++ zipTL ts us := by simp [zipTL]
theorem zipTL_nil (us : List T) : zipTL [] us = [] := by simp [zipTL]
theorem zipTL_nil' (ts : List T) : zipTL ts [] = [] := by cases ts <;> simp [zipTL]

def T.sz (t : T) : Nat := t.x.sz
def szT (ts : List T) : Nat := szL (ts.map T.x)
theorem T.sz_eq (t : T) : t.sz = 1 + szT t.kids := by unfold T.sz szT; rw [X.sz_eq, T.x_kids]
theorem szT_cons (t : T) (ts : List T) : szT (t :: ts) = t.sz + szT ts := by unfold szT T.sz; rw [List.map_cons, szL_cons]
theorem szT_nil : szT [] = 0 := by simp [szT, szL_nil]

/-- all of what is paired lies in memory -/
theorem zip_ok {B : Nat} {w : World} : ∀ (a b : T), TR B w a.kv a.kids → TR B w b.kv b.kids → ∀ z ∈ zipT a b, TR B w z.1.kv z.1.kids ∧ TR B w z.2.kv z.2.kids := by
  intro a
  induction a using T.ind' with
  | h a ih =>
    intro b ha hb z hz
    rw [zipT_eq] at hz
    rcases List.mem_cons.1 hz with rfl | hz
    · exact ⟨ha, hb⟩
    · have hka : ∀ y ∈ a.kids, TR B w y.kv y.kids := by
        intro y hy
        obtain ⟨i, hi, rfl⟩ := List.mem_iff_getElem.1 hy
        generalize a.kv = v at ha
        generalize a.kids = l at ha hi
        cases ha with
        | mk A c l ad hlc hA h0 h1 h2 hx => exact hx i hi
      have hkb : ∀ y ∈ b.kids, TR B w y.kv y.kids := by
        intro y hy
        obtain ⟨i, hi, rfl⟩ := List.mem_iff_getElem.1 hy
        generalize b.kv = v at hb
        generalize b.kids = l at hb hi
        cases hb with
        | mk A c l ad hlc hA h0 h1 h2 hx => exact hx i hi
      generalize b.kids = us at hz hkb
      clear ha hb
      generalize a.kids = ts at hz hka ih
      induction ts generalizing us with
      | nil => rw [zipTL_nil] at hz; cases hz
      | cons t ts iht =>
        cases us with
        | nil => rw [zipTL_nil'] at hz; cases hz
        | cons u us =>
          rw [zipTL_cons] at hz
          rcases List.mem_append.1 hz with hz | hz
          · exact ih t (by simp) u (hka t (by simp)) (hkb u (by simp)) z hz
          · exact iht us (fun y hy => hkb y (by simp [hy])) hz (fun y hy => hka y (by simp [hy])) (fun y hy => ih y (by simp [hy]))
end Go.Proofs.Ytnohnkhhkeikoaa
