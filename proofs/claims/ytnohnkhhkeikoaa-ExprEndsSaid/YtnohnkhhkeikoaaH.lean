/- The parts that stand at the same places in two, as a function to range over. -/
import Derived.Test.YtnohnkhhkeikoaaG
namespace Go.Proofs.Ytnohnkhhkeikoaa
open Go.ChangeShapes Go.WideShapes Go.ChangeAt Go.RowKit
set_option linter.unusedVariables false

/-- types of cells that rounds keep -/
def still (t : TypeId) : Bool := t == 25 || t == 68 || t == 23 || t == 32 || t == 34
/-- blocks below N, and such cells, lie as they lay -/
structure KpX (N : Nat) (A B : World) : Prop where
  size : A.heap.size ≤ B.heap.size
  low : ∀ k, k < N → B.heap[k]? = A.heap[k]?
  cells : ∀ (k : Nat) (v : Array Value) (t : TypeId) (fr : Nat × Nat), A.heap[k]? = some (Obj.cells v t fr) → still t = true → B.heap[k]? = some (Obj.cells v t fr)
theorem KpX.trans {N : Nat} {A B C : World} (h : KpX N A B) (k : KpX N B C) : KpX N A C := ⟨Nat.le_trans h.size k.size, fun i hi => (k.low i hi).trans (h.low i hi), fun i v t fr hi ht => k.cells i v t fr (h.cells i v t fr hi ht) ht⟩
theorem KpX.refl (N : Nat) (A : World) : KpX N A A := ⟨Nat.le_refl _, fun _ _ => rfl, fun _ _ _ _ h _ => h⟩
theorem KpX.putObj {N : Nat} (W : World) (l : Nat) (o o' : Obj) (hN : N ≤ l) (hl : W.heap[l]? = some o) (ho : o.isCells = false) : KpX N W (W.putObj l o') := by
  refine ⟨by simp, fun k hk => World.putObj_heap_other (by omega), fun k v t fr hk ht => ?_⟩
  by_cases e : k = l
  · subst e
    rw [hk] at hl
    cases hl
    simp [Obj.isCells] at ho
  · exact (World.putObj_heap_other e).trans hk
theorem KpX.of_below {N : Nat} {A B : World} (h : Below A.heap.size A B) (hN : N ≤ A.heap.size) : KpX N A B := ⟨h.size, fun k hk => h.block k (by omega), fun k v t fr hk ht => (h.block k (Array.getElem?_eq_some_iff.1 hk).1).trans hk⟩
theorem KpX.mono {N N' : Nat} {A B : World} (h : KpX N A B) (hN : N' ≤ N) : KpX N' A B := ⟨h.size, fun k hk => h.low k (by omega), h.cells⟩
theorem KpX.row {N : Nat} {A B : World} {base e sz n : Nat} {v : Value} {xs : List Value} (h : A.ownsRow base e sz v n xs) (hk : KpX N A B) (he : still e = true) : B.ownsRow base e sz v n xs := by
  refine ⟨h.1, ?_⟩
  rcases h.2 with hn | ⟨g, cap, cur, e1, hbg, hg, rest⟩
  · exact .inl hn
  · exact .inr ⟨g, cap, cur, e1, hbg, hk.cells g _ _ _ hg he, rest⟩
theorem TR.kp {N : Nat} {A B : World} {v : Value} {l : List T} (h : TR N A v l) (hk : KpX N A B) : TR N B v l := h.keep hk.low
theorem TR.nil_any {N N' : Nat} {w w' : World} {v : Value} (h : TR N w v []) : TR N' w' v [] := by
  obtain ⟨A, c, rfl, _⟩ := h.form
  exact .mk A c [] ⟨0, 0, none⟩ (Nat.zero_le _) (fun h => absurd h (by simp)) (fun i h => absurd h (by simp)) (fun i h => absurd h (by simp)) (fun i h => absurd h (by simp)) (fun i h => absurd h (by simp))

/-- what is still to come of rows that stand behind one another, the last one first -/
def outS (st : List Rw) : List (T × T) := st.reverse.flatMap fun r => zipTL r.a r.b
theorem outS_snoc (st : List Rw) (r : Rw) : outS (st ++ [r]) = zipTL r.a r.b ++ outS st := by simp [outS]
theorem outS_fulls (st : List Rw) (r1 r2 : Rw) : outS (st ++ fulls [r1, r2]) = zipTL r2.a r2.b ++ (zipTL r1.a r1.b ++ outS st) := by
  have hz : ∀ r : Rw, ¬ r.full → zipTL r.a r.b = [] := by
    intro r h
    unfold Rw.full at h
    cases ha : r.a with
    | nil => exact zipTL_nil _
    | cons x xs =>
      cases hb : r.b with
      | nil => exact zipTL_nil' _
      | cons y ys => rw [ha, hb] at h; exact absurd ⟨by simp, by simp⟩ h
  by_cases h1 : r1.full <;> by_cases h2 : r2.full
  · rw [show fulls [r1, r2] = [r1] ++ [r2] by simp [fulls, h1, h2], ← List.append_assoc, outS_snoc, outS_snoc]
  · rw [show fulls [r1, r2] = [r1] by simp [fulls, h1, h2], outS_snoc, hz r2 h2]; rfl
  · rw [show fulls [r1, r2] = [r2] by simp [fulls, h1, h2], outS_snoc, hz r1 h1]; rfl
  · rw [show fulls [r1, r2] = [] by simp [fulls, h1, h2], List.append_nil, hz r1 h1, hz r2 h2]; rfl
theorem zipTL_pos {ts us : List T} (h1 : 0 < ts.length) (h2 : 0 < us.length) : 0 < (zipTL ts us).length := by
  cases ts with
  | nil => simp at h1
  | cons t ts =>
    cases us with
    | nil => simp at h2
    | cons u us => rw [zipTL_cons, zipT_eq]; simp
theorem flat_len : ∀ (l : List Rw), (∀ r ∈ l, r.full) → l.length ≤ (l.flatMap fun r => zipTL r.a r.b).length
  | [], _ => by simp
  | r :: l, h => by
    have h1 := flat_len l fun x hx => h x (by simp [hx])
    have h2 := zipTL_pos (h r (by simp)).1 (h r (by simp)).2
    rw [List.flatMap_cons, List.length_append, List.length_cons]
    omega
theorem outS_len (st : List Rw) (h : ∀ r ∈ st, r.full) : st.length ≤ (outS st).length := by
  have := flat_len st.reverse fun r hr => h r (by simpa using hr)
  rwa [List.length_reverse] at this

/-- the rows that stand: each lies in memory; or there is but the first one -/
def Rl (N : Nat) (W : World) (st : List Rw) : Prop :=
  (∀ r ∈ st, r.full ∧ r.ok N W) ∨ ∃ r t u, st = [r] ∧ r.a = [t] ∧ r.b = [u] ∧ r.ok W.heap.size W ∧ TR N W t.kv t.kids ∧ TR N W u.kv u.kids
theorem Rl.full {N : Nat} {W : World} {st : List Rw} (h : Rl N W st) : ∀ r ∈ st, r.full := by
  rcases h with h | ⟨r, t, u, rfl, h1, h2, _⟩
  · exact fun r hr => (h r hr).1
  · intro x hx
    obtain rfl : x = r := by simpa using hx
    exact ⟨by rw [h1]; simp, by rw [h2]; simp⟩

theorem Rl.top {N : Nat} {W : World} {st : List Rw} (h : Rl N W st) (hN : N ≤ W.heap.size) (h0 : st ≠ []) :
    ∃ pre r t ts u us va' vb', st = pre ++ [r] ∧ r.a = t :: ts ∧ r.b = u :: us ∧ (∀ x ∈ pre, x.full ∧ x.ok N W) ∧ TR N W t.kv t.kids ∧ TR N W u.kv u.kids ∧ TR N W va' ts ∧ TR N W vb' us ∧
      Calls Try.prog 54 #[r.v] W (FirstR t u va' vb' W) := by
  rcases h with h | ⟨r, t, u, rfl, h1, h2, h3, h4, h5⟩
  · obtain ⟨pre, r, rfl⟩ : ∃ pre r, st = pre ++ [r] := ⟨_, _, (List.dropLast_concat_getLast h0).symm⟩
    obtain ⟨hf, hok⟩ := h r (by simp)
    obtain ⟨t, ts, ha⟩ := List.exists_cons_of_length_pos hf.1
    obtain ⟨u, us, hb⟩ := List.exists_cons_of_length_pos hf.2
    have k1 := hok.1
    have k2 := hok.2
    rw [ha] at k1
    rw [hb] at k2
    obtain ⟨va', vb', h1, h2⟩ := first_any k1 k2 hN
    obtain ⟨_, _, _, _, _, _, _, _, q1, _⟩ := k1.first
    obtain ⟨_, _, _, _, _, _, _, _, q2, _⟩ := k2.first
    exact ⟨pre, r, t, ts, u, us, va', vb', rfl, ha, hb, fun x hx => h x (by simp [hx]), q1, q2, (h1 W (Below.refl _ _)).1, (h1 W (Below.refl _ _)).2, h2⟩
  · have k1 := h3.1
    have k2 := h3.2
    rw [h1] at k1
    rw [h2] at k2
    obtain ⟨va', vb', q1, q2⟩ := first_any k1 k2 (Nat.le_refl _)
    exact ⟨[], r, t, [], u, [], va', vb', rfl, h1, h2, (fun x hx => by cases hx), h4, h5, (q1 W (Below.refl _ _)).1.nil_any, (q1 W (Below.refl _ _)).2.nil_any, q2⟩

/-- the row without its last one -/
theorem own_cut {w : World} {base e sz n cap : Nat} {A : Option Addr} {xs ys : List Value} {m : Nat} (h : w.ownsRow base e sz (.slice A n cap) n (xs ++ ys)) (hx : xs.length = m * sz) (hm : m < n) : w.ownsRow base e sz (.slice A m cap) m xs := by
  refine ⟨hx, ?_⟩
  rcases h.2 with ⟨he, h0⟩ | ⟨g, c2, cur, he, hb, hg, hc, hc2, hs, ht⟩
  · omega
  · injection he with e1 e2 e3
    subst e1 e3
    refine .inr ⟨g, cap, cur, rfl, hb, hg, by omega, hc2, hs, ?_⟩
    have : cur.toList.take (m * sz) = (cur.toList.take (n * sz)).take (m * sz) := by rw [List.take_take, Nat.min_eq_left (Nat.mul_le_mul_right _ (by omega))]
    rw [this, ht, ← hx, List.take_left']
    rfl
end Go.Proofs.Ytnohnkhhkeikoaa
