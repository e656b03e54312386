/- Steps over a label, as plain functions of flags; rows of spots in memory. -/
import Derived.Test.YtnohnkhhkeikoaaP
namespace Go.Proofs.Ytnohnkhhkeikoaa
open Go.ChangeShapes Go.WideShapes Go.ChangeAt Go.RowKit
set_option linter.unusedVariables false

def hd (l : List Bool) : Bool := l.headD false

mutual
/-- the flags of an expression's parts behind a label -/
def stepF (s : ByteArray) : X → List Bool → Bool → List Bool
  | .mk k l ks, fl, b =>
    if k = 1 then (b && decide (l = s)) :: fl.tail
    else if k = 2 then (rowS s ks fl.tail b false).2.1 :: (rowS s ks fl.tail b false).2.2
    else if k = 3 ∨ k = 6 then (altS s ks fl.tail b false).1 :: (altS s ks fl.tail b false).2
    else hd (altS s ks fl.tail (b || hd fl.tail) false).2 :: (altS s ks fl.tail (b || hd fl.tail) false).2
def rowS (s : ByteArray) : List X → List Bool → Bool → Bool → Bool × Bool × List Bool
  | [], _, b, e => (b, e, [])
  | x :: xs, kf, b, e =>
    let f' := stepF s x (kf.take x.sz) b
    let r := rowS s xs (kf.drop x.sz) (hd (kf.take x.sz) || (b && x.emp)) (hd f' || (e && x.emp))
    (r.1, r.2.1, f' ++ r.2.2)
def altS (s : ByteArray) : List X → List Bool → Bool → Bool → Bool × List Bool
  | [], _, _, acc => (acc, [])
  | x :: xs, kf, b, acc =>
    let f' := stepF s x (kf.take x.sz) b
    let r := altS s xs (kf.drop x.sz) b (acc || hd f')
    (r.1, f' ++ r.2)
end
theorem stepF_eq (s : ByteArray) (x : X) (fl : List Bool) (b : Bool) : stepF s x fl b =
    if x.kind = 1 then (b && decide (x.lab = s)) :: fl.tail
    else if x.kind = 2 then (rowS s x.kids fl.tail b false).2.1 :: (rowS s x.kids fl.tail b false).2.2
    else if x.kind = 3 ∨ x.kind = 6 then (altS s x.kids fl.tail b false).1 :: (altS s x.kids fl.tail b false).2
    else hd (altS s x.kids fl.tail (b || hd fl.tail) false).2 :: (altS s x.kids fl.tail (b || hd fl.tail) false).2 := by
  cases x
  rw [stepF]
  rfl
theorem rowS_nil (s : ByteArray) (kf : List Bool) (b e : Bool) : rowS s [] kf b e = (b, e, []) := by rw [rowS]
theorem rowS_cons (s : ByteArray) (x : X) (xs : List X) (kf : List Bool) (b e : Bool) : rowS s (x :: xs) kf b e =
    ((rowS s xs (kf.drop x.sz) (hd (kf.take x.sz) || (b && x.emp)) (hd (stepF s x (kf.take x.sz) b) || (e && x.emp))).1,
     (rowS s xs (kf.drop x.sz) (hd (kf.take x.sz) || (b && x.emp)) (hd (stepF s x (kf.take x.sz) b) || (e && x.emp))).2.1,
     stepF s x (kf.take x.sz) b ++ (rowS s xs (kf.drop x.sz) (hd (kf.take x.sz) || (b && x.emp)) (hd (stepF s x (kf.take x.sz) b) || (e && x.emp))).2.2) := by rw [rowS]
theorem altS_nil (s : ByteArray) (kf : List Bool) (b acc : Bool) : altS s [] kf b acc = (acc, []) := by rw [altS]
theorem altS_cons (s : ByteArray) (x : X) (xs : List X) (kf : List Bool) (b acc : Bool) : altS s (x :: xs) kf b acc =
    ((altS s xs (kf.drop x.sz) b (acc || hd (stepF s x (kf.take x.sz) b))).1, stepF s x (kf.take x.sz) b ++ (altS s xs (kf.drop x.sz) b (acc || hd (stepF s x (kf.take x.sz) b))).2) := by rw [altS]

/-- are the parts as the table says? -/
def X.good (x : X) : Prop := ∀ p ∈ x.parts, p.fits = true
def goodL (ks : List X) : Prop := ∀ k ∈ ks, k.good
theorem X.good.kids {x : X} (h : x.good) : goodL x.kids := by
  intro k hk p hp
  refine h p ?_
  rw [X.parts_eq]
  refine List.mem_cons_of_mem _ ?_
  generalize x.kids = ks at hk
  induction ks with
  | nil => cases hk
  | cons y ys ih =>
    rw [partsL_cons]
    rcases List.mem_cons.1 hk with rfl | hk
    · exact List.mem_append_left _ hp
    · exact List.mem_append_right _ (ih hk)
theorem X.good.fit {x : X} (h : x.good) : x.fits = true := h x (by rw [X.parts_eq]; simp)

theorem stepF_len (s : ByteArray) : ∀ (x : X), x.good → ∀ (fl : List Bool) (b : Bool), fl.length = x.sz → (stepF s x fl b).length = x.sz := by
  intro x
  induction x using X.ind' with
  | h x ih =>
    intro hg fl b hl
    have hrow : ∀ (ks : List X), (∀ y ∈ ks, y.good → ∀ (fl : List Bool) (b : Bool), fl.length = y.sz → (stepF s y fl b).length = y.sz) → goodL ks → ∀ (kf : List Bool) (b e : Bool), kf.length = szL ks → (rowS s ks kf b e).2.2.length = szL ks := by
      intro ks
      induction ks with
      | nil => intro _ _ kf b e hk; rw [rowS_nil, szL_nil]; rfl
      | cons y ys ihy =>
        intro h hg kf b e hk
        rw [szL_cons] at hk ⊢
        rw [rowS_cons]
        simp only [List.length_append]
        rw [h y (by simp) (hg y (by simp)) _ _ (by rw [List.length_take]; omega), ihy (fun z hz => h z (by simp [hz])) (fun z hz => hg z (by simp [hz])) _ _ _ (by rw [List.length_drop]; omega)]
    have halt : ∀ (ks : List X), (∀ y ∈ ks, y.good → ∀ (fl : List Bool) (b : Bool), fl.length = y.sz → (stepF s y fl b).length = y.sz) → goodL ks → ∀ (kf : List Bool) (b e : Bool), kf.length = szL ks → (altS s ks kf b e).2.length = szL ks := by
      intro ks
      induction ks with
      | nil => intro _ _ kf b e hk; rw [altS_nil, szL_nil]; rfl
      | cons y ys ihy =>
        intro h hg kf b e hk
        rw [szL_cons] at hk ⊢
        rw [altS_cons]
        simp only [List.length_append]
        rw [h y (by simp) (hg y (by simp)) _ _ (by rw [List.length_take]; omega), ihy (fun z hz => h z (by simp [hz])) (fun z hz => hg z (by simp [hz])) _ _ _ (by rw [List.length_drop]; omega)]
    have ht : fl.tail.length = szL x.kids := by rw [List.length_tail, hl, X.sz_eq]; omega
    rw [stepF_eq, X.sz_eq]
    split
    · simp [ht]; omega
    · split
      · rw [List.length_cons, hrow _ ih hg.kids _ _ _ ht]; omega
      · split
        · rw [List.length_cons, halt _ ih hg.kids _ _ _ ht]; omega
        · rw [List.length_cons, halt _ ih hg.kids _ _ _ ht]; omega
theorem rowS_len (s : ByteArray) : ∀ (ks : List X), goodL ks → ∀ (kf : List Bool) (b e : Bool), kf.length = szL ks → (rowS s ks kf b e).2.2.length = szL ks
  | [], _, kf, b, e, hk => by rw [rowS_nil, szL_nil]; rfl
  | y :: ys, hg, kf, b, e, hk => by
    rw [szL_cons] at hk ⊢
    rw [rowS_cons]
    simp only [List.length_append]
    rw [stepF_len s y (hg y (by simp)) _ _ (by rw [List.length_take]; omega), rowS_len s ys (fun z hz => hg z (by simp [hz])) _ _ _ (by rw [List.length_drop]; omega)]
theorem altS_len (s : ByteArray) : ∀ (ks : List X), goodL ks → ∀ (kf : List Bool) (b e : Bool), kf.length = szL ks → (altS s ks kf b e).2.length = szL ks
  | [], _, kf, b, e, hk => by rw [altS_nil, szL_nil]; rfl
  | y :: ys, hg, kf, b, e, hk => by
    rw [szL_cons] at hk ⊢
    rw [altS_cons]
    simp only [List.length_append]
    rw [stepF_len s y (hg y (by simp)) _ _ (by rw [List.length_take]; omega), altS_len s ys (fun z hz => hg z (by simp [hz])) _ _ _ (by rw [List.length_drop]; omega)]

/-- one kid more at the end -/
theorem rowS_snoc (s : ByteArray) (x : X) : ∀ (ks : List X) (kf : List Bool) (b e : Bool),
    rowS s (ks ++ [x]) kf b e =
      (hd ((kf.drop (szL ks)).take x.sz) || ((rowS s ks kf b e).1 && x.emp), hd (stepF s x ((kf.drop (szL ks)).take x.sz) (rowS s ks kf b e).1) || ((rowS s ks kf b e).2.1 && x.emp), (rowS s ks kf b e).2.2 ++ stepF s x ((kf.drop (szL ks)).take x.sz) (rowS s ks kf b e).1)
  | [], kf, b, e => by rw [List.nil_append, rowS_cons, rowS_nil, rowS_nil, szL_nil]; simp
  | y :: ys, kf, b, e => by
    rw [List.cons_append, rowS_cons, rowS_snoc s x ys, rowS_cons, szL_cons]
    simp only [List.drop_drop, List.append_assoc]
theorem altS_snoc (s : ByteArray) (x : X) : ∀ (ks : List X) (kf : List Bool) (b acc : Bool),
    altS s (ks ++ [x]) kf b acc = ((altS s ks kf b acc).1 || hd (stepF s x ((kf.drop (szL ks)).take x.sz) b), (altS s ks kf b acc).2 ++ stepF s x ((kf.drop (szL ks)).take x.sz) b)
  | [], kf, b, acc => by rw [List.nil_append, altS_cons, altS_nil, altS_nil, szL_nil]; simp
  | y :: ys, kf, b, acc => by
    rw [List.cons_append, altS_cons, altS_snoc s x ys, altS_cons, szL_cons]
    simp only [List.drop_drop, List.append_assoc]

/-! ### in memory -/
def SL (x : X) (fl : List Bool) : List Sp := List.zipWith (fun p e => spX e p) x.parts fl
def SLs (ks : List X) (fl : List Bool) : List Sp := List.zipWith (fun p e => spX e p) (partsL ks) fl
theorem SL_len {x : X} {fl : List Bool} (h : fl.length = x.sz) : (SL x fl).length = x.sz := by unfold SL; rw [List.length_zipWith, h]; exact Nat.min_self _
theorem SLs_len {ks : List X} {fl : List Bool} (h : fl.length = szL ks) : (SLs ks fl).length = szL ks := by unfold SLs; rw [List.length_zipWith, h]; exact Nat.min_self _
theorem SL_cons (x : X) (e : Bool) (kf : List Bool) : SL x (e :: kf) = spX e x :: SLs x.kids kf := by unfold SL SLs; rw [X.parts_eq]; rfl
theorem SLs_nil (fl : List Bool) : SLs [] fl = [] := by unfold SLs; rw [partsL_nil]; rfl
theorem SLs_cons (x : X) (xs : List X) (fl : List Bool) (h : x.sz ≤ fl.length) : SLs (x :: xs) fl = SL x (fl.take x.sz) ++ SLs xs (fl.drop x.sz) := by
  unfold SLs SL
  rw [partsL_cons]
  conv => lhs; rw [← List.take_append_drop x.sz fl]
  exact List.zipWith_append (by rw [List.length_take, Nat.min_eq_left h]; rfl)
theorem SLs_app : ∀ (xs ys : List X) (f g : List Bool), f.length = szL xs → SLs (xs ++ ys) (f ++ g) = SLs xs f ++ SLs ys g := by
  intro xs ys f g h
  unfold SLs
  have : partsL (xs ++ ys) = partsL xs ++ partsL ys := by
    clear h
    induction xs with
    | nil => simp [partsL_nil]
    | cons x xs ih => rw [List.cons_append, partsL_cons, partsL_cons, ih, List.append_assoc]
  rw [this]
  exact List.zipWith_append (by rw [h]; rfl)
theorem SLs_one (x : X) (f : List Bool) (h : f.length = x.sz) : SLs [x] f = SL x f := by
  rw [SLs_cons x [] f (by omega), SLs_nil, List.take_of_length_le (by omega), List.append_nil]

/-- the row's cells begin with those of L -/
def SpM (W : World) (g : Nat) (L : List Sp) : Prop := ∃ cur : Array Value, W.heap[g]? = some (.cells cur 56 (0, 0)) ∧ ∀ (j : Nat) (u : Value), (flatS L)[j]? = some u → cur[j]? = some u
theorem SpM.lt {W : World} {g : Nat} {L : List Sp} (h : SpM W g L) : g < W.heap.size := by
  obtain ⟨cur, h, _⟩ := h
  exact (Array.getElem?_eq_some_iff.1 h).1
theorem SpM.block {W W' : World} {g : Nat} {L : List Sp} (h : SpM W g L) (hb : W'.heap[g]? = W.heap[g]?) : SpM W' g L := by
  obtain ⟨cur, h, hc⟩ := h
  exact ⟨cur, hb.trans h, hc⟩
theorem SpM.bel {W W' : World} {g : Nat} {L : List Sp} (h : SpM W g L) (hb : Below W.heap.size W W') : SpM W' g L := h.block (hb.block _ h.lt)
theorem SpM.rel {B : Nat} {W W' : World} {g : Nat} {L : List Sp} (h : SpM W g L) (hr : Rel B W W') : SpM W' g L := by
  obtain ⟨cur, h, hc⟩ := h
  exact ⟨cur, hr.cells h (by decide), hc⟩
theorem SpM.frozen {W : World} {g : Nat} {L : List Sp} (h : SpM W g L) (o : Nat) : W.frozen? ⟨g, o, none⟩ = false := by
  obtain ⟨cur, h, hc⟩ := h
  simp [World.frozen?, h]
theorem flatS_at : ∀ (L : List Sp) (i : Nat) (h : i < L.length), (flatS L)[i * 5]? = some (.int .i64 L[i].kind) ∧ (flatS L)[i * 5 + 1]? = some (.string L[i].lab) ∧ (flatS L)[i * 5 + 2]? = some (.int .i64 L[i].size) ∧ (flatS L)[i * 5 + 3]? = some (.bool L[i].emp) ∧ (flatS L)[i * 5 + 4]? = some (.bool L[i].ends)
  | x :: l, 0, h => by simp [flatS, Sp.cells]
  | x :: l, k + 1, h => by
    have := flatS_at l k (by simp at h; omega)
    simp only [List.getElem_cons_succ]
    have e : flatS (x :: l) = .int .i64 x.kind :: .string x.lab :: .int .i64 x.size :: .bool x.emp :: .bool x.ends :: flatS l := by simp [flatS, Sp.cells]
    rw [e, show (k + 1) * 5 = k * 5 + 1 + 1 + 1 + 1 + 1 by omega]
    simp only [show ∀ a, k * 5 + 1 + 1 + 1 + 1 + 1 + a = (k * 5 + a) + 1 + 1 + 1 + 1 + 1 by omega, List.getElem?_cons_succ]
    exact this
theorem SpM.at5 {W : World} {g : Nat} {L : List Sp} (h : SpM W g L) {i : Nat} (hi : i < L.length) :
    W.cell? ⟨g, i * 5, none⟩ = some (.int .i64 L[i].kind) ∧ W.cell? ⟨g, i * 5 + 1, none⟩ = some (.string L[i].lab) ∧ W.cell? ⟨g, i * 5 + 2, none⟩ = some (.int .i64 L[i].size) ∧ W.cell? ⟨g, i * 5 + 3, none⟩ = some (.bool L[i].emp) ∧ W.cell? ⟨g, i * 5 + 4, none⟩ = some (.bool L[i].ends) := by
  obtain ⟨cur, h, hc⟩ := h
  obtain ⟨e0, e1, e2, e3, e4⟩ := flatS_at L i hi
  refine ⟨?_, ?_, ?_, ?_, ?_⟩ <;> rw [cell_of_row _ _ _ _ _ _ h]
  · exact hc _ _ e0
  · exact hc _ _ e1
  · exact hc _ _ e2
  · exact hc _ _ e3
  · exact hc _ _ e4
def Sp.set (s : Sp) (e : Bool) : Sp := { s with ends := e }
theorem flatS_set : ∀ (L : List Sp) (i : Nat) (h : i < L.length) (e : Bool), flatS (L.set i (L[i].set e)) = (flatS L).set (i * 5 + 4) (.bool e)
  | x :: l, 0, h, e => by simp [flatS, Sp.cells, Sp.set]
  | x :: l, k + 1, h, e => by
    have := flatS_set l k (by simp at h; omega) e
    simp only [List.getElem_cons_succ, List.set_cons_succ]
    have e0 : ∀ l, flatS (x :: l) = .int .i64 x.kind :: .string x.lab :: .int .i64 x.size :: .bool x.emp :: .bool x.ends :: flatS l := fun l => by simp [flatS, Sp.cells]
    rw [e0, e0, this, show (k + 1) * 5 + 4 = (k * 5 + 4) + 1 + 1 + 1 + 1 + 1 by omega]
    simp only [List.set_cons_succ]
theorem SpM.store {W : World} {g : Nat} {L : List Sp} (h : SpM W g L) {i : Nat} (hi : i < L.length) (e : Bool) : SpM (W.setCell ⟨g, i * 5 + 4, none⟩ (.bool e)) g (L.set i (L[i].set e)) := by
  obtain ⟨cur, h, hc⟩ := h
  have hlt := (Array.getElem?_eq_some_iff.1 h).1
  have hj : i * 5 + 4 < cur.size := by
    have := hc _ _ (flatS_at L i hi).2.2.2.2
    exact (Array.getElem?_eq_some_iff.1 this).1
  refine ⟨cur.setIfInBounds (i * 5 + 4) (.bool e), ?_, fun j u hu => ?_⟩
  · have hg := (Array.getElem?_eq_some_iff.1 h).2
    simp only [World.setCell]
    rw [Array.getElem?_modify]
    simp [h]
  · rw [flatS_set L i hi e] at hu
    by_cases hji : j = i * 5 + 4
    · subst hji
      rw [List.getElem?_set_self (by rw [flatS_len]; omega)] at hu
      rw [Array.getElem?_setIfInBounds_self_of_lt hj]
      exact hu
    · rw [List.getElem?_set_ne (fun h => hji h.symm)] at hu
      rw [Array.getElem?_setIfInBounds_ne (fun h => hji h.symm)]
      exact hc j u hu
theorem spX_set (a b : Bool) (x : X) : (spX a x).set b = spX b x := rfl
/-- the first spot's flag among others -/
theorem SpM.store0 {W : World} {g : Nat} {P Q : List Sp} {s : Sp} (h : SpM W g (P ++ s :: Q)) (e : Bool) : SpM (W.setCell ⟨g, P.length * 5 + 4, none⟩ (.bool e)) g (P ++ s.set e :: Q) := by
  have hi : P.length < (P ++ s :: Q).length := by simp
  have := h.store hi e
  rw [List.getElem_append_right (Nat.le_refl _)] at this
  simpa using this
theorem SpM.at0 {W : World} {g : Nat} {P Q : List Sp} {s : Sp} (h : SpM W g (P ++ s :: Q)) :
    W.cell? ⟨g, P.length * 5, none⟩ = some (.int .i64 s.kind) ∧ W.cell? ⟨g, P.length * 5 + 1, none⟩ = some (.string s.lab) ∧ W.cell? ⟨g, P.length * 5 + 2, none⟩ = some (.int .i64 s.size) ∧ W.cell? ⟨g, P.length * 5 + 3, none⟩ = some (.bool s.emp) ∧ W.cell? ⟨g, P.length * 5 + 4, none⟩ = some (.bool s.ends) := by
  have hi : P.length < (P ++ s :: Q).length := by simp
  have := h.at5 hi
  rw [List.getElem_append_right (Nat.le_refl _)] at this
  simpa using this

/-- but for block g all that was there lies as it lay -/
structure Ch (g : Nat) (w w' : World) : Prop where
  os : w'.os = w.os
  tape : w'.tape = w.tape
  output : w'.output = w.output
  size : w.heap.size ≤ w'.heap.size
  block : ∀ k, k < w.heap.size → k ≠ g → w'.heap[k]? = w.heap[k]?
theorem Ch.refl (g : Nat) (w : World) : Ch g w w := ⟨rfl, rfl, rfl, Nat.le_refl _, fun _ _ _ => rfl⟩
theorem Ch.trans {g : Nat} {a b c : World} (h : Ch g a b) (k : Ch g b c) : Ch g a c := ⟨k.os.trans h.os, k.tape.trans h.tape, k.output.trans h.output, Nat.le_trans h.size k.size, fun i hi hn => (k.block i (Nat.lt_of_lt_of_le hi h.size) hn).trans (h.block i hi hn)⟩
theorem Ch.of_below {g : Nat} {a b : World} (h : Below a.heap.size a b) : Ch g a b := ⟨h.os, h.tape, h.output, h.size, fun k hk _ => h.block k hk⟩
theorem Ch.setCell {g : Nat} {a b : World} (h : Ch g a b) (o : Nat) (v : Value) : Ch g a (b.setCell ⟨g, o, none⟩ v) := h.trans ⟨rfl, rfl, rfl, by simp [World.setCell], fun k _ hk => Below.heap_setCell _ _ _ k hk⟩
theorem Ch.below {g N : Nat} {a b : World} (h : Ch g a b) (hN : N ≤ a.heap.size) (hg : N ≤ g) : Below N a b := ⟨h.os, h.tape, h.output, h.size, fun k hk => h.block k (by omega) (by omega)⟩
theorem Ch.boxed {g : Nat} {a b : World} (h : Ch g a b) {B : Nat} {t : TypeId} {v : Value} (hb : Boxed a B t v) (hn : B ≠ g) : Boxed b B t v := (h.block B hb.lt hn).trans hb
end Go.Proofs.Ytnohnkhhkeikoaa
