/- Rows of entries; what a round of Put does to a bag. -/
import Derived.Test.YtfcdgfjpmcapkaaGreatBP
namespace Go.Proofs.YtfcdgfjpmcapkaaGreat
open Go.ChangeShapes Go.WideShapes Go.ChangeAt Go.RowKit Go.Maps
set_option linter.unusedVariables false

/-- an entry's three cells -/
def encE (x : Et) : List Value := [.string x.1, .int .i64 x.2.1, .int .i64 x.2.2]
def flatE (l : List Et) : List Value := l.flatMap encE
theorem flatE_len (l : List Et) : (flatE l).length = l.length * 3 := by simp [flatE, encE, List.length_flatMap, Function.comp_def, List.map_const']
theorem flatE_app (l m : List Et) : flatE (l ++ m) = flatE l ++ flatE m := by simp [flatE]
theorem flatE_cons (x : Et) (l : List Et) : flatE (x :: l) = .string x.1 :: .int .i64 x.2.1 :: .int .i64 x.2.2 :: flatE l := by simp [flatE, encE]
theorem flatE_at : ∀ (l : List Et) (k : Nat) (h : k < l.length), (flatE l)[k * 3]? = some (.string l[k].1) ∧ (flatE l)[k * 3 + 1]? = some (.int .i64 l[k].2.1) ∧ (flatE l)[k * 3 + 2]? = some (.int .i64 l[k].2.2)
  | x :: l, 0, h => by simp [flatE, encE]
  | x :: l, k + 1, h => by
    have := flatE_at l k (by simp at h; omega)
    simp only [List.getElem_cons_succ]
    rw [flatE_cons, show (k + 1) * 3 = k * 3 + 1 + 1 + 1 by omega, show k * 3 + 1 + 1 + 1 + 1 = (k * 3 + 1) + 1 + 1 + 1 by omega, show k * 3 + 1 + 1 + 1 + 2 = (k * 3 + 2) + 1 + 1 + 1 by omega]
    simpa only [List.getElem?_cons_succ] using this

/-- the slice v holds just the entries of l -/
def PE (w : World) (v : Value) (l : List Et) : Prop :=
  ∃ A c, v = .slice A l.length c ∧ (0 < l.length → ∃ ad, A = some ad ∧ ad.block < w.heap.size ∧ ∀ k (h : k < l.length), w.cell? (ad.add (k * 3)) = some (.string l[k].1) ∧ w.cell? (ad.add (k * 3 + 1)) = some (.int .i64 l[k].2.1) ∧ w.cell? (ad.add (k * 3 + 2)) = some (.int .i64 l[k].2.2))

theorem PE.keep {w w' : World} {v : Value} {l : List Et} (h : PE w v l) {p : Nat → Prop} (hk : Keep p w w') (hp : 0 < l.length → ∀ g, v.ownBlock = some g → g < w.heap.size → p g) : PE w' v l := by
  obtain ⟨A, c, rfl, h⟩ := h
  refine ⟨A, c, rfl, fun hn => ?_⟩
  obtain ⟨ad, rfl, hg, hc⟩ := h hn
  have hb := hk.block _ hg (hp hn _ rfl hg)
  have hcell : ∀ j, w'.cell? (ad.add j) = w.cell? (ad.add j) := fun j => World.cell?_of_block (a := ad.add j) (by rw [block_add]; exact hb)
  exact ⟨ad, rfl, Nat.lt_of_lt_of_le hg hk.size, fun k hlt => by rw [hcell, hcell, hcell]; exact hc k hlt⟩
theorem PE.below {w w' : World} {v : Value} {l : List Et} (h : PE w v l) (hb : Below w.heap.size w w') : PE w' v l := h.keep (p := fun _ => True) (Keep.of_below hb) fun _ _ _ _ => trivial
theorem PE.of_own {w : World} {base n : Nat} {t : TypeId} {v : Value} {l : List Et} (h : w.ownsRow base t 3 v n (flatE l)) : PE w v l := by
  have hn : n = l.length := by have := h.1; rw [flatE_len] at this; omega
  subst hn
  rcases h.2 with ⟨rfl, hx⟩ | ⟨g, cap, cur, rfl, _, hh, _⟩
  · have : l = [] := List.eq_nil_of_length_eq_zero hx
    subst this
    exact ⟨none, 0, rfl, fun h => absurd h (by simp)⟩
  · refine ⟨_, cap, rfl, fun _ => ⟨_, rfl, (Array.getElem?_eq_some_iff.1 hh).1, fun k hk => ?_⟩⟩
    obtain ⟨a1, a2, a3⟩ := flatE_at l k hk
    exact ⟨h.cells (g := g) rfl _ _ a1, h.cells (g := g) rfl _ _ a2, h.cells (g := g) rfl _ _ a3⟩

/-- the k-th entry -/
def ge (l : List Et) (k : Nat) : Et := l[k]?.getD (⟨#[]⟩, 0, 0)
theorem ge_get {l : List Et} {k : Nat} (h : k < l.length) : ge l k = l[k] := by simp [ge, h]
theorem ge_mem {l : List Et} {k : Nat} (h : k < l.length) : ge l k ∈ l := by rw [ge_get h]; exact List.getElem_mem h
theorem add_two (a : Addr) (k : Nat) : a.add (k + 2) = ⟨(a.add k).block, (a.add k).off + 2, none⟩ ∨ True := .inr trivial
theorem at3 {w : World} {ad : Addr} {k j : Nat} {u : Value} (hj : 0 < j) (h : w.cell? (ad.add (k * 3 + j)) = some u) : w.cell? ⟨(ad.add (k * 3)).block, (ad.add (k * 3)).off + j, none⟩ = some u := by
  have : ad.add (k * 3 + j) = ⟨(ad.add (k * 3)).block, (ad.add (k * 3)).off + j, none⟩ := by
    rw [← add_of_add]
    obtain ⟨B, o, s⟩ := ad.add (k * 3)
    unfold Addr.add
    split
    · rename_i h0
      omega
    · simp
  rw [← this]
  exact h
theorem PE.at3 {w : World} {A : Option Addr} {n c : Nat} {l : List Et} (h : PE w (.slice A n c) l) {k : Nat} (hk : k < l.length) :
    ∃ ad, A = some ad ∧ ad.block < w.heap.size ∧ w.cell? (ad.add (k * 3)) = some (.string (ge l k).1) ∧ w.cell? ⟨(ad.add (k * 3)).block, (ad.add (k * 3)).off + 1, none⟩ = some (.int .i64 (ge l k).2.1) ∧ w.cell? ⟨(ad.add (k * 3)).block, (ad.add (k * 3)).off + 2, none⟩ = some (.int .i64 (ge l k).2.2) := by
  obtain ⟨A', c', e, h⟩ := h
  injection e with e1 e2 e3
  subst e1
  obtain ⟨ad, h1, h2, h3⟩ := h (by omega)
  obtain ⟨h4, h5, h6⟩ := h3 k hk
  rw [ge_get hk]
  exact ⟨ad, h1, h2, h4, YtfcdgfjpmcapkaaGreat.at3 (by omega) h5, YtfcdgfjpmcapkaaGreat.at3 (by omega) h6⟩
theorem PE.form {w : World} {v : Value} {l : List Et} (h : PE w v l) : ∃ A c, v = .slice A l.length c := by obtain ⟨A, c, e, _⟩ := h; exact ⟨A, c, e⟩

/-- an entry as a key, a value, an end may be -/
def We (x : Et) : Prop := x.1.size ≤ 140737488355328 ∧ (Lit.int .i64 x.2.1).wf = true ∧ (Lit.int .i64 x.2.2).wf = true

variable {w : World} {b mr mp hb : Nat} {sv : Value} {Ks Ks' : List (ByteArray × Nat)} {E : List En} {n : Nat} {H M : List It}

/-- behind a setting and a push -/
theorem BgI.putted {w2 w3 : World} {x : Et} {sv' : Value} (h : BgI w b mr mp hb sv Ks E n H) (hi : Ix w2 b mr mp Ks' ((x, n + 1) :: othE x E) (n + 1) hb) (hk : Keep (fun j => ¬ IxO b mr mp Ks j) w w2) (hl : Ks'.length ≤ Ks.length + 1)
    (hH : Hb w3 hb sv' M) (hp : M.Perm (H ++ [(x.2.2, ((n + 1 : Nat) : Int))])) (hM : Heap M) (hk3 : Keep (Off hb sv) w2 w3) (hoff : ∀ k, IxO b mr mp Ks' k → Off hb sv k) : BgI w3 b mr mp hb sv' Ks' ((x, n + 1) :: othE x E) (n + 1) M := by
  have hm : ∀ it, it ∈ M ↔ it ∈ H ∨ it = (x.2.2, ((n + 1 : Nat) : Int)) := fun it => by rw [hp.mem_iff]; simp
  refine ⟨hi.keep hk3 hoff, hH, hM, ?_, ?_, ?_, ?_, by have := h.klen; omega⟩
  · intro e he
    rcases List.mem_cons.1 he with rfl | he
    · exact (hm _).2 (.inr rfl)
    · exact (hm _).2 (.inl (h.lnk e (List.mem_filter.1 he).1))
  · intro it hit
    rcases (hm it).1 hit with h1 | rfl
    · have := h.bak it h1; omega
    · simp only; omega
  · intro it hit e he e1
    rcases (hm it).1 hit with h1 | rfl
    · rcases List.mem_cons.1 he with rfl | he
      · have := h.bak it h1
        simp only at e1
        omega
      · exact h.agr it h1 e (List.mem_filter.1 he).1 e1
    · rcases List.mem_cons.1 he with rfl | he
      · rfl
      · have := (h.ix.wf e (List.mem_filter.1 he).1).2.2.2
        simp only at e1
        omega
  · rw [hp.length_eq]
    have := h.hlen
    simp
    omega
theorem set_perm {S : List Et} {x : Et} (hp : (E.map (·.1)).Perm S) (hs : Sd S) (hf : ∀ e, fnd S x.1 x.2.1 = some e → e < x.2.2) : ((((x, n + 1) : En) :: othE x E).map (·.1)).Perm (putS S x) := by
  rw [putS_new hf, List.map_cons, othE_map]
  exact ((hp.filter _).cons x).trans (insE_perm x _).symm
end Go.Proofs.YtfcdgfjpmcapkaaGreat
