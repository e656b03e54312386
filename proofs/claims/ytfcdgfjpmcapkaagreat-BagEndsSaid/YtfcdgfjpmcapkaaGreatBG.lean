/- The index is written: an entry set. -/
import Derived.Test.YtfcdgfjpmcapkaaGreatBF
namespace Go.Proofs.YtfcdgfjpmcapkaaGreat
open Go.ChangeShapes Go.WideShapes Go.ChangeAt Go.RowKit Go.Maps
set_option linter.unusedVariables false

variable {w : World} {b mr mp : Nat} {Ks : List (ByteArray × Nat)} {E : List En} {n hb : Nat}

/-- all entries that are not at that place -/
def othE (x : Et) (E : List En) : List En := E.filter fun e => !sp e.1 x

theorem Ix.nums (h : Ix w b mr mp Ks E n hb) : E.Pairwise fun x y => x.2 ≠ y.2 := by
  have := h.places.apart law3
  rw [List.pairwise_map] at this
  exact this.imp fun {x y} hxy e => hxy (by simp [placeV, e])
theorem num_one : ∀ {E : List En}, (E.Pairwise fun x y => x.2 ≠ y.2) → ∀ {x y : En}, x ∈ E → y ∈ E → x.2 = y.2 → x = y
  | [], _, x, y, hx, _, _ => by simp at hx
  | a :: r, hp, x, y, hx, hy, e => by
    obtain ⟨h1, h2⟩ := List.pairwise_cons.1 hp
    rcases List.mem_cons.1 hx with ex | hx'
    · rcases List.mem_cons.1 hy with ey | hy'
      · rw [ex, ey]
      · exact absurd (ex ▸ e) (h1 y hy')
    · rcases List.mem_cons.1 hy with ey | hy'
      · exact absurd (ey ▸ e).symm (h1 x hx')
      · exact num_one h2 hx' hy' e
theorem sp_one : ∀ {E : List En}, (E.Pairwise fun x y => sp x.1 y.1 = false) → ∀ {x y : En}, x ∈ E → y ∈ E → sp x.1 y.1 = true → x = y
  | [], _, x, y, hx, _, _ => by simp at hx
  | a :: r, hp, x, y, hx, hy, e => by
    obtain ⟨h1, h2⟩ := List.pairwise_cons.1 hp
    rcases List.mem_cons.1 hx with ex | hx'
    · rcases List.mem_cons.1 hy with ey | hy'
      · rw [ex, ey]
      · subst ex; rw [h1 y hy'] at e; cases e
    · rcases List.mem_cons.1 hy with ey | hy'
      · subst ey; rw [sp_comm, h1 x hx'] at e; cases e
      · exact sp_one h2 hx' hy' e
theorem off_place (m : Int) (E : List En) : off (.int .i64 m) (E.map placeV) = (E.filter fun e => !decide ((e.2 : Int) = m)).map placeV := by
  unfold off
  rw [List.filter_map]
  congr 1
  apply List.filter_congr
  intro e _
  simp only [Function.comp, placeV, same_int]
theorem off_under (v : Int) (E : List En) (k : ByteArray) : off (.int .i64 v) ((under E k).map stayV) = (under (othE (k, v, 0) E) k).map stayV := by
  unfold off under othE
  rw [List.filter_map, List.filter_filter, List.filter_filter]
  congr 1
  apply List.filter_congr
  intro e _
  simp only [Function.comp, stayV, same_int, sp]
  cases decide (e.1.1 = k) <;> cases decide (e.1.2.1 = v) <;> rfl
theorem fi_none {E : List En} {k : ByteArray} {v : Int} (h : fi E k v = none) : othE (k, v, 0) E = E := by
  unfold fi at h
  unfold othE
  rw [List.filter_eq_self]
  intro e he
  simpa using List.find?_eq_none.1 h e he
theorem fi_some {E : List En} {k : ByteArray} {v : Int} {e : En} (h : fi E k v = some e) : e ∈ E ∧ sp e.1 (k, v, 0) = true := ⟨List.mem_of_find?_eq_some h, by simpa using List.find?_some h⟩
/-- the number found at a place is struck from the places -/
theorem Ix.struck (h : Ix w b mr mp Ks E n hb) (k : ByteArray) (v : Int) {x y : Int} (hf : fiV (fi E k v) = .agg #[.int .i64 x, .int .i64 y]) : off (.int .i64 y) (E.map placeV) = (othE (k, v, 0) E).map placeV := by
  rw [off_place]
  congr 1
  cases hc : fi E k v with
  | none =>
    rw [hc] at hf
    rw [fi_none hc]
    have hy : y = 0 := by simp [fiV] at hf; exact hf.2.symm
    subst hy
    rw [List.filter_eq_self]
    intro e he
    have := (h.wf e he).2.2.1
    simp
    omega
  | some e0 =>
    rw [hc] at hf
    have hy : y = (e0.2 : Int) := by simp [fiV] at hf; exact hf.2.symm
    subst hy
    obtain ⟨h1, h2⟩ := fi_some hc
    unfold othE
    apply List.filter_congr
    intro e he
    congr 1
    by_cases hee : e = e0
    · subst hee
      simp [h2]
    · have n1 : ¬ ((e.2 : Int) = (e0.2 : Int)) := fun hx => hee (num_one h.nums he h1 (by omega))
      have n2 : sp e.1 (k, v, 0) = false := by
        cases hs : sp e.1 (k, v, 0)
        · rfl
        · exact absurd (sp_one h.one he h1 (sp_trans hs (by rw [sp_comm]; exact h2))) hee
      simp [n1, n2]
theorem Ix.fwf (h : Ix w b mr mp Ks E n hb) (hn : n ≤ 1099511627776) (k : ByteArray) (v : Int) {x y : Int} (hf : fiV (fi E k v) = .agg #[.int .i64 x, .int .i64 y]) : (Lit.int .i64 y).wf = true := by
  cases hc : fi E k v with
  | none =>
    rw [hc] at hf
    have hy : y = 0 := by simp [fiV] at hf; exact hf.2.symm
    subst hy
    decide
  | some e0 =>
    rw [hc] at hf
    have hy : y = (e0.2 : Int) := by simp [fiV] at hf; exact hf.2.symm
    subst hy
    have := (h.wf e0 (fi_some hc).1).2.2.2
    exact WalkArith.wf_i64 (by omega)

/-- an entry is set -/
def SetR (b mr mp : Nat) (Ks : List (ByteArray × Nat)) (E : List En) (n hb : Nat) (x : Et) (w : World) (e : Ending) (w' : World) : Prop :=
  ∃ Ks', e = .returned (.int .i64 ((n : Int) + 1)) ∧ Ix w' b mr mp Ks' ((x, n + 1) :: othE x E) (n + 1) hb ∧ Keep (fun j => ¬ IxO b mr mp Ks j) w w' ∧ (∀ p ∈ Ks', p ∈ Ks ∨ w.heap.size ≤ p.2) ∧ Ks'.length ≤ Ks.length + 1

theorem othE_sp {x y : Et} (h : sp x y = true) (E : List En) : othE x E = othE y E := by
  unfold othE
  apply List.filter_congr
  intro e _
  congr 1
  obtain ⟨h1, h2⟩ := sp_iff.1 h
  simp [sp, h1, h2]

theorem nodup_snd : ∀ {Ks : List (ByteArray × Nat)}, (Ks.map (·.2)).Nodup → ∀ {p q : ByteArray × Nat}, p ∈ Ks → q ∈ Ks → p.2 = q.2 → p = q
  | [], _, p, q, hp, _, _ => by simp at hp
  | a :: r, hn, p, q, hp, hq, e => by
    rw [List.map_cons, List.nodup_cons] at hn
    rcases List.mem_cons.1 hp with ep | hp'
    · rcases List.mem_cons.1 hq with eq | hq'
      · rw [ep, eq]
      · exact absurd (List.mem_map.2 ⟨q, hq', by rw [← e, ep]⟩) hn.1
    · rcases List.mem_cons.1 hq with eq | hq'
      · exact absurd (List.mem_map.2 ⟨p, hp', by rw [e, eq]⟩) hn.1
      · exact nodup_snd hn.2 hp' hq' e

theorem Ix.set {W w4 : World} (h : Ix W b mr mp Ks E n hb) {k : ByteArray} {c : Nat} {v t : Int} (hc : (k, c) ∈ Ks) (hkey : ∀ p ∈ Ks, p.1 = k → p.2 = c)
    (hb4 : w4.heap[b]? = some (.cells #[.pointer (some ⟨b, 0, none⟩), .map (some mr), .map (some mp), .int .i64 ((n + 1 : Nat) : Int), .pointer (some ⟨hb, 0, none⟩)] 66 (0, 0)))
    (hk : Keep (fun j => j ≠ b ∧ j ≠ mp ∧ j ≠ c) W w4) (hp : Mp w4 mp 3 (placeV ((k, v, t), n + 1) :: (othE (k, v, t) E).map placeV)) (hr : Mp w4 c 3 (stayV ((k, v, t), n + 1) :: (under (othE (k, v, t) E) k).map stayV))
    (hks : k.size ≤ maxLen) (hv : (Lit.int .i64 v).wf = true) : Ix w4 b mr mp Ks (((k, v, t), n + 1) :: othE (k, v, t) E) (n + 1) hb := by
  have hbm : ∀ j, (∃ es cl, W.heap[j]? = some (.map es cl)) → j ≠ b := by
    rintro j ⟨es, cl, hm⟩ rfl
    have := h.blk
    rw [hm] at this
    cases this
  have hcm := h.m2 _ hc
  refine ⟨hb4, h.rows.keep hk ⟨hbm _ h.rows.isMap, h.mm, hcm.1.symm⟩, hp, ?_, ?_, h.mm, h.m2, h.nod, ?_, ?_, by have := h.len; have := List.length_filter_le (fun e : En => !sp e.1 (k, v, t)) E; simp [othE]; omega⟩
  · intro p hpm
    by_cases e : p.1 = k
    · have e2 := hkey p hpm e
      have : under (((k, v, t), n + 1) :: othE (k, v, t) E) p.1 = ((k, v, t), n + 1) :: under (othE (k, v, t) E) k := by
        unfold under
        rw [List.filter_cons_of_pos (by simp [e]), e]
      rw [this, e2]
      exact hr
    · have hpc : p.2 ≠ c := by
        intro ec
        have h1 : p = (k, c) := by
          have hn := h.nod
          clear hr hp hk hb4 hks hv hbm hcm hkey
          exact nodup_snd hn hpm hc ec
        exact e (by rw [h1])
      have : under (((k, v, t), n + 1) :: othE (k, v, t) E) p.1 = under E p.1 := by
        unfold under othE
        rw [List.filter_cons_of_neg (by simpa using fun hx => e hx.symm), List.filter_filter]
        apply List.filter_congr
        intro x _
        by_cases hx : x.1.1 = p.1
        · have : sp x.1 (k, v, t) = false := by
            rw [sp_no]
            rintro ⟨h1, _⟩
            exact e (hx.symm.trans h1)
          simp [hx, this]
        · simp [hx]
      rw [this]
      exact (h.row p hpm).keep hk ⟨hbm _ (h.row p hpm).isMap, (h.m2 p hpm).2, hpc⟩
  · intro e he
    rcases List.mem_cons.1 he with rfl | he
    · exact ⟨_, hc, rfl⟩
    · exact h.has e (List.mem_filter.1 he).1
  · intro e he
    rcases List.mem_cons.1 he with rfl | he
    · exact ⟨hks, hv, by simp, Nat.le_refl _⟩
    · obtain ⟨a1, a2, a3, a4⟩ := h.wf e (List.mem_filter.1 he).1
      exact ⟨a1, a2, a3, by omega⟩
  · refine List.pairwise_cons.2 ⟨fun y hy => ?_, h.one.filter _⟩
    have := (List.mem_filter.1 hy).2
    rw [sp_comm]
    simpa using this
end Go.Proofs.YtfcdgfjpmcapkaaGreat
