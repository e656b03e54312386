/- What lies where while all that end are cut. -/
import Derived.Test.YtfcdgfjpmcapkaaGreatBT
import Derived.Test.YtfcdgfjpmcapkaaGreatHL
namespace Go.Proofs.YtfcdgfjpmcapkaaGreat
open Go.ChangeShapes Go.WideShapes Go.ChangeAt Go.RowKit Go.Maps Go.Shelf
set_option linter.unusedVariables false

attribute [local go_sem] Oper.semAt_some

variable {w : World} {b : Nat} {O : Nat → Prop} {S : List Et} {n : Nat}

/-- a bag of whose heap the end x was taken -/
structure BgY (w : World) (b mr mp hb : Nat) (sv : Value) (Ks : List (ByteArray × Nat)) (E : List En) (n : Nat) (H : List It) (x : It) : Prop where
  ix : Ix w b mr mp Ks E n hb
  hp : Hb w hb sv H
  ord : Heap H
  lnk : ∀ e ∈ E, (e.2 : Int) ≠ x.2 → (e.1.2.2, (e.2 : Int)) ∈ H
  bak : ∀ it ∈ H, 1 ≤ it.2 ∧ it.2 ≤ n
  agr : ∀ it ∈ H, ∀ e ∈ E, it.2 = (e.2 : Int) → it.1 = e.1.2.2
  xag : ∀ e ∈ E, (e.2 : Int) = x.2 → e.1.2.2 = x.1
  xbk : 1 ≤ x.2 ∧ x.2 ≤ n
  hlen : H.length ≤ n
  klen : Ks.length ≤ n

/-- between two rounds of Cut; w: the world at first -/
structure CutS (w : World) (b mr mp hb : Nat) (O : Nat → Prop) (S : List Et) (c : Int) (Ks : List (ByteArray × Nat)) (E : List En) (S1 : List Et) (sv : Value) (W : World) : Prop where
  pm : (E.map (·.1)).Perm S1
  sd : Sd S1
  s1 : ∀ x ∈ S1, x ∈ S
  s2 : ∀ x ∈ S, c < x.2.2 → x ∈ S1
  ixl : ∀ k, IxO b mr mp Ks k → k < w.heap.size ∧ O k
  hbl : hb < w.heap.size ∧ O hb
  svl : ∀ g, sv.ownBlock = some g → O g ∨ w.heap.size ≤ g
  kp : Keep (fun k => ¬ O k) w W
  b0 : Boxed W w.heap.size 25 (.pointer (some ⟨b, 0, none⟩))
  b1 : Boxed W (w.heap.size + 1) 63 (.pointer (some ⟨hb, 0, none⟩))
  b2 : Boxed W (w.heap.size + 1 + 1) 3 (.int .i64 c)

section
variable {mr mp hb : Nat} {sv : Value} {Ks Ks' : List (ByteArray × Nat)} {E : List En} {H M : List It} {S1 : List Et} {c : Int} {W : World} {x : It}

theorem BgY.off (h : BgY w b mr mp hb sv Ks E n H x) {k : Nat} (hk : IxO b mr mp Ks k) : Off hb sv k := by
  refine ⟨?_, ?_⟩
  · rintro rfl
    exact h.ix.norow h.hp.blk (by decide) hk
  · intro e
    rcases h.hp.row.2 with ⟨rfl, _⟩ | ⟨g, cap, cur, rfl, _, hg, _⟩
    · simp [Value.ownBlock] at e
    · obtain rfl : g = k := by simpa [Value.ownBlock] using e
      exact h.ix.norow hg (by decide) hk
theorem BgY.keep {w' : World} (h : BgY w b mr mp hb sv Ks E n H x) {p : Nat → Prop} (hk : Keep p w w') (hp : ∀ k, BO b mr mp hb sv Ks k → p k) : BgY w' b mr mp hb sv Ks E n H x :=
  { h with
    ix := h.ix.keep hk fun k hkk => hp k (.inl hkk)
    hp := h.hp.keep hk fun k _ hkk => hp k (.inr hkk) }
theorem BgY.below {w' : World} (h : BgY w b mr mp hb sv Ks E n H x) (hb' : Below w.heap.size w w') : BgY w' b mr mp hb sv Ks E n H x := h.keep (p := fun _ => True) (Keep.of_below hb') fun _ _ => trivial
theorem BgI.taken {w' : World} {sv' : Value} (h : BgI w b mr mp hb sv Ks E n H) (h0 : 0 < H.length) (hH : Hb w' hb sv' M) (hp : M.Perm (cutL H)) (hM : Heap M) (hk : Keep (Off hb sv) w w') : BgY w' b mr mp hb sv' Ks E n M (g H 0) := by
  have hc := cut_perm h0
  have hm : ∀ it ∈ M, it ∈ H := fun it hi => hc.mem_iff.1 (List.mem_cons_of_mem _ (hp.mem_iff.1 hi))
  refine ⟨h.ix.keep hk fun k hkk => h.off hkk, hH, hM, fun e he hne => ?_, fun it hi => h.bak it (hm it hi), fun it hi => h.agr it (hm it hi), fun e he e1 => (h.agr _ (g_mem h0) e he e1.symm).symm, h.bak _ (g_mem h0), by have := h.hlen; rw [hp.length_eq, cut_len]; omega, h.klen⟩
  rcases List.mem_cons.1 (hc.mem_iff.2 (h.lnk e he)) with h2 | h2
  · exact absurd (congrArg Prod.snd h2) hne
  · exact hp.mem_iff.2 h2
/-- the end taken was of no entry -/
theorem BgY.dead (h : BgY w b mr mp hb sv Ks E n H x) (hd : atN E x.2 = none) : BgI w b mr mp hb sv Ks E n H := by
  refine ⟨h.ix, h.hp, h.ord, fun e he => h.lnk e he fun e1 => ?_, h.bak, h.agr, h.hlen, h.klen⟩
  have := List.find?_eq_none.1 hd e he
  simp [e1] at this
/-- .. or its entry was removed -/
theorem BgY.gone {w' : World} {e0 : En} (h : BgY w b mr mp hb sv Ks E n H x) (hd : atN E x.2 = some e0) (hi : Ix w' b mr mp Ks' (othE (e0.1.1, e0.1.2.1, 0) E) n hb) (hk : Keep (fun j => ¬ IxO b mr mp Ks j) w w') (hl : Ks'.length ≤ Ks.length) : BgI w' b mr mp hb sv Ks' (othE (e0.1.1, e0.1.2.1, 0) E) n H := by
  have h0 := List.mem_of_find?_eq_some hd
  have h1 : (e0.2 : Int) = x.2 := by simpa using List.find?_some hd
  refine ⟨hi, h.hp.keep hk fun j _ hj hii => ?_, h.ord, fun e he => ?_, h.bak, fun it hit e he => h.agr it hit e (List.mem_filter.1 he).1, h.hlen, Nat.le_trans hl h.klen⟩
  · have := h.off hii
    rcases hj with hj | hj
    · exact this.1 hj
    · exact this.2 hj
  · obtain ⟨he1, he2⟩ := List.mem_filter.1 he
    refine h.lnk e he1 fun e1 => ?_
    have : e = e0 := num_one h.ix.nums he1 h0 (by omega)
    subst this
    simp [sp] at he2
end
end Go.Proofs.YtfcdgfjpmcapkaaGreat
