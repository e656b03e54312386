/- A bag told by its entries; walks: Len, First, End, Drop. -/
import Derived.Test.YtfcdgfjpmcapkaaGreatBN
namespace Go.Proofs.YtfcdgfjpmcapkaaGreat
open Go.ChangeShapes Go.WideShapes Go.ChangeAt Go.RowKit Go.Maps
set_option linter.unusedVariables false

/-- a bag at block b, all its blocks among O, with the entries of S, n numbers given -/
def Bag (w : World) (b : Nat) (O : Nat → Prop) (S : List Et) (n : Nat) : Prop :=
  ∃ mr mp hb sv Ks E H, BgI w b mr mp hb sv Ks E n H ∧ Stl E H ∧ (E.map (·.1)).Perm S ∧ Sd S ∧ (∀ k, BO b mr mp hb sv Ks k → O k) ∧ ∀ k, O k → k < w.heap.size
/-- .. and what was made since -/
def grw (O : Nat → Prop) (w w' : World) (k : Nat) : Prop := O k ∨ (w.heap.size ≤ k ∧ k < w'.heap.size)

variable {w : World} {b : Nat} {O : Nat → Prop} {S : List Et} {n : Nat}

theorem Bag.sd (h : Bag w b O S n) : Sd S := by obtain ⟨_, _, _, _, _, _, _, _, _, _, h, _⟩ := h; exact h
theorem Bag.lt (h : Bag w b O S n) {k : Nat} (hk : O k) : k < w.heap.size := by obtain ⟨_, _, _, _, _, _, _, _, _, _, _, _, h⟩ := h; exact h k hk
theorem Bag.own (h : Bag w b O S n) : O b := by obtain ⟨_, _, _, _, _, _, _, _, _, _, _, h, _⟩ := h; exact h b (.inl (.inl rfl))
theorem Bag.keep {w' : World} (h : Bag w b O S n) {p : Nat → Prop} (hk : Keep p w w') (hp : ∀ k, O k → p k) : Bag w' b O S n := by
  obtain ⟨mr, mp, hb, sv, Ks, E, H, h1, h2, h3, h4, h5, h6⟩ := h
  exact ⟨mr, mp, hb, sv, Ks, E, H, h1.keep hk fun k hkk => hp k (h5 k hkk), h2, h3, h4, h5, fun k hk' => Nat.lt_of_lt_of_le (h6 k hk') hk.size⟩
theorem Bag.below {w' : World} (h : Bag w b O S n) (hb : Below w.heap.size w w') : Bag w' b O S n := h.keep (p := fun _ => True) (Keep.of_below hb) fun _ _ => trivial
theorem Bag.wider {O' : Nat → Prop} (h : Bag w b O S n) (hO : ∀ k, O k → O' k) (hl : ∀ k, O' k → k < w.heap.size) : Bag w b O' S n := by
  obtain ⟨mr, mp, hb, sv, Ks, E, H, h1, h2, h3, h4, h5, h6⟩ := h
  exact ⟨mr, mp, hb, sv, Ks, E, H, h1, h2, h3, h4, fun k hk => hO k (h5 k hk), hl⟩
theorem Bag.grow {w' : World} (h : Bag w' b O S n) (hz : w.heap.size ≤ w'.heap.size) : Bag w' b (grw O w w') S n := h.wider (fun k hk => .inl hk) fun k hk => by
  rcases hk with hk | hk
  · exact h.lt hk
  · exact hk.2

section
variable {mr mp hb : Nat} {sv : Value} {Ks : List (ByteArray × Nat)} {E : List En} {H : List It}
theorem othE_map (x : Et) (E : List En) : (othE x E).map (·.1) = oth x (E.map (·.1)) := by
  unfold othE oth
  rw [List.filter_map]
  rfl
theorem oth_sp {x y : Et} (h : sp x y = true) (S : List Et) : oth x S = oth y S := by
  unfold oth
  apply List.filter_congr
  intro e _
  congr 1
  obtain ⟨h1, h2⟩ := sp_iff.1 h
  simp [sp, h1, h2]
theorem fnd_fi (hp : (E.map (·.1)).Perm S) (hs : Sd S) (k : ByteArray) (v : Int) : fnd S k v = (fi E k v).map fun e => e.1.2.2 := by
  cases hc : fi E k v with
  | none =>
    rw [Option.map_none, fnd_none]
    intro y hy
    obtain ⟨e, he, rfl⟩ := List.mem_map.1 (hp.mem_iff.2 hy)
    unfold fi at hc
    simpa using List.find?_eq_none.1 hc e he
  | some e =>
    obtain ⟨h1, h2⟩ := fi_some hc
    obtain ⟨a, b⟩ := sp_iff.1 h2
    rw [Option.map_some]
    refine hs.fnd (hp.mem_iff.1 (List.mem_map.2 ⟨e, h1, ?_⟩))
    obtain ⟨⟨p, q, r⟩, m⟩ := e
    simp only at a b
    subst a; subst b
    rfl
theorem fnd_is (hp : (E.map (·.1)).Perm S) (hs : Sd S) (k : ByteArray) (v : Int) : (fi E k v).isSome = (fnd S k v).isSome := by rw [fnd_fi hp hs]; simp
theorem fnd_get (hp : (E.map (·.1)).Perm S) (hs : Sd S) (k : ByteArray) (v : Int) {x y : Int} (h : fiV (fi E k v) = .agg #[.int .i64 x, .int .i64 y]) : x = (fnd S k v).getD 0 := by
  rw [fnd_fi hp hs]
  cases hc : fi E k v with
  | none => rw [hc] at h; simp [fiV] at h; simp [h.1]
  | some e => rw [hc] at h; simp [fiV] at h; simp [h.1]
end

theorem len_bag (h : Bag w b O S n) : Calls Tryz.prog 22 #[.pointer (some ⟨b, 0, none⟩)] w fun e w' => e = .returned (.int .i64 (S.length : Int)) ∧ w' = w := by
  obtain ⟨mr, mp, hb, sv, Ks, E, H, h1, h2, h3, h4, h5, h6⟩ := h
  have hl : E.length = S.length := by have := h3.length_eq; simpa using this
  have hm := made_bag h1.ix
  have hz := size_bag h1.ix
  rw [hl] at hz
  clear h1 h2 h3 h4 h5 h6 hl
  go_enter Tryz.func22, Tryz.ntmps22
  go_wp2_with (first | (go_at_call 31; refine hm.mono ?_; rintro e w' ⟨rfl, rfl⟩) | (go_at_call 38; refine hz.mono ?_; rintro e w' ⟨rfl, rfl⟩))
  go_ret
  exact ⟨rfl, rfl⟩

/-- the least end, or none -/
def FirR (S : List Et) (w : World) (e : Ending) (w' : World) : Prop :=
  ∃ m c, e = .returned (.tuple #[.int .i64 m, .bool c]) ∧ Below w.heap.size w w' ∧ ((c = false ∧ m = 0 ∧ S = []) ∨ (c = true ∧ IsMin S m ∧ 0 < S.length))

set_option maxRecDepth 100000 in
theorem first_bag (h : Bag w b O S n) (hn : n ≤ 1000000) : Calls Tryz.prog 18 #[.pointer (some ⟨b, 0, none⟩)] w (FirR S w) := by
  obtain ⟨mr, mp, hb, sv, Ks, E, H, h1, h2, h3, h4, h5, h6⟩ := h
  have hm := made_bag h1.ix
  have hf := first_any h1.hp (by have := h1.hlen; unfold maxLen; omega)
  unfold FirstR at hf
  have hfin : ((decide (0 < H.length)) = false ∧ (g H 0).1 = 0 ∧ S = []) ∨ ((decide (0 < H.length)) = true ∧ IsMin S (g H 0).1 ∧ 0 < S.length) := by
    by_cases h0 : 0 < H.length
    · refine .inr ⟨decide_eq_true h0, ?_⟩
      obtain ⟨e, he, e1⟩ := of_live (h2 h0)
      have e2 := h1.agr _ (g_mem h0) e he e1.symm
      have heS : e.1 ∈ S := h3.mem_iff.1 (List.mem_map.2 ⟨e, he, rfl⟩)
      refine ⟨⟨⟨e.1, heS, e2.symm⟩, fun x hx => ?_⟩, List.length_pos_of_mem heS⟩
      obtain ⟨e', he', rfl⟩ := List.mem_map.1 (h3.mem_iff.2 hx)
      obtain ⟨j, hj, e3⟩ := g_mem' (h1.lnk e' he')
      have := heap_root h1.ord j hj
      rw [e3, le_iff] at this
      simp only at this
      omega
    · refine .inl ⟨decide_eq_false h0, ?_, ?_⟩
      · have : H = [] := List.eq_nil_of_length_eq_zero (by omega)
        rw [this]
        rfl
      · refine List.eq_nil_iff_forall_not_mem.2 fun x hx => ?_
        obtain ⟨e', he', rfl⟩ := List.mem_map.1 (h3.mem_iff.2 hx)
        exact h0 (List.length_pos_of_mem (h1.lnk e' he'))
  obtain ⟨c0, c1, c2, c3, c4, f3, f4⟩ := h1.ix.cells
  have hlb := h1.ix.lt (.inl rfl)
  obtain ⟨x, hx⟩ : ∃ x, g H 0 = x := ⟨_, rfl⟩
  obtain ⟨c, hc⟩ : ∃ c, decide (0 < H.length) = c := ⟨_, rfl⟩
  rw [hx, hc] at hf
  rw [hx, hc] at hfin
  have HF := Lib.hid hf
  have HFIN := Lib.hid hfin
  clear h1 h2 h3 h4 h5 h6 hx hc hf hfin
  go_enter Tryz.func18, Tryz.ntmps18
  go_wp2_with (first | (go_at_call 31; refine hm.mono ?_; rintro e w' ⟨rfl, rfl⟩) | (go_at_call 41; refine HF.out.mono ?_; rintro e w2 ⟨rfl, hb2⟩; have HB2 := Lib.hid hb2; clear hb2))
  refine bodyPost_ret (v := .tuple #[.int .i64 x.1, .bool c]) (by simp [results, Tryz.results18, go_sem]) rfl ?_
  exact ⟨x.1, c, rfl, HB2.out.alloc HB2.out.size _, HFIN.out⟩

set_option maxRecDepth 100000 in
theorem end_bag (h : Bag w b O S n) (k : ByteArray) (v : Int) (hks : k.size ≤ maxLen) (hv : (Lit.int .i64 v).wf = true) : Calls Tryz.prog 20 #[.pointer (some ⟨b, 0, none⟩), .string k, .int .i64 v] w fun e w' => e = .returned (.tuple #[.int .i64 ((fnd S k v).getD 0), .bool (fnd S k v).isSome]) ∧ Below w.heap.size w w' := by
  obtain ⟨mr, mp, hb, sv, Ks, E, H, h1, h2, h3, h4, h5, h6⟩ := h
  have hm := made_bag h1.ix
  have hf := find_bag h1.ix k v hks hv
  obtain ⟨x, y, hxy⟩ : ∃ x y, fiV (fi E k v) = .agg #[.int .i64 x, .int .i64 y] := by cases fi E k v <;> exact ⟨_, _, rfl⟩
  rw [fnd_is h3 h4, hxy, fnd_get h3 h4 k v hxy] at hf
  obtain ⟨z, hz⟩ : ∃ z, (fnd S k v).getD 0 = z := ⟨_, rfl⟩
  obtain ⟨c, hc⟩ : ∃ c, (fnd S k v).isSome = c := ⟨_, rfl⟩
  rw [hz, hc] at hf ⊢
  have HF := Lib.hid hf
  clear h1 h2 h3 h4 h5 h6 hxy hz hc hf
  go_enter Tryz.func20, Tryz.ntmps20
  go_wp2_with (first | (go_at_call 31; refine hm.mono ?_; rintro e w' ⟨rfl, rfl⟩) | (go_at_call 32; refine HF.out.mono ?_; rintro e w2 ⟨rfl, hb2⟩; have HB2 := Lib.hid hb2; clear hb2))
  refine bodyPost_ret (v := .tuple #[.int .i64 z, .bool c]) (by simp [results, Tryz.results20, go_sem]) rfl ?_
  exact ⟨rfl, HB2.out.alloc HB2.out.size _⟩

section
variable {mr mp hb : Nat} {sv : Value} {Ks Ks' : List (ByteArray × Nat)} {E : List En} {H : List It}
theorem BgI.apart (h : BgI w b mr mp hb sv Ks E n H) {k : Nat} (hk : k = hb ∨ sv.ownBlock = some k) : ¬ IxO b mr mp Ks k := fun hi => by
  have := h.off hi
  rcases hk with hk | hk
  · exact this.1 hk
  · exact this.2 hk
/-- an entry was removed -/
theorem BgI.removed {w' : World} {k : ByteArray} {v : Int} (h : BgI w b mr mp hb sv Ks E n H) (hi : Ix w' b mr mp Ks' (othE (k, v, 0) E) n hb) (hk : Keep (fun j => ¬ IxO b mr mp Ks j) w w') (hl : Ks'.length ≤ Ks.length) : BgI w' b mr mp hb sv Ks' (othE (k, v, 0) E) n H :=
  ⟨hi, h.hp.keep hk fun j _ hj => h.apart hj, h.ord, fun e he => h.lnk e (List.mem_filter.1 he).1, h.bak, fun it hit e he => h.agr it hit e (List.mem_filter.1 he).1, h.hlen, Nat.le_trans hl h.klen⟩
/-- settled behind a change -/
theorem bag_end {w1 w' : World} {n' : Nat} {e : Ending} {S' : List Et} (hO : ∀ k, BO b mr mp hb sv Ks k → O k) (hlt : ∀ k, O k → k < w.heap.size) (hk : Keep (fun k => ¬ O k) w w1) (hnew : ∀ k, BO b mr mp hb sv Ks' k → O k ∨ w.heap.size ≤ k) (hs : SetlR b mr mp hb sv Ks' E n' w1 e w') (hp : (E.map (·.1)).Perm S') (hsd : Sd S') : e = .returned (.tuple #[]) ∧ Bag w' b (grw O w w') S' n' ∧ Keep (fun k => ¬ O k) w w' := by
  obtain ⟨rfl, hb', sv', H', h1, h2, h3, h4⟩ := hs
  refine ⟨rfl, ⟨mr, mp, hb', sv', Ks', E, H', h1, h2, hp, hsd, fun k hkk => ?_, fun k hkk => ?_⟩, ?_⟩
  · have hl := h1.lt hkk
    rcases h4 k hkk with h | h
    · rcases hnew k h with h | h
      · exact .inl h
      · exact .inr ⟨h, hl⟩
    · exact .inr ⟨Nat.le_trans hk.size h, hl⟩
  · have := hk.size
    have := h3.size
    rcases hkk with h | h
    · have := hlt k h; omega
    · exact h.2
  · refine hk.trans (h3.mono (q := fun k => ¬ O k ∧ k < w.heap.size) fun k _ h hh => ?_) fun i hi h => ⟨h, hi⟩
    rcases hnew k hh with h5 | h5
    · exact h.1 h5
    · omega
end

theorem drop_end {mr mp hb : Nat} {sv : Value} {Ks Ks' : List (ByteArray × Nat)} {E : List En} {w2 w3 : World} {e : Ending} {k : ByteArray} {v : Int} (h3 : (E.map (·.1)).Perm S) (h4 : Sd S) (h5 : ∀ k, BO b mr mp hb sv Ks k → O k) (h6 : ∀ k, O k → k < w.heap.size) (hk : Keep (fun j => ¬ IxO b mr mp Ks j) w w2) (hsub : ∀ p ∈ Ks', p ∈ Ks) (hs : SetlR b mr mp hb sv Ks' (othE (k, v, 0) E) n w2 e w3) :
    e = .returned (.tuple #[]) ∧ Bag w3 b (grw O w w3) (dropS S k v) n ∧ Keep (fun k => ¬ O k) w w3 := by
  refine bag_end h5 h6 (hk.mono fun j _ h hh => h (h5 j (.inl hh))) (fun j hj => .inl ?_) hs ?_ (sd_drop h4 k v)
  · rcases hj with (h | h | h | ⟨p, hp, h⟩) | h
    · exact h5 j (.inl (.inl h))
    · exact h5 j (.inl (.inr (.inl h)))
    · exact h5 j (.inl (.inr (.inr (.inl h))))
    · exact h5 j (.inl (.inr (.inr (.inr ⟨p, hsub p hp, h⟩))))
    · exact h5 j (.inr h)
  · rw [othE_map]
    exact h3.filter _
/-- an entry is taken away -/
def DropR (b : Nat) (O : Nat → Prop) (S : List Et) (n : Nat) (k : ByteArray) (v : Int) (w : World) (e : Ending) (w' : World) : Prop :=
  e = .returned (.bool (fnd S k v).isSome) ∧ Bag w' b (grw O w w') (dropS S k v) n ∧ Keep (fun k => ¬ O k) w w'

set_option maxRecDepth 100000 in
set_option maxHeartbeats 1000000 in
theorem drop_bag (h : Bag w b O S n) (hn : n ≤ 1000000) (k : ByteArray) (v : Int) (hks : k.size ≤ maxLen) (hv : (Lit.int .i64 v).wf = true) : Calls Tryz.prog 14 #[.pointer (some ⟨b, 0, none⟩), .string k, .int .i64 v] w (DropR b O S n k v w) := by
  have HBG := Lib.hid h
  obtain ⟨mr, mp, hb, sv, Ks, E, H, h1, h2, h3, h4, h5, h6⟩ := h
  have hm := made_bag h1.ix
  have hr := remove_bag h1.ix k v hks hv (by omega)
  have hfd := fnd_fi h3 h4 k v
  have HR := Lib.hid hr
  have H1 := Lib.hid h1
  have H2 := Lib.hid h2
  have H3 := Lib.hid h3
  have H4 := Lib.hid h4
  have H5 := Lib.hid h5
  have H6 := Lib.hid h6
  have HFD := Lib.hid hfd
  clear h1 h2 h3 h4 h5 h6 hr hfd
  cases hc : fi E k v with
  | none =>
    have HC := Lib.hid hc
    clear hc
    go_enter Tryz.func14, Tryz.ntmps14
    go_wp2_with (first | (go_at_call 31; refine hm.mono ?_; rintro e w' ⟨rfl, rfl⟩) | (go_at_call 37; refine HR.out.mono ?_; unfold RemR; rw [HC.out]; simp only [Option.isSome_none]; rintro e w2 ⟨rfl, Ks', hI, hk, hsub, hlen⟩; have HI := Lib.hid hI; have HK := Lib.hid hk; have HSUB := Lib.hid hsub; have HLEN := Lib.hid hlen; clear hI hk hsub hlen))
    go_ret
    have hf0 : fnd S k v = none := by rw [HFD.out, HC.out]; rfl
    refine ⟨by rw [hf0]; rfl, ?_, HK.out.mono fun j _ h hh => h (H5.out j (.inl hh))⟩
    rw [drop_none hf0]
    have hbb := H1.out.removed HI.out HK.out HLEN.out
    rw [fi_none HC.out] at hbb
    refine Bag.grow ⟨mr, mp, hb, sv, Ks', E, H, hbb, H2.out, H3.out, H4.out, fun j hj => ?_, fun j hj => Nat.lt_of_lt_of_le (H6.out j hj) HK.out.size⟩ HK.out.size
    rcases hj with (h | h | h | ⟨p, hp, h⟩) | h
    · exact H5.out j (.inl (.inl h))
    · exact H5.out j (.inl (.inr (.inl h)))
    · exact H5.out j (.inl (.inr (.inr (.inl h))))
    · exact H5.out j (.inl (.inr (.inr (.inr ⟨p, HSUB.out p hp, h⟩))))
    · exact H5.out j (.inr h)
  | some e0 =>
    have HC := Lib.hid hc
    clear hc
    go_enter Tryz.func14, Tryz.ntmps14
    go_wp2_with (first | (go_at_call 31; refine hm.mono ?_; rintro e w' ⟨rfl, rfl⟩) | (go_at_call 37; refine HR.out.mono ?_; unfold RemR; rw [HC.out]; simp only [Option.isSome_some]; rintro e w2 ⟨rfl, Ks', hI, hk, hsub, hlen⟩; have HBB := Lib.hid (H1.out.removed hI hk hlen); have HK := Lib.hid hk; have HSUB := Lib.hid hsub; clear hI hk hsub hlen) | (go_at_call 35; refine (settle_bag HBB.out hn).mono ?_; intro e w3 hs; have hfin := drop_end H3.out H4.out H5.out H6.out HK.out HSUB.out hs; obtain ⟨rfl, hfb, hfk⟩ := hfin; have HFB := Lib.hid hfb; have HFK := Lib.hid hfk; clear hs hfb hfk))
    go_ret
    refine ⟨by rw [HFD.out, HC.out]; rfl, HFB.out, HFK.out⟩
end Go.Proofs.YtfcdgfjpmcapkaaGreat
