/- Plain words for the law of cuts: what is put, in whatever order, with cuts ahead. -/
import Derived.Test.YtfcdgfjpmcapkaaGreatCE
namespace Go.Proofs.YtfcdgfjpmcapkaaGreat
set_option linter.unusedVariables false

/-- of its key and value the greatest end -/
def Top (l : List Et) (x : Et) : Prop := x ∈ l ∧ ∀ z ∈ l, sp z x = true → z.2.2 ≤ x.2.2

theorem mem_putS {S : List Et} (hs : Sd S) {x y : Et} : y ∈ putS S x ↔ (y ∈ S ∧ sp y x = false) ∨ (y.1 = x.1 ∧ y.2.1 = x.2.1 ∧ y.2.2 = (match fnd S x.1 x.2.1 with | some e => max e x.2.2 | none => x.2.2)) := by
  unfold putS
  rw [mem_insE, mem_oth]
  constructor
  · rintro (rfl | h)
    · exact .inr ⟨rfl, rfl, rfl⟩
    · exact .inl h
  · rintro (h | ⟨h1, h2, h3⟩)
    · exact .inr h
    · exact .inl (by obtain ⟨a, b, c⟩ := y; simp only at h1 h2 h3; rw [h1, h2, h3]; rfl)

theorem top_snoc {S l : List Et} (hs : Sd S) (h : ∀ y, y ∈ S ↔ Top l y) (x y : Et) : y ∈ putS S x ↔ Top (l ++ [x]) y := by
  rw [mem_putS hs]
  constructor
  · rintro (⟨h1, h2⟩ | ⟨h1, h2, h3⟩)
    · obtain ⟨t1, t2⟩ := (h y).1 h1
      refine ⟨by simp [t1], fun z hz hzy => ?_⟩
      rcases List.mem_append.1 hz with hz | hz
      · exact t2 z hz hzy
      · obtain rfl : z = x := by simpa using hz
        rw [sp_comm, h2] at hzy
        cases hzy
    · have hxy : sp x y = true := sp_iff.2 ⟨h1.symm, h2.symm⟩
      cases hf : fnd S x.1 x.2.1 with
      | none =>
        rw [hf] at h3
        have e : y = x := by
          obtain ⟨a, b, c⟩ := y
          obtain ⟨a', b', c'⟩ := x
          simp only at h1 h2 h3
          rw [h1, h2, h3]
        subst e
        refine ⟨by simp, fun z hz hzy => ?_⟩
        rcases List.mem_append.1 hz with hz | hz
        · -- a z of l of the same key: then a top of it is in S
          exfalso
          have hex : ∀ (L : List Et) (z : Et), z ∈ L → sp z y = true → ∃ t ∈ L, sp t y = true ∧ ∀ u ∈ L, sp u y = true → u.2.2 ≤ t.2.2 := by
            intro L
            induction L with
            | nil => intro z hz; cases hz
            | cons a r ih =>
              intro z hz hzy
              by_cases hr : ∃ u ∈ r, sp u y = true
              · obtain ⟨u, hu, huy⟩ := hr
                obtain ⟨t, ht, hty, hmx⟩ := ih u hu huy
                by_cases ha : sp a y = true ∧ t.2.2 ≤ a.2.2
                · refine ⟨a, by simp, ha.1, fun v hv hvy => ?_⟩
                  rcases List.mem_cons.1 hv with rfl | hv
                  · exact Int.le_refl _
                  · exact Int.le_trans (hmx v hv hvy) ha.2
                · refine ⟨t, by simp [ht], hty, fun v hv hvy => ?_⟩
                  rcases List.mem_cons.1 hv with rfl | hv
                  · rcases Int.le_total v.2.2 t.2.2 with hh | hh
                    · exact hh
                    · exact absurd ⟨hvy, hh⟩ ha
                  · exact hmx v hv hvy
              · have hz' : z = a := by
                  rcases List.mem_cons.1 hz with e | hz
                  · exact e
                  · exact absurd ⟨z, hz, hzy⟩ hr
                subst hz'
                refine ⟨z, by simp, hzy, fun v hv hvy => ?_⟩
                rcases List.mem_cons.1 hv with rfl | hv
                · exact Int.le_refl _
                · exact absurd ⟨v, hv, hvy⟩ hr
          obtain ⟨t, ht, hty, hmx⟩ := hex l z hz hzy
          have hS : t ∈ S := (h t).2 ⟨ht, fun u hu hut => hmx u hu (sp_trans hut hty)⟩
          have := fnd_none.1 hf t hS
          obtain ⟨e1, e2⟩ := sp_iff.1 hty
          rw [sp_no] at this
          exact this ⟨e1, e2⟩
        · obtain rfl : z = y := by simpa using hz
          exact Int.le_refl _
      | some e =>
        rw [hf] at h3
        simp only at h3
        have hm := fnd_mem hf
        obtain ⟨t1, t2⟩ := (h _).1 hm
        refine ⟨?_, fun z hz hzy => ?_⟩
        · rcases Int.le_total e x.2.2 with hle | hle
          · rw [Int.max_eq_right hle] at h3
            have e' : y = x := by
              obtain ⟨a, b, c⟩ := y
              obtain ⟨a', b', c'⟩ := x
              simp only at h1 h2 h3
              rw [h1, h2, h3]
            simp [e']
          · rw [Int.max_eq_left hle] at h3
            have e' : y = (x.1, x.2.1, e) := by
              obtain ⟨a, b, c⟩ := y
              simp only at h1 h2 h3
              rw [h1, h2, h3]
            rw [e']
            exact List.mem_append.2 (.inl t1)
        · rw [h3]
          rcases List.mem_append.1 hz with hz | hz
          · have := t2 z hz (sp_trans hzy (sp_iff.2 ⟨h1, h2⟩))
            simp only at this
            omega
          · obtain rfl : z = x := by simpa using hz
            omega
  · rintro ⟨t1, t2⟩
    by_cases hy : sp y x = true
    · obtain ⟨e1, e2⟩ := sp_iff.1 hy
      refine .inr ⟨e1, e2, ?_⟩
      have hx : x.2.2 ≤ y.2.2 := t2 x (by simp) (by rw [sp_comm]; exact hy)
      cases hf : fnd S x.1 x.2.1 with
      | none =>
        simp only
        rcases List.mem_append.1 t1 with hm | hm
        · have : y ∈ S := (h y).2 ⟨hm, fun z hz hzy => t2 z (by simp [hz]) hzy⟩
          have := fnd_none.1 hf y this
          rw [sp_no] at this
          exact absurd ⟨e1, e2⟩ this
        · obtain rfl : y = x := by simpa using hm
          rfl
      | some e =>
        simp only
        have hm := fnd_mem hf
        obtain ⟨u1, u2⟩ := (h _).1 hm
        have he : e ≤ y.2.2 := t2 (x.1, x.2.1, e) (by simp [u1]) (sp_iff.2 ⟨e1.symm, e2.symm⟩)
        rcases List.mem_append.1 t1 with hmm | hmm
        · have := u2 y hmm (sp_iff.2 ⟨e1, e2⟩)
          simp only at this
          omega
        · obtain rfl : y = x := by simpa using hmm
          omega
    · have hy' : sp y x = false := by simpa using hy
      refine .inl ⟨(h y).2 ⟨?_, fun z hz hzy => t2 z (by simp [hz]) hzy⟩, hy'⟩
      rcases List.mem_append.1 t1 with hm | hm
      · exact hm
      · obtain rfl : y = x := by simpa using hm
        rw [sp_rfl] at hy'
        cases hy'

theorem mem_puts : ∀ (n : Nat) (l : List Et), l.length = n → ∀ y, y ∈ putsS [] l ↔ Top l y
  | 0, l, h, y => by
    obtain rfl := List.length_eq_zero_iff.1 h
    simp [putsS, Top]
  | n + 1, l, h, y => by
    have hne : l ≠ [] := by intro e; subst e; simp at h
    have hd : l = l.dropLast ++ [l.getLast hne] := (List.dropLast_concat_getLast hne).symm
    have hl : l.dropLast.length = n := by simp [h]
    rw [hd]
    unfold putsS
    rw [List.foldl_append]
    exact top_snoc (sd_puts _ Sd.nil) (mem_puts n l.dropLast hl) _ _
theorem puts_top (l : List Et) (y : Et) : y ∈ putsS [] l ↔ Top l y := mem_puts _ l rfl y
theorem puts_perm {l m : List Et} (p : l.Perm m) : putsS [] l = putsS [] m :=
  Sd.ext (sd_puts _ Sd.nil) (sd_puts _ Sd.nil) fun x => by
    rw [puts_top, puts_top]
    unfold Top
    simp only [p.mem_iff]

/-- a put, told of what a cut leaves -/
def stepC (c : Int) (S : List Et) (x : Et) : List Et := if x.2.2 ≤ c then S else putS S x
theorem mem_cut {S : List Et} {c : Int} {x : Et} : x ∈ cutS S c ↔ x ∈ S ∧ c < x.2.2 := by simp [cutS]
theorem cut_put {S : List Et} (hs : Sd S) (x : Et) (c : Int) : cutS (putS S x) c = stepC c (cutS S c) x := by
  unfold stepC
  refine Sd.ext (sd_cut (sd_put hs x) c) (by split; exact sd_cut hs c; exact sd_put (sd_cut hs c) x) fun y => ?_
  have hf2 : ∀ e, fnd (cutS S c) x.1 x.2.1 = some e → fnd S x.1 x.2.1 = some e := fun e he => hs.fnd (mem_cut.1 (fnd_mem he)).1
  split
  · rename_i hx
    rw [mem_cut, mem_cut, mem_putS hs]
    constructor
    · rintro ⟨(⟨h1, h2⟩ | ⟨h1, h2, h3⟩), h4⟩
      · exact ⟨h1, h4⟩
      · cases hf : fnd S x.1 x.2.1 with
        | none => rw [hf] at h3; simp only at h3; omega
        | some e =>
          rw [hf] at h3
          simp only at h3
          have : y = (x.1, x.2.1, e) := by
            obtain ⟨a, b, d⟩ := y
            simp only at h1 h2 h3 h4
            have : d = e := by omega
            rw [h1, h2, this]
          rw [this] at h4 ⊢
          exact ⟨fnd_mem hf, h4⟩
    · rintro ⟨h1, h2⟩
      refine ⟨?_, h2⟩
      by_cases hy : sp y x = true
      · obtain ⟨e1, e2⟩ := sp_iff.1 hy
        refine .inr ⟨e1, e2, ?_⟩
        have : fnd S x.1 x.2.1 = some y.2.2 := hs.fnd (by rw [← e1, ← e2]; exact h1)
        rw [this]
        simp only
        omega
      · exact .inl ⟨h1, by simpa using hy⟩
  · rename_i hx
    rw [mem_cut, mem_putS hs, mem_putS (sd_cut hs c), mem_cut]
    have hmax : (match fnd S x.1 x.2.1 with | some e => max e x.2.2 | none => x.2.2) = (match fnd (cutS S c) x.1 x.2.1 with | some e => max e x.2.2 | none => x.2.2) := by
      cases hf : fnd (cutS S c) x.1 x.2.1 with
      | some e => rw [hf2 e hf]
      | none =>
        cases hg : fnd S x.1 x.2.1 with
        | none => rfl
        | some e =>
          simp only
          by_cases hec : c < e
          · have := fnd_none.1 hf (x.1, x.2.1, e) (mem_cut.2 ⟨fnd_mem hg, hec⟩)
            rw [sp_no] at this
            exact absurd ⟨rfl, rfl⟩ this
          · omega
    rw [hmax]
    constructor
    · rintro ⟨(⟨h1, h2⟩ | h1), h4⟩
      · exact .inl ⟨⟨h1, h4⟩, h2⟩
      · exact .inr h1
    · rintro (⟨⟨h1, h4⟩, h2⟩ | ⟨h1, h2, h3⟩)
      · exact ⟨.inl ⟨h1, h2⟩, h4⟩
      · refine ⟨.inr ⟨h1, h2, h3⟩, ?_⟩
        rw [h3]
        split
        · rename_i e _
          have h9 : ∀ e t : Int, c < t → c < (if e ≤ t then t else e) := fun e t h => by split <;> omega
          exact h9 e x.2.2 (by omega)
        · omega
theorem cut_cut {S : List Et} {d c : Int} (h : d ≤ c) : cutS (cutS S d) c = cutS S c := by
  unfold cutS
  rw [List.filter_filter]
  apply List.filter_congr
  intro x _
  by_cases hc : c < x.2.2
  · have : d < x.2.2 := by omega
    simp [hc, this]
  · simp [hc]
theorem cut_puts (c : Int) : ∀ (l : List Et) {S : List Et}, Sd S → cutS (putsS S l) c = l.foldl (stepC c) (cutS S c)
  | [], S, h => rfl
  | x :: r, S, h => by
    show cutS (putsS (putS S x) r) c = r.foldl (stepC c) (stepC c (cutS S c) x)
    rw [cut_puts c r (sd_put h x), cut_put h x c]

/-- of each key and value, where it is first, the greatest end, if it is above a cut -/
def topOf (l : List Et) (x : Et) : Int := l.foldl (fun m z => if sp z x then max m z.2.2 else m) x.2.2
theorem topOf_le (l : List Et) (x : Et) : x.2.2 ≤ topOf l x ∧ ∀ z ∈ l, sp z x = true → z.2.2 ≤ topOf l x := by
  unfold topOf
  have : ∀ (l : List Et) (m : Int), m ≤ l.foldl (fun m z => if sp z x then max m z.2.2 else m) m ∧ ∀ z ∈ l, sp z x = true → z.2.2 ≤ l.foldl (fun m z => if sp z x then max m z.2.2 else m) m := by
    intro l
    induction l with
    | nil => intro m; exact ⟨Int.le_refl _, fun z hz => by cases hz⟩
    | cons a r ih =>
      intro m
      simp only [List.foldl_cons]
      obtain ⟨i1, i2⟩ := ih (if sp a x then max m a.2.2 else m)
      refine ⟨?_, fun z hz hzx => ?_⟩
      · refine Int.le_trans ?_ i1
        split <;> omega
      · rcases List.mem_cons.1 hz with rfl | hz
        · refine Int.le_trans ?_ i1
          rw [if_pos hzx]
          omega
        · exact i2 z hz hzx
  exact this l x.2.2
theorem topOf_mem (l : List Et) {x : Et} (hx : x ∈ l) : ∃ z ∈ l, sp z x = true ∧ z.2.2 = topOf l x := by
  unfold topOf
  have : ∀ (r : List Et) (m : Int), (∀ z ∈ r, z ∈ l) → (∃ z ∈ l, sp z x = true ∧ z.2.2 = m) → ∃ z ∈ l, sp z x = true ∧ z.2.2 = r.foldl (fun m z => if sp z x then max m z.2.2 else m) m := by
    intro r
    induction r with
    | nil => intro m _ h; exact h
    | cons a r ih =>
      intro m hr h
      simp only [List.foldl_cons]
      refine ih _ (fun z hz => hr z (by simp [hz])) ?_
      split
      · rename_i ha
        rcases Int.le_total m a.2.2 with hle | hle
        · rw [Int.max_eq_right hle]
          exact ⟨a, hr a (by simp), ha, rfl⟩
        · rw [Int.max_eq_left hle]
          exact h
      · exact h
  exact this l x.2.2 (fun z hz => hz) ⟨x, hx, sp_rfl x, rfl⟩
/-- an entry with its greatest end -/
def topE (l : List Et) (x : Et) : Et := (x.1, x.2.1, topOf l x)
theorem topE_top {l : List Et} {x : Et} (hx : x ∈ l) : Top l (topE l x) := by
  obtain ⟨z, hz, hzx, e⟩ := topOf_mem l hx
  obtain ⟨e1, e2⟩ := sp_iff.1 hzx
  refine ⟨?_, fun u hu hux => (topOf_le l x).2 u hu (sp_iff.2 (sp_iff.1 hux))⟩
  have : topE l x = z := by
    obtain ⟨a, b, c⟩ := z
    unfold topE
    simp only at e1 e2 e
    rw [← e, e1, e2]
  rw [this]
  exact hz
theorem top_topE {l : List Et} {x y : Et} (hx : Top l y) (h : x ∈ l) (hxy : sp x y = true) : topE l x = y := by
  have h1 := topE_top h
  obtain ⟨e1, e2⟩ := sp_iff.1 hxy
  have h2 := hx.2 _ h1.1 (sp_iff.2 ⟨e1, e2⟩)
  have h3 := h1.2 _ hx.1 (sp_iff.2 ⟨e1.symm, e2.symm⟩)
  obtain ⟨a, b, c⟩ := y
  unfold topE at *
  simp only at *
  rw [e1, e2, Int.le_antisymm h2 h3]
/-- is the k-th of a row the first of its key and value? -/
def fst1 (l : List Et) (i : Nat) : Bool := (l.take i).all fun z => !sp z (ge l i)
/-- what the first n of a row give -/
def endsN (l : List Et) (c : Int) : Nat → List Et
  | 0 => []
  | n + 1 => endsN l c n ++ (if fst1 l n && decide (c < topOf l (ge l n)) then [topE l (ge l n)] else [])
def endsL (l : List Et) (c : Int) : List Et := endsN l c l.length
theorem mem_endsN {l : List Et} {c : Int} : ∀ {n : Nat} {y : Et}, y ∈ endsN l c n ↔ ∃ i, i < n ∧ fst1 l i = true ∧ c < topOf l (ge l i) ∧ y = topE l (ge l i)
  | 0, y => by simp [endsN]
  | n + 1, y => by
    unfold endsN
    rw [List.mem_append, mem_endsN]
    constructor
    · rintro (⟨i, h1, h2⟩ | h)
      · exact ⟨i, by omega, h2⟩
      · split at h
        · rename_i hc
          simp only [Bool.and_eq_true, decide_eq_true_eq] at hc
          exact ⟨n, by omega, hc.1, hc.2, by simpa using h⟩
        · cases h
    · rintro ⟨i, h1, h2, h3, h4⟩
      by_cases hi : i < n
      · exact .inl ⟨i, hi, h2, h3, h4⟩
      · obtain rfl : i = n := by omega
        refine .inr ?_
        rw [if_pos (by simp [h2, h3])]
        simp [h4]
theorem endsN_apart {l : List Et} {c : Int} : ∀ {n : Nat}, n ≤ l.length → (endsN l c n).Pairwise fun x y => sp x y = false
  | 0, _ => List.Pairwise.nil
  | n + 1, hn => by
    unfold endsN
    rw [List.pairwise_append]
    refine ⟨endsN_apart (by omega), by split <;> simp, ?_⟩
    intro x hx y hy
    split at hy
    · rename_i hc
      simp only [Bool.and_eq_true, decide_eq_true_eq] at hc
      obtain rfl : y = topE l (ge l n) := by simpa using hy
      obtain ⟨i, h1, h2, h3, rfl⟩ := mem_endsN.1 hx
      have hm : ge l i ∈ l.take n := by
        rw [ge_get (by omega)]
        exact List.mem_take_iff_getElem.2 ⟨i, by omega, rfl⟩
      have := List.all_eq_true.1 hc.1 _ hm
      simp only [Bool.not_eq_true'] at this
      rw [sp_no] at this ⊢
      exact this
    · cases hy
theorem first_of {l : List Et} {y : Et} (hy : y ∈ l) : ∃ i, i < l.length ∧ sp (ge l i) y = true ∧ fst1 l i = true := by
  obtain ⟨j, hj, rfl⟩ := List.getElem_of_mem hy
  have : ∀ n j (hj : j < l.length), j ≤ n → ∃ i, i < l.length ∧ sp (ge l i) l[j] = true ∧ fst1 l i = true := by
    intro n
    induction n with
    | zero =>
      intro j hj hjn
      obtain rfl : j = 0 := by omega
      exact ⟨0, hj, by rw [ge_get hj]; exact sp_rfl _, by simp [fst1]⟩
    | succ n ih =>
      intro j hj hjn
      by_cases hf : fst1 l j = true
      · exact ⟨j, hj, by rw [ge_get hj]; exact sp_rfl _, hf⟩
      · unfold fst1 at hf
        rw [Bool.not_eq_true, List.all_eq_false] at hf
        obtain ⟨z, hz, hzj⟩ := hf
        obtain ⟨k, hk, rfl⟩ := List.mem_take_iff_getElem.1 hz
        obtain ⟨i, hi, h1, h2⟩ := ih k (by omega) (by omega)
        refine ⟨i, hi, sp_trans h1 ?_, h2⟩
        rw [ge_get hj] at hzj
        simpa using hzj
  exact this j j hj (Nat.le_refl _)
theorem ends_perm (l : List Et) (c : Int) : (endsL l c).Perm (cutS (putsS [] l) c) := by
  have n1 : (endsL l c).Nodup := (endsN_apart (Nat.le_refl _)).imp fun {a b} h e => by rw [e, sp_rfl] at h; cases h
  have n2 : (cutS (putsS [] l) c).Nodup := (sd_cut (sd_puts l Sd.nil) c).nodup
  refine (List.perm_ext_iff_of_nodup n1 n2).2 fun y => ?_
  rw [mem_cut, puts_top]
  unfold endsL
  rw [mem_endsN]
  constructor
  · rintro ⟨i, h1, h2, h3, rfl⟩
    exact ⟨topE_top (ge_mem h1), h3⟩
  · rintro ⟨h1, h2⟩
    obtain ⟨i, hi, h3, h4⟩ := first_of h1.1
    have := top_topE h1 (ge_mem hi) h3
    refine ⟨i, hi, h4, ?_, this.symm⟩
    have e : (topE l (ge l i)).2.2 = y.2.2 := by rw [this]
    show c < (topE l (ge l i)).2.2
    rw [e]
    exact h2
end Go.Proofs.YtfcdgfjpmcapkaaGreat
