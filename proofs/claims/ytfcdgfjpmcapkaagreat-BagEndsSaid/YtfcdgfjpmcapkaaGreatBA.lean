/- Plain words on entries: their order, rows in order, what is put, dropped, cut. -/
import Derived.Test.YtfcdgfjpmcapkaaGreatRows
import Derived.Sort.Walk0
namespace Go.Proofs.YtfcdgfjpmcapkaaGreat
set_option linter.unusedVariables false

instance : DecidableEq ByteArray := fun a b => decidable_of_iff (a.data = b.data) ⟨fun h => ByteArray.ext h, fun h => congrArg _ h⟩

/-- a key, a value, an end -/
abbrev Et := ByteArray × Int × Int
/-- an entry with its number -/
abbrev En := Et × Nat

def bl (a b : ByteArray) : Bool := decide (a.data.toList < b.data.toList)
theorem data_inj {a b : ByteArray} (h : a.data.toList = b.data.toList) : a = b := ByteArray.ext (Array.ext' h)
theorem bl_irrefl (a : ByteArray) : bl a a = false := by simp [bl, List.lt_irrefl]
theorem bl_trans {a b c : ByteArray} (h : bl a b = true) (k : bl b c = true) : bl a c = true := by
  simp only [bl, decide_eq_true_eq] at *
  exact List.lt_trans h k
theorem bl_asymm {a b : ByteArray} (h : bl a b = true) : bl b a = false := by
  cases hb : bl b a
  · rfl
  · have := bl_trans h hb
    rw [bl_irrefl] at this
    cases this
theorem bl_tri (a b : ByteArray) : bl a b = true ∨ a = b ∨ bl b a = true := by
  by_cases h1 : a.data.toList < b.data.toList
  · exact .inl (by simp [bl, h1])
  · by_cases h2 : b.data.toList < a.data.toList
    · exact .inr (.inr (by simp [bl, h2]))
    · exact .inr (.inl (data_inj (List.le_antisymm h2 h1)))

/-- at the same place -/
def sp (x y : Et) : Bool := decide (x.1 = y.1) && decide (x.2.1 = y.2.1)
/-- at a place ahead -/
def pb (x y : Et) : Bool := bl x.1 y.1 || (decide (x.1 = y.1) && decide (x.2.1 < y.2.1))
theorem sp_iff {x y : Et} : sp x y = true ↔ x.1 = y.1 ∧ x.2.1 = y.2.1 := by simp [sp]
theorem sp_no {x y : Et} : sp x y = false ↔ ¬ (x.1 = y.1 ∧ x.2.1 = y.2.1) := by rw [← sp_iff]; simp
theorem sp_rfl (x : Et) : sp x x = true := by simp [sp]
theorem sp_comm (x y : Et) : sp x y = sp y x := by
  unfold sp
  congr 1
  · exact decide_eq_decide.2 ⟨Eq.symm, Eq.symm⟩
  · exact decide_eq_decide.2 ⟨Eq.symm, Eq.symm⟩
theorem pb_iff {x y : Et} : pb x y = true ↔ bl x.1 y.1 = true ∨ (x.1 = y.1 ∧ x.2.1 < y.2.1) := by simp [pb]
theorem pb_sp {x y : Et} (h : pb x y = true) : sp x y = false := by
  rw [sp_no]
  rintro ⟨h1, h2⟩
  rcases pb_iff.1 h with h | ⟨_, h⟩
  · rw [h1, bl_irrefl] at h; cases h
  · omega
theorem pb_trans {x y z : Et} (h : pb x y = true) (k : pb y z = true) : pb x z = true := by
  rw [pb_iff] at *
  rcases h with h | ⟨h1, h2⟩
  · rcases k with k | ⟨k1, k2⟩
    · exact .inl (bl_trans h k)
    · exact .inl (k1 ▸ h)
  · rcases k with k | ⟨k1, k2⟩
    · exact .inl (h1 ▸ k)
    · exact .inr ⟨h1.trans k1, by omega⟩
theorem pb_irrefl (x : Et) : pb x x = false := by
  cases h : pb x x
  · rfl
  · have := pb_sp h
    rw [sp_rfl] at this
    cases this
theorem pb_asymm {x y : Et} (h : pb x y = true) : pb y x = false := by
  cases hb : pb y x
  · rfl
  · have := pb_trans h hb
    rw [pb_irrefl] at this
    cases this
theorem pb_tri (x y : Et) : pb x y = true ∨ sp x y = true ∨ pb y x = true := by
  rcases bl_tri x.1 y.1 with h | h | h
  · exact .inl (pb_iff.2 (.inl h))
  · by_cases h1 : x.2.1 < y.2.1
    · exact .inl (pb_iff.2 (.inr ⟨h, h1⟩))
    · by_cases h2 : y.2.1 < x.2.1
      · exact .inr (.inr (pb_iff.2 (.inr ⟨h.symm, h2⟩)))
      · exact .inr (.inl (sp_iff.2 ⟨h, by omega⟩))
  · exact .inr (.inr (pb_iff.2 (.inl h)))
theorem sp_pb_left {x y z : Et} (h : sp x y = true) : pb x z = pb y z := by
  obtain ⟨h1, h2⟩ := sp_iff.1 h
  simp [pb, h1, h2]
theorem sp_pb_right {x y z : Et} (h : sp x y = true) : pb z x = pb z y := by
  obtain ⟨h1, h2⟩ := sp_iff.1 h
  simp [pb, h1, h2]
theorem sp_trans {x y z : Et} (h : sp x y = true) (k : sp y z = true) : sp x z = true := by
  rw [sp_iff] at *
  exact ⟨h.1.trans k.1, h.2.trans k.2⟩

/-- a row in order -/
def Sd (S : List Et) : Prop := S.Pairwise fun x y => pb x y = true
theorem Sd.nil : Sd [] := List.Pairwise.nil
theorem Sd.filter {S : List Et} (h : Sd S) (p : Et → Bool) : Sd (S.filter p) := List.Pairwise.filter p h
theorem Sd.ext : ∀ {S T : List Et}, Sd S → Sd T → (∀ x, x ∈ S ↔ x ∈ T) → S = T
  | [], [], _, _, _ => rfl
  | [], b :: s, _, _, h => by have := (h b).2 (by simp); simp at this
  | a :: r, [], _, _, h => by have := (h a).1 (by simp); simp at this
  | a :: r, b :: s, h1, h2, h => by
    obtain ⟨a1, a2⟩ := List.pairwise_cons.1 h1
    obtain ⟨b1, b2⟩ := List.pairwise_cons.1 h2
    have hab : a = b := by
      rcases List.mem_cons.1 ((h a).1 (by simp)) with e | ha
      · exact e
      · rcases List.mem_cons.1 ((h b).2 (by simp)) with e | hb
        · exact e.symm
        · have := pb_trans (a1 b hb) (b1 a ha)
          rw [pb_irrefl] at this
          cases this
    subst hab
    rw [Sd.ext a2 b2 (fun p => ⟨fun hp => by
      rcases List.mem_cons.1 ((h p).1 (by simp [hp])) with e | hp'
      · have := a1 p hp
        rw [e, pb_irrefl] at this
        cases this
      · exact hp', fun hp => by
      rcases List.mem_cons.1 ((h p).2 (by simp [hp])) with e | hp'
      · have := b1 p hp
        rw [e, pb_irrefl] at this
        cases this
      · exact hp'⟩)]
theorem Sd.one {S : List Et} (h : Sd S) {x y : Et} (hx : x ∈ S) (hy : y ∈ S) (e : sp x y = true) : x = y := by
  induction S with
  | nil => simp at hx
  | cons a r ih =>
    obtain ⟨a1, a2⟩ := List.pairwise_cons.1 h
    rcases List.mem_cons.1 hx with ex | hx'
    · rcases List.mem_cons.1 hy with ey | hy'
      · rw [ex, ey]
      · subst ex
        rw [pb_sp (a1 y hy')] at e
        cases e
    · rcases List.mem_cons.1 hy with ey | hy'
      · subst ey
        rw [sp_comm, pb_sp (a1 x hx')] at e
        cases e
      · exact ih a2 hx' hy'
theorem Sd.nodup {S : List Et} (h : Sd S) : S.Nodup := h.imp fun {a b} hab e => by rw [e, pb_irrefl] at hab; cases hab
theorem Sd.perm {S T : List Et} (h : Sd S) (k : Sd T) (p : S.Perm T) : S = T := h.ext k fun x => p.mem_iff

def insE (x : Et) : List Et → List Et
  | [] => [x]
  | y :: S => if pb y x then y :: insE x S else x :: y :: S
theorem insE_perm (x : Et) : ∀ S, (insE x S).Perm (x :: S)
  | [] => List.Perm.refl _
  | y :: S => by
    unfold insE
    split
    · exact ((insE_perm x S).cons y).trans (List.Perm.swap x y S)
    · exact List.Perm.refl _
theorem mem_insE {x y : Et} {S : List Et} : y ∈ insE x S ↔ y = x ∨ y ∈ S := by rw [(insE_perm x S).mem_iff]; simp
theorem Sd.insE {x : Et} : ∀ {S : List Et}, Sd S → (∀ y ∈ S, sp y x = false) → Sd (insE x S)
  | [], _, _ => by simp [Go.Proofs.YtfcdgfjpmcapkaaGreat.insE, Sd]
  | y :: S, h, hx => by
    obtain ⟨h1, h2⟩ := List.pairwise_cons.1 h
    unfold Go.Proofs.YtfcdgfjpmcapkaaGreat.insE
    split
    · rename_i hb
      refine List.pairwise_cons.2 ⟨fun z hz => ?_, Sd.insE h2 fun z hz => hx z (by simp [hz])⟩
      rcases mem_insE.1 hz with rfl | hz
      · exact hb
      · exact h1 z hz
    · rename_i hb
      have hxy : pb x y = true := by
        rcases pb_tri x y with h | h | h
        · exact h
        · have := hx y (by simp)
          rw [sp_comm] at this
          rw [this] at h; cases h
        · exact absurd h hb
      refine List.pairwise_cons.2 ⟨fun z hz => ?_, h⟩
      rcases List.mem_cons.1 hz with rfl | hz
      · exact hxy
      · exact pb_trans hxy (h1 z hz)

/-- all that are not at that place -/
def oth (x : Et) (S : List Et) : List Et := S.filter fun y => !sp y x
theorem mem_oth {x y : Et} {S : List Et} : y ∈ oth x S ↔ y ∈ S ∧ sp y x = false := by simp [oth]
/-- the end at a place -/
def fnd (S : List Et) (k : ByteArray) (v : Int) : Option Int := (S.find? fun y => sp y (k, v, 0)).map (·.2.2)
theorem fnd_none {S : List Et} {k : ByteArray} {v : Int} : fnd S k v = none ↔ ∀ y ∈ S, sp y (k, v, 0) = false := by simp [fnd]
theorem fnd_mem {S : List Et} {k : ByteArray} {v e : Int} (h : fnd S k v = some e) : (k, v, e) ∈ S := by
  simp only [fnd, Option.map_eq_some_iff] at h
  obtain ⟨y, hy, rfl⟩ := h
  have h1 := List.mem_of_find?_eq_some hy
  have h2 := List.find?_some hy
  obtain ⟨e1, e2⟩ := sp_iff.1 h2
  obtain ⟨a, b, c⟩ := y
  simp only at e1 e2
  subst e1; subst e2
  exact h1
theorem Sd.fnd {S : List Et} (h : Sd S) {k : ByteArray} {v e : Int} (hm : (k, v, e) ∈ S) : fnd S k v = some e := by
  cases hf : Go.Proofs.YtfcdgfjpmcapkaaGreat.fnd S k v with
  | none => have := fnd_none.1 hf _ hm; simp [sp] at this
  | some e' =>
    have := h.one hm (fnd_mem hf) (by simp [sp])
    simp at this
    rw [this]
/-- an entry is put -/
def putS (S : List Et) (x : Et) : List Et := insE (x.1, x.2.1, match fnd S x.1 x.2.1 with | some e => max e x.2.2 | none => x.2.2) (oth x S)
theorem sd_put {S : List Et} (h : Sd S) (x : Et) : Sd (putS S x) := by
  refine Sd.insE (h.filter _) fun y hy => ?_
  have := (mem_oth.1 hy).2
  exact this
theorem putS_keep {S : List Et} (h : Sd S) {x : Et} {e : Int} (hf : fnd S x.1 x.2.1 = some e) (he : x.2.2 ≤ e) : putS S x = S := by
  refine (sd_put h x).ext h fun y => ?_
  unfold putS
  rw [hf, mem_insE, mem_oth]
  have hm := fnd_mem hf
  have em : max e x.2.2 = e := by omega
  simp only [em]
  constructor
  · rintro (rfl | ⟨hy, _⟩)
    · exact hm
    · exact hy
  · intro hy
    cases hs : sp y x
    · exact .inr ⟨hy, rfl⟩
    · exact .inl (h.one hy hm hs)
theorem putS_new {S : List Et} {x : Et} (hf : ∀ e, fnd S x.1 x.2.1 = some e → e < x.2.2) : putS S x = insE x (oth x S) := by
  unfold putS
  cases hc : fnd S x.1 x.2.1 with
  | none => rfl
  | some e =>
    have := hf e hc
    have em : max e x.2.2 = x.2.2 := by omega
    simp only [em]
def putsS (S l : List Et) : List Et := l.foldl putS S
theorem sd_puts : ∀ (l : List Et) {S : List Et}, Sd S → Sd (putsS S l)
  | [], _, h => h
  | x :: l, _, h => sd_puts l (sd_put h x)
theorem oth_len (x : Et) (S : List Et) : (oth x S).length ≤ S.length := List.length_filter_le _ _
theorem putS_len (S : List Et) (x : Et) : (putS S x).length ≤ S.length + 1 := by
  unfold putS
  rw [(insE_perm _ _).length_eq]
  have := oth_len x S
  simp; omega
theorem puts_len : ∀ (l S : List Et), (putsS S l).length ≤ S.length + l.length
  | [], S => by simp [putsS]
  | x :: l, S => by
    have h1 := puts_len l (putS S x)
    have h2 := putS_len S x
    simp only [putsS, List.foldl_cons, List.length_cons] at *
    omega
/-- the entry of a place is taken away -/
def dropS (S : List Et) (k : ByteArray) (v : Int) : List Et := oth (k, v, 0) S
/-- all that end are taken away -/
def cutS (S : List Et) (c : Int) : List Et := S.filter fun y => decide (c < y.2.2)
def ofS (S : List Et) (k : ByteArray) : List Et := S.filter fun y => decide (y.1 = k)
theorem sd_drop {S : List Et} (h : Sd S) (k : ByteArray) (v : Int) : Sd (dropS S k v) := h.filter _
theorem sd_cut {S : List Et} (h : Sd S) (c : Int) : Sd (cutS S c) := h.filter _
theorem drop_none {S : List Et} {k : ByteArray} {v : Int} (hf : fnd S k v = none) : dropS S k v = S :=
  List.filter_eq_self.2 fun y hy => by rw [fnd_none.1 hf y hy]; rfl
/-- the least end -/
def IsMin (S : List Et) (m : Int) : Prop := (∃ x ∈ S, x.2.2 = m) ∧ ∀ x ∈ S, m ≤ x.2.2
theorem IsMin.uniq {S : List Et} {m n : Int} (h : IsMin S m) (k : IsMin S n) : m = n := by
  obtain ⟨x, hx, rfl⟩ := h.1
  obtain ⟨y, hy, rfl⟩ := k.1
  have := h.2 y hy
  have := k.2 x hx
  omega
theorem len_cut_drop (S : List Et) (c : Int) : (cutS S c).length ≤ S.length := List.length_filter_le _ _
end Go.Proofs.YtfcdgfjpmcapkaaGreat
