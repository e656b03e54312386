/- Plain words for the reference's bag: where an entry is, or would be. -/
import Derived.Test.YtfcdgfjpmcapkaaGreatCF
namespace Go.Proofs.YtfcdgfjpmcapkaaGreat
set_option linter.unusedVariables false

/-- where x is in S, or would be -/
def posS : List Et → Et → Nat
  | [], _ => 0
  | y :: S, x => if pb y x then posS S x + 1 else 0
theorem pos_le : ∀ (S : List Et) (x : Et), posS S x ≤ S.length
  | [], x => Nat.le_refl _
  | y :: S, x => by
    unfold posS
    have := pos_le S x
    split <;> simp <;> omega
theorem ge_cons (y : Et) (S : List Et) (i : Nat) : ge (y :: S) (i + 1) = ge S i := by simp [ge]
theorem ge_zero (y : Et) (S : List Et) : ge (y :: S) 0 = y := by simp [ge]
theorem pos_ahead : ∀ (S : List Et) (x : Et) (i : Nat), i < posS S x → pb (ge S i) x = true
  | [], x, i, h => by simp [posS] at h
  | y :: S, x, i, h => by
    unfold posS at h
    split at h
    · rename_i hy
      cases i with
      | zero => rw [ge_zero]; exact hy
      | succ i => rw [ge_cons]; exact pos_ahead S x i (by omega)
    · omega
theorem pos_stop : ∀ (S : List Et) (x : Et), posS S x < S.length → pb (ge S (posS S x)) x = false
  | [], x, h => by simp at h
  | y :: S, x, h => by
    unfold posS at h ⊢
    split
    · rename_i hy
      rw [if_pos hy] at h
      rw [ge_cons]
      exact pos_stop S x (by simpa using h)
    · rename_i hy
      rw [ge_zero]
      simpa using hy
/-- what stops first is its place -/
theorem pos_eq : ∀ (S : List Et) (x : Et) (i : Nat), (∀ j, j < i → pb (ge S j) x = true) → i ≤ S.length → (i < S.length → pb (ge S i) x = false) → posS S x = i
  | [], x, i, _, hl, _ => by simp at hl; subst hl; rfl
  | y :: S, x, 0, _, _, h => by
    have := h (by simp)
    rw [ge_zero] at this
    unfold posS
    rw [this]
    rfl
  | y :: S, x, i + 1, h1, hl, h2 => by
    have h0 := h1 0 (by omega)
    rw [ge_zero] at h0
    unfold posS
    rw [if_pos h0, pos_eq S x i (fun j hj => by have := h1 (j + 1) (by omega); rwa [ge_cons] at this) (by simpa using hl) (fun hi => by have := h2 (by simpa using hi); rwa [ge_cons] at this)]
theorem mem_ge {S : List Et} {y : Et} (h : y ∈ S) : ∃ i, i < S.length ∧ ge S i = y := by
  obtain ⟨i, hi, e⟩ := List.getElem_of_mem h
  exact ⟨i, hi, by rw [ge_get hi]; exact e⟩
theorem sd_lt {S : List Et} (h : Sd S) {i j : Nat} (hij : i < j) (hj : j < S.length) : pb (ge S i) (ge S j) = true := by
  rw [ge_get hj, ge_get (by omega)]
  exact List.pairwise_iff_getElem.1 h i j (by omega) hj hij
theorem pos_yes {S : List Et} (h : Sd S) {x : Et} (hp : posS S x < S.length) (hs : sp (ge S (posS S x)) x = true) : fnd S x.1 x.2.1 = some (ge S (posS S x)).2.2 := by
  obtain ⟨e1, e2⟩ := sp_iff.1 hs
  refine h.fnd ?_
  rw [← e1, ← e2]
  exact ge_mem hp
theorem pos_no {S : List Et} (h : Sd S) {x : Et} (hs : posS S x < S.length → sp (ge S (posS S x)) x = false) : fnd S x.1 x.2.1 = none := by
  rw [fnd_none]
  intro y hy
  obtain ⟨i, hi, rfl⟩ := mem_ge hy
  have e : sp (ge S i) (x.1, x.2.1, 0) = sp (ge S i) x := rfl
  rw [e]
  cases hsp : sp (ge S i) x with
  | false => rfl
  | true =>
    exfalso
    rcases Nat.lt_trichotomy i (posS S x) with hl | hl | hl
    · have := pb_sp (pos_ahead S x i hl)
      rw [this] at hsp
      cases hsp
    · subst hl
      rw [hs hi] at hsp
      cases hsp
    · have h1 := sd_lt h hl hi
      rw [sp_pb_right hsp] at h1
      rw [pos_stop S x (by omega)] at h1
      cases h1
theorem ins_at (x : Et) : ∀ S : List Et, insE x S = S.take (posS S x) ++ x :: S.drop (posS S x)
  | [] => rfl
  | y :: S => by
    unfold insE posS
    split
    · rw [ins_at x S]; rfl
    · rfl
theorem oth_none {S : List Et} {x : Et} (h : fnd S x.1 x.2.1 = none) : oth x S = S := List.filter_eq_self.2 fun y hy => by
  have := fnd_none.1 h y hy
  have e : sp y (x.1, x.2.1, 0) = sp y x := rfl
  rw [e] at this
  simp [this]
theorem put_new {S : List Et} {x : Et} (h : fnd S x.1 x.2.1 = none) : putS S x = S.take (posS S x) ++ ([x] ++ S.drop (posS S x)) := by
  unfold putS
  rw [h, oth_none h]
  exact ins_at x S
theorem oth_at : ∀ {S : List Et} {x : Et}, Sd S → posS S x < S.length → sp (ge S (posS S x)) x = true → oth x S = S.take (posS S x) ++ S.drop (posS S x + 1)
  | [], x, _, h, _ => by simp at h
  | y :: S, x, hS, hp, hs => by
    obtain ⟨a1, a2⟩ := List.pairwise_cons.1 hS
    unfold posS at hp hs ⊢
    by_cases hy : pb y x = true
    · rw [if_pos hy] at hp hs ⊢
      rw [ge_cons] at hs
      have := oth_at a2 (by simpa using hp) hs
      unfold oth at this ⊢
      rw [List.filter_cons, pb_sp hy, this]
      rfl
    · rw [if_neg hy] at hp hs ⊢
      rw [ge_zero] at hs
      unfold oth
      rw [List.filter_cons, hs]
      simp only [Bool.not_true, Bool.false_eq_true, if_false, List.take_zero, List.nil_append, Nat.zero_add, List.drop_one, List.tail_cons]
      refine List.filter_eq_self.2 fun z hz => ?_
      have h1 := a1 z hz
      rw [sp_pb_left hs] at h1
      rw [sp_comm, pb_sp h1]
      rfl
theorem set_at : ∀ {S : List Et} {x z : Et}, Sd S → sp z x = true → posS S x < S.length → sp (ge S (posS S x)) x = true → insE z (oth x S) = S.set (posS S x) z
  | [], x, z, _, _, h, _ => by simp at h
  | y :: S, x, z, hS, hz, hp, hs => by
    have ho := oth_at hS hp hs
    obtain ⟨a1, a2⟩ := List.pairwise_cons.1 hS
    unfold posS at hp hs ho ⊢
    by_cases hy : pb y x = true
    · rw [if_pos hy] at hp hs ⊢
      rw [ge_cons] at hs
      have ih := set_at a2 hz (by simpa using hp) hs
      have e : oth x (y :: S) = y :: oth x S := by
        unfold oth
        rw [List.filter_cons, pb_sp hy]
        rfl
      rw [e]
      unfold insE
      rw [sp_pb_right hz, if_pos hy, ih]
      rfl
    · rw [if_neg hy] at hp hs ho ⊢
      rw [ge_zero] at hs
      rw [ho]
      simp only [List.take_zero, List.nil_append, Nat.zero_add, List.drop_one, List.tail_cons, List.set_cons_zero]
      cases S with
      | nil => rfl
      | cons v S =>
        have h1 := a1 v (by simp)
        rw [sp_pb_left hs, ← sp_pb_left hz] at h1
        unfold insE
        rw [pb_asymm h1]
        rfl
theorem put_old {S : List Et} {x : Et} (h : Sd S) (hp : posS S x < S.length) (hs : sp (ge S (posS S x)) x = true) : putS S x = S.set (posS S x) ((ge S (posS S x)).1, (ge S (posS S x)).2.1, max (ge S (posS S x)).2.2 x.2.2) := by
  obtain ⟨e1, e2⟩ := sp_iff.1 hs
  unfold putS
  rw [pos_yes h hp hs]
  simp only
  rw [set_at (x := x) (z := (x.1, x.2.1, max (ge S (posS S x)).2.2 x.2.2)) h (sp_iff.2 ⟨rfl, rfl⟩) hp hs, e1, e2]
theorem drop_old {S : List Et} {k : ByteArray} {v : Int} (h : Sd S) (hp : posS S (k, v, 0) < S.length) (hs : sp (ge S (posS S (k, v, 0))) (k, v, 0) = true) : dropS S k v = S.take (posS S (k, v, 0)) ++ S.drop (posS S (k, v, 0) + 1) := oth_at h hp hs

/-- the reference's row of what stays, as far as it goes -/
theorem cut_take {S : List Et} {q : Nat} (hq : q < S.length) (c : Int) : cutS (S.take (q + 1)) c = cutS (S.take q) c ++ (if c < (ge S q).2.2 then [ge S q] else []) := by
  unfold cutS
  rw [List.take_succ_eq_append_getElem hq, ← ge_get hq, List.filter_append]
  by_cases h : c < (ge S q).2.2 <;> simp [h]
theorem of_take {S : List Et} {q : Nat} (hq : q < S.length) (k : ByteArray) : ofS (S.take (q + 1)) k = ofS (S.take q) k ++ (if (ge S q).1 = k then [ge S q] else []) := by
  unfold ofS
  rw [List.take_succ_eq_append_getElem hq, ← ge_get hq, List.filter_append]
  by_cases h : (ge S q).1 = k <;> simp [h]
/-- the least end as far as the first q go -/
def minQ (S : List Et) (q : Nat) : Int := (S.take q).foldl (fun m y => min m y.2.2) (ge S 0).2.2
theorem minQ_zero (S : List Et) : minQ S 0 = (ge S 0).2.2 := by simp [minQ]
theorem minQ_succ {S : List Et} {q : Nat} (hq : q < S.length) : minQ S (q + 1) = min (minQ S q) (ge S q).2.2 := by
  unfold minQ
  rw [List.take_succ_eq_append_getElem hq, ← ge_get hq, List.foldl_append]
  rfl
theorem minQ_is {S : List Et} (h : 0 < S.length) : ∀ q, q ≤ S.length → (∃ x ∈ S, x.2.2 = minQ S q) ∧ ∀ i, i < q → minQ S q ≤ (ge S i).2.2
  | 0, _ => ⟨⟨ge S 0, ge_mem h, (minQ_zero S).symm⟩, fun i hi => by omega⟩
  | q + 1, hq => by
    obtain ⟨⟨x, hx, e⟩, h2⟩ := minQ_is h q (by omega)
    rw [minQ_succ (by omega)]
    rcases Int.le_total (minQ S q) (ge S q).2.2 with hle | hle
    · rw [Int.min_eq_left hle]
      refine ⟨⟨x, hx, e⟩, fun i hi => ?_⟩
      by_cases hiq : i = q
      · subst hiq; exact hle
      · exact h2 i (by omega)
    · rw [Int.min_eq_right hle]
      refine ⟨⟨_, ge_mem (by omega), rfl⟩, fun i hi => ?_⟩
      by_cases hiq : i = q
      · subst hiq; exact Int.le_refl _
      · exact Int.le_trans hle (h2 i (by omega))
theorem minQ_min {S : List Et} (h : 0 < S.length) : IsMin S (minQ S S.length) := by
  obtain ⟨h1, h2⟩ := minQ_is h S.length (Nat.le_refl _)
  refine ⟨h1, fun x hx => ?_⟩
  obtain ⟨i, hi, rfl⟩ := mem_ge hx
  exact h2 i hi
end Go.Proofs.YtfcdgfjpmcapkaaGreat
