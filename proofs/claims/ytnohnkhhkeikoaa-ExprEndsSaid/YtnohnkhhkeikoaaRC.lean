/- Words between places: plain. -/
import Derived.Test.YtnohnkhhkeikoaaWA
namespace Go.Proofs.Ytnohnkhhkeikoaa
open Go.ChangeShapes Go.WideShapes Go.ChangeAt Go.RowKit
set_option linter.unusedVariables false
set_option linter.unusedSimpArgs false

theorem seg_nil_iff (w : Nat → ByteArray) {i j : Nat} (h : i ≤ j) : seg w i j = [] ↔ i = j := by
  constructor
  · intro e
    have h1 := seg_len w i j
    rw [e] at h1
    simp at h1
    omega
  · rintro rfl; exact seg_self w i
/-- what lies between two places is of the kind P -/
def Bt (w : Nat → ByteArray) (P : Wd → Prop) (i j : Nat) : Prop := i ≤ j ∧ P (seg w i j)
theorem Bt.le {w : Nat → ByteArray} {P : Wd → Prop} {i j : Nat} (h : Bt w P i j) : i ≤ j := h.1

/-- at most m steps -/
def St (R : Nat → Nat → Prop) : Nat → Nat → Nat → Prop
  | 0, i, j => i = j
  | m + 1, i, j => i = j ∨ ∃ k, R i k ∧ St R m k j
theorem St.refl (R : Nat → Nat → Prop) : ∀ m i, St R m i i
  | 0, i => rfl
  | m + 1, i => .inl rfl
theorem St.le {R : Nat → Nat → Prop} (hR : ∀ i k, R i k → i ≤ k) : ∀ {m i j}, St R m i j → i ≤ j
  | 0, i, j, h => Nat.le_of_eq h
  | m + 1, i, j, h => by
    rcases h with rfl | ⟨k, h1, h2⟩
    · exact Nat.le_refl _
    · exact Nat.le_trans (hR _ _ h1) (St.le hR h2)
theorem St_one (R : Nat → Nat → Prop) (i j : Nat) : St R 1 i j ↔ i = j ∨ R i j := by
  constructor
  · rintro (h | ⟨k, h1, h2⟩)
    · exact .inl h
    · obtain rfl : k = j := h2
      exact .inr h1
  · rintro (h | h)
    · exact .inl h
    · exact .inr ⟨j, h, rfl⟩
theorem St_up {R : Nat → Nat → Prop} : ∀ {m i j}, St R m i j → St R (m + 1) i j
  | 0, i, j, h => .inl h
  | m + 1, i, j, h => by
    rcases h with rfl | ⟨k, h1, h2⟩
    · exact .inl rfl
    · exact .inr ⟨k, h1, St_up h2⟩
theorem St_more {R : Nat → Nat → Prop} {m i j : Nat} (h : St R m i j) : ∀ d, St R (m + d) i j
  | 0 => h
  | d + 1 => St_up (St_more h d)
theorem St_add (R : Nat → Nat → Prop) : ∀ (a b i j : Nat), St R (a + b) i j ↔ ∃ k, St R a i k ∧ St R b k j
  | 0, b, i, j => by
    rw [Nat.zero_add]
    exact ⟨fun h => ⟨i, rfl, h⟩, fun ⟨k, h1, h2⟩ => by obtain rfl : i = k := h1; exact h2⟩
  | a + 1, b, i, j => by
    rw [show a + 1 + b = (a + b) + 1 by omega]
    constructor
    · rintro (rfl | ⟨k, h1, h2⟩)
      · exact ⟨i, St.refl _ _ _, St.refl _ _ _⟩
      · obtain ⟨m, h3, h4⟩ := (St_add R a b k j).1 h2
        exact ⟨m, .inr ⟨k, h1, h3⟩, h4⟩
    · rintro ⟨m, (rfl | ⟨k, h1, h2⟩), h3⟩
      · rw [show (a + b) + 1 = b + (a + 1) by omega]
        exact St_more h3 _
      · exact .inr ⟨k, h1, (St_add R a b k j).2 ⟨m, h2, h3⟩⟩
theorem St_star (w : Nat → ByteArray) (P : Wd → Prop) : ∀ (m i j : Nat), i ≤ j → j - i ≤ m → (St (Bt w P) m i j ↔ i = j ∨ Pl P (seg w i j))
  | 0, i, j, h, hm => by
    obtain rfl : i = j := by omega
    exact ⟨fun _ => .inl rfl, fun _ => rfl⟩
  | m + 1, i, j, h, hm => by
    constructor
    · rintro (rfl | ⟨k, h1, h2⟩)
      · exact .inl rfl
      · have hkj := St.le (fun _ _ h => Bt.le h) h2
        by_cases hik : i < k
        · rcases (St_star w P m k j hkj (by omega)).1 h2 with rfl | h3
          · exact .inr (.one _ h1.2)
          · right
            rw [← seg_app w h1.1 hkj]
            exact Pl.cons h1.2 h3
        · obtain rfl : i = k := by have := h1.1; omega
          have hpn : Pl P (seg w i i) := .one _ h1.2
          by_cases hij : i = j
          · exact .inl hij
          · right
            -- an empty piece in front
            have : ∀ m j, St (Bt w P) m i j → i = j ∨ Pl P (seg w i j) := by
              intro m
              induction m with
              | zero => intro j h; exact .inl h
              | succ m ih =>
                intro j h
                rcases h with rfl | ⟨k, h3, h4⟩
                · exact .inl rfl
                · -- by the number of steps
                  have gen : ∀ m k j, i ≤ k → Bt w P i k → St (Bt w P) m k j → Pl P (seg w i j) := by
                    intro m
                    induction m with
                    | zero => intro k j hk hb h; obtain rfl : k = j := h; exact .one _ hb.2
                    | succ m ih2 =>
                      intro k j hk hb h
                      have gen2 : ∀ m k j, i ≤ k → Pl P (seg w i k) → St (Bt w P) m k j → Pl P (seg w i j) := by
                        intro m
                        induction m with
                        | zero => intro k j hk hb h; obtain rfl : k = j := h; exact hb
                        | succ m ih3 =>
                          intro k j hk hb h
                          rcases h with rfl | ⟨l, h5, h6⟩
                          · exact hb
                          · refine ih3 l j (Nat.le_trans hk h5.1) ?_ h6
                            rw [← seg_app w hk h5.1]
                            exact .snoc _ _ hb h5.2
                      exact gen2 (m + 1) k j hk (.one _ hb.2) h
                  exact .inr (gen m k j h3.1 h3 h4)
            rcases this m j h2 with h3 | h3
            · exact absurd h3 hij
            · exact h3
    · rintro (rfl | h1)
      · exact .inl rfl
      · by_cases hij : i = j
        · exact .inl hij
        · obtain ⟨p, q, e, hp0, hp, hq⟩ := Pl.split1 h1 (seg_ne w (by omega))
          obtain ⟨k, hik, hkj, rfl, rfl⟩ := seg_split h e
          have hik2 : i ≠ k := fun e => hp0 (by rw [e]; exact seg_self w k)
          refine .inr ⟨k, ⟨hik, hp⟩, (St_star w P m k j hkj (by omega)).2 ?_⟩
          rcases hq with hq | hq
          · exact .inl ((seg_nil_iff w hkj).1 hq)
          · exact .inr hq
/-- one and any more -/
theorem St_plus (w : Nat → ByteArray) (P : Wd → Prop) {m i j : Nat} (h : i ≤ j) (hm : j - i ≤ m) : (∃ k, Bt w P i k ∧ St (Bt w P) m k j) ↔ Pl P (seg w i j) := by
  constructor
  · rintro ⟨k, h1, h2⟩
    have hkj := St.le (fun _ _ h => Bt.le h) h2
    rcases (St_star w P m k j hkj (by have := h1.1; omega)).1 h2 with rfl | h3
    · exact .one _ h1.2
    · rw [← seg_app w h1.1 hkj]
      exact Pl.cons h1.2 h3
  · intro h1
    obtain ⟨p, q, e, hp, hq⟩ := Pl.split h1
    obtain ⟨k, hik, hkj, rfl, rfl⟩ := seg_split h e
    refine ⟨k, ⟨hik, hp⟩, (St_star w P m k j hkj (by omega)).2 ?_⟩
    rcases hq with hq | hq
    · exact .inl ((seg_nil_iff w hkj).1 hq)
    · exact .inr hq

theorem LS_snoc (x : X) : ∀ (ks : List X) (u : Wd), LS (ks ++ [x]) u ↔ ∃ p q, u = p ++ q ∧ LS ks p ∧ x.L q
  | [], u => by
    rw [List.nil_append, LS_cons]
    constructor
    · rintro ⟨p, q, rfl, h1, h2⟩
      rw [LS_nil] at h2
      subst h2
      exact ⟨[], p, by simp, by rw [LS_nil], h1⟩
    · rintro ⟨p, q, rfl, h1, h2⟩
      rw [LS_nil] at h1
      subst h1
      exact ⟨q, [], by simp, h2, by rw [LS_nil]⟩
  | y :: ys, u => by
    rw [List.cons_append, LS_cons]
    constructor
    · rintro ⟨p, q, rfl, h1, h2⟩
      obtain ⟨a, b, rfl, h3, h4⟩ := (LS_snoc x ys q).1 h2
      exact ⟨p ++ a, b, by simp, (LS_cons _ _ _).2 ⟨p, a, rfl, h1, h3⟩, h4⟩
    · rintro ⟨p, q, rfl, h1, h2⟩
      obtain ⟨a, b, rfl, h3, h4⟩ := (LS_cons _ _ _).1 h1
      exact ⟨a, b ++ q, by simp, h3, (LS_snoc x ys _).2 ⟨b, q, rfl, h4, h2⟩⟩
theorem LA_snoc (x : X) : ∀ (ks : List X) (u : Wd), LA (ks ++ [x]) u ↔ LA ks u ∨ x.L u
  | [], u => by rw [List.nil_append, LA_cons, LA_nil]; simp
  | y :: ys, u => by rw [List.cons_append, LA_cons, LA_cons, LA_snoc x ys u, or_assoc]
theorem Bt_LS_nil (w : Nat → ByteArray) (i j : Nat) : Bt w (LS []) i j ↔ i = j := by
  constructor
  · rintro ⟨h, h1⟩
    rw [LS_nil] at h1
    exact (seg_nil_iff w h).1 h1
  · rintro rfl
    exact ⟨Nat.le_refl _, by rw [LS_nil]; exact seg_self w i⟩
theorem Bt_LS_snoc (w : Nat → ByteArray) (ks : List X) (x : X) (i j : Nat) : Bt w (LS (ks ++ [x])) i j ↔ ∃ k, Bt w (LS ks) i k ∧ Bt w x.L k j := by
  constructor
  · rintro ⟨h, h1⟩
    obtain ⟨p, q, e, h2, h3⟩ := (LS_snoc x ks _).1 h1
    obtain ⟨k, hik, hkj, rfl, rfl⟩ := seg_split h e
    exact ⟨k, ⟨hik, h2⟩, hkj, h3⟩
  · rintro ⟨k, ⟨h1, h2⟩, h3, h4⟩
    exact ⟨Nat.le_trans h1 h3, (LS_snoc x ks _).2 ⟨_, _, (seg_app w h1 h3).symm, h2, h4⟩⟩
theorem Bt_LA_nil (w : Nat → ByteArray) (i j : Nat) : Bt w (LA []) i j ↔ False := by
  constructor
  · rintro ⟨_, h⟩; rw [LA_nil] at h; exact h
  · exact False.elim
theorem Bt_LA_snoc (w : Nat → ByteArray) (ks : List X) (x : X) (i j : Nat) : Bt w (LA (ks ++ [x])) i j ↔ Bt w (LA ks) i j ∨ Bt w x.L i j := by
  constructor
  · rintro ⟨h, h1⟩
    rcases (LA_snoc x ks _).1 h1 with h2 | h2
    · exact .inl ⟨h, h2⟩
    · exact .inr ⟨h, h2⟩
  · rintro (⟨h, h1⟩ | ⟨h, h1⟩)
    · exact ⟨h, (LA_snoc x ks _).2 (.inl h1)⟩
    · exact ⟨h, (LA_snoc x ks _).2 (.inr h1)⟩
theorem Bt_label (w : Nat → ByteArray) {x : X} (hk : x.kind = 1) (i j : Nat) : Bt w x.L i j ↔ j = i + 1 ∧ w i = x.lab := by
  constructor
  · rintro ⟨h, h1⟩
    rw [X.L_eq, if_pos hk] at h1
    have h2 := seg_len w i j
    rw [h1] at h2
    simp at h2
    obtain rfl : j = i + 1 := by omega
    rw [seg_one] at h1
    exact ⟨rfl, by injection h1⟩
  · rintro ⟨rfl, h⟩
    exact ⟨Nat.le_succ _, by rw [X.L_eq, if_pos hk, seg_one, h]⟩
theorem Bt_seq (w : Nat → ByteArray) {x : X} (hk : x.kind = 2) (i j : Nat) : Bt w x.L i j ↔ Bt w (LS x.kids) i j := by
  unfold Bt; rw [X.L_eq, if_neg (by omega), if_pos hk]
theorem Bt_alt (w : Nat → ByteArray) {x : X} (hk : x.kind = 3) (i j : Nat) : Bt w x.L i j ↔ Bt w (LA x.kids) i j := by
  unfold Bt; rw [X.L_eq, if_neg (by omega), if_neg (by omega), if_pos hk]
theorem LA_one' (a : X) (u : Wd) : LA [a] u ↔ a.L u := by rw [LA_cons, LA_nil]; simp
theorem LA_one_fun (a : X) : LA [a] = a.L := funext fun u => propext (LA_one' a u)
theorem Bt_opt (w : Nat → ByteArray) {x a : X} (hk : x.kind = 6) (hx : x.kids = [a]) (i j : Nat) : Bt w x.L i j ↔ i = j ∨ Bt w a.L i j := by
  unfold Bt
  rw [X.L_eq, if_neg (by omega), if_neg (by omega), if_neg (by omega), if_pos hk, hx, LA_one_fun]
  constructor
  · rintro ⟨h, h1 | h1⟩
    · exact .inl ((seg_nil_iff w h).1 h1)
    · exact .inr ⟨h, h1⟩
  · rintro (rfl | ⟨h, h1⟩)
    · exact ⟨Nat.le_refl _, .inl (seg_self w i)⟩
    · exact ⟨h, .inr h1⟩
theorem Bt_star (w : Nat → ByteArray) {x a : X} (hk : x.kind = 4) (hx : x.kids = [a]) {i j m : Nat} (hm : j - i ≤ m) : Bt w x.L i j ↔ St (Bt w a.L) m i j := by
  unfold Bt
  rw [X.L_eq, if_neg (by omega), if_neg (by omega), if_neg (by omega), if_neg (by omega), if_pos hk, hx, LA_one_fun]
  constructor
  · rintro ⟨h, h1⟩
    refine (St_star w a.L m i j h hm).2 ?_
    rcases h1 with h1 | h1
    · exact .inl ((seg_nil_iff w h).1 h1)
    · exact .inr h1
  · intro h1
    have h := St.le (fun _ _ h => Bt.le h) h1
    refine ⟨h, ?_⟩
    rcases (St_star w a.L m i j h hm).1 h1 with h2 | h2
    · exact .inl ((seg_nil_iff w h).2 h2)
    · exact .inr h2
theorem Bt_plus (w : Nat → ByteArray) {x a : X} (hk : x.kind = 5) (hx : x.kids = [a]) {i j m : Nat} (hm : j - i ≤ m) : Bt w x.L i j ↔ ∃ k, Bt w a.L i k ∧ St (Bt w a.L) m k j := by
  have e : Bt w x.L i j ↔ i ≤ j ∧ Pl a.L (seg w i j) := by
    unfold Bt
    rw [X.L_eq, if_neg (by omega), if_neg (by omega), if_neg (by omega), if_neg (by omega), if_neg (by omega), hx, LA_one_fun]
  rw [e]
  constructor
  · rintro ⟨h, h1⟩
    exact (St_plus w a.L h hm).2 h1
  · rintro ⟨k, h1, h2⟩
    have h := Nat.le_trans h1.1 (St.le (fun _ _ h => Bt.le h) h2)
    exact ⟨h, (St_plus w a.L h hm).1 ⟨k, h1, h2⟩⟩
end Go.Proofs.Ytnohnkhhkeikoaa
