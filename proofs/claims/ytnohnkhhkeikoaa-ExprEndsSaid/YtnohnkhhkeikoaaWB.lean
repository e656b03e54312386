/- The stage's theorem, in plain words. -/
import Derived.Test.YtnohnkhhkeikoaaWA
import Derived.Test.YtnohnkhhkeikoaaV
namespace Go.Proofs.Ytnohnkhhkeikoaa
open Go.ChangeShapes Go.WideShapes Go.ChangeAt Go.RowKit
set_option linter.unusedVariables false

def ofX (k : Int) (ks : List X) : X := .mk k ⟨#[]⟩ ks
theorem ofX_sz (k : Int) (ks : List X) : (ofX k ks).sz = 1 + szL ks := X.sz_eq _
theorem parts_of (k : Int) (ks : List X) : (ofX k ks).parts = ofX k ks :: partsL ks := X.parts_eq _
theorem partsL_one (a : X) : partsL [a] = a.parts := by rw [partsL_cons, partsL_nil, List.append_nil]
theorem partsL_two (a b : X) : partsL [a, b] = a.parts ++ b.parts := by rw [partsL_cons, partsL_one]
theorem szL_one (a : X) : szL [a] = a.sz := by rw [szL_cons, szL_nil]; omega
theorem szL_two (a b : X) : szL [a, b] = a.sz + b.sz := by rw [szL_cons, szL_one]
theorem right_of2 {k : Int} (hk : k = 2 ∨ k = 3) {a b : X} (ha : a.right = true) (hb : b.right = true) (h1 : a.sz ≤ 11) (h2 : b.sz ≤ 11) : (ofX k [a, b]).right = true := by
  refine is_right (by rw [ofX_sz, szL_two]; omega) fun p hp => ?_
  rw [parts_of, partsL_two] at hp
  rcases List.mem_cons.1 hp with rfl | hp
  · rcases hk with rfl | rfl <;> rfl
  · rcases List.mem_append.1 hp with hp | hp
    · exact (right_good ha).1 p hp
    · exact (right_good hb).1 p hp
theorem right_of1 {k : Int} (hk : k = 4 ∨ k = 5 ∨ k = 6) {a : X} (ha : a.right = true) (h1 : a.sz ≤ 11) : (ofX k [a]).right = true := by
  refine is_right (by rw [ofX_sz, szL_one]; omega) fun p hp => ?_
  rw [parts_of, partsL_one] at hp
  rcases List.mem_cons.1 hp with rfl | hp
  · rcases hk with rfl | rfl | rfl <;> rfl
  · exact (right_good ha).1 p hp
theorem lit_L : ∀ {ks : List X}, (∀ y ∈ ks, y.lit) → ∀ p ∈ partsL ks, p.lab.size ≤ maxLen
  | [], h, p, hp => by rw [partsL_nil] at hp; cases hp
  | y :: ys, h, p, hp => by
    rw [partsL_cons] at hp
    rcases List.mem_append.1 hp with hp | hp
    · exact h y (by simp) p hp
    · exact lit_L (fun z hz => h z (by simp [hz])) p hp
theorem lit_of {k : Int} {ks : List X} (h : ∀ y ∈ ks, y.lit) : (ofX k ks).lit := by
  intro p hp
  rw [parts_of] at hp
  rcases List.mem_cons.1 hp with rfl | hp
  · exact Nat.zero_le _
  · exact lit_L h p hp

theorem bool_ext {a b : Bool} (h : a = true ↔ b = true) : a = b := by cases a <;> cases b <;> simp_all
/-- is one of the first? -/
def orN (f : Nat → Bool) : Nat → Bool
  | 0 => false
  | k + 1 => orN f k || f k
theorem orN_iff (f : Nat → Bool) : ∀ n, orN f n = true ↔ ∃ k, k < n ∧ f k = true
  | 0 => by
    constructor
    · intro h; cases h
    · rintro ⟨k, hk, _⟩; omega
  | n + 1 => by
    rw [orN, Bool.or_eq_true, orN_iff f n]
    constructor
    · rintro (⟨k, hk, h⟩ | h)
      · exact ⟨k, by omega, h⟩
      · exact ⟨n, by omega, h⟩
    · rintro ⟨k, hk, h⟩
      by_cases hkn : k = n
      · subst hkn; exact .inr h
      · exact .inl ⟨k, by omega, h⟩

theorem L_label (x : X) (u : Wd) (h : x.kind = 2) : x.L u ↔ LS x.kids u := by rw [X.L_eq, if_neg (by omega), if_pos h]
theorem takes_alt {a b : X} (ha : a.right = true) (hb : b.right = true) (h1 : a.sz ≤ 11) (h2 : b.sz ≤ 11) (u : Wd) : takesB (ofX 3 [a, b]) u = (takesB a u || takesB b u) := by
  refine bool_ext ?_
  rw [takesB_iff, Bool.or_eq_true, takesB_iff, takesB_iff, X.L_eq]
  simp only [ofX, X.kind, X.kids]
  rw [if_neg (by decide), if_neg (by decide), if_pos trivial, LA_cons, LA_cons, LA_nil, or_false]
  simp only [ha, hb, true_and, show (X.mk 3 ⟨#[]⟩ [a, b]).right = true from right_of2 (.inr rfl) ha hb h1 h2]
theorem takes_opt {a : X} (ha : a.right = true) (h1 : a.sz ≤ 11) (u : Wd) : takesB (ofX 6 [a]) u = (decide (u.length = 0) || takesB a u) := by
  refine bool_ext ?_
  rw [takesB_iff, Bool.or_eq_true, takesB_iff, X.L_eq, decide_eq_true_eq, List.length_eq_zero_iff]
  simp only [ofX, X.kind, X.kids]
  rw [if_neg (by decide), if_neg (by decide), if_neg (by decide), if_pos trivial, LA_cons, LA_nil, or_false]
  simp only [ha, true_and, show (X.mk 6 ⟨#[]⟩ [a]).right = true from right_of1 (.inr (.inr rfl)) ha h1]
theorem takes_seq {a b : X} (ha : a.right = true) (hb : b.right = true) (h1 : a.sz ≤ 11) (h2 : b.sz ≤ 11) (u : Wd) : takesB (ofX 2 [a, b]) u = orN (fun k => takesB a (u.take k) && takesB b (u.drop k)) (u.length + 1) := by
  refine bool_ext ?_
  rw [takesB_iff, orN_iff, X.L_eq]
  simp only [ofX, X.kind, X.kids, Bool.and_eq_true, takesB_iff, ha, hb, true_and]
  rw [if_neg (by decide), if_pos trivial, LS_cons]
  simp only [show (X.mk 2 ⟨#[]⟩ [a, b]).right = true from right_of2 (.inl rfl) ha hb h1 h2, true_and, LS_cons, LS_nil]
  constructor
  · rintro ⟨p, q, rfl, hp, q1, q2, rfl, hq, rfl⟩
    exact ⟨p.length, by simp; omega, by simpa using hp, by simpa using hq⟩
  · rintro ⟨k, hk, hp, hq⟩
    exact ⟨_, _, (List.take_append_drop k u).symm, hp, _, [], (List.append_nil _).symm, hq, rfl⟩
theorem LA_one (a : X) : LA [a] = a.L := by
  funext u
  exact propext (by rw [LA_cons, LA_nil, or_false])
theorem star_iff {a : X} (ha : a.right = true) (h1 : a.sz ≤ 11) (u : Wd) : takesB (ofX 4 [a]) u = true ↔ u = [] ∨ Pl a.L u := by
  rw [takesB_iff, X.L_eq]
  simp only [ofX, X.kind, X.kids]
  rw [if_neg (by decide), if_neg (by decide), if_neg (by decide), if_neg (by decide), if_pos trivial, LA_one]
  simp only [show (X.mk 4 ⟨#[]⟩ [a]).right = true from right_of1 (.inl rfl) ha h1, true_and]
theorem L5 (a : X) (u : Wd) : (ofX 5 [a]).L u ↔ Pl a.L u := by
  have h : (ofX 5 [a]).L u ↔ Pl (LA [a]) u := by
    unfold ofX
    rw [X.L]
    rfl
  rw [h, LA_one]
theorem plus_iff {a : X} (ha : a.right = true) (h1 : a.sz ≤ 11) (u : Wd) : takesB (ofX 5 [a]) u = true ↔ Pl a.L u := by
  rw [takesB_iff, L5]
  simp only [show (ofX 5 [a]).right = true from right_of1 (.inr (.inl rfl)) ha h1, true_and]
theorem takes_star {a : X} (ha : a.right = true) (h1 : a.sz ≤ 11) (u : Wd) : takesB (ofX 4 [a]) u = (decide (u.length = 0) || orN (fun k => decide (0 < k) && takesB a (u.take k) && takesB (ofX 4 [a]) (u.drop k)) (u.length + 1)) := by
  refine bool_ext ?_
  rw [star_iff ha h1, Bool.or_eq_true, orN_iff, decide_eq_true_eq, List.length_eq_zero_iff]
  simp only [Bool.and_eq_true, decide_eq_true_eq, takesB_iff a, star_iff ha h1, ha, true_and]
  constructor
  · rintro (h | h)
    · exact .inl h
    · by_cases hu : u = []
      · exact .inl hu
      · obtain ⟨p, q, rfl, hp0, hp, hq⟩ := h.split1 hu
        refine .inr ⟨p.length, by simp; omega, ⟨List.length_pos_iff.2 hp0, by simpa using hp⟩, ?_⟩
        rw [List.drop_left]
        exact hq
  · rintro (h | ⟨k, hk, ⟨h0, hp⟩, hq⟩)
    · exact .inl h
    · refine .inr ?_
      rw [← List.take_append_drop k u]
      rcases hq with hq | hq
      · rw [hq, List.append_nil]
        exact .one _ hp
      · exact Pl.cons hp hq
theorem takes_plus {a : X} (ha : a.right = true) (h1 : a.sz ≤ 11) (u : Wd) : takesB (ofX 5 [a]) u = orN (fun k => takesB a (u.take k) && takesB (ofX 4 [a]) (u.drop k)) (u.length + 1) := by
  refine bool_ext ?_
  rw [plus_iff ha h1, orN_iff]
  simp only [Bool.and_eq_true, takesB_iff a, star_iff ha h1, ha, true_and]
  constructor
  · intro h
    obtain ⟨p, q, rfl, hp, hq⟩ := h.split
    exact ⟨p.length, by simp; omega, by simpa using hp, by simpa using hq⟩
  · rintro ⟨k, hk, hp, hq⟩
    rw [← List.take_append_drop k u]
    rcases hq with hq | hq
    · rw [hq, List.append_nil]
      exact .one _ hp
    · exact Pl.cons hp hq
end Go.Proofs.Ytnohnkhhkeikoaa
