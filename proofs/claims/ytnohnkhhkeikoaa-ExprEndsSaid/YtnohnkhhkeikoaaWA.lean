/- The flags tell the words. -/
import Derived.Test.YtnohnkhhkeikoaaW
namespace Go.Proofs.Ytnohnkhhkeikoaa
open Go.ChangeShapes Go.WideShapes Go.ChangeAt Go.RowKit
set_option linter.unusedVariables false

def RunC (x : X) : Prop := ∀ (w : Nat → ByteArray) (b : Nat → Bool) (k : Nat), hd (run x w b k) = true ↔ ∃ i, i < k ∧ b i = true ∧ x.L (seg w i k)

theorem row_runs (w : Nat → ByteArray) : ∀ (ks : List X), goodL ks → (∀ y ∈ ks, RunC y) → ∀ (b : Nat → Bool) (e : Bool) (k : Nat),
    (rowS (w k) ks (runS ks w b k) (b k) e).2.1 = true ↔ (∃ i, i ≤ k ∧ b i = true ∧ LS ks (seg w i (k + 1))) ∨ (e = true ∧ LS ks [])
  | [], _, _, b, e, k => by
    rw [rowS_nil]
    simp only [LS_nil, and_true]
    constructor
    · exact fun h => .inr h
    · rintro (⟨i, hi, _, h⟩ | h)
      · exact absurd h (seg_ne w (by omega))
      · exact h
  | x :: xs, hg, hr, b, e, k => by
    have hx := hg x (by simp)
    have hl := run_len hx w b k
    rw [rowS_cons, runS_cons hx xs w b k]
    simp only
    rw [List.take_left' hl, List.drop_left' hl]
    have ih := row_runs w xs (fun z hz => hg z (by simp [hz])) (fun z hz => hr z (by simp [hz])) (nextB x w b) (hd (stepF (w k) x (run x w b k) (b k)) || (e && x.emp)) k
    rw [show (hd (run x w b k) || (b k && x.emp)) = nextB x w b k from rfl, ih]
    have hc := hr x (by simp)
    have hn : ∀ i, nextB x w b i = true ↔ ∃ j, j ≤ i ∧ b j = true ∧ x.L (seg w j i) := by
      intro i
      unfold nextB
      rw [Bool.or_eq_true, hc w b i, Bool.and_eq_true, emp_iff x hx]
      constructor
      · rintro (⟨j, h1, h2, h3⟩ | ⟨h1, h2⟩)
        · exact ⟨j, by omega, h2, h3⟩
        · exact ⟨i, Nat.le_refl _, h1, by rw [seg_self]; exact h2⟩
      · rintro ⟨j, h1, h2, h3⟩
        by_cases hji : j = i
        · subst hji
          exact .inr ⟨h2, by rw [seg_self] at h3; exact h3⟩
        · exact .inl ⟨j, by omega, h2, h3⟩
    have h1 := hc w b (k + 1)
    rw [show run x w b (k + 1) = stepF (w k) x (run x w b k) (b k) from rfl] at h1
    rw [Bool.or_eq_true, h1, Bool.and_eq_true, emp_iff x hx, LS_cons]
    simp only [LS_cons]
    constructor
    · rintro (⟨i, hi, h2, h3⟩ | ⟨⟨i, hi, h2, h3⟩ | ⟨h2, h3⟩, h4⟩)
      · obtain ⟨j, hj, h4, h5⟩ := (hn i).1 h2
        exact .inl ⟨j, by omega, h4, _, _, (seg_app w hj (by omega)).symm, h5, h3⟩
      · exact .inl ⟨i, by omega, h2, _, _, (List.append_nil _).symm, h3, h4⟩
      · exact .inr ⟨h2, [], [], rfl, h3, h4⟩
    · rintro (⟨i, hi, h2, p, q, e1, h3, h4⟩ | ⟨h2, p, q, e1, h3, h4⟩)
      · obtain ⟨j, hj1, hj2, rfl, rfl⟩ := seg_split (by omega) e1
        by_cases hjk : j = k + 1
        · subst hjk
          rw [seg_self] at h4
          exact .inr ⟨.inl ⟨i, by omega, h2, h3⟩, h4⟩
        · exact .inl ⟨j, by omega, (hn j).2 ⟨i, hj1, h2, h3⟩, h4⟩
      · obtain ⟨rfl, rfl⟩ := List.append_eq_nil_iff.1 e1.symm
        exact .inr ⟨.inr ⟨h2, h3⟩, h4⟩
theorem alt_runs (w : Nat → ByteArray) : ∀ (ks : List X), goodL ks → (∀ y ∈ ks, RunC y) → ∀ (b : Nat → Bool) (e : Bool) (k : Nat),
    (altS (w k) ks (runA ks w b k) (b k) e).1 = true ↔ (∃ i, i ≤ k ∧ b i = true ∧ LA ks (seg w i (k + 1))) ∨ e = true
  | [], _, _, b, e, k => by
    rw [altS_nil]
    simp only [LA_nil, and_false, exists_false, false_or]
  | x :: xs, hg, hr, b, e, k => by
    have hx := hg x (by simp)
    have hl := run_len hx w b k
    rw [altS_cons, runA_cons hx xs w b k]
    simp only
    rw [List.take_left' hl, List.drop_left' hl, alt_runs w xs (fun z hz => hg z (by simp [hz])) (fun z hz => hr z (by simp [hz])) b _ k, Bool.or_eq_true]
    have h1 := hr x (by simp) w b (k + 1)
    rw [show run x w b (k + 1) = stepF (w k) x (run x w b k) (b k) from rfl] at h1
    rw [h1]
    simp only [LA_cons]
    constructor
    · rintro (⟨i, hi, h2, h3⟩ | h2 | ⟨i, hi, h2, h3⟩)
      · exact .inl ⟨i, hi, h2, .inr h3⟩
      · exact .inr h2
      · exact .inl ⟨i, by omega, h2, .inl h3⟩
    · rintro (⟨i, hi, h2, h3 | h3⟩ | h2)
      · exact .inr (.inr ⟨i, by omega, h2, h3⟩)
      · exact .inl ⟨i, hi, h2, h3⟩
      · exact .inr (.inl h2)

theorem run_any : ∀ x : X, x.good → RunC x := by
  intro x
  induction x using X.ind' with
  | h x ih =>
    intro hg w b k
    have ih' : ∀ y ∈ x.kids, RunC y := fun y hy => ih y hy (hg.kids y hy)
    have hf := hg.fit
    have hz : hd (run x w b 0) = false := by
      rw [run, X.sz_eq]
      rw [Nat.add_comm, List.replicate_succ]
      rfl
    cases k with
    | zero =>
      rw [hz]
      constructor
      · intro h; cases h
      · rintro ⟨i, hi, _⟩; omega
    | succ k =>
      have ht : ∀ n : Nat, List.tail (List.replicate x.sz false) = List.replicate (szL x.kids) false := fun n => by rw [X.sz_eq, Nat.add_comm, List.replicate_succ]; rfl
      rw [run, stepF_eq]
      rcases good_kind hg with h | h | h | h
      · simp only [h, if_true]
        rw [show hd ((b k && decide (x.lab = w k)) :: (run x w b k).tail) = (b k && decide (x.lab = w k)) from rfl, Bool.and_eq_true, decide_eq_true_eq]
        constructor
        · rintro ⟨h1, h2⟩
          exact ⟨k, by omega, h1, by rw [X.L_eq, if_pos h, seg_one, h2]⟩
        · rintro ⟨i, hi, h1, h2⟩
          rw [X.L_eq, if_pos h] at h2
          have hl := congrArg List.length h2
          rw [seg_len] at hl
          simp at hl
          obtain rfl : i = k := by omega
          rw [seg_one] at h2
          injection h2 with h2 _
          exact ⟨h1, h2.symm⟩
      · have hrun : ∀ n, (run x w b n).tail = runS x.kids w b n := by
          intro n
          induction n with
          | zero => rw [run, runS, ht 0]
          | succ n ihn => rw [run, stepF_eq, if_neg (by omega), if_pos h, List.tail_cons, ihn, runS]
        rw [if_neg (by omega), if_pos h]
        rw [hrun k]
        rw [show ∀ (a : Bool) (l : List Bool), hd (a :: l) = a from fun _ _ => rfl, row_runs w x.kids hg.kids ih' b false k]
        constructor
        · rintro (⟨i, hi, h1, h2⟩ | ⟨h1, _⟩)
          · exact ⟨i, by omega, h1, by rw [X.L_eq, if_neg (by omega), if_pos h]; exact h2⟩
          · cases h1
        · rintro ⟨i, hi, h1, h2⟩
          rw [X.L_eq, if_neg (by omega), if_pos h] at h2
          exact .inl ⟨i, by omega, h1, h2⟩
      · have hrun : ∀ n, (run x w b n).tail = runA x.kids w b n := by
          intro n
          induction n with
          | zero => rw [run, runA, ht 0]
          | succ n ihn => rw [run, stepF_eq, if_neg (by omega), if_neg (by omega), if_pos h, List.tail_cons, ihn, runA]
        rw [if_neg (by omega), if_neg (by omega), if_pos h]
        rw [hrun k]
        rw [show ∀ (a : Bool) (l : List Bool), hd (a :: l) = a from fun _ _ => rfl, alt_runs w x.kids hg.kids ih' b false k]
        constructor
        · rintro (⟨i, hi, h1, h2⟩ | h1)
          · refine ⟨i, by omega, h1, ?_⟩
            rw [X.L_eq, if_neg (by omega), if_neg (by omega)]
            rcases h with h | h
            · rw [if_pos h]; exact h2
            · rw [if_neg (by omega), if_pos h]; exact .inr h2
          · cases h1
        · rintro ⟨i, hi, h1, h2⟩
          refine .inl ⟨i, by omega, h1, ?_⟩
          rw [X.L_eq, if_neg (by omega), if_neg (by omega)] at h2
          rcases h with h | h
          · rw [if_pos h] at h2; exact h2
          · rw [if_neg (by omega), if_pos h] at h2
            rcases h2 with h2 | h2
            · exact absurd h2 (seg_ne w hi)
            · exact h2
      · obtain ⟨y, hy⟩ : ∃ y, x.kids = [y] := by
          unfold X.fits fitB at hf
          rcases h with h | h <;>
          · simp [h] at hf
            exact List.length_eq_one_iff.1 hf.2
        have hyr := ih' y (by rw [hy]; simp)
        have hyg := hg.kids y (by rw [hy]; simp)
        rw [hy] at ht
        have hrun : ∀ n, (run x w b n).tail = run y w (fun i => b i || hd ((run x w b i).tail)) n := by
          intro n
          induction n with
          | zero => rw [run, ht 0, run, szL_cons, szL_nil]; rfl
          | succ n ihn =>
            have hl := run_len hyg w (fun i => b i || hd ((run x w b i).tail)) n
            conv => lhs; rw [run, stepF_eq, if_neg (by omega), if_neg (by omega), if_neg (by omega), List.tail_cons, hy, altS_cons, altS_nil]
            simp only [List.append_nil]
            rw [ihn, List.take_of_length_le (by omega), run, ← ihn]
        have hstep : ∀ n, (altS (w n) x.kids (run x w b n).tail (b n || hd (run x w b n).tail) false).2 = (run x w b (n + 1)).tail := by
          intro n
          rw [run, stepF_eq, if_neg (by omega), if_neg (by omega), if_neg (by omega), List.tail_cons]
        rw [if_neg (by omega), if_neg (by omega), if_neg (by omega), hstep k]
        rw [show ∀ (a : Bool) (l : List Bool), hd (a :: l) = a from fun _ _ => rfl]
        have hA : ∀ v, LA x.kids v ↔ y.L v := fun v => by rw [hy, LA_cons, LA_nil, or_false]
        have main : ∀ n, hd (run x w b n).tail = true ↔ ∃ i, i < n ∧ b i = true ∧ Pl (LA x.kids) (seg w i n) := by
          intro n
          have hone : ∀ m, hd (run x w b m).tail = true ↔ ∃ i, i < m ∧ (b i = true ∨ hd (run x w b i).tail = true) ∧ y.L (seg w i m) := by
            intro m
            rw [hrun m, hyr]
            constructor
            · rintro ⟨i, h1, h2, h3⟩; exact ⟨i, h1, Bool.or_eq_true _ _ ▸ h2, h3⟩
            · rintro ⟨i, h1, h2, h3⟩; exact ⟨i, h1, by rw [Bool.or_eq_true]; exact h2, h3⟩
          constructor
          · induction n using Nat.strongRecOn with
            | ind n ihn =>
              intro hh
              obtain ⟨i, hi, h1, h2⟩ := (hone n).1 hh
              rcases h1 with h1 | h1
              · exact ⟨i, hi, h1, .one _ ((hA _).2 h2)⟩
              · obtain ⟨j, hj, h3, h4⟩ := ihn i hi h1
                refine ⟨j, by omega, h3, ?_⟩
                rw [← seg_app w (i := j) (j := i) (k := n) (by omega) (by omega)]
                exact .snoc _ _ h4 ((hA _).2 h2)
          · rintro ⟨i, hi, h1, h2⟩
            generalize hu : seg w i n = u at h2
            induction h2 generalizing n with
            | one p hp =>
              subst hu
              exact (hone n).2 ⟨i, hi, .inl h1, (hA _).1 hp⟩
            | snoc p q hp hq ihp =>
              obtain ⟨m, hm1, hm2, rfl, rfl⟩ := seg_split (by omega) hu
              by_cases hmi : m = i
              · subst hmi
                exact (hone n).2 ⟨m, hi, .inl h1, (hA _).1 hq⟩
              · by_cases hmn : m = n
                · subst hmn
                  exact ihp m hi rfl
                · exact (hone n).2 ⟨m, by omega, .inr (ihp m (by omega) rfl), (hA _).1 hq⟩
        rw [main (k + 1)]
        constructor
        · rintro ⟨i, hi, h1, h2⟩
          refine ⟨i, hi, h1, ?_⟩
          rw [X.L_eq, if_neg (by omega), if_neg (by omega), if_neg (by omega), if_neg (by omega)]
          split
          · exact .inr h2
          · exact h2
        · rintro ⟨i, hi, h1, h2⟩
          refine ⟨i, hi, h1, ?_⟩
          rw [X.L_eq, if_neg (by omega), if_neg (by omega), if_neg (by omega), if_neg (by omega)] at h2
          split at h2
          · rcases h2 with h2 | h2
            · exact absurd h2 (seg_ne w hi)
            · exact h2
          · exact h2

theorem flW_run (x : X) (word : List ByteArray) : ∀ k, flW x word k = run x (fun k => (word[k]?).getD ⟨#[]⟩) (fun k => decide (k = 0)) k
  | 0 => rfl
  | k + 1 => by rw [flW, flW_run x word k]; rfl
theorem seg_word (word : List ByteArray) : seg (fun k => (word[k]?).getD ⟨#[]⟩) 0 word.length = word := by
  unfold seg
  apply List.ext_getElem
  · simp
  · intro i h1 h2
    simp [List.getElem?_eq_getElem h2]
/-- what Takes tells -/
theorem takesB_iff (x : X) (word : List ByteArray) : takesB x word = true ↔ x.right = true ∧ x.L word := by
  unfold takesB
  rw [Bool.and_eq_true]
  constructor
  · rintro ⟨hr, h⟩
    obtain ⟨hg, -⟩ := right_good hr
    refine ⟨hr, ?_⟩
    rw [Bool.or_eq_true, Bool.and_eq_true, decide_eq_true_eq] at h
    rcases h with h | ⟨h1, h2⟩
    · rw [flW_run, run_any x hg] at h
      obtain ⟨i, hi, h1, h2⟩ := h
      obtain rfl : i = 0 := by simpa using h1
      rw [seg_word] at h2
      exact h2
    · obtain rfl : word = [] := List.eq_nil_of_length_eq_zero h1
      exact (emp_iff x hg).1 h2
  · rintro ⟨hr, h⟩
    obtain ⟨hg, -⟩ := right_good hr
    refine ⟨hr, ?_⟩
    rw [Bool.or_eq_true, Bool.and_eq_true, decide_eq_true_eq]
    by_cases h0 : word.length = 0
    · obtain rfl : word = [] := List.eq_nil_of_length_eq_zero h0
      exact .inr ⟨rfl, (emp_iff x hg).2 h⟩
    · left
      rw [flW_run, run_any x hg]
      exact ⟨0, by omega, by simp, by rw [seg_word]; exact h⟩
end Go.Proofs.Ytnohnkhhkeikoaa
