/- Whether a part has what one of its kind has. -/
import Derived.Test.YtnohnkhhkeikoaaK
import Derived.Test.YtnohnkhhkeikoaaNH
namespace Go.Proofs.Ytnohnkhhkeikoaa
open Go.ChangeShapes Go.WideShapes Go.ChangeAt Go.RowKit
set_option linter.unusedVariables false

def fitB (k : Int) (s : ByteArray) (n : Nat) : Bool :=
  if k = 1 then freB s && decide (n = 0)
  else if k = 2 ∨ k = 3 then decide (s = ⟨#[]⟩) && decide (2 ≤ n)
  else if k = 4 ∨ k = 5 ∨ k = 6 then decide (s = ⟨#[]⟩) && decide (n = 1)
  else false
def X.fits (x : X) : Bool := fitB x.kind x.lab x.kids.length

theorem tl_nil {s : ByteArray} (h : s ≠ ⟨#[]⟩) : s.toList ≠ [] := fun e => h (by
  have : s.data.toList = [] := by rw [← ByteArray.toList_eq]; exact e
  exact ByteArray.ext (by simpa using this))

set_option maxHeartbeats 4000000 in
theorem fits0 (k : Int) (s : ByteArray) (A : Option Addr) (n c : Nat) (w : World) (hm : s.size ≤ maxLen) : Calls Try.prog 37 #[.agg #[.int .i64 k, .string s, .slice A n c]] w fun e w' => e = .returned (.bool (fitB k s n)) ∧ Below w.heap.size w w' := by
  have hb0 : ∀ W, Below (w.heap.size + 1) (w.alloc (.cells #[.int .i64 k, .string s, .slice A n c] 25)) W → Below w.heap.size w W := fun W h => ((Below.refl _ w).alloc (Nat.le_refl _) _).trans (h.mono (by omega))
  have HB := Lib.hid hb0
  have hb1 : Hid (Below w.heap.size w (w.alloc (.cells #[.int .i64 k, .string s, .slice A n c] 25))) := Lib.hid ((Below.refl _ w).alloc (Nat.le_refl _) _)
  clear hb0
  unfold fitB
  by_cases h1 : k = 1
  · subst h1
    rw [if_pos rfl]
    cases hf : freB s with
    | false =>
      have HF := Lib.hid hf
      go_enter Try.func37, Try.ntmps37
      go_wp2_with (go_at_call 51; refine (free_any s _ hm).mono ?_; rintro e w1 ⟨rfl, hb⟩; have HB2 := Lib.hid hb; clear hb; rw [HF.out])
      go_ret
      exact ⟨by simp, HB.out _ (by have := HB2.out; simpa using this)⟩
    | true =>
      have HF := Lib.hid hf
      go_enter Try.func37, Try.ntmps37
      by_cases hn : n = 0
      · subst hn
        go_wp2_with (go_at_call 51; refine (free_any s _ hm).mono ?_; rintro e w1 ⟨rfl, hb⟩; have HB2 := Lib.hid hb; have hc := (box_cells (w := w) (W := w1) (a := .int .i64 1) (b := .string s) (c := .slice A 0 c) (by have := HB2.out; simpa using this)).2.2; clear hb; rw [HF.out])
        go_ret
        exact ⟨by simp, HB.out _ (by have := HB2.out; simpa using this)⟩
      · have hn' : (n : Int) ≠ 0 := by omega
        go_wp2_with (go_at_call 51; refine (free_any s _ hm).mono ?_; rintro e w1 ⟨rfl, hb⟩; have HB2 := Lib.hid hb; have hc := (box_cells (w := w) (W := w1) (a := .int .i64 1) (b := .string s) (c := .slice A n c) (by have := HB2.out; simpa using this)).2.2; clear hb; rw [HF.out])
        go_ret
        exact ⟨by simp [hn], HB.out _ (by have := HB2.out; simpa using this)⟩
  · rw [if_neg h1]
    by_cases h2 : k = 2 ∨ k = 3
    · rw [if_pos h2]
      by_cases hs : s = ⟨#[]⟩
      · subst hs
        by_cases hn : 2 ≤ n
        · have hn' : (2 : Int) ≤ (n : Int) := by omega
          rcases h2 with rfl | rfl
          all_goals
            go_enter Try.func37, Try.ntmps37
            go_wp2_with fail
            go_ret
            exact ⟨(by simp [hn]; try omega), hb1.out⟩
        · have hn' : ¬ (2 : Int) ≤ (n : Int) := by omega
          rcases h2 with rfl | rfl
          all_goals
            go_enter Try.func37, Try.ntmps37
            go_wp2_with fail
            go_ret
            exact ⟨(by simp [hn]; try omega), hb1.out⟩
      · have hs' := tl_nil hs
        rcases h2 with rfl | rfl
        all_goals
          go_enter Try.func37, Try.ntmps37
          go_wp2_with fail
          go_ret
          exact ⟨by simp [hs], hb1.out⟩
    · rw [if_neg h2]
      by_cases h3 : k = 4 ∨ k = 5 ∨ k = 6
      · rw [if_pos h3]
        by_cases hs : s = ⟨#[]⟩
        · subst hs
          by_cases hn : n = 1
          · subst hn
            rcases h3 with rfl | rfl | rfl
            all_goals
              go_enter Try.func37, Try.ntmps37
              go_wp2_with fail
              go_ret
              exact ⟨by simp, hb1.out⟩
          · have hn' : (n : Int) ≠ 1 := by omega
            rcases h3 with rfl | rfl | rfl
            all_goals
              go_enter Try.func37, Try.ntmps37
              go_wp2_with fail
              go_ret
              exact ⟨(by simp [hn]; try omega), hb1.out⟩
        · have hs' := tl_nil hs
          rcases h3 with rfl | rfl | rfl
          all_goals
            go_enter Try.func37, Try.ntmps37
            go_wp2_with fail
            go_ret
            exact ⟨by simp [hs], hb1.out⟩
      · rw [if_neg h3]
        simp only [not_or] at h2 h3
        obtain ⟨g2, g3⟩ := h2
        obtain ⟨g4, g5, g6⟩ := h3
        go_enter Try.func37, Try.ntmps37
        go_wp2_with fail
        go_ret
        exact ⟨rfl, hb1.out⟩
theorem fits_any {N : Nat} {w : World} {v : Value} {x : X} (hx : XV N w v x) (hm : x.lab.size ≤ maxLen) : Calls Try.prog 37 #[v] w fun e w' => e = .returned (.bool x.fits) ∧ Below w.heap.size w w' := by
  obtain ⟨kv, rfl, h⟩ := hx
  obtain ⟨A, c, rfl⟩ := h.form
  exact fits0 _ _ _ _ _ _ hm
end Go.Proofs.Ytnohnkhhkeikoaa
