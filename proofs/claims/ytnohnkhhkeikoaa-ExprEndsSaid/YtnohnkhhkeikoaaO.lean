/- isEmpty: whether the empty word is taken. -/
import Derived.Test.YtnohnkhhkeikoaaN
namespace Go.Proofs.Ytnohnkhhkeikoaa
open Go.ChangeShapes Go.WideShapes Go.ChangeAt Go.RowKit
set_option linter.unusedVariables false

mutual
def X.emp : X → Bool
  | .mk k _ ks => if k = 4 ∨ k = 6 then true else if k = 3 then anyE ks else if k = 2 ∨ k = 5 then allE ks else false
def anyE : List X → Bool
  | [] => false
  | x :: xs => x.emp || anyE xs
def allE : List X → Bool
  | [] => true
  | x :: xs => x.emp && allE xs
end
theorem anyE_eq : ∀ l : List X, anyE l = l.any X.emp
  | [] => rfl
  | x :: xs => by rw [anyE, anyE_eq xs]; rfl
theorem allE_eq : ∀ l : List X, allE l = !(l.any fun x => !x.emp)
  | [] => rfl
  | x :: xs => by rw [allE, allE_eq xs]; cases h : x.emp <;> simp [h]

/-- what tells of each of some whether it is -/
def Tells (f : Nat) (P : X → Bool) (l : List X) : Prop := ∀ x ∈ l, ∀ (N : Nat) (w : World) (v : Value), XV N w v x → N ≤ w.heap.size → Calls Try.prog f #[v] w fun e w' => e = .returned (.bool (P x)) ∧ Below w.heap.size w w'

theorem any_take {P : X → Bool} {l : List X} {k : Nat} (h : (l.take k).any P = false) (hk : k < l.length) : (l.take (k + 1)).any P = P l[k] := by
  rw [List.take_succ_eq_append_getElem hk, List.any_append, h]
  simp
theorem any_of {P : X → Bool} {l : List X} {k : Nat} (hk : k < l.length) (h : P l[k] = true) : l.any P = true := List.any_eq_true.2 ⟨_, List.getElem_mem hk, h⟩

set_option maxHeartbeats 2000000 in
theorem index40 {N : Nat} {w : World} {v : Value} {l : List X} {P : X → Bool} (hf : Tells 40 P l) (h : XR N w v l) (hN : N ≤ w.heap.size) (hl : l.length ≤ 100000) :
    Calls Try.prog 81 #[v, .func (.func 40) #[] #[]] w fun e w' => ∃ i : Int, e = .returned (.int .i64 i) ∧ (l.any P = decide (0 ≤ i)) ∧ Below w.heap.size w w' := by
  obtain ⟨A, c, rfl⟩ := h.form
  have H := Lib.hid h
  have HF := Lib.hid hf
  obtain ⟨n, hn⟩ : ∃ n, l.length = n := ⟨_, rfl⟩
  have HN := Lib.hid hn
  rw [hn] at H hl ⊢
  clear h hf hn
  go_enter Try.func81, Try.ntmps81
  go_wp2_with fail
  go_loopw [8] (fun i wr => ∃ k : Nat, k ≤ n ∧ i = .int .i64 k ∧ (l.take k).any P = false ∧ Below w.heap.size w wr) (fun i _ => n - (intOf i).toNat)
  case atStart => exact ⟨0, Nat.zero_le _, rfl, rfl, Below.refl _ _⟩
  case round =>
    obtain ⟨k, hk, rfl, ht, hb⟩ := hrel
    have HT := Lib.hid ht
    have HB := Lib.hid hb
    clear ht hb
    by_cases hlt : k < n
    · have e1 : k < l.length := by have := HN.out; omega
      obtain ⟨ad, kv, f1, _, q0, q1, q2, q3⟩ := XR.at3 (H.out.bel (HB.out.mono hN)) e1
      subst f1
      have hc := HF.out l[k] (List.getElem_mem e1) N wr (.agg #[.int .i64 l[k].kind, .string l[k].lab, kv]) ⟨kv, rfl, q3⟩ (Nat.le_trans hN HB.out.size)
      cases hP : P l[k] with
      | true =>
        rw [hP] at hc
        have HC := Lib.hid hc
        have HP := Lib.hid hP
        clear hc hP q3
        go_wp2_with (go_at_call 40; refine HC.out.mono ?_; rintro e w1 ⟨rfl, hb1⟩; have HB1 := Lib.hid (HB.out.trans (hb1.mono HB.out.size)); clear hb1)
        go_ret
        exact ⟨_, rfl, by rw [any_of e1 HP.out]; simp, HB1.out⟩
      | false =>
        rw [hP] at hc
        have HC := Lib.hid hc
        have HP := Lib.hid hP
        clear hc hP q3
        go_wp2_with (go_at_call 40; refine HC.out.mono ?_; rintro e w1 ⟨rfl, hb1⟩; have HB1 := Lib.hid (HB.out.trans (hb1.mono HB.out.size)); clear hb1)
        go_roundw
        case rel => exact ⟨k + 1, by omega, by go_num, by rw [any_take HT.out e1]; exact HP.out, HB1.out⟩
        case measure => simp [intOf]; omega
    · have : k = n := by omega
      subst this
      go_wp2_with fail
      go_ret
      refine ⟨_, rfl, ?_, HB.out⟩
      have := HT.out
      rw [List.take_of_length_le (by have := HN.out; omega)] at this
      rw [this]
      simp
theorem contains40 {N : Nat} {w : World} {v : Value} {l : List X} {P : X → Bool} (hf : Tells 40 P l) (h : XR N w v l) (hN : N ≤ w.heap.size) (hl : l.length ≤ 100000) :
    Calls Try.prog 56 #[v, .func (.func 40) #[] #[]] w fun e w' => e = .returned (.bool (l.any P)) ∧ Below w.heap.size w w' := by
  have H := Lib.hid (index40 hf h hN hl)
  obtain ⟨A, c, rfl⟩ := h.form
  clear hf h
  go_enter Try.func56, Try.ntmps56
  go_wp2_with (go_at_call 81; refine H.out.mono ?_; rintro e w1 ⟨i, rfl, hi, hb1⟩; have HI := Lib.hid (And.intro hi hb1); clear hi hb1)
  go_ret
  exact ⟨by rw [HI.out.1]; rfl, HI.out.2⟩

set_option maxHeartbeats 2000000 in
theorem index57 {N : Nat} {w : World} {v : Value} {l : List X} {P : X → Bool} (hf : Tells 57 P l) (h : XR N w v l) (hN : N ≤ w.heap.size) (hl : l.length ≤ 100000) :
    Calls Try.prog 81 #[v, .func (.func 57) #[] #[]] w fun e w' => ∃ i : Int, e = .returned (.int .i64 i) ∧ (l.any P = decide (0 ≤ i)) ∧ Below w.heap.size w w' := by
  obtain ⟨A, c, rfl⟩ := h.form
  have H := Lib.hid h
  have HF := Lib.hid hf
  obtain ⟨n, hn⟩ : ∃ n, l.length = n := ⟨_, rfl⟩
  have HN := Lib.hid hn
  rw [hn] at H hl ⊢
  clear h hf hn
  go_enter Try.func81, Try.ntmps81
  go_wp2_with fail
  go_loopw [8] (fun i wr => ∃ k : Nat, k ≤ n ∧ i = .int .i64 k ∧ (l.take k).any P = false ∧ Below w.heap.size w wr) (fun i _ => n - (intOf i).toNat)
  case atStart => exact ⟨0, Nat.zero_le _, rfl, rfl, Below.refl _ _⟩
  case round =>
    obtain ⟨k, hk, rfl, ht, hb⟩ := hrel
    have HT := Lib.hid ht
    have HB := Lib.hid hb
    clear ht hb
    by_cases hlt : k < n
    · have e1 : k < l.length := by have := HN.out; omega
      obtain ⟨ad, kv, f1, _, q0, q1, q2, q3⟩ := XR.at3 (H.out.bel (HB.out.mono hN)) e1
      subst f1
      have hc := HF.out l[k] (List.getElem_mem e1) N wr (.agg #[.int .i64 l[k].kind, .string l[k].lab, kv]) ⟨kv, rfl, q3⟩ (Nat.le_trans hN HB.out.size)
      cases hP : P l[k] with
      | true =>
        rw [hP] at hc
        have HC := Lib.hid hc
        have HP := Lib.hid hP
        clear hc hP q3
        go_wp2_with (go_at_call 57; refine HC.out.mono ?_; rintro e w1 ⟨rfl, hb1⟩; have HB1 := Lib.hid (HB.out.trans (hb1.mono HB.out.size)); clear hb1)
        go_ret
        exact ⟨_, rfl, by rw [any_of e1 HP.out]; simp, HB1.out⟩
      | false =>
        rw [hP] at hc
        have HC := Lib.hid hc
        have HP := Lib.hid hP
        clear hc hP q3
        go_wp2_with (go_at_call 57; refine HC.out.mono ?_; rintro e w1 ⟨rfl, hb1⟩; have HB1 := Lib.hid (HB.out.trans (hb1.mono HB.out.size)); clear hb1)
        go_roundw
        case rel => exact ⟨k + 1, by omega, by go_num, by rw [any_take HT.out e1]; exact HP.out, HB1.out⟩
        case measure => simp [intOf]; omega
    · have : k = n := by omega
      subst this
      go_wp2_with fail
      go_ret
      refine ⟨_, rfl, ?_, HB.out⟩
      have := HT.out
      rw [List.take_of_length_le (by have := HN.out; omega)] at this
      rw [this]
      simp
theorem contains57 {N : Nat} {w : World} {v : Value} {l : List X} {P : X → Bool} (hf : Tells 57 P l) (h : XR N w v l) (hN : N ≤ w.heap.size) (hl : l.length ≤ 100000) :
    Calls Try.prog 56 #[v, .func (.func 57) #[] #[]] w fun e w' => e = .returned (.bool (l.any P)) ∧ Below w.heap.size w w' := by
  have H := Lib.hid (index57 hf h hN hl)
  obtain ⟨A, c, rfl⟩ := h.form
  clear hf h
  go_enter Try.func56, Try.ntmps56
  go_wp2_with (go_at_call 81; refine H.out.mono ?_; rintro e w1 ⟨i, rfl, hi, hb1⟩; have HI := Lib.hid (And.intro hi hb1); clear hi hb1)
  go_ret
  exact ⟨by rw [HI.out.1]; rfl, HI.out.2⟩

theorem emp_eq (x : X) : x.emp = if x.kind = 4 ∨ x.kind = 6 then true else if x.kind = 3 then x.kids.any X.emp else if x.kind = 2 ∨ x.kind = 5 then !(x.kids.any fun y => !y.emp) else false := by
  obtain ⟨k, l, ks⟩ := x
  rw [X.emp, anyE_eq, allE_eq]
  rfl
theorem sz_kid {x y : X} (h : y ∈ x.kids) : y.sz < x.sz := by
  have := szL_mem h
  rw [X.sz_eq x]
  omega

set_option maxHeartbeats 4000000 in
theorem emp_any : ∀ (x : X), x.sz ≤ 100000 → ∀ (N : Nat) (w : World) (v : Value), XV N w v x → N ≤ w.heap.size → Calls Try.prog 40 #[v] w fun e w' => e = .returned (.bool x.emp) ∧ Below w.heap.size w w' := by
  intro x
  induction x using X.ind' with
  | h x ih =>
    intro hsz N w v hx hN
    have t40 : Tells 40 X.emp x.kids := fun y hy N w v h hN => ih y hy (by have := sz_kid hy; omega) N w v h hN
    have t57 : Tells 57 (fun y => !y.emp) x.kids := by
      intro y hy N w v h hN
      obtain ⟨kv, rfl, hr⟩ := h
      obtain ⟨A, c, rfl⟩ := hr.form
      have hb0 : Below w.heap.size w (w.alloc (.cells #[.int .i64 y.kind, .string y.lab, .slice A y.kids.length c] 25)) := (Below.refl _ w).alloc (Nat.le_refl _) _
      have HC := Lib.hid (t40 y hy N (w.alloc (.cells #[.int .i64 y.kind, .string y.lab, .slice A y.kids.length c] 25)) _ ⟨_, rfl, hr.bel (hb0.mono hN)⟩ (Nat.le_trans hN hb0.size))
      have HB := Lib.hid hb0
      clear hb0 hr t40
      go_enter Try.func57, Try.ntmps57
      go_wp2_with (go_at_call 40; refine HC.out.mono ?_; rintro e w1 ⟨rfl, hb1⟩; have HB1 := Lib.hid hb1; clear hb1)
      go_ret
      exact ⟨rfl, HB.out.trans (HB1.out.mono HB.out.size)⟩
    obtain ⟨kv, rfl, hr⟩ := hx
    obtain ⟨A, c, rfl⟩ := hr.form
    have hb0 : Below w.heap.size w (w.alloc (.cells #[.int .i64 x.kind, .string x.lab, .slice A x.kids.length c] 25)) := (Below.refl _ w).alloc (Nat.le_refl _) _
    have hl : x.kids.length ≤ 100000 := by have := len_szL x.kids; rw [X.sz_eq] at hsz; omega
    have c40 := Lib.hid (contains40 t40 (hr.bel (hb0.mono hN)) (Nat.le_trans hN hb0.size) hl)
    have c57 := Lib.hid (contains57 t57 (hr.bel (hb0.mono hN)) (Nat.le_trans hN hb0.size) hl)
    have HB := Lib.hid hb0
    clear hb0 hr t40 t57 ih hl
    rw [emp_eq]
    generalize x.kind = k at *
    by_cases h1 : k = 4 ∨ k = 6
    · rw [if_pos h1]
      rcases h1 with rfl | rfl
      all_goals
        go_enter Try.func40, Try.ntmps40
        go_wp2_with fail
        go_ret
        exact ⟨rfl, HB.out⟩
    · rw [if_neg h1]
      by_cases h2 : k = 3
      · subst h2
        rw [if_pos rfl]
        go_enter Try.func40, Try.ntmps40
        go_wp2_with (go_at_call 56; refine c40.out.mono ?_; rintro e w1 ⟨rfl, hb1⟩; have HB1 := Lib.hid hb1; clear hb1)
        go_ret
        exact ⟨rfl, HB.out.trans (HB1.out.mono HB.out.size)⟩
      · rw [if_neg h2]
        by_cases h3 : k = 2 ∨ k = 5
        · rw [if_pos h3]
          rcases h3 with rfl | rfl
          all_goals
            go_enter Try.func40, Try.ntmps40
            go_wp2_with (go_at_call 56; refine c57.out.mono ?_; rintro e w1 ⟨rfl, hb1⟩; have HB1 := Lib.hid hb1; clear hb1)
            go_ret
            exact ⟨rfl, HB.out.trans (HB1.out.mono HB.out.size)⟩
        · rw [if_neg h3]
          simp only [not_or] at h1 h3
          obtain ⟨g1, g2⟩ := h1
          obtain ⟨g3, g4⟩ := h3
          go_enter Try.func40, Try.ntmps40
          go_wp2_with fail
          go_ret
          exact ⟨rfl, HB.out⟩

theorem empty18_any {N : Nat} {w : World} {v : Value} {x : X} (hx : XV N w v x) (hN : N ≤ w.heap.size) (hsz : x.sz ≤ 100000) (hl : x.lit) :
    Calls Try.prog 18 #[v] w fun e w' => e = .returned (.bool (x.right && x.emp)) ∧ Below w.heap.size w w' := by
  have hR : ∀ w', Below w.heap.size w w' → Calls Try.prog 12 #[v] w' fun e w1 => e = .returned (.bool x.right) ∧ Below w'.heap.size w' w1 := fun w' hb => right12_any (hx.bel (hb.mono hN)) (Nat.le_trans hN hb.size) hsz hl
  have hE : ∀ w', Below w.heap.size w w' → Calls Try.prog 40 #[v] w' fun e w1 => e = .returned (.bool x.emp) ∧ Below w'.heap.size w' w1 := fun w' hb => emp_any x hsz N w' v (hx.bel (hb.mono hN)) (Nat.le_trans hN hb.size)
  obtain ⟨kv, rfl, hr⟩ := hx
  obtain ⟨A, c, rfl⟩ := hr.form
  have hb0 : Below w.heap.size w (w.alloc (.cells #[.int .i64 x.kind, .string x.lab, .slice A x.kids.length c] 25)) := (Below.refl _ w).alloc (Nat.le_refl _) _
  have HR := Lib.hid (hR _ hb0)
  have HE := Lib.hid hE
  have HB := Lib.hid hb0
  clear hR hE hb0 hr
  cases hrt : x.right with
  | true =>
    rw [hrt] at HR
    go_enter Try.func18, Try.ntmps18
    go_wp2_with (first | (go_at_call 12; refine HR.out.mono ?_; rintro e w1 ⟨rfl, hb1⟩; have HB1 := Lib.hid (HB.out.trans (hb1.mono HB.out.size)); obtain ⟨d0, d1, d2⟩ := box_cells (w := w) (W := w1) (by simpa using hb1); clear hb1) | (go_at_call 40; refine (HE.out _ HB1.out).mono ?_; rintro e w2 ⟨rfl, hb2⟩; have HB2 := Lib.hid (HB1.out.trans (hb2.mono HB1.out.size)); clear hb2))
    go_ret
    exact ⟨by simp, HB2.out⟩
  | false =>
    rw [hrt] at HR
    go_enter Try.func18, Try.ntmps18
    go_wp2_with (first | (go_at_call 12; refine HR.out.mono ?_; rintro e w1 ⟨rfl, hb1⟩; have HB1 := Lib.hid (HB.out.trans (hb1.mono HB.out.size)); clear hb1))
    go_ret
    exact ⟨rfl, HB1.out⟩
end Go.Proofs.Ytnohnkhhkeikoaa
