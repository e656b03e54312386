/- The reference: by one, and the other behind it. -/
import Derived.Test.YtnohnkhhkeikoaaRE
namespace Go.Proofs.Ytnohnkhhkeikoaa
open Go.ChangeShapes Go.WideShapes Go.ChangeAt Go.RowKit
set_option linter.unusedVariables false
set_option linter.unusedSimpArgs false

attribute [local go_sem] Oper.semAt_some

section
variable (P Q : Nat → Nat → Prop)
/-- by one, and the other behind it -/
def Jn : Nat → Nat → Prop := fun i j => ∃ l, i ≤ l ∧ l ≤ j ∧ P i l ∧ Q l j
def JK (i k : Nat) : Nat → Nat → Prop := fun i' j' => (i' < i ∧ Jn P Q i' j') ∨ (i' = i ∧ ∃ l, i' ≤ l ∧ l < k ∧ l ≤ j' ∧ P i' l ∧ Q l j')
def JJ (i k j : Nat) : Nat → Nat → Prop := fun i' j' => JK P Q i k i' j' ∨ (i' = i ∧ k ≤ j' ∧ j' < j ∧ P i' k ∧ Q k j')
variable {P Q}
theorem JK_start (i i' j' : Nat) : (i' < i ∧ Jn P Q i' j') ↔ JK P Q i i i' j' := by
  constructor
  · exact .inl
  · rintro (h | ⟨rfl, l, h1, h2, _⟩)
    · exact h
    · omega
theorem JJ_start (i k i' j' : Nat) : JK P Q i k i' j' ↔ JJ P Q i k k i' j' := by
  constructor
  · exact .inl
  · rintro (h | ⟨rfl, h1, h2, _⟩)
    · exact h
    · omega
theorem JJ_store {i k j : Nat} (hkj : k ≤ j) (hP : P i k) : (JJ P Q i k j i j ∨ Q k j) ↔ JJ P Q i k (j + 1) i j := by
  constructor
  · rintro ((h | ⟨h1, h2, h3, h4⟩) | h)
    · exact .inl h
    · exact .inr ⟨h1, h2, Nat.lt_succ_of_lt h3, h4⟩
    · exact .inr ⟨rfl, hkj, Nat.lt_succ_self _, hP, h⟩
  · rintro (h | ⟨h1, h2, h3, h4, h5⟩)
    · exact .inl (.inl h)
    · exact .inr h5
theorem JJ_other {i k j i' j' : Nat} (h : ¬ (i' = i ∧ j' = j)) : JJ P Q i k j i' j' ↔ JJ P Q i k (j + 1) i' j' := by
  constructor
  · rintro (h1 | ⟨h1, h2, h3, h4⟩)
    · exact .inl h1
    · exact .inr ⟨h1, h2, Nat.lt_succ_of_lt h3, h4⟩
  · rintro (h1 | ⟨h1, h2, h3, h4⟩)
    · exact .inl h1
    · exact .inr ⟨h1, h2, by omega, h4⟩
theorem JJ_not {i k j i' j' : Nat} (hP : ¬ P i k) : JJ P Q i k j i' j' ↔ JK P Q i (k + 1) i' j' := by
  constructor
  · rintro ((h | ⟨h1, l, h2, h3, h4⟩) | ⟨rfl, h2, h3, h4, _⟩)
    · exact .inl h
    · exact .inr ⟨h1, l, h2, Nat.lt_succ_of_lt h3, h4⟩
    · exact absurd h4 hP
  · rintro (h | ⟨rfl, l, h2, h3, h4, h5, h6⟩)
    · exact .inl (.inl h)
    · by_cases e : l = k
      · subst e; exact absurd h5 hP
      · exact .inl (.inr ⟨rfl, l, h2, by omega, h4, h5, h6⟩)
theorem JJ_end {n i k j i' j' : Nat} (hik : i ≤ k) (hj : n < j) (hj' : j' ≤ n) : JJ P Q i k j i' j' ↔ JK P Q i (k + 1) i' j' := by
  constructor
  · rintro ((h | ⟨h1, l, h2, h3, h4⟩) | ⟨rfl, h2, h3, h4, h5⟩)
    · exact .inl h
    · exact .inr ⟨h1, l, h2, Nat.lt_succ_of_lt h3, h4⟩
    · exact .inr ⟨rfl, k, hik, Nat.lt_succ_self _, h2, h4, h5⟩
  · rintro (h | ⟨rfl, l, h2, h3, h4, h5, h6⟩)
    · exact .inl (.inl h)
    · by_cases e : l = k
      · subst e; exact .inr ⟨rfl, h4, by omega, h5, h6⟩
      · exact .inl (.inr ⟨rfl, l, h2, by omega, h4, h5, h6⟩)
theorem JK_end {n i k i' j' : Nat} (hk : n < k) (hj' : j' ≤ n) : JK P Q i k i' j' ↔ (i' < i + 1 ∧ Jn P Q i' j') := by
  constructor
  · rintro (⟨h1, h2⟩ | ⟨rfl, l, h2, h3, h4, h5⟩)
    · exact ⟨by omega, h2⟩
    · exact ⟨Nat.lt_succ_self _, l, h2, h4, h5⟩
  · rintro ⟨h1, l, h2, h3, h4⟩
    by_cases e : i' = i
    · exact .inr ⟨e, l, h2, by omega, h3, h4⟩
    · exact .inl ⟨by omega, l, h2, h3, h4⟩
end

set_option maxRecDepth 100000 in
set_option maxHeartbeats 8000000 in
theorem joined62_any {Ba Bb : Nat} {w : World} {va vb : Value} {n : Nat} {P Q : Nat → Nat → Prop} (hn : n ≤ 100000) (ha : Mt Ba w va n (pF P)) (hb : Mt Bb w vb n (pF Q)) :
    Calls Try.prog 62 #[va, vb] w fun e w' => ∃ v, e = .returned v ∧ Mt w.heap.size w' v n (pF (Jn P Q)) ∧ Below w.heap.size w w' := by
  obtain ⟨ga, ca, ra, rfl, hca, ha⟩ := ha
  obtain ⟨gb, cb, rb, rfl, hcb, hb⟩ := hb
  have HA := Lib.hid (fun W (h : Below w.heap.size w W) => ha.bel h)
  have HB := Lib.hid (fun W (h : Below w.heap.size w W) => hb.bel h)
  have HN := Lib.hid (none60_any w n hn)
  clear ha hb
  go_enter Try.func62, Try.ntmps62
  go_upto_region 3 with (go_at_call 60; refine HN.out.mono ?_; rintro e w1 ⟨v, rfl, hm, hb⟩)
  rw [none_p] at hm
  obtain ⟨g, c, r, rfl, hc, hm⟩ := hm
  have HM := Lib.hid (And.intro hm hb)
  have hcc : n + 1 ≤ c := hc
  clear hm hb
  go_loopw [6, 7, 8] (fun u6 u7 u8 wr => ∃ i : Nat, i ≤ n + 1 ∧ u6 = .int .i64 i ∧ MtAt w.heap.size wr g r n (pF fun i' j' => i' < i ∧ Jn P Q i' j') ∧ Below w.heap.size w wr) (fun u6 u7 u8 _ => n + 2 - (intOf u6).toNat)
  case atStart => exact ⟨0, Nat.zero_le _, rfl, HM.out.1.ext_p (fun i j _ _ => by simp), HM.out.2⟩
  case round =>
    obtain ⟨i, hi, rfl, hm, hb⟩ := hrel
    have HR := Lib.hid (And.intro hm hb)
    clear hm hb HM
    by_cases hin : i ≤ n
    · have hii1 : (i : Int) < (n : Int) + 1 := by omega
      go_upto_region 6 with (fail)
      go_loopw [7, 8] (fun u7 u8 wr => ∃ k : Nat, i ≤ k ∧ k ≤ n + 1 ∧ u7 = .int .i64 k ∧ MtAt w.heap.size wr g r n (pF (JK P Q i k)) ∧ Below w.heap.size w wr) (fun u7 u8 _ => n + 2 - (intOf u7).toNat)
      case atStart => exact ⟨i, Nat.le_refl _, by omega, rfl, HR.out.1.ext_p (fun i' j' _ _ => JK_start i i' j'), HR.out.2⟩
      case round =>
        clear HR
        obtain ⟨k, hik, hkn, rfl, hm, hb⟩ := hrel
        have HR := Lib.hid (And.intro hm hb)
        clear hm hb
        by_cases hkl : k ≤ n
        · have hki : (k : Int) < (n : Int) + 1 := by omega
          obtain ⟨x, hx⟩ : ∃ x, pF P i k = x := ⟨_, rfl⟩
          go_upto_region 9 with (fail)
          go_loopw [8] (fun u8 wr => ∃ j : Nat, k ≤ j ∧ j ≤ n + 1 ∧ u8 = .int .i64 j ∧ MtAt w.heap.size wr g r n (pF (JJ P Q i k j)) ∧ Below w.heap.size w wr) (fun u8 _ => n + 2 - (intOf u8).toNat)
          case atStart => exact ⟨k, Nat.le_refl _, by omega, rfl, HR.out.1.ext_p (fun i' j' _ _ => JJ_start i k i' j'), HR.out.2⟩
          case round =>
            clear HR
            obtain ⟨j, hkj, hjn, rfl, hm, hb⟩ := hrel
            have HR := Lib.hid (And.intro hm hb)
            have hi1 : i < n + 1 := by omega
            have hk1 : k < n + 1 := by omega
            have c4 := (HA.out wr hb).cell hin
            have c5 := (HA.out wr hb).flag hin hkl
            rw [hx] at c5
            generalize hrai : ra i = rai at *
            cases x with
            | false =>
              have HP := Lib.hid (show ¬ P i k from fun h => by rw [pF_iff.2 h] at hx; cases hx)
              clear hm hb hx hrai
              go_wp2_with fail
              go_roundw
              case rel => exact ⟨k + 1, by omega, by omega, by go_num, HR.out.1.ext_p (fun i' j' _ _ => JJ_not HP.out), HR.out.2⟩
              case measure => simp [intOf]; omega
            | true =>
              have HP := Lib.hid (pF_iff.1 hx)
              clear hx
              by_cases hjl : j ≤ n
              · have hji : (j : Int) < (n : Int) + 1 := by omega
                have hj1 : j < n + 1 := by omega
                have c1 := hm.cell hin
                have c2 := hm.flag hin hjl
                have c3 := hm.frozen hin j
                have c6 := (HB.out wr hb).cell hkl
                have c7 := (HB.out wr hb).flag hkl hjl
                generalize hri : r i = ri at *
                generalize hrbk : rb k = rbk at *
                obtain ⟨z, hz⟩ : ∃ z, pF (JJ P Q i k j) i j = z := ⟨_, rfl⟩
                obtain ⟨y, hy⟩ : ∃ y, pF Q k j = y := ⟨_, rfl⟩
                rw [hz] at c2
                rw [hy] at c7
                have HF := Lib.hid (show (z || y) = true ↔ JJ P Q i k j i j ∨ Q k j by rw [← hz, ← hy, Bool.or_eq_true, pF_iff, pF_iff])
                have HFIN := Lib.hid (show MtAt w.heap.size (wr.setCell ⟨ri, j, none⟩ (.bool (z || y))).drew g r n (pF (JJ P Q i k (j + 1))) ∧ Below w.heap.size w (wr.setCell ⟨ri, j, none⟩ (.bool (z || y))).drew by
                  have h4 := hm.set_p (P' := JJ P Q i k (j + 1)) hin hjl (z || y) (HF.out.trans (JJ_store hkj HP.out)) (fun i' j' h => JJ_other h)
                  rw [hri] at h4
                  have h5 := (hm.row i hin).1
                  rw [hri] at h5
                  exact ⟨h4.bel (Below.refl _ _).drew, (hb.setCell h5 _).drew⟩)
                clear hz hy hm hb hri hrbk hrai HR HA HB HN HF HP
                go_upto_region 11 with (fail)
                cases z with
                | true =>
                  go_region
                  go_wp2_with fail
                  go_roundw
                  case rel => exact ⟨j + 1, by omega, by omega, by go_num, HFIN.out.1, HFIN.out.2⟩
                  case measure => simp [intOf]; omega
                | false =>
                  go_region
                  go_wp2_with fail
                  go_roundw
                  case rel => exact ⟨j + 1, by omega, by omega, by go_num, HFIN.out.1, HFIN.out.2⟩
                  case measure => simp [intOf]; omega
              · have hji : ¬ (j : Int) < (n : Int) + 1 := by omega
                clear hm hb hrai
                go_wp2_with fail
                go_roundw
                case rel => exact ⟨k + 1, by omega, by omega, by go_num, HR.out.1.ext_p (fun i' j' _ hj' => JJ_end hik (by omega) hj'), HR.out.2⟩
                case measure => simp [intOf]; omega
        · have hki : ¬ (k : Int) < (n : Int) + 1 := by omega
          go_wp2_with fail
          go_roundw
          case rel => exact ⟨i + 1, by omega, by go_num, HR.out.1.ext_p (fun i' j' _ hj' => JK_end (by omega) hj'), HR.out.2⟩
          case measure => simp [intOf]; omega
    · have hii1 : ¬ (i : Int) < (n : Int) + 1 := by omega
      go_wp2_with fail
      go_ret
      refine ⟨_, rfl, ⟨g, c, r, rfl, hcc, HR.out.1.ext_p (fun i' j' hi' hj' => ?_)⟩, HR.out.2⟩
      constructor
      · rintro ⟨h1, h2⟩; exact h2
      · intro h2; exact ⟨by omega, h2⟩
end Go.Proofs.Ytnohnkhhkeikoaa
