/- The reference: from each place to itself; by one of two. -/
import Derived.Test.YtnohnkhhkeikoaaRD
import Derived.BigRegion
namespace Go.Proofs.Ytnohnkhhkeikoaa
open Go.ChangeShapes Go.WideShapes Go.ChangeAt Go.RowKit
set_option linter.unusedVariables false
set_option linter.unusedSimpArgs false

attribute [local go_sem] Oper.semAt_some

noncomputable def pB (P : Prop) : Bool := @decide P (Classical.propDecidable P)
theorem pB_iff {P : Prop} : pB P = true ↔ P := ⟨fun h => @of_decide_eq_true _ (Classical.propDecidable _) h, fun h => @decide_eq_true _ (Classical.propDecidable _) h⟩
noncomputable def pF (P : Nat → Nat → Prop) : Nat → Nat → Bool := fun i j => pB (P i j)
theorem pF_iff {P : Nat → Nat → Prop} {i j : Nat} : pF P i j = true ↔ P i j := pB_iff
theorem MtAt.set_p {B : Nat} {w : World} {g : Nat} {r : Nat → Nat} {n : Nat} {P P' : Nat → Nat → Prop} (h : MtAt B w g r n (pF P)) {i j : Nat} (hi : i ≤ n) (hj : j ≤ n) (b : Bool) (hb : b = true ↔ P' i j) (hr : ∀ i' j', ¬ (i' = i ∧ j' = j) → (P i' j' ↔ P' i' j')) :
    MtAt B (w.setCell ⟨r i, j, none⟩ (.bool b)) g r n (pF P') :=
  (h.set hi hj b).ext fun i' j' _ _ => by
    by_cases e : i' = i ∧ j' = j
    · rw [e.1, e.2, upd_self]
      exact bool_ext (hb.trans pF_iff.symm)
    · rw [upd_ne _ _ e]
      exact bool_ext (pF_iff.trans ((hr i' j' e).trans pF_iff.symm))
theorem MtAt.ext_p {B : Nat} {w : World} {g : Nat} {r : Nat → Nat} {n : Nat} {P P' : Nat → Nat → Prop} (h : MtAt B w g r n (pF P)) (e : ∀ i j, i ≤ n → j ≤ n → (P i j ↔ P' i j)) : MtAt B w g r n (pF P') :=
  h.ext fun i j hi hj => bool_ext (pF_iff.trans ((e i j hi hj).trans pF_iff.symm))
theorem Mt.ext_p {B : Nat} {w : World} {v : Value} {n : Nat} {P P' : Nat → Nat → Prop} (h : Mt B w v n (pF P)) (e : ∀ i j, i ≤ n → j ≤ n → (P i j ↔ P' i j)) : Mt B w v n (pF P') :=
  h.ext fun i j hi hj => bool_ext (pF_iff.trans ((e i j hi hj).trans pF_iff.symm))
theorem none_p : (fun _ _ => false) = pF (fun _ _ => False) := funext fun i => funext fun j => bool_ext (by rw [pF_iff]; simp)

set_option maxRecDepth 100000 in
set_option maxHeartbeats 4000000 in
theorem still61_any (w : World) (n : Nat) (hn : n ≤ 100000) : Calls Try.prog 61 #[.int .i64 n] w fun e w' => ∃ v, e = .returned v ∧ Mt w.heap.size w' v n (pF fun i j => i = j) ∧ Below w.heap.size w w' := by
  have HN := Lib.hid (none60_any w n hn)
  go_enter Try.func61, Try.ntmps61
  go_upto_region 3 with (go_at_call 60; refine HN.out.mono ?_; rintro e w1 ⟨v, rfl, hm, hb⟩)
  rw [none_p] at hm
  obtain ⟨g, c, r, rfl, hc, hm⟩ := hm
  have HM := Lib.hid (And.intro hm hb)
  have hcc : n + 1 ≤ c := hc
  clear hm hb
  go_loopw [4] (fun u4 wr => ∃ k : Nat, k ≤ n + 1 ∧ u4 = .int .i64 k ∧ MtAt w.heap.size wr g r n (pF fun i j => i = j ∧ i < k) ∧ Below w.heap.size w wr) (fun u4 _ => n + 2 - (intOf u4).toNat)
  case atStart => exact ⟨0, Nat.zero_le _, rfl, HM.out.1.ext_p (fun i j _ _ => by simp), HM.out.2⟩
  case round =>
    obtain ⟨k, hk, rfl, hm, hb⟩ := hrel
    have HR := Lib.hid (And.intro hm hb)
    by_cases hkn : k ≤ n
    · have hki : (k : Int) ≤ (n : Int) := by omega
      have hki1 : (k : Int) < (n : Int) + 1 := by omega
      have hkn1 : k < n + 1 := by omega
      have h1 := hm.cell hkn
      have h2 := hm.flag hkn hkn
      have h3 := hm.frozen hkn k
      generalize hrk : r k = rk at *
      have HRK := Lib.hid hrk
      clear hm hb hrk
      go_wp2_with fail
      go_roundw
      case rel =>
        refine ⟨k + 1, by omega, by go_num, ?_, ?_⟩
        · have h4 := HR.out.1.set_p (P' := fun i j => i = j ∧ i < k + 1) hkn hkn true (by simp) (fun i' j' h => by omega)
          rw [HRK.out] at h4
          exact h4
        · refine HR.out.2.setCell ?_ _
          have h4 := (HR.out.1.row k hkn).1
          rw [HRK.out] at h4
          exact h4
      case measure => simp [intOf]; omega
    · have hki : ¬ (k : Int) ≤ (n : Int) := by omega
      go_wp2_with fail
      go_ret
      exact ⟨_, rfl, ⟨g, c, r, rfl, hcc, HR.out.1.ext_p (fun i j hi hj => by omega)⟩, HR.out.2⟩

set_option maxRecDepth 100000 in
set_option maxHeartbeats 8000000 in
theorem either63_any {Ba Bb : Nat} {w : World} {va vb : Value} {n : Nat} {P Q : Nat → Nat → Prop} (hn : n ≤ 100000) (ha : Mt Ba w va n (pF P)) (hb : Mt Bb w vb n (pF Q)) :
    Calls Try.prog 63 #[va, vb] w fun e w' => ∃ v, e = .returned v ∧ Mt w.heap.size w' v n (pF fun i j => i ≤ j ∧ (P i j ∨ Q i j)) ∧ Below w.heap.size w w' := by
  obtain ⟨ga, ca, ra, rfl, hca, ha⟩ := ha
  obtain ⟨gb, cb, rb, rfl, hcb, hb⟩ := hb
  have HA := Lib.hid (fun W (h : Below w.heap.size w W) => ha.bel h)
  have HB := Lib.hid (fun W (h : Below w.heap.size w W) => hb.bel h)
  have HN := Lib.hid (none60_any w n hn)
  clear ha hb
  go_enter Try.func63, Try.ntmps63
  go_upto_region 3 with (go_at_call 60; refine HN.out.mono ?_; rintro e w1 ⟨v, rfl, hm, hb⟩)
  rw [none_p] at hm
  obtain ⟨g, c, r, rfl, hc, hm⟩ := hm
  have HM := Lib.hid (And.intro hm hb)
  have hcc : n + 1 ≤ c := hc
  clear hm hb
  go_loopw [6, 7] (fun u6 u7 wr => ∃ k : Nat, k ≤ n + 1 ∧ u6 = .int .i64 k ∧ MtAt w.heap.size wr g r n (pF fun i j => i < k ∧ i ≤ j ∧ (P i j ∨ Q i j)) ∧ Below w.heap.size w wr) (fun u6 u7 _ => n + 2 - (intOf u6).toNat)
  case atStart => exact ⟨0, Nat.zero_le _, rfl, HM.out.1.ext_p (fun i j _ _ => by simp), HM.out.2⟩
  case round =>
    obtain ⟨k, hk, rfl, hm, hb⟩ := hrel
    have HR := Lib.hid (And.intro hm hb)
    clear hm hb HM
    by_cases hkn : k ≤ n
    · have hki1 : (k : Int) < (n : Int) + 1 := by omega
      go_upto_region 6 with (fail)
      go_loopw [7] (fun u7 wr => ∃ m : Nat, k ≤ m ∧ m ≤ n + 1 ∧ u7 = .int .i64 m ∧ MtAt w.heap.size wr g r n (pF fun i j => (i < k ∨ (i = k ∧ j < m)) ∧ i ≤ j ∧ (P i j ∨ Q i j)) ∧ Below w.heap.size w wr) (fun u7 _ => n + 2 - (intOf u7).toNat)
      case atStart =>
        refine ⟨k, Nat.le_refl _, by omega, rfl, HR.out.1.ext_p (fun i j _ _ => ?_), HR.out.2⟩
        constructor
        · rintro ⟨h1, h2⟩; exact ⟨.inl h1, h2⟩
        · rintro ⟨h1 | h1, h2⟩
          · exact ⟨h1, h2⟩
          · omega
      case round =>
        clear HR
        obtain ⟨m, hkm, hmn, rfl, hm, hb⟩ := hrel
        have HR := Lib.hid (And.intro hm hb)
        by_cases hml : m ≤ n
        · have hmi : (m : Int) < (n : Int) + 1 := by omega
          have hm1 : m < n + 1 := by omega
          have hk1 : k < n + 1 := by omega
          have c1 := hm.cell hkn
          have c2 := hm.flag hkn hml
          have c3 := hm.frozen hkn m
          have c4 := (HA.out wr hb).cell hkn
          have c5 := (HA.out wr hb).flag hkn hml
          have c6 := (HB.out wr hb).cell hkn
          have c7 := (HB.out wr hb).flag hkn hml
          generalize hrk : r k = rk at *
          generalize hrak : ra k = rak at *
          generalize hrbk : rb k = rbk at *
          have HRK := Lib.hid hrk
          obtain ⟨x, hx⟩ : ∃ x, pF P k m = x := ⟨_, rfl⟩
          obtain ⟨y, hy⟩ : ∃ y, pF Q k m = y := ⟨_, rfl⟩
          rw [hx] at c5
          rw [hy] at c7
          have HXY := Lib.hid (And.intro hx hy)
          have HF := Lib.hid (show (x || y) = true ↔ P k m ∨ Q k m by rw [← hx, ← hy, Bool.or_eq_true, pF_iff, pF_iff])
          have HFIN := Lib.hid (show MtAt w.heap.size (wr.setCell ⟨rk, m, none⟩ (.bool (x || y))).drew g r n (pF fun i j => (i < k ∨ (i = k ∧ j < m + 1)) ∧ i ≤ j ∧ (P i j ∨ Q i j)) ∧ Below w.heap.size w (wr.setCell ⟨rk, m, none⟩ (.bool (x || y))).drew by
            have h4 := hm.set_p (P' := fun i j => (i < k ∨ (i = k ∧ j < m + 1)) ∧ i ≤ j ∧ (P i j ∨ Q i j)) hkn hml (x || y) (HF.out.trans ⟨fun h => ⟨.inr ⟨rfl, Nat.lt_succ_self _⟩, hkm, h⟩, fun h => h.2.2⟩) (fun i' j' h => by
              constructor
              · rintro ⟨h1, h2⟩
                exact ⟨by omega, h2⟩
              · rintro ⟨h1, h2⟩
                exact ⟨by omega, h2⟩)
            rw [hrk] at h4
            have h5 := (hm.row k hkn).1
            rw [hrk] at h5
            exact ⟨h4.bel (Below.refl _ _).drew, (hb.setCell h5 _).drew⟩)
          clear hx hy hm hb hrk hrak hrbk HR HA HB HN
          go_upto_region 8 with (fail)
          cases x with
          | true =>
            go_region
            go_wp2_with fail
            go_roundw
            case rel => exact ⟨m + 1, by omega, by omega, by go_num, HFIN.out.1, HFIN.out.2⟩
            case measure => simp [intOf]; omega
          | false =>
            go_region
            go_wp2_with fail
            go_roundw
            case rel => exact ⟨m + 1, by omega, by omega, by go_num, HFIN.out.1, HFIN.out.2⟩
            case measure => simp [intOf]; omega
        · have hmi : ¬ (m : Int) < (n : Int) + 1 := by omega
          obtain rfl : m = n + 1 := by omega
          go_wp2_with fail
          go_roundw
          case rel =>
            refine ⟨k + 1, by omega, by go_num, HR.out.1.ext_p (fun i j hi hj => ?_), HR.out.2⟩
            constructor
            · rintro ⟨h1, h2⟩; exact ⟨by omega, h2⟩
            · rintro ⟨h1, h2⟩; exact ⟨by omega, h2⟩
          case measure => simp [intOf]; omega
    · have hki1 : ¬ (k : Int) < (n : Int) + 1 := by omega
      obtain rfl : k = n + 1 := by omega
      go_wp2_with fail
      go_ret
      refine ⟨_, rfl, ⟨g, c, r, rfl, hcc, HR.out.1.ext_p (fun i j hi hj => ?_)⟩, HR.out.2⟩
      constructor
      · rintro ⟨h1, h2⟩; exact h2
      · intro h2; exact ⟨by omega, h2⟩
end Go.Proofs.Ytnohnkhhkeikoaa
