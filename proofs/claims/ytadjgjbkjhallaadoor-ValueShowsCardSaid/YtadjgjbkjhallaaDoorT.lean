/- Walks of the document's parsing: what is no text. -/
import Derived.Test.YtadjgjbkjhallaaDoorS
namespace Go.Proofs.YtadjgjbkjhallaaDoor
open Go.ChangeShapes Go.WideShapes Go.ChangeAt Go.RowKit
set_option linter.unusedVariables false

/-- why a text is none of a text's -/
def NoQ (s : ByteArray) : Prop := s.size < 2 ∨ (∃ h : 2 ≤ s.size, ((s[0].toNat : Int) == 34) = false) ∨ (∃ (h : 2 ≤ s.size) (p : Nat) (hp : p < s.size), (s.size : Int) - 1 = (p : Int) ∧ ((s[0].toNat : Int) == 34) = true ∧ ((s[p].toNat : Int) == 34) = false)
theorem noQ_of {s : ByteArray} (hc : ¬ (2 ≤ s.size ∧ s.data[0]? = some 34 ∧ s.data[s.size - 1]? = some 34)) : NoQ s := by
  by_cases h2 : 2 ≤ s.size
  · have h0 : 0 < s.size := by omega
    by_cases ha : s[0] = 34
    · have hps : s.size - 1 < s.size := by omega
      refine .inr (.inr ⟨h2, s.size - 1, hps, by omega, u8_34.2 ha, ?_⟩)
      rw [Bool.eq_false_iff]
      intro hb
      have hb' := u8_34.1 hb
      exact hc ⟨h2, by rw [at_some h0, ha], by rw [at_some hps, hb']⟩
    · refine .inr (.inl ⟨h2, ?_⟩)
      rw [Bool.eq_false_iff]
      intro hb
      exact ha (u8_34.1 hb)
  · exact .inl (by omega)

set_option maxHeartbeats 8000000 in
set_option maxRecDepth 100000 in
theorem rParse_none (s : ByteArray) (w : World) (hm : s.size ≤ 281474976710656) (hq : NoQ s) (hn : refNum s = none) : Calls Tryd.prog 20 #[.string s] w fun e w' => e = .returned (.tuple #[.agg #[.int .i64 0, .int .i64 0, .string ⟨#[]⟩], .int .i64 7]) ∧ Below w.heap.size w w' := by
  have HN := Lib.hid (Bx.new w (.int .i64 0) (.int .i64 0) (.string ⟨#[]⟩) 25)
  have HL := Lib.hid ((Below.refl _ w).alloc (Nat.le_refl _) (.cells #[.int .i64 0, .int .i64 0, .string ⟨#[]⟩] 25))
  have hnu := fun W => number_any s W hm
  unfold NumR at hnu
  rw [hn] at hnu
  simp only [Option.getD_none, Option.isSome_none] at hnu
  have HU := Lib.hid hnu
  clear hnu hn
  rcases hq with hq | ⟨h2, hq⟩ | ⟨h2, p, hp, hpe, hq, hq2⟩
  all_goals
    go_enter Tryd.func20, Tryd.ntmps20
    go_upto_region 8 with (go_at_call 36; refine (HU.out _).mono ?_; rintro e w' ⟨rfl, rfl⟩)
    have hx := HN.out.below ((Below.refl _ (w.alloc (.cells #[.int .i64 0, .int .i64 0, .string ⟨#[]⟩] 25))).alloc (Nat.le_refl _) (.cells #[.int .i64 1, .int .i64 0, .string ⟨#[]⟩] 25)) (by simp)
    have hv := Bx.new (w.alloc (.cells #[.int .i64 0, .int .i64 0, .string ⟨#[]⟩] 25)) (.int .i64 1) (.int .i64 0) (.string ⟨#[]⟩) 25
    have hl := HL.out.alloc HL.out.size (.cells #[.int .i64 1, .int .i64 0, .string ⟨#[]⟩] 25)
    have hz : ((w.alloc (.cells #[.int .i64 0, .int .i64 0, .string ⟨#[]⟩] 25)).alloc (.cells #[.int .i64 1, .int .i64 0, .string ⟨#[]⟩] 25)).heap.size = w.heap.size + 2 := by simp
    rw [World.size_alloc] at hv
    generalize (w.alloc (.cells #[.int .i64 0, .int .i64 0, .string ⟨#[]⟩] 25)).alloc (.cells #[.int .i64 1, .int .i64 0, .string ⟨#[]⟩] 25) = w1 at hx hv hl hz ⊢
    obtain ⟨A, hA⟩ : ∃ A, w.heap.size = A := ⟨_, rfl⟩
    have HA := Lib.hid hA
    rw [hA] at hx hv hl hz ⊢
    obtain ⟨q0, q1, q2, f0, f1, f2⟩ := hx
    have HLW := Lib.hid hl
    clear hA hl hv hz
    go_wp2_with fail
    refine bodyPost_ret (v := .tuple #[.agg #[.int .i64 0, .int .i64 0, .string ⟨#[]⟩], .int .i64 7]) (by simp [results, Tryd.results20, go_sem, q0, q1, q2, f0, f1, f2]) rfl ⟨rfl, ?_⟩
    have hlow := HLW.out
    rw [HA.out]
    go_grown

set_option maxHeartbeats 8000000 in
set_option maxRecDepth 100000 in
theorem rParse_yes (s : ByteArray) (n : Int) (w : World) (hm : s.size ≤ 281474976710656) (hq : NoQ s) (hn : refNum s = some n) (hr : rightV (1, n, ⟨#[]⟩) = true) : Calls Tryd.prog 20 #[.string s] w fun e w' => e = .returned (.tuple #[.agg #[.int .i64 1, .int .i64 n, .string ⟨#[]⟩], .int .i64 0]) ∧ Below w.heap.size w w' := by
  have hrt := fun W => rRight_any (1, n, ⟨#[]⟩) W (show (0 : Nat) ≤ 281474976710656 by decide)
  unfold RightR at hrt
  rw [hr] at hrt
  have HR := Lib.hid hrt
  clear hrt hr
  have HN := Lib.hid (Bx.new w (.int .i64 0) (.int .i64 0) (.string ⟨#[]⟩) 25)
  have HL := Lib.hid ((Below.refl _ w).alloc (Nat.le_refl _) (.cells #[.int .i64 0, .int .i64 0, .string ⟨#[]⟩] 25))
  have hnu := fun W => number_any s W hm
  unfold NumR at hnu
  rw [hn] at hnu
  simp only [Option.getD_some, Option.isSome_some] at hnu
  have HU := Lib.hid hnu
  clear hnu hn
  rcases hq with hq | ⟨h2, hq⟩ | ⟨h2, p, hp, hpe, hq, hq2⟩
  all_goals
    go_enter Tryd.func20, Tryd.ntmps20
    go_upto_region 8 with (go_at_call 36; refine (HU.out _).mono ?_; rintro e w' ⟨rfl, rfl⟩)
    have hx := HN.out.below ((Below.refl _ (w.alloc (.cells #[.int .i64 0, .int .i64 0, .string ⟨#[]⟩] 25))).alloc (Nat.le_refl _) (.cells #[.int .i64 1, .int .i64 n, .string ⟨#[]⟩] 25)) (by simp)
    have hv := Bx.new (w.alloc (.cells #[.int .i64 0, .int .i64 0, .string ⟨#[]⟩] 25)) (.int .i64 1) (.int .i64 n) (.string ⟨#[]⟩) 25
    have hl := HL.out.alloc HL.out.size (.cells #[.int .i64 1, .int .i64 n, .string ⟨#[]⟩] 25)
    have hz : ((w.alloc (.cells #[.int .i64 0, .int .i64 0, .string ⟨#[]⟩] 25)).alloc (.cells #[.int .i64 1, .int .i64 n, .string ⟨#[]⟩] 25)).heap.size = w.heap.size + 2 := by simp
    rw [World.size_alloc] at hv
    generalize (w.alloc (.cells #[.int .i64 0, .int .i64 0, .string ⟨#[]⟩] 25)).alloc (.cells #[.int .i64 1, .int .i64 n, .string ⟨#[]⟩] 25) = w1 at hx hv hl hz ⊢
    obtain ⟨A, hA⟩ : ∃ A, w.heap.size = A := ⟨_, rfl⟩
    have HA := Lib.hid hA
    rw [hA] at hx hv hl hz ⊢
    obtain ⟨r0, r1, r2, _, _, _⟩ := hv
    have HX := Lib.hid hx
    have HV := Lib.hid (And.intro r0 (And.intro r1 r2))
    have HLW := Lib.hid hl
    clear hA hx hl
    go_wp2_with fail
    refine (HR.out _).mono ?_
    rintro e w2 ⟨rfl, hg⟩
    have hb2 := hg.below
    obtain ⟨q0, q1, q2, f0, f1, f2⟩ := HX.out.below hb2 (by omega)
    have k0 := (hb2.cell (p := ⟨A + 1, 0, none⟩) (by show A + 1 < _; omega)).trans HV.out.1
    have k1 := (hb2.cell (p := ⟨A + 1, 1, none⟩) (by show A + 1 < _; omega)).trans HV.out.2.1
    have k2 := (hb2.cell (p := ⟨A + 1, 2, none⟩) (by show A + 1 < _; omega)).trans HV.out.2.2
    have HLW2 := Lib.hid (HLW.out.trans (hb2.mono (by omega)))
    clear hg hb2 r0 r1 r2 hz
    go_wp2_with fail
    refine bodyPost_ret (v := .tuple #[.agg #[.int .i64 1, .int .i64 n, .string ⟨#[]⟩], .int .i64 0]) (by simp [results, Tryd.results20, go_sem, q0, q1, q2, f0, f1, f2]) rfl ⟨rfl, ?_⟩
    have hlow := HLW2.out
    rw [HA.out]
    go_grown

set_option maxHeartbeats 8000000 in
set_option maxRecDepth 100000 in
theorem rParse_no (s : ByteArray) (n : Int) (w : World) (hm : s.size ≤ 281474976710656) (hq : NoQ s) (hn : refNum s = some n) (hr : rightV (1, n, ⟨#[]⟩) = false) : Calls Tryd.prog 20 #[.string s] w fun e w' => e = .returned (.tuple #[.agg #[.int .i64 0, .int .i64 0, .string ⟨#[]⟩], .int .i64 7]) ∧ Below w.heap.size w w' := by
  have hrt := fun W => rRight_any (1, n, ⟨#[]⟩) W (show (0 : Nat) ≤ 281474976710656 by decide)
  unfold RightR at hrt
  rw [hr] at hrt
  have HR := Lib.hid hrt
  clear hrt hr
  have HN := Lib.hid (Bx.new w (.int .i64 0) (.int .i64 0) (.string ⟨#[]⟩) 25)
  have HL := Lib.hid ((Below.refl _ w).alloc (Nat.le_refl _) (.cells #[.int .i64 0, .int .i64 0, .string ⟨#[]⟩] 25))
  have hnu := fun W => number_any s W hm
  unfold NumR at hnu
  rw [hn] at hnu
  simp only [Option.getD_some, Option.isSome_some] at hnu
  have HU := Lib.hid hnu
  clear hnu hn
  rcases hq with hq | ⟨h2, hq⟩ | ⟨h2, p, hp, hpe, hq, hq2⟩
  all_goals
    go_enter Tryd.func20, Tryd.ntmps20
    go_upto_region 8 with (go_at_call 36; refine (HU.out _).mono ?_; rintro e w' ⟨rfl, rfl⟩)
    have hx := HN.out.below ((Below.refl _ (w.alloc (.cells #[.int .i64 0, .int .i64 0, .string ⟨#[]⟩] 25))).alloc (Nat.le_refl _) (.cells #[.int .i64 1, .int .i64 n, .string ⟨#[]⟩] 25)) (by simp)
    have hv := Bx.new (w.alloc (.cells #[.int .i64 0, .int .i64 0, .string ⟨#[]⟩] 25)) (.int .i64 1) (.int .i64 n) (.string ⟨#[]⟩) 25
    have hl := HL.out.alloc HL.out.size (.cells #[.int .i64 1, .int .i64 n, .string ⟨#[]⟩] 25)
    have hz : ((w.alloc (.cells #[.int .i64 0, .int .i64 0, .string ⟨#[]⟩] 25)).alloc (.cells #[.int .i64 1, .int .i64 n, .string ⟨#[]⟩] 25)).heap.size = w.heap.size + 2 := by simp
    rw [World.size_alloc] at hv
    generalize (w.alloc (.cells #[.int .i64 0, .int .i64 0, .string ⟨#[]⟩] 25)).alloc (.cells #[.int .i64 1, .int .i64 n, .string ⟨#[]⟩] 25) = w1 at hx hv hl hz ⊢
    obtain ⟨A, hA⟩ : ∃ A, w.heap.size = A := ⟨_, rfl⟩
    have HA := Lib.hid hA
    rw [hA] at hx hv hl hz ⊢
    obtain ⟨r0, r1, r2, _, _, _⟩ := hv
    have HX := Lib.hid hx
    have HV := Lib.hid (And.intro r0 (And.intro r1 r2))
    have HLW := Lib.hid hl
    clear hA hx hl
    go_wp2_with fail
    refine (HR.out _).mono ?_
    rintro e w2 ⟨rfl, hg⟩
    have hb2 := hg.below
    obtain ⟨q0, q1, q2, f0, f1, f2⟩ := HX.out.below hb2 (by omega)
    have k0 := (hb2.cell (p := ⟨A + 1, 0, none⟩) (by show A + 1 < _; omega)).trans HV.out.1
    have k1 := (hb2.cell (p := ⟨A + 1, 1, none⟩) (by show A + 1 < _; omega)).trans HV.out.2.1
    have k2 := (hb2.cell (p := ⟨A + 1, 2, none⟩) (by show A + 1 < _; omega)).trans HV.out.2.2
    have HLW2 := Lib.hid (HLW.out.trans (hb2.mono (by omega)))
    clear hg hb2 r0 r1 r2 hz
    go_wp2_with fail
    refine bodyPost_ret (v := .tuple #[.agg #[.int .i64 0, .int .i64 0, .string ⟨#[]⟩], .int .i64 7]) (by simp [results, Tryd.results20, go_sem, q0, q1, q2, f0, f1, f2]) rfl ⟨rfl, ?_⟩
    have hlow := HLW2.out
    rw [HA.out]
    go_grown

theorem rParse_any (s : ByteArray) (w : World) (hm : s.size ≤ 281474976710656) : Calls Tryd.prog 20 #[.string s] w (ParseR s w) := by
  have key : Calls Tryd.prog 20 #[.string s] w (RParR s w) := by
    by_cases hc : 2 ≤ s.size ∧ s.data[0]? = some 34 ∧ s.data[s.size - 1]? = some 34
    · exact rParse_text s w hm hc
    · have hq := noQ_of hc
      have hP : refParse s = match refNum s with
          | some n => if rightV (1, n, ⟨#[]⟩) = true then ((1, n, ⟨#[]⟩), 0) else ((0, 0, ⟨#[]⟩), 7)
          | none => ((0, 0, ⟨#[]⟩), 7) := by unfold refParse; rw [if_neg hc]; cases refNum s <;> rfl
      unfold RParR
      cases hn : refNum s with
      | none =>
        rw [hn] at hP
        rw [hP]
        exact rParse_none s w hm hq hn
      | some n =>
        rw [hn] at hP
        cases hr : rightV (1, n, ⟨#[]⟩) with
        | true =>
          simp only [hr, if_true] at hP
          rw [hP]
          exact rParse_yes s n w hm hq hn hr
        | false =>
          simp only [hr, Bool.false_eq_true, if_false] at hP
          rw [hP]
          exact rParse_no s n w hm hq hn hr
  unfold RParR at key
  unfold ParseR
  rw [refParse_eq] at key
  exact key
end Go.Proofs.YtadjgjbkjhallaaDoor
