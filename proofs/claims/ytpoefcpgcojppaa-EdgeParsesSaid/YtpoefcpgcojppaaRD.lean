/- Walk of what is parsed beside what the document parses. -/
import Derived.Test.YtpoefcpgcojppaaRE
import Derived.Test.YtpoefcpgcojppaaRC
import Derived.Test.YtpoefcpgcojppaaQB
namespace Go.Proofs.Ytpoefcpgcojppaa
open Go.ChangeShapes Go.WideShapes Go.ChangeAt Go.RowKit
set_option linter.unusedVariables false

/-- a lent row reads as the bytes -/
theorem lent_br {w : World} {base g c n : Nat} {l M : List UInt8} (h : w.ownsRow base 5 1 (.slice (some ⟨g, 0, none⟩) n c) n (byC (l ++ M))) : BR w (.slice (some ⟨g, 0, none⟩) l.length c) l := by
  refine ⟨_, _, rfl, fun hn => ⟨_, rfl, own_lt h g rfl, fun j u hj => ?_⟩⟩
  refine h.cells (g := g) rfl j u ?_
  rw [byC_app, List.getElem?_append_left (List.getElem?_eq_some_iff.1 hj).1]
  exact hj
theorem lent_cap {w : World} {base g c n m : Nat} {xs : List Value} (h : w.ownsRow base 5 1 (.slice (some ⟨g, 0, none⟩) n c) n xs) (hm : m ≤ n) : CapOk (.slice (some ⟨g, 0, none⟩) m c) := by
  have := own_room h
  intro A n' c' e
  injection e with e1 e2 e3
  subst e1 e2 e3
  exact ⟨by omega, fun h => by cases h⟩
theorem guess_sz' (l : List UInt8) : (parseE l).1.props.length ≤ 281474976710656 := by
  rcases parse_cases l with ⟨_, _, h⟩ | ⟨_, h⟩
  · rw [h]
    exact (szP_guess l).2.2.2.1
  · rw [h]
    exact Nat.zero_le _

set_option maxHeartbeats 4000000 in
set_option maxRecDepth 100000 in
theorem parses_any {w : World} {vb : Value} {l : List UInt8} (hb : BR w vb l) (hcap : CapOk vb) (hl : l.length ≤ 281474976710656) :
    Calls Try.prog 4 #[vb] w fun e w' => e = .returned (.bool true) ∧ Below w.heap.size w w' := by
  obtain ⟨A3, c3, rfl⟩ := hb.form
  by_cases hbig : 2000 < l.length
  · obtain ⟨n, hn⟩ : ∃ n, l.length = n := ⟨_, rfl⟩
    rw [hn] at hbig ⊢
    have hbi : (2000 : Int) < (n : Int) := by omega
    clear hn hb hcap hl
    go_enter Try.func4, Try.ntmps4
    go_wp2_with (go_at_call 10; refine (awake_any _).mono ?_; rintro z w1 ⟨hz, hw⟩; subst hz)
    go_ret
    exact ⟨rfl, hw⟩
  · have hl2 : l.length ≤ 2000 := by omega
    have F24 := Lib.hid (lent_any _ l w hb (by omega))
    unfold LentR at F24
    have hp : ∃ (e : Ed) (c : Int), parseE l = (e, c) := ⟨_, _, rfl⟩
    obtain ⟨e, cc, hp⟩ := hp
    have hsz := guess_sz' l
    rw [hp] at hsz
    have f25 := fun W v (h : BR W v l) (hc : CapOk v) => parse_any h hc hl
    have f26 := fun W v (h : BR W v l) (hc : CapOk v) => rparse_walk h hc hl
    rw [rParse_eq] at f26
    rw [hp] at f25 f26
    unfold ParsR Ed.v at f25 f26
    simp only at f25 f26 hsz
    have f27 := fun W v1 v2 (h1 : PR W v1 e.props) (h2 : PR W v2 e.props) => sameE_yes h1 h2 hsz
    unfold Ed.v at f27
    have F25 := Lib.hid f25
    have F26 := Lib.hid f26
    have F27 := Lib.hid f27
    have HBR := Lib.hid hb
    have HCAP := Lib.hid hcap
    have HL2 := Lib.hid hl2
    obtain ⟨n, hn⟩ : ∃ n, l.length = n := ⟨_, rfl⟩
    have HN := Lib.hid hn
    rw [hn] at hbig HBR HCAP F24 ⊢
    have hbi : ¬ (2000 : Int) < (n : Int) := by omega
    clear f25 f26 f27 hp hsz hn hb hcap hl hl2
    go_enter Try.func4, Try.ntmps4
    go_wp2_with (first
      | (go_at_call 24; refine F24.out.mono ?_; clear F24; rintro z w1 ⟨g, c1, hz, hrow, hw⟩; subst hz; have HROW := Lib.hid hrow; have HB1 := Lib.hid hw; clear hrow hw)
      | (go_at_call 25; refine (F25.out _ _ (by have := lent_br HROW.out; rwa [HN.out] at this) (lent_cap HROW.out (by omega))).mono ?_; clear F25; rintro z w2 ⟨pv, hz, hpr, hw⟩; subst hz; have HR2 := Lib.hid (own_below HROW.out hw); have HP2 := Lib.hid hpr; have HB2 := Lib.hid (chn HB1.out hw); obtain ⟨A4, n4, c4, hpv⟩ := slice_any hpr; subst hpv; clear hpr hw)
      | (go_at_call 26; refine (F26.out _ _ (HBR.out.below (HB2.out.alloc HB2.out.size _)) HCAP.out).mono ?_; clear F26; rintro z w3 ⟨pv5, hz, hpr, hw⟩; subst hz; have HAL := Lib.hid ((Below.refl w2.heap.size w2).alloc (Nat.le_refl _) (.cells #[.string e.src, .string e.dst, .string e.lab, .int .i64 e.time, .slice A4 n4 c4] 24)); have HR3 := Lib.hid (own_below (own_below HR2.out HAL.out) hw); have HP3 := Lib.hid (HP2.out.below (HAL.out.trans (hw.mono (by simp)))); have HQ3 := Lib.hid hpr; have HB3 := Lib.hid (chn (HB2.out.alloc HB2.out.size _) hw); have hX := (Bx5.new w2 (.string e.src) (.string e.dst) (.string e.lab) (.int .i64 e.time) (.slice A4 n4 c4) 24).below hw; obtain ⟨a0, a1, a2, a3, a4, _⟩ := hX; obtain ⟨A5, n5, c5, hpv⟩ := slice_any hpr; subst hpv; clear hpr hw)
      | (go_at_call 27; have HAL2 := Lib.hid ((Below.refl w3.heap.size w3).alloc (Nat.le_refl _) (.cells #[.string e.src, .string e.dst, .string e.lab, .int .i64 e.time, .slice A5 n5 c5] 24)); refine (F27.out _ _ _ (HP3.out.below HAL2.out) (HQ3.out.below HAL2.out)).mono ?_; clear F27; rintro z w4 ⟨hz, hw⟩; subst hz; have HR4 := Lib.hid (own_below (own_below HR3.out HAL2.out) hw.below); have HB4 := Lib.hid (chn (HB3.out.alloc HB3.out.size _) hw.below); clear hw)
      | (go_at_call 28; have F28 := kept_any l _ (by have := HR4.out; rw [← HN.out] at this; exact this) (HBR.out.below HB4.out) (by have := HL2.out; omega); rw [HN.out] at F28; refine F28.mono ?_; clear F28; rintro z w5 ⟨hz, hw⟩; subst hz; have HB5 := Lib.hid (chn HB4.out hw.below); clear hw)
      | (go_at_call 10; refine (awake_any _).mono ?_; rintro z w6 ⟨hz, hw⟩; subst hz; have HB6 := Lib.hid (chn HB5.out hw); clear hw)
      | fail)
    go_ret
    exact ⟨rfl, HB6.out⟩
end Go.Proofs.Ytpoefcpgcojppaa
