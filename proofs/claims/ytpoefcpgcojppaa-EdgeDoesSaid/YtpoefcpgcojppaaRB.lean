/- Walks of the document's reader: texts, numbers. -/
import Derived.Test.YtpoefcpgcojppaaRA
namespace Go.Proofs.Ytpoefcpgcojppaa
open Go.ChangeShapes Go.WideShapes Go.ChangeAt Go.RowKit
set_option linter.unusedVariables false

theorem tk_le (n : Nat) (s : Rs) : (tk n s).2.1.length ≤ s.1.length := by
  unfold tk
  split
  · exact Nat.le_refl _
  · simp

set_option maxHeartbeats 1000000 in
theorem rtext_any {w : World} {B : Nat} {s : Rs} (h : RdQ w B s) (hl : s.1.length ≤ 281474976710656) : Calls Try.prog 59 #[.pointer (some ⟨B, 0, none⟩)] w (RTextR B s w) := by
  unfold RTextR rT
  have f1 := take_any h 1 (by omega) hl
  unfold TakeR at f1
  have hl2 := Nat.le_trans (tk_le 1 s) hl
  have hT := tk_len 1 s
  generalize (tk 1 s).2 = s1 at f1 hl2 ⊢
  generalize (tk 1 s).1 = T at f1 hT ⊢
  obtain ⟨q, hq⟩ : ∃ q, (b0 T).toNat = q := ⟨_, rfl⟩
  have hq1 : q < 256 := by rw [← hq]; exact (b0 T).toNat_lt
  have HT := Lib.hid (show byC T = [.int .u8 (q : Int)] by rw [b0_one hT, ← hq]; rfl)
  rw [hq]
  have f2 := fun W (hW : RdQ W B s1) => take_any hW q (by omega) hl2
  unfold TakeR at f2
  generalize (tk q s1).2 = s2 at f2 ⊢
  generalize (tk q s1).1 = X at f2 ⊢
  have F1 := Lib.hid f1
  have F2 := Lib.hid f2
  clear f1 f2 h hl hq hT
  go_enter Try.func59, Try.ntmps59
  go_wp2_with (go_at_call 61; refine F1.out.mono ?_; clear F1; rintro z w1 ⟨A1, c1, hz, hb1, hr1, hk1, _⟩; subst hz; have HR1 := Lib.hid hr1; have HK1 := Lib.hid hk1; have hcl : ∃ ad, A1 = some ad ∧ w1.cell? ad = some (.int .u8 (q : Int)) := (by obtain ⟨A', c', e, hh⟩ := hb1; have e1 : T.length = 1 := (by have := congrArg List.length HT.out; rw [byC_len] at this; exact this); injection e with e2 e3 e4; subst e2; obtain ⟨ad, p1, _, p2⟩ := hh (by omega); have p3 := p2 0 (.int .u8 (q : Int)) (by rw [HT.out]; rfl); exact ⟨ad, p1, by simpa [Addr.add] using p3⟩); obtain ⟨ad, hA, hcell⟩ := hcl; subst hA; clear hb1 hr1 hk1)
  go_wp2_with (first | (go_at_call 61; refine (F2.out _ HR1.out).mono ?_; clear F2; rintro z w2 ⟨A2, c2, hz, hb2, hr2, hk2, _⟩; subst hz; have HR2 := Lib.hid hr2; have HK2 := Lib.hid hk2; have hcv := conv_br hb2; clear hb2 hr2 hk2))
  go_ret
  exact ⟨rfl, HR2.out, keepB_trans HK1.out HK2.out⟩

set_option maxHeartbeats 1000000 in
theorem rnumber_any {w : World} {B : Nat} {s : Rs} (h : RdQ w B s) (hl : s.1.length ≤ 281474976710656) : Calls Try.prog 60 #[.pointer (some ⟨B, 0, none⟩)] w (RNumR B s w) := by
  unfold RNumR rN
  have f1 := take_any h 6 (by omega) hl
  unfold TakeR at f1
  have hT := tk_len 6 s
  generalize (tk 6 s).2 = s1 at f1 ⊢
  generalize (tk 6 s).1 = L at f1 hT ⊢
  have HM := Lib.hid hT
  have F1 := Lib.hid f1
  clear f1 h hl hT
  go_enter Try.func60, Try.ntmps60
  go_wp2_with (go_at_call 61; refine F1.out.mono ?_; clear F1; rintro z w1 ⟨A1, c1, hz, hb1, hr1, hk1, _⟩; subst hz; have HR1 := Lib.hid hr1; have HK1 := Lib.hid hk1; have HV := Lib.hid hb1; clear hb1 hr1 hk1)
  go_loop [4, 5] (fun s i => ∃ k : Nat, k ≤ 6 ∧ i = .int .i64 k ∧ s = .int .i64 (beN (L.take k))) (fun _ i => 6 - (Lib.intOf i).toNat)
  case atStart => exact ⟨0, Nat.zero_le _, rfl, rfl⟩
  case round =>
    obtain ⟨k, hk, rfl, rfl⟩ := hrel
    by_cases hlt : k < 6
    · have e1 : k < L.length := by rw [HM.out]; exact hlt
      obtain ⟨ad, f1, _, q0⟩ := BR.at1 HV.out e1
      subst f1
      obtain ⟨c1, hc1⟩ : ∃ c, L[k] = c := ⟨_, rfl⟩
      have HST : Hid (beN (L.take (k + 1)) = beN (L.take k) * 256 + (c1.toNat : Int)) := by
        show _ = _
        rw [beN_take e1, hc1]
      rw [hc1] at q0
      have hb1 := (beN_bound (L.take k)).1
      have hb2 : beN (L.take k) < 1099511627776 := by
        have h5 : (L.take k).length ≤ 5 := by rw [List.length_take]; omega
        have := (beN_bound (L.take k)).2
        generalize beN (L.take k) = x at this ⊢
        generalize (L.take k).length = q at this h5
        have hq : q = 0 ∨ q = 1 ∨ q = 2 ∨ q = 3 ∨ q = 4 ∨ q = 5 := by omega
        rcases hq with rfl | rfl | rfl | rfl | rfl | rfl <;> simp at this <;> omega
      obtain ⟨x, hx⟩ : ∃ x, beN (L.take k) = x := ⟨_, rfl⟩
      rw [hx] at hb1 hb2 HST ⊢
      have hcb := c1.toNat_lt
      have hwc : IntKind.i64.wrap (c1.toNat : Int) = (c1.toNat : Int) := by rw [IntKind.wrap_i64]; omega
      have hwr : IntKind.i64.wrap (256 * x) = 256 * x := by rw [IntKind.wrap_i64]; omega
      clear hx hc1
      go_wp2_with fail
      go_round
      case rel => exact ⟨k + 1, by omega, by go_num, by rw [HST.out]; congr 1; omega⟩
      case measure => simp [Lib.intOf]; omega
    · obtain rfl : k = 6 := by omega
      rw [List.take_of_length_le (by rw [HM.out]; exact Nat.le_refl _)]
      go_wp2_with fail
      go_ret
      exact ⟨rfl, HR1.out, HK1.out⟩
end Go.Proofs.Ytpoefcpgcojppaa
