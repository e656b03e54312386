/- Walk of the chapter's example. -/
import Derived.Test.YtpoefcpgcojppaaPP
import Derived.Test.YtpoefcpgcojppaaPQ
namespace Go.Proofs.Ytpoefcpgcojppaa
open Go.ChangeShapes Go.WideShapes Go.ChangeAt Go.RowKit
set_option linter.unusedVariables false

def exE : Ed := ⟨⟨#[97]⟩, ⟨#[98]⟩, ⟨#[120]⟩, 5, [(⟨#[107]⟩, 1, 7, ⟨#[]⟩)]⟩
def exL : List UInt8 := [1, 97, 1, 98, 1, 120, 0, 0, 0, 0, 0, 5, 1, 1, 107, 1, 1, 0, 0, 0, 0, 7]
theorem ex_check : checkE exE = 0 := by
  rw [check_ok]
  refine ⟨⟨by decide +kernel, by decide +kernel, by decide +kernel, ?_⟩, by decide +kernel⟩
  refine ⟨by decide, fun k h => ?_⟩
  have h0 : k = 0 := by
    have : exE.props.length = 1 := rfl
    omega
  subst h0
  refine ⟨show freB ⟨#[107]⟩ = true by decide +kernel, show rightV (1, 7, ⟨#[]⟩) = true by decide +kernel, fun h => absurd h (by omega)⟩
theorem ex_put : putE exE = exL := by decide +kernel
theorem ex_putB : putB exE = exL := by unfold putB; rw [if_pos ex_check, ex_put]
theorem ex_parse : parseE exL = (exE, 0) := by rw [← ex_put]; exact parse_put ex_check
theorem ex_sz : SzE exE := by
  refine ⟨by decide, by decide, by decide, by decide, fun p hp => ?_⟩
  have h0 : p = (⟨#[107]⟩, 1, 7, ⟨#[]⟩) := List.mem_singleton.1 hp
  subst h0
  decide
theorem ex1 (W : World) (pv : Value) (h : PR W pv exE.props) : Calls Try.prog 14 #[.agg #[.string ⟨#[97]⟩, .string ⟨#[98]⟩, .string ⟨#[120]⟩, .int .i64 5, pv]] W fun e w' => ∃ A c, e = .returned (.tuple #[.slice A 22 c, .int .i64 0]) ∧ BR w' (.slice A 22 c) exL ∧ CapOk (.slice A 22 c) ∧ Below W.heap.size W w' := by
  refine (put_cap (e := exE) h ex_sz).mono ?_
  rintro e w' ⟨v, rfl, hb, hc, hw⟩
  rw [ex_putB] at hb
  obtain ⟨A, c, rfl⟩ := hb.form
  exact ⟨A, c, by rw [ex_check]; rfl, hb, hc, hw⟩
theorem ex2 (W : World) (v : Value) (h : BR W v exL) (hc : CapOk v) : Calls Try.prog 25 #[v] W fun e w' => ∃ A c, e = .returned (.tuple #[.agg #[.string ⟨#[97]⟩, .string ⟨#[98]⟩, .string ⟨#[120]⟩, .int .i64 5, .slice A 1 c], .int .i64 0]) ∧ PR w' (.slice A 1 c) exE.props ∧ Below W.heap.size W w' := by
  refine (parse_any h hc (by decide)).mono ?_
  rintro e w' ⟨v, rfl, hb, hw⟩
  rw [ex_parse] at hb
  obtain ⟨A, c, rfl⟩ := PR.form hb
  exact ⟨A, c, by rw [ex_parse]; rfl, hb, hw⟩
theorem ex3 (W : World) (v1 v2 : Value) (h1 : BR W v1 exL) (h2 : BR W v2 exL) : Calls Try.prog 22 #[v1, v2] W fun e w' => e = .returned (.bool true) ∧ Gr W w' := by
  refine (sameB_any h1 h2 (by decide)).mono ?_
  rintro e w' ⟨rfl, hw⟩
  exact ⟨by rw [decide_eq_true rfl], hw⟩
theorem ex4 (W : World) (v1 v2 : Value) (h1 : PR W v1 exE.props) (h2 : PR W v2 exE.props) : Calls Try.prog 27 #[.agg #[.string ⟨#[97]⟩, .string ⟨#[98]⟩, .string ⟨#[120]⟩, .int .i64 5, v1], .agg #[.string ⟨#[97]⟩, .string ⟨#[98]⟩, .string ⟨#[120]⟩, .int .i64 5, v2]] W fun e w' => e = .returned (.bool true) ∧ Gr W w' := by
  refine (sameE_any (x := exE) (y := exE) h1 h2 (by decide)).mono ?_
  rintro e w' ⟨rfl, hw⟩
  exact ⟨by rw [decide_eq_true rfl], hw⟩

theorem ex_lit : (#[.int .u8 1, .int .u8 97, .int .u8 1, .int .u8 98, .int .u8 1, .int .u8 120, .int .u8 0, .int .u8 0, .int .u8 0, .int .u8 0, .int .u8 0, .int .u8 5, .int .u8 1, .int .u8 1, .int .u8 107, .int .u8 1, .int .u8 1, .int .u8 0, .int .u8 0, .int .u8 0, .int .u8 0, .int .u8 7] : Array Value) = (byC exL).toArray := by kernel_rfl
theorem lit_br (w : World) (o : Obj) : BR ((w.alloc o).alloc (.cells #[.int .u8 1, .int .u8 97, .int .u8 1, .int .u8 98, .int .u8 1, .int .u8 120, .int .u8 0, .int .u8 0, .int .u8 0, .int .u8 0, .int .u8 0, .int .u8 5, .int .u8 1, .int .u8 1, .int .u8 107, .int .u8 1, .int .u8 1, .int .u8 0, .int .u8 0, .int .u8 0, .int .u8 0, .int .u8 7] 5)) (.slice (some ⟨w.heap.size + 1, 0, none⟩) 22 22) exL := by
  rw [ex_lit]
  have h := heap_alloc_new (w.alloc o) (.cells (byC exL).toArray 5)
  rw [World.size_alloc] at h
  refine BR.of_own (base := 0) (n := 22) (t := 5) ⟨rfl, .inr ⟨w.heap.size + 1, 22, (byC exL).toArray, rfl, Nat.zero_le _, h, Nat.le_refl _, by unfold maxLen; omega, rfl, rfl⟩⟩
theorem bx_at {w : World} {o : Obj} {v0 v1 v2 v3 v4 : Value} {t : TypeId} : Bx5 ((w.alloc o).alloc (.cells #[v0, v1, v2, v3, v4] t)) (w.heap.size + 1) v0 v1 v2 v3 v4 := by
  have h := Bx5.new (w.alloc o) v0 v1 v2 v3 v4 t
  rwa [World.size_alloc] at h

set_option maxHeartbeats 4000000 in
set_option maxRecDepth 100000 in
theorem awake_any (w : World) : Calls Try.prog 10 #[] w fun e w' => e = .returned (.bool true) ∧ Below w.heap.size w w' := by
  have F1 := Lib.hid ex1
  have F2 := Lib.hid ex2
  have F3 := Lib.hid ex3
  have F4 := Lib.hid ex4
  have HP0 := Lib.hid (PR.one w (⟨#[107]⟩, 1, 7, ⟨#[]⟩) 53)
  go_enter Try.func10, Try.ntmps10
  go_wp2_with (first
    | (go_at_call 14; refine (F1.out _ _ (HP0.out.below ((Below.refl _ _).alloc (Nat.le_refl _) _))).mono ?_; clear F1; rintro x w1 ⟨A1, c1, hx, hb1, hc1, hw1⟩; subst hx; have HB1 := Lib.hid hb1; have HC1 := Lib.hid hc1; have HW1 := Lib.hid hw1; have HX1 := Lib.hid (bx_at.below hw1); have HP1 := Lib.hid ((HP0.out.below ((Below.refl _ _).alloc (Nat.le_refl _) _)).below hw1); have HT1 := Lib.hid ((((Below.refl w.heap.size w).alloc (Nat.le_refl _) _).alloc (by simp) _).trans (hw1.mono (by simp; omega))); clear hb1 hc1 hw1)
    | (go_at_call 25; refine (F2.out _ _ HB1.out HC1.out).mono ?_; clear F2; rintro x w2 ⟨A2, c2, hx, hb2, hw2⟩; subst hx; have HP2 := Lib.hid hb2; have HW2 := Lib.hid hw2; clear hb2 hw2)
    | (go_at_call 22; have HQ := Lib.hid ((HW2.out.alloc HW2.out.size (.cells #[.string ⟨#[97]⟩, .string ⟨#[98]⟩, .string ⟨#[120]⟩, .int .i64 5, .slice A2 1 c2] 24)).alloc (by have := HW2.out.size; simp; omega) (.cells #[.int .u8 1, .int .u8 97, .int .u8 1, .int .u8 98, .int .u8 1, .int .u8 120, .int .u8 0, .int .u8 0, .int .u8 0, .int .u8 0, .int .u8 0, .int .u8 5, .int .u8 1, .int .u8 1, .int .u8 107, .int .u8 1, .int .u8 1, .int .u8 0, .int .u8 0, .int .u8 0, .int .u8 0, .int .u8 7] 5)); refine (F3.out _ _ _ (HB1.out.below HQ.out) (lit_br w2 _)).mono ?_; clear F3; rintro x w3 ⟨hx, hg3⟩; subst hx; have HG3 := Lib.hid hg3.below; have HX3 := Lib.hid ((HX1.out.below HQ.out).below HG3.out); obtain ⟨q0, q1, q2, q3, q4, _⟩ := HX3.out; have HY3 := Lib.hid (((Bx5.new w2 (.string ⟨#[97]⟩) (.string ⟨#[98]⟩) (.string ⟨#[120]⟩) (.int .i64 5) (.slice A2 1 c2) 24).below ((Below.refl _ _).alloc (Nat.le_refl _) _)).below HG3.out); obtain ⟨r0, r1, r2, r3, r4, _⟩ := HY3.out; have HT3 := Lib.hid (HT1.out.trans ((HQ.out.trans (HG3.out.mono HQ.out.size)).mono HT1.out.size)); have HP3 := Lib.hid ((HP1.out.below HQ.out).below HG3.out); have HP4 := Lib.hid ((HP2.out.below (((Below.refl _ _).alloc (Nat.le_refl _) _).alloc (by simp) _)).below HG3.out); clear hg3)
    | (go_at_call 27; refine (F4.out _ _ _ HP3.out HP4.out).mono ?_; clear F4; rintro x w4 ⟨hx, hg4⟩; subst hx)
    | fail)
  go_ret
  exact ⟨rfl, HT3.out.trans (hg4.below.mono HT3.out.size)⟩
end Go.Proofs.Ytpoefcpgcojppaa
