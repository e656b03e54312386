/- Walk of the chapter's examples. -/
import Derived.Test.YtadjgjbkjhallaaDoorL
namespace Go.Proofs.YtadjgjbkjhallaaDoor
open Go.ChangeShapes Go.WideShapes Go.ChangeAt Go.RowKit
set_option linter.unusedVariables false

theorem ex_show1 : showV (1, -5, ⟨#[]⟩) = (⟨#[45, 53]⟩, 0) := by
  have h : Lib.itoa (-5) = [45, 53] := by
    rw [show (-5 : Int) = -((5 : Nat) : Int) from rfl, Lib.itoa_neg 5 (by decide), Lib.decDigits_one (by decide)]
    rfl
  unfold showV
  rw [if_pos (by decide)]
  unfold showB itoaB
  rw [if_pos rfl]
  simp only [h]
theorem ex_show2 : showV (2, 0, ⟨#[97, 32, 98]⟩) = (⟨#[34, 97, 32, 98, 34]⟩, 0) := by decide +kernel
theorem ex_parse : parseV ⟨#[48, 48, 55]⟩ = ((0, 0, ⟨#[]⟩), 7) := by
  have hg : guessV ⟨#[48, 48, 55]⟩ = (1, 7, ⟨#[]⟩) := by decide +kernel
  have h : Lib.itoa 7 = [55] := by
    rw [show (7 : Int) = ((7 : Nat) : Int) from rfl, Lib.itoa_nonneg 7, Lib.decDigits_one (by decide)]
    rfl
  unfold parseV
  rw [hg, if_neg]
  rintro ⟨_, h2⟩
  unfold showB itoaB at h2
  rw [if_pos rfl] at h2
  simp only [h] at h2
  exact absurd h2 (by decide +kernel)

theorem ex1 (W : World) (hW : Tb W) : Calls Tryd.prog 17 #[.agg #[.int .i64 1, .int .i64 (-5), .string ⟨#[]⟩]] W fun e w' => e = .returned (.tuple #[.string ⟨#[45, 53]⟩, .int .i64 0]) ∧ Below W.heap.size W w' := by
  have h := show_any (1, -5, ⟨#[]⟩) W (by decide) hW
  unfold ShowR at h
  rw [ex_show1] at h
  exact h
theorem ex2 (W : World) (hW : Tb W) : Calls Tryd.prog 17 #[.agg #[.int .i64 2, .int .i64 0, .string ⟨#[97, 32, 98]⟩]] W fun e w' => e = .returned (.tuple #[.string ⟨#[34, 97, 32, 98, 34]⟩, .int .i64 0]) ∧ Below W.heap.size W w' := by
  have h := show_any (2, 0, ⟨#[97, 32, 98]⟩) W (by decide) hW
  unfold ShowR at h
  rw [ex_show2] at h
  exact h
theorem ex3 (W : World) (hW : Tb W) : Calls Tryd.prog 19 #[.string ⟨#[48, 48, 55]⟩] W fun e w' => e = .returned (.tuple #[.agg #[.int .i64 0, .int .i64 0, .string ⟨#[]⟩], .int .i64 7]) ∧ Below W.heap.size W w' := by
  have h := parse_any ⟨#[48, 48, 55]⟩ W (by decide) hW
  unfold ParseR at h
  rw [ex_parse] at h
  exact h

set_option maxHeartbeats 4000000 in
set_option maxRecDepth 100000 in
theorem awake_any (w : World) (htab : Tb w) : Calls Tryd.prog 16 #[] w fun e w' => e = .returned (.bool true) ∧ Below w.heap.size w w' := by
  have HT := Lib.hid htab
  clear htab
  go_enter Tryd.func16, Tryd.ntmps16
  go_wp2_with fail
  refine (num_any (-5) _).mono ?_
  rintro e w1 ⟨rfl, hb1⟩
  go_wp2_with fail
  refine (ex1 _ (HT.out.below hb1)).mono ?_
  rintro e w2 ⟨rfl, hb2⟩
  have HB2 := Lib.hid (hb1.trans (hb2.mono hb1.size))
  clear hb1 hb2
  go_wp2_with fail
  refine (text_any ⟨#[97, 32, 98]⟩ _ (by decide)).mono ?_
  rintro e w3 ⟨rfl, hb3⟩
  have HB3 := Lib.hid (HB2.out.trans (hb3.mono HB2.out.size))
  clear hb3
  go_wp2_with fail
  refine (ex2 _ (HT.out.below HB3.out)).mono ?_
  rintro e w4 ⟨rfl, hb4⟩
  have HB4 := Lib.hid (HB3.out.trans (hb4.mono HB3.out.size))
  clear hb4
  go_wp2_with fail
  refine (ex3 _ (HT.out.below HB4.out)).mono ?_
  rintro e w5 ⟨rfl, hb5⟩
  have HB5 := Lib.hid (HB4.out.trans (hb5.mono HB4.out.size))
  clear hb5
  go_wp2_with fail
  go_ret
  refine ⟨rfl, ?_⟩
  have hlow := HB5.out
  have hz := hlow.size
  go_grown
end Go.Proofs.YtadjgjbkjhallaaDoor
