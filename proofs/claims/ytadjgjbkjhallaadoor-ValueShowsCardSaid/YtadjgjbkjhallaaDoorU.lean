/- Walk of what holds what is shown and parsed against the document's answer. -/
import Derived.Test.YtadjgjbkjhallaaDoorT
import Derived.Test.YtadjgjbkjhallaaDoorN
namespace Go.Proofs.YtadjgjbkjhallaaDoor
open Go.ChangeShapes Go.WideShapes Go.ChangeAt Go.RowKit
set_option linter.unusedVariables false

set_option maxHeartbeats 8000000 in
set_option maxRecDepth 100000 in
theorem shows_any (v : Vt) (s : ByteArray) (w : World) (htab : Tb w) (hv : v.2.2.size ≤ 281474976710656) (hs : s.size ≤ 281474976710656) :
    Calls Tryd.prog 4 #[.agg #[.int .i64 v.1, .int .i64 v.2.1, .string v.2.2], .string s] w fun e w' => e = .returned (.bool true) ∧ Below w.heap.size w w' := by
  have h17 := fun W hW => show_any v W hv hW
  have h18 := fun W hW => rShow_any v W hv hW
  have h19 := fun W hW => parse_any s W hs hW
  have h20 := fun W => rParse_any s W hs
  unfold ShowR at h17 h18
  unfold ParseR at h19 h20
  generalize showV v = sv at h17 h18
  generalize parseV s = pv at h19 h20
  obtain ⟨a, ea⟩ := sv
  obtain ⟨⟨x1, x2, x3⟩, g⟩ := pv
  obtain ⟨k, n, t⟩ := v
  simp only at h17 h18 h19 h20 hv
  have H17 := Lib.hid h17
  have H18 := Lib.hid h18
  have H19 := Lib.hid h19
  have H20 := Lib.hid h20
  have HT := Lib.hid htab
  have HX := Lib.hid (Bx.new w (.int .i64 k) (.int .i64 n) (.string t) 25)
  have HL := Lib.hid ((Below.refl _ w).alloc (Nat.le_refl _) (.cells #[.int .i64 k, .int .i64 n, .string t] 25))
  clear h17 h18 h19 h20 htab
  by_cases hbig : 400 < t.size + s.size
  · have hb' : (400 : Int) < (t.size : Int) + (s.size : Int) := by omega
    clear hbig
    go_enter Tryd.func4, Tryd.ntmps4
    go_wp2_with fail
    refine (awake_any _ (HT.out.below HL.out)).mono ?_
    rintro e w1 ⟨rfl, hb⟩
    go_wp2_with fail
    go_ret
    exact ⟨rfl, HL.out.trans (hb.mono HL.out.size)⟩
  · have hb' : (t.size : Int) + (s.size : Int) ≤ 400 := by omega
    clear hbig
    go_enter Tryd.func4, Tryd.ntmps4
    go_upto_region 3 with (fail)
    have hx := HX.out
    have hl := HL.out
    have hz : (w.alloc (.cells #[.int .i64 k, .int .i64 n, .string t] 25)).heap.size = w.heap.size + 1 := by simp
    generalize w.alloc (.cells #[.int .i64 k, .int .i64 n, .string t] 25) = w0 at hx hl hz ⊢
    obtain ⟨A, hA⟩ : ∃ A, w.heap.size = A := ⟨_, rfl⟩
    have HA := Lib.hid hA
    rw [hA] at hx hz ⊢
    have HX0 := Lib.hid hx
    have HL0 := Lib.hid hl
    have HZ0 := Lib.hid (show A < w0.heap.size by omega)
    obtain ⟨q0, q1, q2, _, _, _⟩ := hx
    clear hl hz hA
    go_wp2_with fail
    refine (H17.out _ (HT.out.below HL0.out)).mono ?_
    rintro e w1 ⟨rfl, hb1⟩
    have HX1 := Lib.hid (HX0.out.below hb1 HZ0.out)
    have HL1 := Lib.hid (HL0.out.trans (hb1.mono HL0.out.size))
    have HZ1 := Lib.hid (show A < w1.heap.size by have := hb1.size; have := HZ0.out; omega)
    obtain ⟨r0, r1, r2, _, _, _⟩ := HX1.out
    clear hb1 q0 q1 q2
    go_wp2_with fail
    refine (H18.out _ (HT.out.below HL1.out)).mono ?_
    rintro e w2 ⟨rfl, hb2⟩
    have HL2 := Lib.hid (HL1.out.trans (hb2.mono HL1.out.size))
    clear hb2 r0 r1 r2
    go_wp2_with fail
    refine (H19.out _ (HT.out.below HL2.out)).mono ?_
    rintro e w3 ⟨rfl, hb3⟩
    have HL3 := Lib.hid (HL2.out.trans (hb3.mono HL2.out.size))
    clear hb3
    go_upto_region 6 with (fail)
    have hx4 := Bx.new w3 (.int .i64 x1) (.int .i64 x2) (.string x3) 25
    have hl4 := HL3.out.alloc HL3.out.size (.cells #[.int .i64 x1, .int .i64 x2, .string x3] 25)
    have hz4 : (w3.alloc (.cells #[.int .i64 x1, .int .i64 x2, .string x3] 25)).heap.size = w3.heap.size + 1 := by simp
    generalize w3.alloc (.cells #[.int .i64 x1, .int .i64 x2, .string x3] 25) = w4 at hx4 hl4 hz4 ⊢
    obtain ⟨B, hB⟩ : ∃ B, w3.heap.size = B := ⟨_, rfl⟩
    rw [hB] at hx4 hz4 ⊢
    have HX4 := Lib.hid hx4
    have HL4 := Lib.hid hl4
    have HZ4 := Lib.hid (show B < w4.heap.size by omega)
    clear hx4 hl4 hz4 hB
    go_wp2_with fail
    refine (H20.out _).mono ?_
    rintro e w5 ⟨rfl, hb5⟩
    have HX5 := Lib.hid (HX4.out.below hb5 HZ4.out)
    have HL5 := Lib.hid (HL4.out.trans (hb5.mono HL4.out.size))
    have HZ5 := Lib.hid (show B < w5.heap.size by have := hb5.size; have := HZ4.out; omega)
    clear hb5
    go_upto_region 7 with (fail)
    have hx6 := Bx.new w5 (.int .i64 x1) (.int .i64 x2) (.string x3) 25
    have hy6 := HX5.out.below ((Below.refl _ w5).alloc (Nat.le_refl _) (.cells #[.int .i64 x1, .int .i64 x2, .string x3] 25)) HZ5.out
    have hl6 := HL5.out.alloc HL5.out.size (.cells #[.int .i64 x1, .int .i64 x2, .string x3] 25)
    generalize w5.alloc (.cells #[.int .i64 x1, .int .i64 x2, .string x3] 25) = w6 at hx6 hy6 hl6 ⊢
    obtain ⟨q0, q1, q2, _, _, _⟩ := hx6
    obtain ⟨r0, r1, r2, _, _, _⟩ := hy6
    have HL6 := Lib.hid hl6
    have e1 := fun W => eq25_same W x1 x2 x3
    clear hl6
    go_wp2_with fail
    refine (awake_any _ (HT.out.below HL6.out)).mono ?_
    rintro e w7 ⟨rfl, hb7⟩
    go_wp2_with fail
    go_ret
    exact ⟨rfl, HL6.out.trans (hb7.mono HL6.out.size)⟩
end Go.Proofs.YtadjgjbkjhallaaDoor
