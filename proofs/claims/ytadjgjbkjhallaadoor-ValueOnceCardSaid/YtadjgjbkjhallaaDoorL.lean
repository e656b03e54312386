/- Walks of what parses: the program's. -/
import Derived.Test.YtadjgjbkjhallaaDoorK
namespace Go.Proofs.YtadjgjbkjhallaaDoor
open Go.ChangeShapes Go.WideShapes Go.ChangeAt Go.RowKit
set_option linter.unusedVariables false

def ParseR (s : ByteArray) (w : World) (e : Ending) (w' : World) : Prop := e = .returned (.tuple #[.agg #[.int .i64 (parseV s).1.1, .int .i64 (parseV s).1.2.1, .string (parseV s).1.2.2], .int .i64 (parseV s).2]) ∧ Below w.heap.size w w'

theorem guess_any (s : ByteArray) (w : World) (hm : s.size ≤ 281474976710656) (htab : Tb w) : Calls Tryd.prog 35 #[.string s] w (GuessR s w) := by
  by_cases hc : 2 ≤ s.size ∧ s.data[0]? = some 34
  · exact guess_text s w hm hc
  · exact guess_num s w hm htab hc
theorem guess_size (s : ByteArray) (hm : s.size ≤ 281474976710656) : (guessV s).2.2.size ≤ 281474976710656 := by
  unfold guessV
  split
  · show (midB s).size ≤ _
    unfold midB
    rw [size_mk, List.length_take]
    omega
  · show (0 : Nat) ≤ _
    omega

theorem neS_toList {a b : ByteArray} (h : a ≠ b) : (a.toList == b.toList) = false := by rw [beq_eq_false_iff_ne]; exact tl_ne h

set_option maxHeartbeats 4000000 in
set_option maxRecDepth 100000 in
theorem parse_any (s : ByteArray) (w : World) (hm : s.size ≤ 281474976710656) (htab : Tb w) : Calls Tryd.prog 19 #[.string s] w (ParseR s w) := by
  unfold ParseR
  have HT := Lib.hid htab
  clear htab
  have hgs := guess_size s hm
  have HN := Lib.hid (Bx.new w (.int .i64 0) (.int .i64 0) (.string ⟨#[]⟩) 25)
  have HL := Lib.hid ((Below.refl _ w).alloc (Nat.le_refl _) (.cells #[.int .i64 0, .int .i64 0, .string ⟨#[]⟩] 25))
  have hgu := fun W hW => guess_any s W hm hW
  have hP : parseV s = if rightV (guessV s) = true ∧ showB (guessV s) = s then (guessV s, 0) else ((0, 0, ⟨#[]⟩), 7) := rfl
  unfold GuessR at hgu
  obtain ⟨g, hg⟩ : ∃ g, guessV s = g := ⟨_, rfl⟩
  rw [hg] at hgu hgs hP
  obtain ⟨k, n, t⟩ := g
  have hsh := fun W hW => show_any (k, n, t) W hgs hW
  unfold ShowR showV at hsh
  have HG := Lib.hid hgu
  clear hgu hg hgs
  cases hr : rightV (k, n, t) with
  | false =>
    rw [hr] at hsh hP
    simp only [Bool.false_eq_true, if_false, false_and] at hsh hP
    have HS := Lib.hid hsh
    rw [hP]
    clear hsh hr hP
    go_enter Tryd.func19, Tryd.ntmps19
    go_wp2_with fail
    refine (HG.out _ (HT.out.below HL.out)).mono ?_
    rintro e w1 ⟨rfl, hb⟩
    have HX := Lib.hid (HN.out.below hb (by simp))
    have HB := Lib.hid (HL.out.trans (hb.mono (by simp)))
    have HZ := Lib.hid (show w.heap.size < w1.heap.size by have := hb.size; simp at this; omega)
    clear hb
    obtain ⟨A, hA⟩ : ∃ A, w.heap.size = A := ⟨_, rfl⟩
    have HA := Lib.hid hA
    rw [hA]
    clear hA
    go_wp2_with fail
    have hW := Bx.new w1 (.int .i64 k) (.int .i64 n) (.string t) 25
    have hWb := (Below.refl _ w1).alloc (Nat.le_refl _) (.cells #[.int .i64 k, .int .i64 n, .string t] 25)
    have hWs : (w1.alloc (.cells #[.int .i64 k, .int .i64 n, .string t] 25)).heap.size = w1.heap.size + 1 := by simp
    generalize w1.alloc (.cells #[.int .i64 k, .int .i64 n, .string t] 25) = w2 at hW hWb hWs ⊢
    have hB2 := HB.out.trans (hWb.mono HB.out.size)
    refine (HS.out _ (HT.out.below hB2)).mono ?_
    rintro e w3 ⟨rfl, hb3⟩
    have hB3 := hB2.trans (hb3.mono hB2.size)
    have hx3 := (HX.out.below hWb HZ.out).below hb3 (by have := HZ.out; omega)
    rw [HA.out] at hx3
    obtain ⟨q0, q1, q2, f0, f1, f2⟩ := hx3
    have HB3 := Lib.hid hB3
    clear hW hWb hWs hB2 hb3 hB3
    go_wp2_with fail
    refine bodyPost_ret (v := .tuple #[.agg #[.int .i64 0, .int .i64 0, .string ⟨#[]⟩], .int .i64 7]) (by simp [results, Tryd.results19, go_sem, q0, q1, q2, f0, f1, f2]) rfl ⟨rfl, ?_⟩
    have hlow := HB3.out
    rw [HA.out] at hlow ⊢
    go_grown
  | true =>
    rw [hr] at hsh hP
    simp only [if_true, true_and] at hsh hP
    have HS := Lib.hid hsh
    by_cases he : showB (k, n, t) = s
    · rw [if_pos he] at hP
      have HE := Lib.hid he
      rw [hP]
      clear hsh hr hP he
      go_enter Tryd.func19, Tryd.ntmps19
      go_wp2_with fail
      refine (HG.out _ (HT.out.below HL.out)).mono ?_
      rintro e w1 ⟨rfl, hb⟩
      have HX := Lib.hid (HN.out.below hb (by simp))
      have HB := Lib.hid (HL.out.trans (hb.mono (by simp)))
      have HZ := Lib.hid (show w.heap.size < w1.heap.size by have := hb.size; simp at this; omega)
      clear hb
      obtain ⟨A, hA⟩ : ∃ A, w.heap.size = A := ⟨_, rfl⟩
      have HA := Lib.hid hA
      rw [hA]
      clear hA
      go_wp2_with fail
      have hW := Bx.new w1 (.int .i64 k) (.int .i64 n) (.string t) 25
      have hWb := (Below.refl _ w1).alloc (Nat.le_refl _) (.cells #[.int .i64 k, .int .i64 n, .string t] 25)
      have hWs : (w1.alloc (.cells #[.int .i64 k, .int .i64 n, .string t] 25)).heap.size = w1.heap.size + 1 := by simp
      generalize w1.alloc (.cells #[.int .i64 k, .int .i64 n, .string t] 25) = w2 at hW hWb hWs ⊢
      have hB2 := HB.out.trans (hWb.mono HB.out.size)
      refine (HS.out _ (HT.out.below hB2)).mono ?_
      rintro e w3 ⟨rfl, hb3⟩
      rw [HE.out]
      have hB3 := hB2.trans (hb3.mono hB2.size)
      have hx3 := (HX.out.below hWb HZ.out).below hb3 (by have := HZ.out; omega)
      have hv3 := hW.below hb3 (by omega)
      rw [HA.out] at hx3
      obtain ⟨C, hC⟩ : ∃ C, w1.heap.size = C := ⟨_, rfl⟩
      have hAC : A < C := by have := HZ.out; rw [HA.out] at this; omega
      have hne : A ≠ C := by omega
      rw [hC] at hv3 ⊢
      obtain ⟨q0, q1, q2, f0, f1, f2⟩ := hx3
      obtain ⟨r0, r1, r2, g0, g1, g2⟩ := hv3
      have HB3 := Lib.hid hB3
      clear hW hWb hWs hB2 hb3 hB3 hC
      go_wp2_with fail
      refine bodyPost_ret (v := .tuple #[.agg #[.int .i64 k, .int .i64 n, .string t], .int .i64 0]) (by simp [results, Tryd.results19, go_sem, q0, q1, q2, f0, f1, f2]) rfl ⟨rfl, ?_⟩
      have hlow := HB3.out
      rw [HA.out] at hlow ⊢
      go_grown
    · rw [if_neg he] at hP
      have hq := neS_toList he
      rw [hP]
      clear hsh hr hP he
      go_enter Tryd.func19, Tryd.ntmps19
      go_wp2_with fail
      refine (HG.out _ (HT.out.below HL.out)).mono ?_
      rintro e w1 ⟨rfl, hb⟩
      have HX := Lib.hid (HN.out.below hb (by simp))
      have HB := Lib.hid (HL.out.trans (hb.mono (by simp)))
      have HZ := Lib.hid (show w.heap.size < w1.heap.size by have := hb.size; simp at this; omega)
      clear hb
      obtain ⟨A, hA⟩ : ∃ A, w.heap.size = A := ⟨_, rfl⟩
      have HA := Lib.hid hA
      rw [hA]
      clear hA
      go_wp2_with fail
      have hW := Bx.new w1 (.int .i64 k) (.int .i64 n) (.string t) 25
      have hWb := (Below.refl _ w1).alloc (Nat.le_refl _) (.cells #[.int .i64 k, .int .i64 n, .string t] 25)
      have hWs : (w1.alloc (.cells #[.int .i64 k, .int .i64 n, .string t] 25)).heap.size = w1.heap.size + 1 := by simp
      generalize w1.alloc (.cells #[.int .i64 k, .int .i64 n, .string t] 25) = w2 at hW hWb hWs ⊢
      have hB2 := HB.out.trans (hWb.mono HB.out.size)
      refine (HS.out _ (HT.out.below hB2)).mono ?_
      rintro e w3 ⟨rfl, hb3⟩
      have hB3 := hB2.trans (hb3.mono hB2.size)
      have hx3 := (HX.out.below hWb HZ.out).below hb3 (by have := HZ.out; omega)
      rw [HA.out] at hx3
      obtain ⟨q0, q1, q2, f0, f1, f2⟩ := hx3
      have HB3 := Lib.hid hB3
      clear hW hWb hWs hB2 hb3 hB3
      go_wp2_with fail
      refine bodyPost_ret (v := .tuple #[.agg #[.int .i64 0, .int .i64 0, .string ⟨#[]⟩], .int .i64 7]) (by simp [results, Tryd.results19, go_sem, q0, q1, q2, f0, f1, f2]) rfl ⟨rfl, ?_⟩
      have hlow := HB3.out
      rw [HA.out] at hlow ⊢
      go_grown
end Go.Proofs.YtadjgjbkjhallaaDoor
