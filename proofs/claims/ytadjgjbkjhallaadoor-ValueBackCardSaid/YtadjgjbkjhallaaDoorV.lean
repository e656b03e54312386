/- Walk of the law: what is shown is parsed, and nothing else. -/
import Derived.Test.YtadjgjbkjhallaaDoorM
import Derived.Test.YtadjgjbkjhallaaDoorN
import Derived.Deep.Cut
namespace Go.Proofs.YtadjgjbkjhallaaDoor
open Go.ChangeShapes Go.WideShapes Go.ChangeAt Go.RowKit
set_option linter.unusedVariables false

theorem ne25_same (W : World) (a b : Int) (c : ByteArray) : (binOp .neq 25 (.agg #[.int .i64 a, .int .i64 b, .string c]) (.agg #[.int .i64 a, .int .i64 b, .string c])).run Tryd.prog W = .ok (.bool false) W := by
  rw [ne25, decide_eq_true rfl]
  rfl
theorem eq25_not (W : World) {a b : Int} {c : ByteArray} {a' b' : Int} {c' : ByteArray} (h : (a, b, c) ≠ (a', b', c')) : (binOp .eql 25 (.agg #[.int .i64 a, .int .i64 b, .string c]) (.agg #[.int .i64 a', .int .i64 b', .string c'])).run Tryd.prog W = .ok (.bool false) W := by
  rw [eq25, decide_eq_false h]
theorem show_yes {v : Vt} (h : rightV v = true) (hv : v.2.2.size ≤ 281474976710656) (W : World) (hW : Tb W) : Calls Tryd.prog 17 #[.agg #[.int .i64 v.1, .int .i64 v.2.1, .string v.2.2]] W fun e w' => e = .returned (.tuple #[.string (showB v), .int .i64 0]) ∧ Below W.heap.size W w' := by
  have hh := show_any v W hv hW
  unfold ShowR showV at hh
  rw [h] at hh
  exact hh
theorem show_no {v : Vt} (h : rightV v = false) (hv : v.2.2.size ≤ 281474976710656) (W : World) (hW : Tb W) : Calls Tryd.prog 17 #[.agg #[.int .i64 v.1, .int .i64 v.2.1, .string v.2.2]] W fun e w' => e = .returned (.tuple #[.string ⟨#[]⟩, .int .i64 2]) ∧ Below W.heap.size W w' := by
  have hh := show_any v W hv hW
  unfold ShowR showV at hh
  rw [h] at hh
  exact hh
theorem parse_to {s : ByteArray} {v : Vt} {g : Int} (h : parseV s = (v, g)) (hs : s.size ≤ 281474976710656) (W : World) (hW : Tb W) : Calls Tryd.prog 19 #[.string s] W fun e w' => e = .returned (.tuple #[.agg #[.int .i64 v.1, .int .i64 v.2.1, .string v.2.2], .int .i64 g]) ∧ Below W.heap.size W w' := by
  have hh := parse_any s W hs hW
  unfold ParseR at hh
  rw [h] at hh
  exact hh
theorem right_yes {v : Vt} (h : rightV v = true) (hv : v.2.2.size ≤ 281474976710656) (W : World) : Calls Tryd.prog 12 #[.agg #[.int .i64 v.1, .int .i64 v.2.1, .string v.2.2]] W fun e w' => e = .returned (.bool true) ∧ Below W.heap.size W w' := by
  have hh := right_any v W hv
  unfold RightR at hh
  rw [h] at hh
  exact hh.mono fun _ _ hp => ⟨hp.1, hp.2.below⟩
theorem showB_size {v : Vt} (h : rightV v = true) : (showB v).size ≤ 281474976710656 := by
  rcases right_cases h with ⟨n, rfl, h1, h2⟩ | ⟨t, rfl, ht⟩
  · unfold showB itoaB
    rw [if_pos rfl, size_mk]
    have := itoa_len h1 h2
    show (Lib.itoa n).length ≤ _
    omega
  · unfold showB
    rw [if_neg (show ¬ (2 : Int) = 1 by decide), size_mk]
    unfold isT at ht
    rw [Bool.and_eq_true, decide_eq_true_eq] at ht
    have := ht.1
    have e : t.data.toList.length = t.size := Array.length_toList
    simp only [List.length_cons, List.length_append, List.length_nil]
    omega
theorem right_size {v : Vt} (h : rightV v = true) : v.2.2.size ≤ 281474976710656 := by
  rcases right_cases h with ⟨n, rfl, h1, h2⟩ | ⟨t, rfl, ht⟩
  · exact show (0 : Nat) ≤ _ by omega
  · unfold isT at ht
    rw [Bool.and_eq_true, decide_eq_true_eq] at ht
    have := ht.1
    show t.size ≤ _
    omega

set_option maxHeartbeats 8000000 in
set_option maxRecDepth 100000 in
theorem back_long (a b : Vt) (s : ByteArray) (w : World) (htab : Tb w) (ha : a.2.2.size ≤ 281474976710656) (hb : b.2.2.size ≤ 281474976710656) (hs : s.size ≤ 281474976710656) (hbig : (400 : Int) < (a.2.2.size : Int) + (b.2.2.size : Int) + (s.size : Int)) :
    Calls Tryd.prog 6 #[.agg #[.int .i64 a.1, .int .i64 a.2.1, .string a.2.2], .agg #[.int .i64 b.1, .int .i64 b.2.1, .string b.2.2], .string s] w fun e w' => e = .returned (.bool true) ∧ Below w.heap.size w w' := by
  obtain ⟨k, n, t⟩ := a
  obtain ⟨k', n', t'⟩ := b
  simp only at ha hb hbig
  have hx := (Bx.new w (.int .i64 k) (.int .i64 n) (.string t) 25).below ((Below.refl _ (w.alloc (.cells #[.int .i64 k, .int .i64 n, .string t] 25))).alloc (Nat.le_refl _) (.cells #[.int .i64 k', .int .i64 n', .string t'] 25)) (by simp)
  have hy := Bx.new (w.alloc (.cells #[.int .i64 k, .int .i64 n, .string t] 25)) (.int .i64 k') (.int .i64 n') (.string t') 25
  have hl := ((Below.refl _ w).alloc (Nat.le_refl _) (.cells #[.int .i64 k, .int .i64 n, .string t] 25)).alloc (by simp) (.cells #[.int .i64 k', .int .i64 n', .string t'] 25)
  have hz : ((w.alloc (.cells #[.int .i64 k, .int .i64 n, .string t] 25)).alloc (.cells #[.int .i64 k', .int .i64 n', .string t'] 25)).heap.size = w.heap.size + 2 := by simp
  rw [World.size_alloc] at hy
  have HS := Lib.hid (And.intro hx (And.intro hy (And.intro hl hz)))
  have HT := Lib.hid htab
  clear hx hy hl hz htab
  go_enter Tryd.func6, Tryd.ntmps6
  go_upto_region 1 with (fail)
  obtain ⟨hx, hy, hl, hz⟩ := HS.out
  generalize (w.alloc (.cells #[.int .i64 k, .int .i64 n, .string t] 25)).alloc (.cells #[.int .i64 k', .int .i64 n', .string t'] 25) = w0 at hx hy hl hz ⊢
  clear HS
  have HX := Lib.hid hx
  have HY := Lib.hid hy
  have HL := Lib.hid hl
  clear hx hy hl
  go_wp2_with fail
  refine (awake_any _ (HT.out.below HL.out)).mono ?_
  rintro e w1 ⟨rfl, hb1⟩
  obtain ⟨q0, q1, q2, _, _, _⟩ := HX.out.below hb1 (by omega)
  obtain ⟨r0, r1, r2, _, _, _⟩ := HY.out.below hb1 (by omega)
  have HB1 := Lib.hid (HL.out.trans (hb1.mono HL.out.size))
  clear hb1 hz
  go_wp2_with fail
  go_ret
  exact ⟨rfl, HB1.out⟩

set_option maxHeartbeats 8000000 in
set_option maxRecDepth 100000 in
theorem back_yysk (a b : Vt) (s : ByteArray) (w : World) (htab : Tb w) (ha : a.2.2.size ≤ 281474976710656) (hb : b.2.2.size ≤ 281474976710656) (hs : s.size ≤ 281474976710656) (hbig : (a.2.2.size : Int) + (b.2.2.size : Int) + (s.size : Int) ≤ 400)
    (hra : rightV a = true) (hrb : rightV b = true) (hab : a = b) (c : Vt) (hps : parseV s = (c, 0)) (hrc : rightV c = true) (hsc : showB c = s) :
    Calls Tryd.prog 6 #[.agg #[.int .i64 a.1, .int .i64 a.2.1, .string a.2.2], .agg #[.int .i64 b.1, .int .i64 b.2.1, .string b.2.2], .string s] w fun e w' => e = .returned (.bool true) ∧ Below w.heap.size w w' := by
  have HA := Lib.hid (fun W hW => show_yes hra ha W hW)
  have HB := Lib.hid (fun W hW => show_yes hrb hb W hW)
  have HPA := Lib.hid (fun W hW => parse_to (parse_show hra) (showB_size hra) W hW)
  have HRA := Lib.hid (fun W => right_yes hra ha W)
  subst hab
  have hxy : (showB a).toList == (showB a).toList := by simp
  clear hxy
  generalize showB a = xa at HA HPA HB
  have HP := Lib.hid (fun W hW => parse_to hps hs W hW)
  have HSC := Lib.hid (fun W hW => show_yes hrc (right_size hrc) W hW)
  rw [hsc] at HSC
  have HRC := Lib.hid (fun W => right_yes hrc (right_size hrc) W)
  obtain ⟨m1, m2, m3⟩ := c
  obtain ⟨k, n, t⟩ := a
  simp only at ha hb hbig
  have hx := (Bx.new w (.int .i64 k) (.int .i64 n) (.string t) 25).below ((Below.refl _ (w.alloc (.cells #[.int .i64 k, .int .i64 n, .string t] 25))).alloc (Nat.le_refl _) (.cells #[.int .i64 k, .int .i64 n, .string t] 25)) (by simp)
  have hy := Bx.new (w.alloc (.cells #[.int .i64 k, .int .i64 n, .string t] 25)) (.int .i64 k) (.int .i64 n) (.string t) 25
  have hl := ((Below.refl _ w).alloc (Nat.le_refl _) (.cells #[.int .i64 k, .int .i64 n, .string t] 25)).alloc (by simp) (.cells #[.int .i64 k, .int .i64 n, .string t] 25)
  have hz : ((w.alloc (.cells #[.int .i64 k, .int .i64 n, .string t] 25)).alloc (.cells #[.int .i64 k, .int .i64 n, .string t] 25)).heap.size = w.heap.size + 2 := by simp
  rw [World.size_alloc] at hy
  have HS := Lib.hid (And.intro hx (And.intro hy (And.intro hl hz)))
  have HT := Lib.hid htab
  clear hx hy hl hz htab hra hrb hps hrc hsc
  go_enter Tryd.func6, Tryd.ntmps6
  go_upto_region 1 with (fail)
  obtain ⟨hx, hy, hl, hz⟩ := HS.out
  generalize (w.alloc (.cells #[.int .i64 k, .int .i64 n, .string t] 25)).alloc (.cells #[.int .i64 k, .int .i64 n, .string t] 25) = w0 at hx hy hl hz ⊢
  clear HS
  obtain ⟨A, hA⟩ : ∃ A, w.heap.size = A := ⟨_, rfl⟩
  have HAA := Lib.hid hA
  rw [hA] at hx hy hz ⊢
  have HX := Lib.hid hx
  have HY := Lib.hid hy
  have HL := Lib.hid hl
  clear hx hy hl hA
  go_wp2_with fail
  refine (awake_any _ (HT.out.below HL.out)).mono ?_
  rintro e w1 ⟨rfl, hb1⟩
  have HX1 := Lib.hid (HX.out.below hb1 (by omega))
  have HY1 := Lib.hid (HY.out.below hb1 (by omega))
  have HB1 := Lib.hid (HL.out.trans (hb1.mono HL.out.size))
  have hz1 : A + 1 < w1.heap.size := by have := hb1.size; omega
  obtain ⟨q0, q1, q2, _, _, _⟩ := HX1.out
  obtain ⟨r0, r1, r2, _, _, _⟩ := HY1.out
  clear hb1 hz
  go_wp2_with fail
  refine (HA.out _ (HT.out.below HB1.out)).mono ?_
  rintro e w2 ⟨rfl, hb2⟩
  have HX2 := Lib.hid (HX1.out.below hb2 (by omega))
  have HY2 := Lib.hid (HY1.out.below hb2 (by omega))
  have HB2 := Lib.hid (HB1.out.trans (hb2.mono HB1.out.size))
  have hz2 : A + 1 < w2.heap.size := by have := hb2.size; omega
  clear q0 q1 q2 r0 r1 r2 hb2 hz1
  obtain ⟨r0, r1, r2, _, _, _⟩ := HY2.out
  go_wp2_with fail
  refine (HB.out _ (HT.out.below HB2.out)).mono ?_
  rintro e w3 ⟨rfl, hb3⟩
  have HX3 := Lib.hid (HX2.out.below hb3 (by omega))
  have HY3 := Lib.hid (HY2.out.below hb3 (by omega))
  have HB3 := Lib.hid (HB2.out.trans (hb3.mono HB2.out.size))
  have hz3 : A + 1 < w3.heap.size := by have := hb3.size; omega
  clear r0 r1 r2 hb3 hz2
  go_wp2_with fail
  refine (HPA.out _ (HT.out.below HB3.out)).mono ?_
  rintro e w4 ⟨rfl, hb4⟩
  have HX4 := Lib.hid (HX3.out.below hb4 (by omega))
  have HY4 := Lib.hid (HY3.out.below hb4 (by omega))
  have HB4 := Lib.hid (HB3.out.trans (hb4.mono HB3.out.size))
  have hz4 : A + 1 < w4.heap.size := by have := hb4.size; omega
  clear hb4 hz3
  go_upto_region 9 with (fail)
  have hv5 := Bx.new w4 (.int .i64 k) (.int .i64 n) (.string t) 25
  have hw5 := (Below.refl _ w4).alloc (Nat.le_refl _) (.cells #[.int .i64 k, .int .i64 n, .string t] 25)
  have hz5 : (w4.alloc (.cells #[.int .i64 k, .int .i64 n, .string t] 25)).heap.size = w4.heap.size + 1 := by simp
  generalize w4.alloc (.cells #[.int .i64 k, .int .i64 n, .string t] 25) = w5 at hv5 hw5 hz5 ⊢
  have HX5 := Lib.hid (HX4.out.below hw5 (by omega))
  have HY5 := Lib.hid (HY4.out.below hw5 (by omega))
  have HB5 := Lib.hid (HB4.out.trans (hw5.mono HB4.out.size))
  obtain ⟨u0, u1, u2, _, _, _⟩ := hv5
  obtain ⟨q0, q1, q2, _, _, _⟩ := HX5.out
  have e1 := fun W => ne25_same W k n t
  have hz5' : A + 1 < w5.heap.size := by omega
  clear hw5 hz5 hz4
  go_wp2_with fail
  refine (HRA.out _).mono ?_
  rintro e w6 ⟨rfl, hb6⟩
  have HX6 := Lib.hid (HX5.out.below hb6 (by omega))
  have HY6 := Lib.hid (HY5.out.below hb6 (by omega))
  have HB6 := Lib.hid (HB5.out.trans (hb6.mono HB5.out.size))
  clear u0 u1 u2 q0 q1 q2 e1 hb6 hz5'
  obtain ⟨q0, q1, q2, _, _, _⟩ := HX6.out
  obtain ⟨r0, r1, r2, _, _, _⟩ := HY6.out
  have e2 := fun W => eq25_same W k n t
  go_wp2_with fail
  refine (HP.out _ (HT.out.below HB6.out)).mono ?_
  rintro e w7 ⟨rfl, hb7⟩
  have HB7 := Lib.hid (HB6.out.trans (hb7.mono HB6.out.size))
  clear hb7
  go_upto_region 14 with (fail)
  have hv8 := Bx.new w7 (.int .i64 m1) (.int .i64 m2) (.string m3) 25
  have hw8 := (Below.refl _ w7).alloc (Nat.le_refl _) (.cells #[.int .i64 m1, .int .i64 m2, .string m3] 25)
  have hz8 : (w7.alloc (.cells #[.int .i64 m1, .int .i64 m2, .string m3] 25)).heap.size = w7.heap.size + 1 := by simp
  generalize w7.alloc (.cells #[.int .i64 m1, .int .i64 m2, .string m3] 25) = w8 at hv8 hw8 hz8 ⊢
  have HV8 := Lib.hid hv8
  obtain ⟨u0, u1, u2, _, _, _⟩ := hv8
  have HB8 := Lib.hid (HB7.out.trans (hw8.mono HB7.out.size))
  obtain ⟨D, hD⟩ : ∃ D, w7.heap.size = D := ⟨_, rfl⟩
  rw [hD] at u0 u1 u2 hz8 ⊢
  have HD := Lib.hid hD
  clear hw8 hD
  go_wp2_with fail
  refine (HSC.out _ (HT.out.below HB8.out)).mono ?_
  rintro e w9 ⟨rfl, hb9⟩
  have hv9 := HV8.out.below hb9 (by rw [HD.out]; omega)
  rw [HD.out] at hv9
  obtain ⟨y0, y1, y2, _, _, _⟩ := hv9
  have HB9 := Lib.hid (HB8.out.trans (hb9.mono HB8.out.size))
  clear u0 u1 u2 hb9 hz8
  go_wp2_with fail
  refine (HRC.out _).mono ?_
  rintro e w10 ⟨rfl, hb10⟩
  go_wp2_with fail
  go_ret
  exact ⟨rfl, HB9.out.trans (hb10.mono HB9.out.size)⟩

set_option maxHeartbeats 8000000 in
set_option maxRecDepth 100000 in
theorem back_yysb (a b : Vt) (s : ByteArray) (w : World) (htab : Tb w) (ha : a.2.2.size ≤ 281474976710656) (hb : b.2.2.size ≤ 281474976710656) (hs : s.size ≤ 281474976710656) (hbig : (a.2.2.size : Int) + (b.2.2.size : Int) + (s.size : Int) ≤ 400)
    (hra : rightV a = true) (hrb : rightV b = true) (hab : a = b) (hps : parseV s = ((0, 0, ⟨#[]⟩), 7)) :
    Calls Tryd.prog 6 #[.agg #[.int .i64 a.1, .int .i64 a.2.1, .string a.2.2], .agg #[.int .i64 b.1, .int .i64 b.2.1, .string b.2.2], .string s] w fun e w' => e = .returned (.bool true) ∧ Below w.heap.size w w' := by
  have HA := Lib.hid (fun W hW => show_yes hra ha W hW)
  have HB := Lib.hid (fun W hW => show_yes hrb hb W hW)
  have HPA := Lib.hid (fun W hW => parse_to (parse_show hra) (showB_size hra) W hW)
  have HRA := Lib.hid (fun W => right_yes hra ha W)
  subst hab
  have hxy : (showB a).toList == (showB a).toList := by simp
  clear hxy
  generalize showB a = xa at HA HPA HB
  have HP := Lib.hid (fun W hW => parse_to hps hs W hW)
  obtain ⟨k, n, t⟩ := a
  simp only at ha hb hbig
  have hx := (Bx.new w (.int .i64 k) (.int .i64 n) (.string t) 25).below ((Below.refl _ (w.alloc (.cells #[.int .i64 k, .int .i64 n, .string t] 25))).alloc (Nat.le_refl _) (.cells #[.int .i64 k, .int .i64 n, .string t] 25)) (by simp)
  have hy := Bx.new (w.alloc (.cells #[.int .i64 k, .int .i64 n, .string t] 25)) (.int .i64 k) (.int .i64 n) (.string t) 25
  have hl := ((Below.refl _ w).alloc (Nat.le_refl _) (.cells #[.int .i64 k, .int .i64 n, .string t] 25)).alloc (by simp) (.cells #[.int .i64 k, .int .i64 n, .string t] 25)
  have hz : ((w.alloc (.cells #[.int .i64 k, .int .i64 n, .string t] 25)).alloc (.cells #[.int .i64 k, .int .i64 n, .string t] 25)).heap.size = w.heap.size + 2 := by simp
  rw [World.size_alloc] at hy
  have HS := Lib.hid (And.intro hx (And.intro hy (And.intro hl hz)))
  have HT := Lib.hid htab
  clear hx hy hl hz htab hra hrb hps
  go_enter Tryd.func6, Tryd.ntmps6
  go_upto_region 1 with (fail)
  obtain ⟨hx, hy, hl, hz⟩ := HS.out
  generalize (w.alloc (.cells #[.int .i64 k, .int .i64 n, .string t] 25)).alloc (.cells #[.int .i64 k, .int .i64 n, .string t] 25) = w0 at hx hy hl hz ⊢
  clear HS
  obtain ⟨A, hA⟩ : ∃ A, w.heap.size = A := ⟨_, rfl⟩
  have HAA := Lib.hid hA
  rw [hA] at hx hy hz ⊢
  have HX := Lib.hid hx
  have HY := Lib.hid hy
  have HL := Lib.hid hl
  clear hx hy hl hA
  go_wp2_with fail
  refine (awake_any _ (HT.out.below HL.out)).mono ?_
  rintro e w1 ⟨rfl, hb1⟩
  have HX1 := Lib.hid (HX.out.below hb1 (by omega))
  have HY1 := Lib.hid (HY.out.below hb1 (by omega))
  have HB1 := Lib.hid (HL.out.trans (hb1.mono HL.out.size))
  have hz1 : A + 1 < w1.heap.size := by have := hb1.size; omega
  obtain ⟨q0, q1, q2, _, _, _⟩ := HX1.out
  obtain ⟨r0, r1, r2, _, _, _⟩ := HY1.out
  clear hb1 hz
  go_wp2_with fail
  refine (HA.out _ (HT.out.below HB1.out)).mono ?_
  rintro e w2 ⟨rfl, hb2⟩
  have HX2 := Lib.hid (HX1.out.below hb2 (by omega))
  have HY2 := Lib.hid (HY1.out.below hb2 (by omega))
  have HB2 := Lib.hid (HB1.out.trans (hb2.mono HB1.out.size))
  have hz2 : A + 1 < w2.heap.size := by have := hb2.size; omega
  clear q0 q1 q2 r0 r1 r2 hb2 hz1
  obtain ⟨r0, r1, r2, _, _, _⟩ := HY2.out
  go_wp2_with fail
  refine (HB.out _ (HT.out.below HB2.out)).mono ?_
  rintro e w3 ⟨rfl, hb3⟩
  have HX3 := Lib.hid (HX2.out.below hb3 (by omega))
  have HY3 := Lib.hid (HY2.out.below hb3 (by omega))
  have HB3 := Lib.hid (HB2.out.trans (hb3.mono HB2.out.size))
  have hz3 : A + 1 < w3.heap.size := by have := hb3.size; omega
  clear r0 r1 r2 hb3 hz2
  go_wp2_with fail
  refine (HPA.out _ (HT.out.below HB3.out)).mono ?_
  rintro e w4 ⟨rfl, hb4⟩
  have HX4 := Lib.hid (HX3.out.below hb4 (by omega))
  have HY4 := Lib.hid (HY3.out.below hb4 (by omega))
  have HB4 := Lib.hid (HB3.out.trans (hb4.mono HB3.out.size))
  have hz4 : A + 1 < w4.heap.size := by have := hb4.size; omega
  clear hb4 hz3
  go_upto_region 9 with (fail)
  have hv5 := Bx.new w4 (.int .i64 k) (.int .i64 n) (.string t) 25
  have hw5 := (Below.refl _ w4).alloc (Nat.le_refl _) (.cells #[.int .i64 k, .int .i64 n, .string t] 25)
  have hz5 : (w4.alloc (.cells #[.int .i64 k, .int .i64 n, .string t] 25)).heap.size = w4.heap.size + 1 := by simp
  generalize w4.alloc (.cells #[.int .i64 k, .int .i64 n, .string t] 25) = w5 at hv5 hw5 hz5 ⊢
  have HX5 := Lib.hid (HX4.out.below hw5 (by omega))
  have HY5 := Lib.hid (HY4.out.below hw5 (by omega))
  have HB5 := Lib.hid (HB4.out.trans (hw5.mono HB4.out.size))
  obtain ⟨u0, u1, u2, _, _, _⟩ := hv5
  obtain ⟨q0, q1, q2, _, _, _⟩ := HX5.out
  have e1 := fun W => ne25_same W k n t
  have hz5' : A + 1 < w5.heap.size := by omega
  clear hw5 hz5 hz4
  go_wp2_with fail
  refine (HRA.out _).mono ?_
  rintro e w6 ⟨rfl, hb6⟩
  have HX6 := Lib.hid (HX5.out.below hb6 (by omega))
  have HY6 := Lib.hid (HY5.out.below hb6 (by omega))
  have HB6 := Lib.hid (HB5.out.trans (hb6.mono HB5.out.size))
  clear u0 u1 u2 q0 q1 q2 e1 hb6 hz5'
  obtain ⟨q0, q1, q2, _, _, _⟩ := HX6.out
  obtain ⟨r0, r1, r2, _, _, _⟩ := HY6.out
  have e2 := fun W => eq25_same W k n t
  go_wp2_with fail
  refine (HP.out _ (HT.out.below HB6.out)).mono ?_
  rintro e w7 ⟨rfl, hb7⟩
  have HB7 := Lib.hid (HB6.out.trans (hb7.mono HB6.out.size))
  clear hb7
  go_upto_region 14 with (fail)
  have hv8 := Bx.new w7 (.int .i64 0) (.int .i64 0) (.string ⟨#[]⟩) 25
  have hw8 := (Below.refl _ w7).alloc (Nat.le_refl _) (.cells #[.int .i64 0, .int .i64 0, .string ⟨#[]⟩] 25)
  have hz8 : (w7.alloc (.cells #[.int .i64 0, .int .i64 0, .string ⟨#[]⟩] 25)).heap.size = w7.heap.size + 1 := by simp
  generalize w7.alloc (.cells #[.int .i64 0, .int .i64 0, .string ⟨#[]⟩] 25) = w8 at hv8 hw8 hz8 ⊢
  have HV8 := Lib.hid hv8
  obtain ⟨u0, u1, u2, _, _, _⟩ := hv8
  have HB8 := Lib.hid (HB7.out.trans (hw8.mono HB7.out.size))
  obtain ⟨D, hD⟩ : ∃ D, w7.heap.size = D := ⟨_, rfl⟩
  rw [hD] at u0 u1 u2 hz8 ⊢
  have HD := Lib.hid hD
  clear hw8 hD
  have e3 := fun W => eq25_same W 0 0 ⟨#[]⟩
  clear hz8
  go_wp2_with fail
  go_ret
  exact ⟨rfl, HB8.out⟩

set_option maxHeartbeats 8000000 in
set_option maxRecDepth 100000 in
theorem back_yydk (a b : Vt) (s : ByteArray) (w : World) (htab : Tb w) (ha : a.2.2.size ≤ 281474976710656) (hb : b.2.2.size ≤ 281474976710656) (hs : s.size ≤ 281474976710656) (hbig : (a.2.2.size : Int) + (b.2.2.size : Int) + (s.size : Int) ≤ 400)
    (hra : rightV a = true) (hrb : rightV b = true) (hab : a ≠ b) (c : Vt) (hps : parseV s = (c, 0)) (hrc : rightV c = true) (hsc : showB c = s) :
    Calls Tryd.prog 6 #[.agg #[.int .i64 a.1, .int .i64 a.2.1, .string a.2.2], .agg #[.int .i64 b.1, .int .i64 b.2.1, .string b.2.2], .string s] w fun e w' => e = .returned (.bool true) ∧ Below w.heap.size w w' := by
  have HA := Lib.hid (fun W hW => show_yes hra ha W hW)
  have HB := Lib.hid (fun W hW => show_yes hrb hb W hW)
  have HPA := Lib.hid (fun W hW => parse_to (parse_show hra) (showB_size hra) W hW)
  have HRA := Lib.hid (fun W => right_yes hra ha W)
  have hxy := neS_toList (fun e => hab (show_inj hra hrb e))
  generalize showB a = xa at HA HPA hxy
  generalize showB b = xb at HB hxy
  have HP := Lib.hid (fun W hW => parse_to hps hs W hW)
  have HSC := Lib.hid (fun W hW => show_yes hrc (right_size hrc) W hW)
  rw [hsc] at HSC
  have HRC := Lib.hid (fun W => right_yes hrc (right_size hrc) W)
  obtain ⟨m1, m2, m3⟩ := c
  obtain ⟨k, n, t⟩ := a
  obtain ⟨k', n', t'⟩ := b
  have HABX := Lib.hid hab
  simp only at ha hb hbig
  have hx := (Bx.new w (.int .i64 k) (.int .i64 n) (.string t) 25).below ((Below.refl _ (w.alloc (.cells #[.int .i64 k, .int .i64 n, .string t] 25))).alloc (Nat.le_refl _) (.cells #[.int .i64 k', .int .i64 n', .string t'] 25)) (by simp)
  have hy := Bx.new (w.alloc (.cells #[.int .i64 k, .int .i64 n, .string t] 25)) (.int .i64 k') (.int .i64 n') (.string t') 25
  have hl := ((Below.refl _ w).alloc (Nat.le_refl _) (.cells #[.int .i64 k, .int .i64 n, .string t] 25)).alloc (by simp) (.cells #[.int .i64 k', .int .i64 n', .string t'] 25)
  have hz : ((w.alloc (.cells #[.int .i64 k, .int .i64 n, .string t] 25)).alloc (.cells #[.int .i64 k', .int .i64 n', .string t'] 25)).heap.size = w.heap.size + 2 := by simp
  rw [World.size_alloc] at hy
  have HS := Lib.hid (And.intro hx (And.intro hy (And.intro hl hz)))
  have HT := Lib.hid htab
  clear hx hy hl hz htab hra hrb hps hrc hsc hab
  go_enter Tryd.func6, Tryd.ntmps6
  go_upto_region 1 with (fail)
  obtain ⟨hx, hy, hl, hz⟩ := HS.out
  generalize (w.alloc (.cells #[.int .i64 k, .int .i64 n, .string t] 25)).alloc (.cells #[.int .i64 k', .int .i64 n', .string t'] 25) = w0 at hx hy hl hz ⊢
  clear HS
  obtain ⟨A, hA⟩ : ∃ A, w.heap.size = A := ⟨_, rfl⟩
  have HAA := Lib.hid hA
  rw [hA] at hx hy hz ⊢
  have HX := Lib.hid hx
  have HY := Lib.hid hy
  have HL := Lib.hid hl
  clear hx hy hl hA
  go_wp2_with fail
  refine (awake_any _ (HT.out.below HL.out)).mono ?_
  rintro e w1 ⟨rfl, hb1⟩
  have HX1 := Lib.hid (HX.out.below hb1 (by omega))
  have HY1 := Lib.hid (HY.out.below hb1 (by omega))
  have HB1 := Lib.hid (HL.out.trans (hb1.mono HL.out.size))
  have hz1 : A + 1 < w1.heap.size := by have := hb1.size; omega
  obtain ⟨q0, q1, q2, _, _, _⟩ := HX1.out
  obtain ⟨r0, r1, r2, _, _, _⟩ := HY1.out
  clear hb1 hz
  go_wp2_with fail
  refine (HA.out _ (HT.out.below HB1.out)).mono ?_
  rintro e w2 ⟨rfl, hb2⟩
  have HX2 := Lib.hid (HX1.out.below hb2 (by omega))
  have HY2 := Lib.hid (HY1.out.below hb2 (by omega))
  have HB2 := Lib.hid (HB1.out.trans (hb2.mono HB1.out.size))
  have hz2 : A + 1 < w2.heap.size := by have := hb2.size; omega
  clear q0 q1 q2 r0 r1 r2 hb2 hz1
  obtain ⟨r0, r1, r2, _, _, _⟩ := HY2.out
  go_wp2_with fail
  refine (HB.out _ (HT.out.below HB2.out)).mono ?_
  rintro e w3 ⟨rfl, hb3⟩
  have HX3 := Lib.hid (HX2.out.below hb3 (by omega))
  have HY3 := Lib.hid (HY2.out.below hb3 (by omega))
  have HB3 := Lib.hid (HB2.out.trans (hb3.mono HB2.out.size))
  have hz3 : A + 1 < w3.heap.size := by have := hb3.size; omega
  clear r0 r1 r2 hb3 hz2
  go_wp2_with fail
  refine (HPA.out _ (HT.out.below HB3.out)).mono ?_
  rintro e w4 ⟨rfl, hb4⟩
  have HX4 := Lib.hid (HX3.out.below hb4 (by omega))
  have HY4 := Lib.hid (HY3.out.below hb4 (by omega))
  have HB4 := Lib.hid (HB3.out.trans (hb4.mono HB3.out.size))
  have hz4 : A + 1 < w4.heap.size := by have := hb4.size; omega
  clear hb4 hz3
  go_upto_region 9 with (fail)
  have hv5 := Bx.new w4 (.int .i64 k) (.int .i64 n) (.string t) 25
  have hw5 := (Below.refl _ w4).alloc (Nat.le_refl _) (.cells #[.int .i64 k, .int .i64 n, .string t] 25)
  have hz5 : (w4.alloc (.cells #[.int .i64 k, .int .i64 n, .string t] 25)).heap.size = w4.heap.size + 1 := by simp
  generalize w4.alloc (.cells #[.int .i64 k, .int .i64 n, .string t] 25) = w5 at hv5 hw5 hz5 ⊢
  have HX5 := Lib.hid (HX4.out.below hw5 (by omega))
  have HY5 := Lib.hid (HY4.out.below hw5 (by omega))
  have HB5 := Lib.hid (HB4.out.trans (hw5.mono HB4.out.size))
  obtain ⟨u0, u1, u2, _, _, _⟩ := hv5
  obtain ⟨q0, q1, q2, _, _, _⟩ := HX5.out
  have e1 := fun W => ne25_same W k n t
  have hz5' : A + 1 < w5.heap.size := by omega
  clear hw5 hz5 hz4
  go_wp2_with fail
  refine (HRA.out _).mono ?_
  rintro e w6 ⟨rfl, hb6⟩
  have HX6 := Lib.hid (HX5.out.below hb6 (by omega))
  have HY6 := Lib.hid (HY5.out.below hb6 (by omega))
  have HB6 := Lib.hid (HB5.out.trans (hb6.mono HB5.out.size))
  clear u0 u1 u2 q0 q1 q2 e1 hb6 hz5'
  obtain ⟨q0, q1, q2, _, _, _⟩ := HX6.out
  obtain ⟨r0, r1, r2, _, _, _⟩ := HY6.out
  have e2 := fun W => eq25_not W HABX.out
  go_wp2_with fail
  refine (HP.out _ (HT.out.below HB6.out)).mono ?_
  rintro e w7 ⟨rfl, hb7⟩
  have HB7 := Lib.hid (HB6.out.trans (hb7.mono HB6.out.size))
  clear hb7
  go_upto_region 14 with (fail)
  have hv8 := Bx.new w7 (.int .i64 m1) (.int .i64 m2) (.string m3) 25
  have hw8 := (Below.refl _ w7).alloc (Nat.le_refl _) (.cells #[.int .i64 m1, .int .i64 m2, .string m3] 25)
  have hz8 : (w7.alloc (.cells #[.int .i64 m1, .int .i64 m2, .string m3] 25)).heap.size = w7.heap.size + 1 := by simp
  generalize w7.alloc (.cells #[.int .i64 m1, .int .i64 m2, .string m3] 25) = w8 at hv8 hw8 hz8 ⊢
  have HV8 := Lib.hid hv8
  obtain ⟨u0, u1, u2, _, _, _⟩ := hv8
  have HB8 := Lib.hid (HB7.out.trans (hw8.mono HB7.out.size))
  obtain ⟨D, hD⟩ : ∃ D, w7.heap.size = D := ⟨_, rfl⟩
  rw [hD] at u0 u1 u2 hz8 ⊢
  have HD := Lib.hid hD
  clear hw8 hD
  go_wp2_with fail
  refine (HSC.out _ (HT.out.below HB8.out)).mono ?_
  rintro e w9 ⟨rfl, hb9⟩
  have hv9 := HV8.out.below hb9 (by rw [HD.out]; omega)
  rw [HD.out] at hv9
  obtain ⟨y0, y1, y2, _, _, _⟩ := hv9
  have HB9 := Lib.hid (HB8.out.trans (hb9.mono HB8.out.size))
  clear u0 u1 u2 hb9 hz8
  go_wp2_with fail
  refine (HRC.out _).mono ?_
  rintro e w10 ⟨rfl, hb10⟩
  go_wp2_with fail
  go_ret
  exact ⟨rfl, HB9.out.trans (hb10.mono HB9.out.size)⟩

set_option maxHeartbeats 8000000 in
set_option maxRecDepth 100000 in
theorem back_yydb (a b : Vt) (s : ByteArray) (w : World) (htab : Tb w) (ha : a.2.2.size ≤ 281474976710656) (hb : b.2.2.size ≤ 281474976710656) (hs : s.size ≤ 281474976710656) (hbig : (a.2.2.size : Int) + (b.2.2.size : Int) + (s.size : Int) ≤ 400)
    (hra : rightV a = true) (hrb : rightV b = true) (hab : a ≠ b) (hps : parseV s = ((0, 0, ⟨#[]⟩), 7)) :
    Calls Tryd.prog 6 #[.agg #[.int .i64 a.1, .int .i64 a.2.1, .string a.2.2], .agg #[.int .i64 b.1, .int .i64 b.2.1, .string b.2.2], .string s] w fun e w' => e = .returned (.bool true) ∧ Below w.heap.size w w' := by
  have HA := Lib.hid (fun W hW => show_yes hra ha W hW)
  have HB := Lib.hid (fun W hW => show_yes hrb hb W hW)
  have HPA := Lib.hid (fun W hW => parse_to (parse_show hra) (showB_size hra) W hW)
  have HRA := Lib.hid (fun W => right_yes hra ha W)
  have hxy := neS_toList (fun e => hab (show_inj hra hrb e))
  generalize showB a = xa at HA HPA hxy
  generalize showB b = xb at HB hxy
  have HP := Lib.hid (fun W hW => parse_to hps hs W hW)
  obtain ⟨k, n, t⟩ := a
  obtain ⟨k', n', t'⟩ := b
  have HABX := Lib.hid hab
  simp only at ha hb hbig
  have hx := (Bx.new w (.int .i64 k) (.int .i64 n) (.string t) 25).below ((Below.refl _ (w.alloc (.cells #[.int .i64 k, .int .i64 n, .string t] 25))).alloc (Nat.le_refl _) (.cells #[.int .i64 k', .int .i64 n', .string t'] 25)) (by simp)
  have hy := Bx.new (w.alloc (.cells #[.int .i64 k, .int .i64 n, .string t] 25)) (.int .i64 k') (.int .i64 n') (.string t') 25
  have hl := ((Below.refl _ w).alloc (Nat.le_refl _) (.cells #[.int .i64 k, .int .i64 n, .string t] 25)).alloc (by simp) (.cells #[.int .i64 k', .int .i64 n', .string t'] 25)
  have hz : ((w.alloc (.cells #[.int .i64 k, .int .i64 n, .string t] 25)).alloc (.cells #[.int .i64 k', .int .i64 n', .string t'] 25)).heap.size = w.heap.size + 2 := by simp
  rw [World.size_alloc] at hy
  have HS := Lib.hid (And.intro hx (And.intro hy (And.intro hl hz)))
  have HT := Lib.hid htab
  clear hx hy hl hz htab hra hrb hps hab
  go_enter Tryd.func6, Tryd.ntmps6
  go_upto_region 1 with (fail)
  obtain ⟨hx, hy, hl, hz⟩ := HS.out
  generalize (w.alloc (.cells #[.int .i64 k, .int .i64 n, .string t] 25)).alloc (.cells #[.int .i64 k', .int .i64 n', .string t'] 25) = w0 at hx hy hl hz ⊢
  clear HS
  obtain ⟨A, hA⟩ : ∃ A, w.heap.size = A := ⟨_, rfl⟩
  have HAA := Lib.hid hA
  rw [hA] at hx hy hz ⊢
  have HX := Lib.hid hx
  have HY := Lib.hid hy
  have HL := Lib.hid hl
  clear hx hy hl hA
  go_wp2_with fail
  refine (awake_any _ (HT.out.below HL.out)).mono ?_
  rintro e w1 ⟨rfl, hb1⟩
  have HX1 := Lib.hid (HX.out.below hb1 (by omega))
  have HY1 := Lib.hid (HY.out.below hb1 (by omega))
  have HB1 := Lib.hid (HL.out.trans (hb1.mono HL.out.size))
  have hz1 : A + 1 < w1.heap.size := by have := hb1.size; omega
  obtain ⟨q0, q1, q2, _, _, _⟩ := HX1.out
  obtain ⟨r0, r1, r2, _, _, _⟩ := HY1.out
  clear hb1 hz
  go_wp2_with fail
  refine (HA.out _ (HT.out.below HB1.out)).mono ?_
  rintro e w2 ⟨rfl, hb2⟩
  have HX2 := Lib.hid (HX1.out.below hb2 (by omega))
  have HY2 := Lib.hid (HY1.out.below hb2 (by omega))
  have HB2 := Lib.hid (HB1.out.trans (hb2.mono HB1.out.size))
  have hz2 : A + 1 < w2.heap.size := by have := hb2.size; omega
  clear q0 q1 q2 r0 r1 r2 hb2 hz1
  obtain ⟨r0, r1, r2, _, _, _⟩ := HY2.out
  go_wp2_with fail
  refine (HB.out _ (HT.out.below HB2.out)).mono ?_
  rintro e w3 ⟨rfl, hb3⟩
  have HX3 := Lib.hid (HX2.out.below hb3 (by omega))
  have HY3 := Lib.hid (HY2.out.below hb3 (by omega))
  have HB3 := Lib.hid (HB2.out.trans (hb3.mono HB2.out.size))
  have hz3 : A + 1 < w3.heap.size := by have := hb3.size; omega
  clear r0 r1 r2 hb3 hz2
  go_wp2_with fail
  refine (HPA.out _ (HT.out.below HB3.out)).mono ?_
  rintro e w4 ⟨rfl, hb4⟩
  have HX4 := Lib.hid (HX3.out.below hb4 (by omega))
  have HY4 := Lib.hid (HY3.out.below hb4 (by omega))
  have HB4 := Lib.hid (HB3.out.trans (hb4.mono HB3.out.size))
  have hz4 : A + 1 < w4.heap.size := by have := hb4.size; omega
  clear hb4 hz3
  go_upto_region 9 with (fail)
  have hv5 := Bx.new w4 (.int .i64 k) (.int .i64 n) (.string t) 25
  have hw5 := (Below.refl _ w4).alloc (Nat.le_refl _) (.cells #[.int .i64 k, .int .i64 n, .string t] 25)
  have hz5 : (w4.alloc (.cells #[.int .i64 k, .int .i64 n, .string t] 25)).heap.size = w4.heap.size + 1 := by simp
  generalize w4.alloc (.cells #[.int .i64 k, .int .i64 n, .string t] 25) = w5 at hv5 hw5 hz5 ⊢
  have HX5 := Lib.hid (HX4.out.below hw5 (by omega))
  have HY5 := Lib.hid (HY4.out.below hw5 (by omega))
  have HB5 := Lib.hid (HB4.out.trans (hw5.mono HB4.out.size))
  obtain ⟨u0, u1, u2, _, _, _⟩ := hv5
  obtain ⟨q0, q1, q2, _, _, _⟩ := HX5.out
  have e1 := fun W => ne25_same W k n t
  have hz5' : A + 1 < w5.heap.size := by omega
  clear hw5 hz5 hz4
  go_wp2_with fail
  refine (HRA.out _).mono ?_
  rintro e w6 ⟨rfl, hb6⟩
  have HX6 := Lib.hid (HX5.out.below hb6 (by omega))
  have HY6 := Lib.hid (HY5.out.below hb6 (by omega))
  have HB6 := Lib.hid (HB5.out.trans (hb6.mono HB5.out.size))
  clear u0 u1 u2 q0 q1 q2 e1 hb6 hz5'
  obtain ⟨q0, q1, q2, _, _, _⟩ := HX6.out
  obtain ⟨r0, r1, r2, _, _, _⟩ := HY6.out
  have e2 := fun W => eq25_not W HABX.out
  go_wp2_with fail
  refine (HP.out _ (HT.out.below HB6.out)).mono ?_
  rintro e w7 ⟨rfl, hb7⟩
  have HB7 := Lib.hid (HB6.out.trans (hb7.mono HB6.out.size))
  clear hb7
  go_upto_region 14 with (fail)
  have hv8 := Bx.new w7 (.int .i64 0) (.int .i64 0) (.string ⟨#[]⟩) 25
  have hw8 := (Below.refl _ w7).alloc (Nat.le_refl _) (.cells #[.int .i64 0, .int .i64 0, .string ⟨#[]⟩] 25)
  have hz8 : (w7.alloc (.cells #[.int .i64 0, .int .i64 0, .string ⟨#[]⟩] 25)).heap.size = w7.heap.size + 1 := by simp
  generalize w7.alloc (.cells #[.int .i64 0, .int .i64 0, .string ⟨#[]⟩] 25) = w8 at hv8 hw8 hz8 ⊢
  have HV8 := Lib.hid hv8
  obtain ⟨u0, u1, u2, _, _, _⟩ := hv8
  have HB8 := Lib.hid (HB7.out.trans (hw8.mono HB7.out.size))
  obtain ⟨D, hD⟩ : ∃ D, w7.heap.size = D := ⟨_, rfl⟩
  rw [hD] at u0 u1 u2 hz8 ⊢
  have HD := Lib.hid hD
  clear hw8 hD
  have e3 := fun W => eq25_same W 0 0 ⟨#[]⟩
  clear hz8
  go_wp2_with fail
  go_ret
  exact ⟨rfl, HB8.out⟩

set_option maxHeartbeats 8000000 in
set_option maxRecDepth 100000 in
theorem back_ynk (a b : Vt) (s : ByteArray) (w : World) (htab : Tb w) (ha : a.2.2.size ≤ 281474976710656) (hb : b.2.2.size ≤ 281474976710656) (hs : s.size ≤ 281474976710656) (hbig : (a.2.2.size : Int) + (b.2.2.size : Int) + (s.size : Int) ≤ 400)
    (hra : rightV a = true) (hrb : rightV b = false) (c : Vt) (hps : parseV s = (c, 0)) (hrc : rightV c = true) (hsc : showB c = s) :
    Calls Tryd.prog 6 #[.agg #[.int .i64 a.1, .int .i64 a.2.1, .string a.2.2], .agg #[.int .i64 b.1, .int .i64 b.2.1, .string b.2.2], .string s] w fun e w' => e = .returned (.bool true) ∧ Below w.heap.size w w' := by
  have HA := Lib.hid (fun W hW => show_yes hra ha W hW)
  have HB := Lib.hid (fun W hW => show_no hrb hb W hW)
  have HPA := Lib.hid (fun W hW => parse_to (parse_show hra) (showB_size hra) W hW)
  have HRA := Lib.hid (fun W => right_yes hra ha W)
  generalize showB a = xa at HA HPA
  have HP := Lib.hid (fun W hW => parse_to hps hs W hW)
  have HSC := Lib.hid (fun W hW => show_yes hrc (right_size hrc) W hW)
  rw [hsc] at HSC
  have HRC := Lib.hid (fun W => right_yes hrc (right_size hrc) W)
  obtain ⟨m1, m2, m3⟩ := c
  obtain ⟨k, n, t⟩ := a
  obtain ⟨k', n', t'⟩ := b
  simp only at ha hb hbig
  have hx := (Bx.new w (.int .i64 k) (.int .i64 n) (.string t) 25).below ((Below.refl _ (w.alloc (.cells #[.int .i64 k, .int .i64 n, .string t] 25))).alloc (Nat.le_refl _) (.cells #[.int .i64 k', .int .i64 n', .string t'] 25)) (by simp)
  have hy := Bx.new (w.alloc (.cells #[.int .i64 k, .int .i64 n, .string t] 25)) (.int .i64 k') (.int .i64 n') (.string t') 25
  have hl := ((Below.refl _ w).alloc (Nat.le_refl _) (.cells #[.int .i64 k, .int .i64 n, .string t] 25)).alloc (by simp) (.cells #[.int .i64 k', .int .i64 n', .string t'] 25)
  have hz : ((w.alloc (.cells #[.int .i64 k, .int .i64 n, .string t] 25)).alloc (.cells #[.int .i64 k', .int .i64 n', .string t'] 25)).heap.size = w.heap.size + 2 := by simp
  rw [World.size_alloc] at hy
  have HS := Lib.hid (And.intro hx (And.intro hy (And.intro hl hz)))
  have HT := Lib.hid htab
  clear hx hy hl hz htab hra hrb hps hrc hsc
  go_enter Tryd.func6, Tryd.ntmps6
  go_upto_region 1 with (fail)
  obtain ⟨hx, hy, hl, hz⟩ := HS.out
  generalize (w.alloc (.cells #[.int .i64 k, .int .i64 n, .string t] 25)).alloc (.cells #[.int .i64 k', .int .i64 n', .string t'] 25) = w0 at hx hy hl hz ⊢
  clear HS
  obtain ⟨A, hA⟩ : ∃ A, w.heap.size = A := ⟨_, rfl⟩
  have HAA := Lib.hid hA
  rw [hA] at hx hy hz ⊢
  have HX := Lib.hid hx
  have HY := Lib.hid hy
  have HL := Lib.hid hl
  clear hx hy hl hA
  go_wp2_with fail
  refine (awake_any _ (HT.out.below HL.out)).mono ?_
  rintro e w1 ⟨rfl, hb1⟩
  have HX1 := Lib.hid (HX.out.below hb1 (by omega))
  have HY1 := Lib.hid (HY.out.below hb1 (by omega))
  have HB1 := Lib.hid (HL.out.trans (hb1.mono HL.out.size))
  have hz1 : A + 1 < w1.heap.size := by have := hb1.size; omega
  obtain ⟨q0, q1, q2, _, _, _⟩ := HX1.out
  obtain ⟨r0, r1, r2, _, _, _⟩ := HY1.out
  clear hb1 hz
  go_wp2_with fail
  refine (HA.out _ (HT.out.below HB1.out)).mono ?_
  rintro e w2 ⟨rfl, hb2⟩
  have HX2 := Lib.hid (HX1.out.below hb2 (by omega))
  have HY2 := Lib.hid (HY1.out.below hb2 (by omega))
  have HB2 := Lib.hid (HB1.out.trans (hb2.mono HB1.out.size))
  have hz2 : A + 1 < w2.heap.size := by have := hb2.size; omega
  clear q0 q1 q2 r0 r1 r2 hb2 hz1
  obtain ⟨r0, r1, r2, _, _, _⟩ := HY2.out
  go_wp2_with fail
  refine (HB.out _ (HT.out.below HB2.out)).mono ?_
  rintro e w3 ⟨rfl, hb3⟩
  have HX3 := Lib.hid (HX2.out.below hb3 (by omega))
  have HY3 := Lib.hid (HY2.out.below hb3 (by omega))
  have HB3 := Lib.hid (HB2.out.trans (hb3.mono HB2.out.size))
  have hz3 : A + 1 < w3.heap.size := by have := hb3.size; omega
  clear r0 r1 r2 hb3 hz2
  go_wp2_with fail
  refine (HPA.out _ (HT.out.below HB3.out)).mono ?_
  rintro e w4 ⟨rfl, hb4⟩
  have HX4 := Lib.hid (HX3.out.below hb4 (by omega))
  have HY4 := Lib.hid (HY3.out.below hb4 (by omega))
  have HB4 := Lib.hid (HB3.out.trans (hb4.mono HB3.out.size))
  have hz4 : A + 1 < w4.heap.size := by have := hb4.size; omega
  clear hb4 hz3
  go_upto_region 9 with (fail)
  have hv5 := Bx.new w4 (.int .i64 k) (.int .i64 n) (.string t) 25
  have hw5 := (Below.refl _ w4).alloc (Nat.le_refl _) (.cells #[.int .i64 k, .int .i64 n, .string t] 25)
  have hz5 : (w4.alloc (.cells #[.int .i64 k, .int .i64 n, .string t] 25)).heap.size = w4.heap.size + 1 := by simp
  generalize w4.alloc (.cells #[.int .i64 k, .int .i64 n, .string t] 25) = w5 at hv5 hw5 hz5 ⊢
  have HX5 := Lib.hid (HX4.out.below hw5 (by omega))
  have HY5 := Lib.hid (HY4.out.below hw5 (by omega))
  have HB5 := Lib.hid (HB4.out.trans (hw5.mono HB4.out.size))
  obtain ⟨u0, u1, u2, _, _, _⟩ := hv5
  obtain ⟨q0, q1, q2, _, _, _⟩ := HX5.out
  have e1 := fun W => ne25_same W k n t
  have hz5' : A + 1 < w5.heap.size := by omega
  clear hw5 hz5 hz4
  go_wp2_with fail
  refine (HRA.out _).mono ?_
  rintro e w6 ⟨rfl, hb6⟩
  have HX6 := Lib.hid (HX5.out.below hb6 (by omega))
  have HY6 := Lib.hid (HY5.out.below hb6 (by omega))
  have HB6 := Lib.hid (HB5.out.trans (hb6.mono HB5.out.size))
  clear u0 u1 u2 q0 q1 q2 e1 hb6 hz5'
  obtain ⟨q0, q1, q2, _, _, _⟩ := HX6.out
  obtain ⟨r0, r1, r2, _, _, _⟩ := HY6.out
  go_wp2_with fail
  refine (HP.out _ (HT.out.below HB6.out)).mono ?_
  rintro e w7 ⟨rfl, hb7⟩
  have HB7 := Lib.hid (HB6.out.trans (hb7.mono HB6.out.size))
  clear hb7
  go_upto_region 14 with (fail)
  have hv8 := Bx.new w7 (.int .i64 m1) (.int .i64 m2) (.string m3) 25
  have hw8 := (Below.refl _ w7).alloc (Nat.le_refl _) (.cells #[.int .i64 m1, .int .i64 m2, .string m3] 25)
  have hz8 : (w7.alloc (.cells #[.int .i64 m1, .int .i64 m2, .string m3] 25)).heap.size = w7.heap.size + 1 := by simp
  generalize w7.alloc (.cells #[.int .i64 m1, .int .i64 m2, .string m3] 25) = w8 at hv8 hw8 hz8 ⊢
  have HV8 := Lib.hid hv8
  obtain ⟨u0, u1, u2, _, _, _⟩ := hv8
  have HB8 := Lib.hid (HB7.out.trans (hw8.mono HB7.out.size))
  obtain ⟨D, hD⟩ : ∃ D, w7.heap.size = D := ⟨_, rfl⟩
  rw [hD] at u0 u1 u2 hz8 ⊢
  have HD := Lib.hid hD
  clear hw8 hD
  go_wp2_with fail
  refine (HSC.out _ (HT.out.below HB8.out)).mono ?_
  rintro e w9 ⟨rfl, hb9⟩
  have hv9 := HV8.out.below hb9 (by rw [HD.out]; omega)
  rw [HD.out] at hv9
  obtain ⟨y0, y1, y2, _, _, _⟩ := hv9
  have HB9 := Lib.hid (HB8.out.trans (hb9.mono HB8.out.size))
  clear u0 u1 u2 hb9 hz8
  go_wp2_with fail
  refine (HRC.out _).mono ?_
  rintro e w10 ⟨rfl, hb10⟩
  go_wp2_with fail
  go_ret
  exact ⟨rfl, HB9.out.trans (hb10.mono HB9.out.size)⟩

set_option maxHeartbeats 8000000 in
set_option maxRecDepth 100000 in
theorem back_ynb (a b : Vt) (s : ByteArray) (w : World) (htab : Tb w) (ha : a.2.2.size ≤ 281474976710656) (hb : b.2.2.size ≤ 281474976710656) (hs : s.size ≤ 281474976710656) (hbig : (a.2.2.size : Int) + (b.2.2.size : Int) + (s.size : Int) ≤ 400)
    (hra : rightV a = true) (hrb : rightV b = false) (hps : parseV s = ((0, 0, ⟨#[]⟩), 7)) :
    Calls Tryd.prog 6 #[.agg #[.int .i64 a.1, .int .i64 a.2.1, .string a.2.2], .agg #[.int .i64 b.1, .int .i64 b.2.1, .string b.2.2], .string s] w fun e w' => e = .returned (.bool true) ∧ Below w.heap.size w w' := by
  have HA := Lib.hid (fun W hW => show_yes hra ha W hW)
  have HB := Lib.hid (fun W hW => show_no hrb hb W hW)
  have HPA := Lib.hid (fun W hW => parse_to (parse_show hra) (showB_size hra) W hW)
  have HRA := Lib.hid (fun W => right_yes hra ha W)
  generalize showB a = xa at HA HPA
  have HP := Lib.hid (fun W hW => parse_to hps hs W hW)
  obtain ⟨k, n, t⟩ := a
  obtain ⟨k', n', t'⟩ := b
  simp only at ha hb hbig
  have hx := (Bx.new w (.int .i64 k) (.int .i64 n) (.string t) 25).below ((Below.refl _ (w.alloc (.cells #[.int .i64 k, .int .i64 n, .string t] 25))).alloc (Nat.le_refl _) (.cells #[.int .i64 k', .int .i64 n', .string t'] 25)) (by simp)
  have hy := Bx.new (w.alloc (.cells #[.int .i64 k, .int .i64 n, .string t] 25)) (.int .i64 k') (.int .i64 n') (.string t') 25
  have hl := ((Below.refl _ w).alloc (Nat.le_refl _) (.cells #[.int .i64 k, .int .i64 n, .string t] 25)).alloc (by simp) (.cells #[.int .i64 k', .int .i64 n', .string t'] 25)
  have hz : ((w.alloc (.cells #[.int .i64 k, .int .i64 n, .string t] 25)).alloc (.cells #[.int .i64 k', .int .i64 n', .string t'] 25)).heap.size = w.heap.size + 2 := by simp
  rw [World.size_alloc] at hy
  have HS := Lib.hid (And.intro hx (And.intro hy (And.intro hl hz)))
  have HT := Lib.hid htab
  clear hx hy hl hz htab hra hrb hps
  go_enter Tryd.func6, Tryd.ntmps6
  go_upto_region 1 with (fail)
  obtain ⟨hx, hy, hl, hz⟩ := HS.out
  generalize (w.alloc (.cells #[.int .i64 k, .int .i64 n, .string t] 25)).alloc (.cells #[.int .i64 k', .int .i64 n', .string t'] 25) = w0 at hx hy hl hz ⊢
  clear HS
  obtain ⟨A, hA⟩ : ∃ A, w.heap.size = A := ⟨_, rfl⟩
  have HAA := Lib.hid hA
  rw [hA] at hx hy hz ⊢
  have HX := Lib.hid hx
  have HY := Lib.hid hy
  have HL := Lib.hid hl
  clear hx hy hl hA
  go_wp2_with fail
  refine (awake_any _ (HT.out.below HL.out)).mono ?_
  rintro e w1 ⟨rfl, hb1⟩
  have HX1 := Lib.hid (HX.out.below hb1 (by omega))
  have HY1 := Lib.hid (HY.out.below hb1 (by omega))
  have HB1 := Lib.hid (HL.out.trans (hb1.mono HL.out.size))
  have hz1 : A + 1 < w1.heap.size := by have := hb1.size; omega
  obtain ⟨q0, q1, q2, _, _, _⟩ := HX1.out
  obtain ⟨r0, r1, r2, _, _, _⟩ := HY1.out
  clear hb1 hz
  go_wp2_with fail
  refine (HA.out _ (HT.out.below HB1.out)).mono ?_
  rintro e w2 ⟨rfl, hb2⟩
  have HX2 := Lib.hid (HX1.out.below hb2 (by omega))
  have HY2 := Lib.hid (HY1.out.below hb2 (by omega))
  have HB2 := Lib.hid (HB1.out.trans (hb2.mono HB1.out.size))
  have hz2 : A + 1 < w2.heap.size := by have := hb2.size; omega
  clear q0 q1 q2 r0 r1 r2 hb2 hz1
  obtain ⟨r0, r1, r2, _, _, _⟩ := HY2.out
  go_wp2_with fail
  refine (HB.out _ (HT.out.below HB2.out)).mono ?_
  rintro e w3 ⟨rfl, hb3⟩
  have HX3 := Lib.hid (HX2.out.below hb3 (by omega))
  have HY3 := Lib.hid (HY2.out.below hb3 (by omega))
  have HB3 := Lib.hid (HB2.out.trans (hb3.mono HB2.out.size))
  have hz3 : A + 1 < w3.heap.size := by have := hb3.size; omega
  clear r0 r1 r2 hb3 hz2
  go_wp2_with fail
  refine (HPA.out _ (HT.out.below HB3.out)).mono ?_
  rintro e w4 ⟨rfl, hb4⟩
  have HX4 := Lib.hid (HX3.out.below hb4 (by omega))
  have HY4 := Lib.hid (HY3.out.below hb4 (by omega))
  have HB4 := Lib.hid (HB3.out.trans (hb4.mono HB3.out.size))
  have hz4 : A + 1 < w4.heap.size := by have := hb4.size; omega
  clear hb4 hz3
  go_upto_region 9 with (fail)
  have hv5 := Bx.new w4 (.int .i64 k) (.int .i64 n) (.string t) 25
  have hw5 := (Below.refl _ w4).alloc (Nat.le_refl _) (.cells #[.int .i64 k, .int .i64 n, .string t] 25)
  have hz5 : (w4.alloc (.cells #[.int .i64 k, .int .i64 n, .string t] 25)).heap.size = w4.heap.size + 1 := by simp
  generalize w4.alloc (.cells #[.int .i64 k, .int .i64 n, .string t] 25) = w5 at hv5 hw5 hz5 ⊢
  have HX5 := Lib.hid (HX4.out.below hw5 (by omega))
  have HY5 := Lib.hid (HY4.out.below hw5 (by omega))
  have HB5 := Lib.hid (HB4.out.trans (hw5.mono HB4.out.size))
  obtain ⟨u0, u1, u2, _, _, _⟩ := hv5
  obtain ⟨q0, q1, q2, _, _, _⟩ := HX5.out
  have e1 := fun W => ne25_same W k n t
  have hz5' : A + 1 < w5.heap.size := by omega
  clear hw5 hz5 hz4
  go_wp2_with fail
  refine (HRA.out _).mono ?_
  rintro e w6 ⟨rfl, hb6⟩
  have HX6 := Lib.hid (HX5.out.below hb6 (by omega))
  have HY6 := Lib.hid (HY5.out.below hb6 (by omega))
  have HB6 := Lib.hid (HB5.out.trans (hb6.mono HB5.out.size))
  clear u0 u1 u2 q0 q1 q2 e1 hb6 hz5'
  obtain ⟨q0, q1, q2, _, _, _⟩ := HX6.out
  obtain ⟨r0, r1, r2, _, _, _⟩ := HY6.out
  go_wp2_with fail
  refine (HP.out _ (HT.out.below HB6.out)).mono ?_
  rintro e w7 ⟨rfl, hb7⟩
  have HB7 := Lib.hid (HB6.out.trans (hb7.mono HB6.out.size))
  clear hb7
  go_upto_region 14 with (fail)
  have hv8 := Bx.new w7 (.int .i64 0) (.int .i64 0) (.string ⟨#[]⟩) 25
  have hw8 := (Below.refl _ w7).alloc (Nat.le_refl _) (.cells #[.int .i64 0, .int .i64 0, .string ⟨#[]⟩] 25)
  have hz8 : (w7.alloc (.cells #[.int .i64 0, .int .i64 0, .string ⟨#[]⟩] 25)).heap.size = w7.heap.size + 1 := by simp
  generalize w7.alloc (.cells #[.int .i64 0, .int .i64 0, .string ⟨#[]⟩] 25) = w8 at hv8 hw8 hz8 ⊢
  have HV8 := Lib.hid hv8
  obtain ⟨u0, u1, u2, _, _, _⟩ := hv8
  have HB8 := Lib.hid (HB7.out.trans (hw8.mono HB7.out.size))
  obtain ⟨D, hD⟩ : ∃ D, w7.heap.size = D := ⟨_, rfl⟩
  rw [hD] at u0 u1 u2 hz8 ⊢
  have HD := Lib.hid hD
  clear hw8 hD
  have e3 := fun W => eq25_same W 0 0 ⟨#[]⟩
  clear hz8
  go_wp2_with fail
  go_ret
  exact ⟨rfl, HB8.out⟩

set_option maxHeartbeats 8000000 in
set_option maxRecDepth 100000 in
theorem back_nyk (a b : Vt) (s : ByteArray) (w : World) (htab : Tb w) (ha : a.2.2.size ≤ 281474976710656) (hb : b.2.2.size ≤ 281474976710656) (hs : s.size ≤ 281474976710656) (hbig : (a.2.2.size : Int) + (b.2.2.size : Int) + (s.size : Int) ≤ 400)
    (hra : rightV a = false) (hrb : rightV b = true) (c : Vt) (hps : parseV s = (c, 0)) (hrc : rightV c = true) (hsc : showB c = s) :
    Calls Tryd.prog 6 #[.agg #[.int .i64 a.1, .int .i64 a.2.1, .string a.2.2], .agg #[.int .i64 b.1, .int .i64 b.2.1, .string b.2.2], .string s] w fun e w' => e = .returned (.bool true) ∧ Below w.heap.size w w' := by
  have HA := Lib.hid (fun W hW => show_no hra ha W hW)
  have HB := Lib.hid (fun W hW => show_yes hrb hb W hW)
  generalize showB b = xb at HB
  have HP := Lib.hid (fun W hW => parse_to hps hs W hW)
  have HSC := Lib.hid (fun W hW => show_yes hrc (right_size hrc) W hW)
  rw [hsc] at HSC
  have HRC := Lib.hid (fun W => right_yes hrc (right_size hrc) W)
  obtain ⟨m1, m2, m3⟩ := c
  obtain ⟨k, n, t⟩ := a
  obtain ⟨k', n', t'⟩ := b
  simp only at ha hb hbig
  have hx := (Bx.new w (.int .i64 k) (.int .i64 n) (.string t) 25).below ((Below.refl _ (w.alloc (.cells #[.int .i64 k, .int .i64 n, .string t] 25))).alloc (Nat.le_refl _) (.cells #[.int .i64 k', .int .i64 n', .string t'] 25)) (by simp)
  have hy := Bx.new (w.alloc (.cells #[.int .i64 k, .int .i64 n, .string t] 25)) (.int .i64 k') (.int .i64 n') (.string t') 25
  have hl := ((Below.refl _ w).alloc (Nat.le_refl _) (.cells #[.int .i64 k, .int .i64 n, .string t] 25)).alloc (by simp) (.cells #[.int .i64 k', .int .i64 n', .string t'] 25)
  have hz : ((w.alloc (.cells #[.int .i64 k, .int .i64 n, .string t] 25)).alloc (.cells #[.int .i64 k', .int .i64 n', .string t'] 25)).heap.size = w.heap.size + 2 := by simp
  rw [World.size_alloc] at hy
  have HS := Lib.hid (And.intro hx (And.intro hy (And.intro hl hz)))
  have HT := Lib.hid htab
  clear hx hy hl hz htab hra hrb hps hrc hsc
  go_enter Tryd.func6, Tryd.ntmps6
  go_upto_region 1 with (fail)
  obtain ⟨hx, hy, hl, hz⟩ := HS.out
  generalize (w.alloc (.cells #[.int .i64 k, .int .i64 n, .string t] 25)).alloc (.cells #[.int .i64 k', .int .i64 n', .string t'] 25) = w0 at hx hy hl hz ⊢
  clear HS
  obtain ⟨A, hA⟩ : ∃ A, w.heap.size = A := ⟨_, rfl⟩
  have HAA := Lib.hid hA
  rw [hA] at hx hy hz ⊢
  have HX := Lib.hid hx
  have HY := Lib.hid hy
  have HL := Lib.hid hl
  clear hx hy hl hA
  go_wp2_with fail
  refine (awake_any _ (HT.out.below HL.out)).mono ?_
  rintro e w1 ⟨rfl, hb1⟩
  have HX1 := Lib.hid (HX.out.below hb1 (by omega))
  have HY1 := Lib.hid (HY.out.below hb1 (by omega))
  have HB1 := Lib.hid (HL.out.trans (hb1.mono HL.out.size))
  have hz1 : A + 1 < w1.heap.size := by have := hb1.size; omega
  obtain ⟨q0, q1, q2, _, _, _⟩ := HX1.out
  obtain ⟨r0, r1, r2, _, _, _⟩ := HY1.out
  clear hb1 hz
  go_wp2_with fail
  refine (HA.out _ (HT.out.below HB1.out)).mono ?_
  rintro e w2 ⟨rfl, hb2⟩
  have HX2 := Lib.hid (HX1.out.below hb2 (by omega))
  have HY2 := Lib.hid (HY1.out.below hb2 (by omega))
  have HB2 := Lib.hid (HB1.out.trans (hb2.mono HB1.out.size))
  have hz2 : A + 1 < w2.heap.size := by have := hb2.size; omega
  clear q0 q1 q2 r0 r1 r2 hb2 hz1
  obtain ⟨r0, r1, r2, _, _, _⟩ := HY2.out
  go_wp2_with fail
  refine (HB.out _ (HT.out.below HB2.out)).mono ?_
  rintro e w3 ⟨rfl, hb3⟩
  have HX3 := Lib.hid (HX2.out.below hb3 (by omega))
  have HY3 := Lib.hid (HY2.out.below hb3 (by omega))
  have HB3 := Lib.hid (HB2.out.trans (hb3.mono HB2.out.size))
  have hz3 : A + 1 < w3.heap.size := by have := hb3.size; omega
  clear r0 r1 r2 hb3 hz2
  go_wp2_with fail
  refine (HP.out _ (HT.out.below HB3.out)).mono ?_
  rintro e w7 ⟨rfl, hb7⟩
  have HB7 := Lib.hid (HB3.out.trans (hb7.mono HB3.out.size))
  clear hb7
  go_upto_region 14 with (fail)
  have hv8 := Bx.new w7 (.int .i64 m1) (.int .i64 m2) (.string m3) 25
  have hw8 := (Below.refl _ w7).alloc (Nat.le_refl _) (.cells #[.int .i64 m1, .int .i64 m2, .string m3] 25)
  have hz8 : (w7.alloc (.cells #[.int .i64 m1, .int .i64 m2, .string m3] 25)).heap.size = w7.heap.size + 1 := by simp
  generalize w7.alloc (.cells #[.int .i64 m1, .int .i64 m2, .string m3] 25) = w8 at hv8 hw8 hz8 ⊢
  have HV8 := Lib.hid hv8
  obtain ⟨u0, u1, u2, _, _, _⟩ := hv8
  have HB8 := Lib.hid (HB7.out.trans (hw8.mono HB7.out.size))
  obtain ⟨D, hD⟩ : ∃ D, w7.heap.size = D := ⟨_, rfl⟩
  rw [hD] at u0 u1 u2 hz8 ⊢
  have HD := Lib.hid hD
  clear hw8 hD
  go_wp2_with fail
  refine (HSC.out _ (HT.out.below HB8.out)).mono ?_
  rintro e w9 ⟨rfl, hb9⟩
  have hv9 := HV8.out.below hb9 (by rw [HD.out]; omega)
  rw [HD.out] at hv9
  obtain ⟨y0, y1, y2, _, _, _⟩ := hv9
  have HB9 := Lib.hid (HB8.out.trans (hb9.mono HB8.out.size))
  clear u0 u1 u2 hb9 hz8
  go_wp2_with fail
  refine (HRC.out _).mono ?_
  rintro e w10 ⟨rfl, hb10⟩
  go_wp2_with fail
  go_ret
  exact ⟨rfl, HB9.out.trans (hb10.mono HB9.out.size)⟩

set_option maxHeartbeats 8000000 in
set_option maxRecDepth 100000 in
theorem back_nyb (a b : Vt) (s : ByteArray) (w : World) (htab : Tb w) (ha : a.2.2.size ≤ 281474976710656) (hb : b.2.2.size ≤ 281474976710656) (hs : s.size ≤ 281474976710656) (hbig : (a.2.2.size : Int) + (b.2.2.size : Int) + (s.size : Int) ≤ 400)
    (hra : rightV a = false) (hrb : rightV b = true) (hps : parseV s = ((0, 0, ⟨#[]⟩), 7)) :
    Calls Tryd.prog 6 #[.agg #[.int .i64 a.1, .int .i64 a.2.1, .string a.2.2], .agg #[.int .i64 b.1, .int .i64 b.2.1, .string b.2.2], .string s] w fun e w' => e = .returned (.bool true) ∧ Below w.heap.size w w' := by
  have HA := Lib.hid (fun W hW => show_no hra ha W hW)
  have HB := Lib.hid (fun W hW => show_yes hrb hb W hW)
  generalize showB b = xb at HB
  have HP := Lib.hid (fun W hW => parse_to hps hs W hW)
  obtain ⟨k, n, t⟩ := a
  obtain ⟨k', n', t'⟩ := b
  simp only at ha hb hbig
  have hx := (Bx.new w (.int .i64 k) (.int .i64 n) (.string t) 25).below ((Below.refl _ (w.alloc (.cells #[.int .i64 k, .int .i64 n, .string t] 25))).alloc (Nat.le_refl _) (.cells #[.int .i64 k', .int .i64 n', .string t'] 25)) (by simp)
  have hy := Bx.new (w.alloc (.cells #[.int .i64 k, .int .i64 n, .string t] 25)) (.int .i64 k') (.int .i64 n') (.string t') 25
  have hl := ((Below.refl _ w).alloc (Nat.le_refl _) (.cells #[.int .i64 k, .int .i64 n, .string t] 25)).alloc (by simp) (.cells #[.int .i64 k', .int .i64 n', .string t'] 25)
  have hz : ((w.alloc (.cells #[.int .i64 k, .int .i64 n, .string t] 25)).alloc (.cells #[.int .i64 k', .int .i64 n', .string t'] 25)).heap.size = w.heap.size + 2 := by simp
  rw [World.size_alloc] at hy
  have HS := Lib.hid (And.intro hx (And.intro hy (And.intro hl hz)))
  have HT := Lib.hid htab
  clear hx hy hl hz htab hra hrb hps
  go_enter Tryd.func6, Tryd.ntmps6
  go_upto_region 1 with (fail)
  obtain ⟨hx, hy, hl, hz⟩ := HS.out
  generalize (w.alloc (.cells #[.int .i64 k, .int .i64 n, .string t] 25)).alloc (.cells #[.int .i64 k', .int .i64 n', .string t'] 25) = w0 at hx hy hl hz ⊢
  clear HS
  obtain ⟨A, hA⟩ : ∃ A, w.heap.size = A := ⟨_, rfl⟩
  have HAA := Lib.hid hA
  rw [hA] at hx hy hz ⊢
  have HX := Lib.hid hx
  have HY := Lib.hid hy
  have HL := Lib.hid hl
  clear hx hy hl hA
  go_wp2_with fail
  refine (awake_any _ (HT.out.below HL.out)).mono ?_
  rintro e w1 ⟨rfl, hb1⟩
  have HX1 := Lib.hid (HX.out.below hb1 (by omega))
  have HY1 := Lib.hid (HY.out.below hb1 (by omega))
  have HB1 := Lib.hid (HL.out.trans (hb1.mono HL.out.size))
  have hz1 : A + 1 < w1.heap.size := by have := hb1.size; omega
  obtain ⟨q0, q1, q2, _, _, _⟩ := HX1.out
  obtain ⟨r0, r1, r2, _, _, _⟩ := HY1.out
  clear hb1 hz
  go_wp2_with fail
  refine (HA.out _ (HT.out.below HB1.out)).mono ?_
  rintro e w2 ⟨rfl, hb2⟩
  have HX2 := Lib.hid (HX1.out.below hb2 (by omega))
  have HY2 := Lib.hid (HY1.out.below hb2 (by omega))
  have HB2 := Lib.hid (HB1.out.trans (hb2.mono HB1.out.size))
  have hz2 : A + 1 < w2.heap.size := by have := hb2.size; omega
  clear q0 q1 q2 r0 r1 r2 hb2 hz1
  obtain ⟨r0, r1, r2, _, _, _⟩ := HY2.out
  go_wp2_with fail
  refine (HB.out _ (HT.out.below HB2.out)).mono ?_
  rintro e w3 ⟨rfl, hb3⟩
  have HX3 := Lib.hid (HX2.out.below hb3 (by omega))
  have HY3 := Lib.hid (HY2.out.below hb3 (by omega))
  have HB3 := Lib.hid (HB2.out.trans (hb3.mono HB2.out.size))
  have hz3 : A + 1 < w3.heap.size := by have := hb3.size; omega
  clear r0 r1 r2 hb3 hz2
  go_wp2_with fail
  refine (HP.out _ (HT.out.below HB3.out)).mono ?_
  rintro e w7 ⟨rfl, hb7⟩
  have HB7 := Lib.hid (HB3.out.trans (hb7.mono HB3.out.size))
  clear hb7
  go_upto_region 14 with (fail)
  have hv8 := Bx.new w7 (.int .i64 0) (.int .i64 0) (.string ⟨#[]⟩) 25
  have hw8 := (Below.refl _ w7).alloc (Nat.le_refl _) (.cells #[.int .i64 0, .int .i64 0, .string ⟨#[]⟩] 25)
  have hz8 : (w7.alloc (.cells #[.int .i64 0, .int .i64 0, .string ⟨#[]⟩] 25)).heap.size = w7.heap.size + 1 := by simp
  generalize w7.alloc (.cells #[.int .i64 0, .int .i64 0, .string ⟨#[]⟩] 25) = w8 at hv8 hw8 hz8 ⊢
  have HV8 := Lib.hid hv8
  obtain ⟨u0, u1, u2, _, _, _⟩ := hv8
  have HB8 := Lib.hid (HB7.out.trans (hw8.mono HB7.out.size))
  obtain ⟨D, hD⟩ : ∃ D, w7.heap.size = D := ⟨_, rfl⟩
  rw [hD] at u0 u1 u2 hz8 ⊢
  have HD := Lib.hid hD
  clear hw8 hD
  have e3 := fun W => eq25_same W 0 0 ⟨#[]⟩
  clear hz8
  go_wp2_with fail
  go_ret
  exact ⟨rfl, HB8.out⟩

set_option maxHeartbeats 8000000 in
set_option maxRecDepth 100000 in
theorem back_nnk (a b : Vt) (s : ByteArray) (w : World) (htab : Tb w) (ha : a.2.2.size ≤ 281474976710656) (hb : b.2.2.size ≤ 281474976710656) (hs : s.size ≤ 281474976710656) (hbig : (a.2.2.size : Int) + (b.2.2.size : Int) + (s.size : Int) ≤ 400)
    (hra : rightV a = false) (hrb : rightV b = false) (c : Vt) (hps : parseV s = (c, 0)) (hrc : rightV c = true) (hsc : showB c = s) :
    Calls Tryd.prog 6 #[.agg #[.int .i64 a.1, .int .i64 a.2.1, .string a.2.2], .agg #[.int .i64 b.1, .int .i64 b.2.1, .string b.2.2], .string s] w fun e w' => e = .returned (.bool true) ∧ Below w.heap.size w w' := by
  have HA := Lib.hid (fun W hW => show_no hra ha W hW)
  have HB := Lib.hid (fun W hW => show_no hrb hb W hW)
  have HP := Lib.hid (fun W hW => parse_to hps hs W hW)
  have HSC := Lib.hid (fun W hW => show_yes hrc (right_size hrc) W hW)
  rw [hsc] at HSC
  have HRC := Lib.hid (fun W => right_yes hrc (right_size hrc) W)
  obtain ⟨m1, m2, m3⟩ := c
  obtain ⟨k, n, t⟩ := a
  obtain ⟨k', n', t'⟩ := b
  simp only at ha hb hbig
  have hx := (Bx.new w (.int .i64 k) (.int .i64 n) (.string t) 25).below ((Below.refl _ (w.alloc (.cells #[.int .i64 k, .int .i64 n, .string t] 25))).alloc (Nat.le_refl _) (.cells #[.int .i64 k', .int .i64 n', .string t'] 25)) (by simp)
  have hy := Bx.new (w.alloc (.cells #[.int .i64 k, .int .i64 n, .string t] 25)) (.int .i64 k') (.int .i64 n') (.string t') 25
  have hl := ((Below.refl _ w).alloc (Nat.le_refl _) (.cells #[.int .i64 k, .int .i64 n, .string t] 25)).alloc (by simp) (.cells #[.int .i64 k', .int .i64 n', .string t'] 25)
  have hz : ((w.alloc (.cells #[.int .i64 k, .int .i64 n, .string t] 25)).alloc (.cells #[.int .i64 k', .int .i64 n', .string t'] 25)).heap.size = w.heap.size + 2 := by simp
  rw [World.size_alloc] at hy
  have HS := Lib.hid (And.intro hx (And.intro hy (And.intro hl hz)))
  have HT := Lib.hid htab
  clear hx hy hl hz htab hra hrb hps hrc hsc
  go_enter Tryd.func6, Tryd.ntmps6
  go_upto_region 1 with (fail)
  obtain ⟨hx, hy, hl, hz⟩ := HS.out
  generalize (w.alloc (.cells #[.int .i64 k, .int .i64 n, .string t] 25)).alloc (.cells #[.int .i64 k', .int .i64 n', .string t'] 25) = w0 at hx hy hl hz ⊢
  clear HS
  obtain ⟨A, hA⟩ : ∃ A, w.heap.size = A := ⟨_, rfl⟩
  have HAA := Lib.hid hA
  rw [hA] at hx hy hz ⊢
  have HX := Lib.hid hx
  have HY := Lib.hid hy
  have HL := Lib.hid hl
  clear hx hy hl hA
  go_wp2_with fail
  refine (awake_any _ (HT.out.below HL.out)).mono ?_
  rintro e w1 ⟨rfl, hb1⟩
  have HX1 := Lib.hid (HX.out.below hb1 (by omega))
  have HY1 := Lib.hid (HY.out.below hb1 (by omega))
  have HB1 := Lib.hid (HL.out.trans (hb1.mono HL.out.size))
  have hz1 : A + 1 < w1.heap.size := by have := hb1.size; omega
  obtain ⟨q0, q1, q2, _, _, _⟩ := HX1.out
  obtain ⟨r0, r1, r2, _, _, _⟩ := HY1.out
  clear hb1 hz
  go_wp2_with fail
  refine (HA.out _ (HT.out.below HB1.out)).mono ?_
  rintro e w2 ⟨rfl, hb2⟩
  have HX2 := Lib.hid (HX1.out.below hb2 (by omega))
  have HY2 := Lib.hid (HY1.out.below hb2 (by omega))
  have HB2 := Lib.hid (HB1.out.trans (hb2.mono HB1.out.size))
  have hz2 : A + 1 < w2.heap.size := by have := hb2.size; omega
  clear q0 q1 q2 r0 r1 r2 hb2 hz1
  obtain ⟨r0, r1, r2, _, _, _⟩ := HY2.out
  go_wp2_with fail
  refine (HB.out _ (HT.out.below HB2.out)).mono ?_
  rintro e w3 ⟨rfl, hb3⟩
  have HX3 := Lib.hid (HX2.out.below hb3 (by omega))
  have HY3 := Lib.hid (HY2.out.below hb3 (by omega))
  have HB3 := Lib.hid (HB2.out.trans (hb3.mono HB2.out.size))
  have hz3 : A + 1 < w3.heap.size := by have := hb3.size; omega
  clear r0 r1 r2 hb3 hz2
  go_wp2_with fail
  refine (HP.out _ (HT.out.below HB3.out)).mono ?_
  rintro e w7 ⟨rfl, hb7⟩
  have HB7 := Lib.hid (HB3.out.trans (hb7.mono HB3.out.size))
  clear hb7
  go_upto_region 14 with (fail)
  have hv8 := Bx.new w7 (.int .i64 m1) (.int .i64 m2) (.string m3) 25
  have hw8 := (Below.refl _ w7).alloc (Nat.le_refl _) (.cells #[.int .i64 m1, .int .i64 m2, .string m3] 25)
  have hz8 : (w7.alloc (.cells #[.int .i64 m1, .int .i64 m2, .string m3] 25)).heap.size = w7.heap.size + 1 := by simp
  generalize w7.alloc (.cells #[.int .i64 m1, .int .i64 m2, .string m3] 25) = w8 at hv8 hw8 hz8 ⊢
  have HV8 := Lib.hid hv8
  obtain ⟨u0, u1, u2, _, _, _⟩ := hv8
  have HB8 := Lib.hid (HB7.out.trans (hw8.mono HB7.out.size))
  obtain ⟨D, hD⟩ : ∃ D, w7.heap.size = D := ⟨_, rfl⟩
  rw [hD] at u0 u1 u2 hz8 ⊢
  have HD := Lib.hid hD
  clear hw8 hD
  go_wp2_with fail
  refine (HSC.out _ (HT.out.below HB8.out)).mono ?_
  rintro e w9 ⟨rfl, hb9⟩
  have hv9 := HV8.out.below hb9 (by rw [HD.out]; omega)
  rw [HD.out] at hv9
  obtain ⟨y0, y1, y2, _, _, _⟩ := hv9
  have HB9 := Lib.hid (HB8.out.trans (hb9.mono HB8.out.size))
  clear u0 u1 u2 hb9 hz8
  go_wp2_with fail
  refine (HRC.out _).mono ?_
  rintro e w10 ⟨rfl, hb10⟩
  go_wp2_with fail
  go_ret
  exact ⟨rfl, HB9.out.trans (hb10.mono HB9.out.size)⟩

set_option maxHeartbeats 8000000 in
set_option maxRecDepth 100000 in
theorem back_nnb (a b : Vt) (s : ByteArray) (w : World) (htab : Tb w) (ha : a.2.2.size ≤ 281474976710656) (hb : b.2.2.size ≤ 281474976710656) (hs : s.size ≤ 281474976710656) (hbig : (a.2.2.size : Int) + (b.2.2.size : Int) + (s.size : Int) ≤ 400)
    (hra : rightV a = false) (hrb : rightV b = false) (hps : parseV s = ((0, 0, ⟨#[]⟩), 7)) :
    Calls Tryd.prog 6 #[.agg #[.int .i64 a.1, .int .i64 a.2.1, .string a.2.2], .agg #[.int .i64 b.1, .int .i64 b.2.1, .string b.2.2], .string s] w fun e w' => e = .returned (.bool true) ∧ Below w.heap.size w w' := by
  have HA := Lib.hid (fun W hW => show_no hra ha W hW)
  have HB := Lib.hid (fun W hW => show_no hrb hb W hW)
  have HP := Lib.hid (fun W hW => parse_to hps hs W hW)
  obtain ⟨k, n, t⟩ := a
  obtain ⟨k', n', t'⟩ := b
  simp only at ha hb hbig
  have hx := (Bx.new w (.int .i64 k) (.int .i64 n) (.string t) 25).below ((Below.refl _ (w.alloc (.cells #[.int .i64 k, .int .i64 n, .string t] 25))).alloc (Nat.le_refl _) (.cells #[.int .i64 k', .int .i64 n', .string t'] 25)) (by simp)
  have hy := Bx.new (w.alloc (.cells #[.int .i64 k, .int .i64 n, .string t] 25)) (.int .i64 k') (.int .i64 n') (.string t') 25
  have hl := ((Below.refl _ w).alloc (Nat.le_refl _) (.cells #[.int .i64 k, .int .i64 n, .string t] 25)).alloc (by simp) (.cells #[.int .i64 k', .int .i64 n', .string t'] 25)
  have hz : ((w.alloc (.cells #[.int .i64 k, .int .i64 n, .string t] 25)).alloc (.cells #[.int .i64 k', .int .i64 n', .string t'] 25)).heap.size = w.heap.size + 2 := by simp
  rw [World.size_alloc] at hy
  have HS := Lib.hid (And.intro hx (And.intro hy (And.intro hl hz)))
  have HT := Lib.hid htab
  clear hx hy hl hz htab hra hrb hps
  go_enter Tryd.func6, Tryd.ntmps6
  go_upto_region 1 with (fail)
  obtain ⟨hx, hy, hl, hz⟩ := HS.out
  generalize (w.alloc (.cells #[.int .i64 k, .int .i64 n, .string t] 25)).alloc (.cells #[.int .i64 k', .int .i64 n', .string t'] 25) = w0 at hx hy hl hz ⊢
  clear HS
  obtain ⟨A, hA⟩ : ∃ A, w.heap.size = A := ⟨_, rfl⟩
  have HAA := Lib.hid hA
  rw [hA] at hx hy hz ⊢
  have HX := Lib.hid hx
  have HY := Lib.hid hy
  have HL := Lib.hid hl
  clear hx hy hl hA
  go_wp2_with fail
  refine (awake_any _ (HT.out.below HL.out)).mono ?_
  rintro e w1 ⟨rfl, hb1⟩
  have HX1 := Lib.hid (HX.out.below hb1 (by omega))
  have HY1 := Lib.hid (HY.out.below hb1 (by omega))
  have HB1 := Lib.hid (HL.out.trans (hb1.mono HL.out.size))
  have hz1 : A + 1 < w1.heap.size := by have := hb1.size; omega
  obtain ⟨q0, q1, q2, _, _, _⟩ := HX1.out
  obtain ⟨r0, r1, r2, _, _, _⟩ := HY1.out
  clear hb1 hz
  go_wp2_with fail
  refine (HA.out _ (HT.out.below HB1.out)).mono ?_
  rintro e w2 ⟨rfl, hb2⟩
  have HX2 := Lib.hid (HX1.out.below hb2 (by omega))
  have HY2 := Lib.hid (HY1.out.below hb2 (by omega))
  have HB2 := Lib.hid (HB1.out.trans (hb2.mono HB1.out.size))
  have hz2 : A + 1 < w2.heap.size := by have := hb2.size; omega
  clear q0 q1 q2 r0 r1 r2 hb2 hz1
  obtain ⟨r0, r1, r2, _, _, _⟩ := HY2.out
  go_wp2_with fail
  refine (HB.out _ (HT.out.below HB2.out)).mono ?_
  rintro e w3 ⟨rfl, hb3⟩
  have HX3 := Lib.hid (HX2.out.below hb3 (by omega))
  have HY3 := Lib.hid (HY2.out.below hb3 (by omega))
  have HB3 := Lib.hid (HB2.out.trans (hb3.mono HB2.out.size))
  have hz3 : A + 1 < w3.heap.size := by have := hb3.size; omega
  clear r0 r1 r2 hb3 hz2
  go_wp2_with fail
  refine (HP.out _ (HT.out.below HB3.out)).mono ?_
  rintro e w7 ⟨rfl, hb7⟩
  have HB7 := Lib.hid (HB3.out.trans (hb7.mono HB3.out.size))
  clear hb7
  go_upto_region 14 with (fail)
  have hv8 := Bx.new w7 (.int .i64 0) (.int .i64 0) (.string ⟨#[]⟩) 25
  have hw8 := (Below.refl _ w7).alloc (Nat.le_refl _) (.cells #[.int .i64 0, .int .i64 0, .string ⟨#[]⟩] 25)
  have hz8 : (w7.alloc (.cells #[.int .i64 0, .int .i64 0, .string ⟨#[]⟩] 25)).heap.size = w7.heap.size + 1 := by simp
  generalize w7.alloc (.cells #[.int .i64 0, .int .i64 0, .string ⟨#[]⟩] 25) = w8 at hv8 hw8 hz8 ⊢
  have HV8 := Lib.hid hv8
  obtain ⟨u0, u1, u2, _, _, _⟩ := hv8
  have HB8 := Lib.hid (HB7.out.trans (hw8.mono HB7.out.size))
  obtain ⟨D, hD⟩ : ∃ D, w7.heap.size = D := ⟨_, rfl⟩
  rw [hD] at u0 u1 u2 hz8 ⊢
  have HD := Lib.hid hD
  clear hw8 hD
  have e3 := fun W => eq25_same W 0 0 ⟨#[]⟩
  clear hz8
  go_wp2_with fail
  go_ret
  exact ⟨rfl, HB8.out⟩

theorem back_any (a b : Vt) (s : ByteArray) (w : World) (htab : Tb w) (ha : a.2.2.size ≤ 281474976710656) (hb : b.2.2.size ≤ 281474976710656) (hs : s.size ≤ 281474976710656) :
    Calls Tryd.prog 6 #[.agg #[.int .i64 a.1, .int .i64 a.2.1, .string a.2.2], .agg #[.int .i64 b.1, .int .i64 b.2.1, .string b.2.2], .string s] w fun e w' => e = .returned (.bool true) ∧ Below w.heap.size w w' := by
  by_cases hbig : (a.2.2.size : Int) + (b.2.2.size : Int) + (s.size : Int) ≤ 400
  · rcases parse_spec s with ⟨c, hrc, hsc, hps⟩ | ⟨_, hps⟩
    · cases hra : rightV a <;> cases hrb : rightV b
      · exact back_nnk a b s w htab ha hb hs hbig hra hrb c hps hrc hsc
      · exact back_nyk a b s w htab ha hb hs hbig hra hrb c hps hrc hsc
      · exact back_ynk a b s w htab ha hb hs hbig hra hrb c hps hrc hsc
      · by_cases hab : a = b
        · exact back_yysk a b s w htab ha hb hs hbig hra hrb hab c hps hrc hsc
        · exact back_yydk a b s w htab ha hb hs hbig hra hrb hab c hps hrc hsc
    · cases hra : rightV a <;> cases hrb : rightV b
      · exact back_nnb a b s w htab ha hb hs hbig hra hrb hps
      · exact back_nyb a b s w htab ha hb hs hbig hra hrb hps
      · exact back_ynb a b s w htab ha hb hs hbig hra hrb hps
      · by_cases hab : a = b
        · exact back_yysb a b s w htab ha hb hs hbig hra hrb hab hps
        · exact back_yydb a b s w htab ha hb hs hbig hra hrb hab hps
  · exact back_long a b s w htab ha hb hs (by omega)
end Go.Proofs.YtadjgjbkjhallaaDoor
