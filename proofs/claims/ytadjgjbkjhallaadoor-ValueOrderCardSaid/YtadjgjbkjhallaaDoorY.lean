/- Walk of the stage's theorem: of two values just one of three is so. -/
import Derived.Test.YtadjgjbkjhallaaDoorX
namespace Go.Proofs.YtadjgjbkjhallaaDoor
open Go.ChangeShapes Go.WideShapes Go.ChangeAt Go.RowKit
set_option linter.unusedVariables false

/-- what the walk keeps: the three values in their boxes -/
structure Inv (w W : World) (A : Nat) (a b c : Vt) : Prop where
  bx : Bx W A (.int .i64 a.1) (.int .i64 a.2.1) (.string a.2.2)
  by' : Bx W (A + 1) (.int .i64 b.1) (.int .i64 b.2.1) (.string b.2.2)
  bz : Bx W (A + 2) (.int .i64 c.1) (.int .i64 c.2.1) (.string c.2.2)
  low : Below w.heap.size w W
  sz : A + 2 < W.heap.size
theorem Inv.next {w W W' : World} {A : Nat} {a b c : Vt} (h : Inv w W A a b c) (hb : Below W.heap.size W W') : Inv w W' A a b c :=
  ⟨h.bx.below hb (by have := h.sz; omega), h.by'.below hb (by have := h.sz; omega), h.bz.below hb h.sz, h.low.trans (hb.mono h.low.size), Nat.lt_of_lt_of_le h.sz hb.size⟩
theorem Inv.start (w : World) (a b c : Vt) : Inv w (((w.alloc (.cells #[.int .i64 a.1, .int .i64 a.2.1, .string a.2.2] 25)).alloc (.cells #[.int .i64 b.1, .int .i64 b.2.1, .string b.2.2] 25)).alloc (.cells #[.int .i64 c.1, .int .i64 c.2.1, .string c.2.2] 25)) w.heap.size a b c := by
  have ha := Bx.new w (.int .i64 a.1) (.int .i64 a.2.1) (.string a.2.2) 25
  have l1 := (Below.refl _ w).alloc (Nat.le_refl _) (.cells #[.int .i64 a.1, .int .i64 a.2.1, .string a.2.2] 25)
  have s1 : (w.alloc (.cells #[.int .i64 a.1, .int .i64 a.2.1, .string a.2.2] 25)).heap.size = w.heap.size + 1 := by simp
  generalize w.alloc (.cells #[.int .i64 a.1, .int .i64 a.2.1, .string a.2.2] 25) = w1 at *
  have hb := Bx.new w1 (.int .i64 b.1) (.int .i64 b.2.1) (.string b.2.2) 25
  have k1 := (Below.refl _ w1).alloc (Nat.le_refl _) (.cells #[.int .i64 b.1, .int .i64 b.2.1, .string b.2.2] 25)
  have s2 : (w1.alloc (.cells #[.int .i64 b.1, .int .i64 b.2.1, .string b.2.2] 25)).heap.size = w1.heap.size + 1 := by simp
  have l2 := l1.trans (k1.mono l1.size)
  have ha2 := ha.below k1 (by omega)
  generalize w1.alloc (.cells #[.int .i64 b.1, .int .i64 b.2.1, .string b.2.2] 25) = w2 at *
  have hc := Bx.new w2 (.int .i64 c.1) (.int .i64 c.2.1) (.string c.2.2) 25
  have k2 := (Below.refl _ w2).alloc (Nat.le_refl _) (.cells #[.int .i64 c.1, .int .i64 c.2.1, .string c.2.2] 25)
  have s3 : (w2.alloc (.cells #[.int .i64 c.1, .int .i64 c.2.1, .string c.2.2] 25)).heap.size = w2.heap.size + 1 := by simp
  have l3 := l2.trans (k2.mono l2.size)
  have ha3 := ha2.below k2 (by omega)
  rw [s1] at hb
  have hb3 := hb.below k2 (by omega)
  rw [s2, s1] at hc
  exact ⟨ha3, hb3, hc, l3, by omega⟩

theorem eq25_ne (W : World) {a b : Int} {c : ByteArray} {a' b' : Int} {c' : ByteArray} (h : (a, b, c) ≠ (a', b', c')) : (binOp .eql 25 (.agg #[.int .i64 a, .int .i64 b, .string c]) (.agg #[.int .i64 a', .int .i64 b', .string c'])).run Tryd.prog W = .ok (.bool false) W := by
  rw [eq25, decide_eq_false h]
theorem cmp_to {x y : Vt} {n : Int} (h : cmpV x y = n) (W : World) : Calls Tryd.prog 8 #[.agg #[.int .i64 x.1, .int .i64 x.2.1, .string x.2.2], .agg #[.int .i64 y.1, .int .i64 y.2.1, .string y.2.2]] W fun e w' => e = .returned (.int .i64 n) ∧ Below W.heap.size W w' := by
  have hh := compare_gr x y W
  rw [h] at hh
  exact hh.mono fun _ _ hp => ⟨hp.1, hp.2.below⟩
theorem hold_to {op : Int} {x y : Vt} {n : Int} {r : Bool} (h : cmpV x y = n) (hr : holdB op n = r) (W : World) : Calls Tryd.prog 10 #[.int .i64 op, .agg #[.int .i64 x.1, .int .i64 x.2.1, .string x.2.2], .agg #[.int .i64 y.1, .int .i64 y.2.1, .string y.2.2]] W fun e w' => e = .returned (.bool r) ∧ Below W.heap.size W w' := by
  have hh := holds_any op x y W
  unfold HoldR at hh
  rw [h, hr] at hh
  exact hh.mono fun _ _ hp => ⟨hp.1, hp.2.below⟩
theorem rows_to {w W : World} {v1 v2 : Value} {x y : List Vt} {m : Int} (h : cmpR x y = m) (h1 : VR w v1 x) (h2 : VR w v2 y) (l1 : x.length ≤ 281474976710656) (l2 : y.length ≤ 281474976710656) (hb : Below w.heap.size w W) :
    Calls Tryd.prog 21 #[v1, v2] W fun e w' => e = .returned (.int .i64 m) ∧ Below W.heap.size W w' := by
  have hh := rows_gr (h1.below hb) (h2.below hb) l1 l2
  unfold RowsR at hh
  rw [h] at hh
  exact hh.mono fun _ _ hp => ⟨hp.1, hp.2.below⟩
theorem same_to {w W : World} {v1 v2 : Value} {x y : List Vt} {m : Int} (h : cmpR x y = m) (h1 : VR w v1 x) (h2 : VR w v2 y) (l1 : x.length ≤ 281474976710656) (hb : Below w.heap.size w W) :
    Calls Tryd.prog 22 #[v1, v2] W fun e w' => e = .returned (.bool (m == 0)) ∧ Below W.heap.size W w' := by
  have hh := sameV_any (h1.below hb) (h2.below hb) l1
  have e : decide (x = y) = (m == 0) := by
    rw [Bool.eq_iff_iff, decide_eq_true_iff, beq_iff_eq, ← h, three_rows.zero]
  rw [e] at hh
  exact hh

set_option maxHeartbeats 8000000 in
set_option maxRecDepth 100000 in
theorem order_long (a b c : Vt) (x y z : List Vt) (vx vy vz : Value) (w : World) (htab : Tb w) (hx : VR w vx x) (hy : VR w vy y) (hz : VR w vz z) (lx : x.length ≤ 281474976710656) (ly : y.length ≤ 281474976710656) (lz : z.length ≤ 281474976710656) (hbig : (400 : Int) < (x.length : Int) + (y.length : Int) + (z.length : Int)) :
    Calls Tryd.prog 5 #[.agg #[.int .i64 a.1, .int .i64 a.2.1, .string a.2.2], .agg #[.int .i64 b.1, .int .i64 b.2.1, .string b.2.2], .agg #[.int .i64 c.1, .int .i64 c.2.1, .string c.2.2], vx, vy, vz] w fun e w' => e = .returned (.bool true) ∧ Below w.heap.size w w' := by
  obtain ⟨X, cx, rfl, _⟩ := id hx
  obtain ⟨Y, cy, rfl, _⟩ := id hy
  obtain ⟨Z, cz, rfl, _⟩ := id hz
  have HX := Lib.hid hx
  have HY := Lib.hid hy
  have HZ := Lib.hid hz
  have HST := Lib.hid (Inv.start w a b c)
  have HT := Lib.hid htab
  obtain ⟨m, hm⟩ : ∃ m, x.length = m := ⟨_, rfl⟩
  obtain ⟨n, hn⟩ : ∃ n, y.length = n := ⟨_, rfl⟩
  obtain ⟨l, hl⟩ : ∃ l, z.length = l := ⟨_, rfl⟩
  rw [hm] at HX lx hbig ⊢
  rw [hn] at HY ly hbig ⊢
  rw [hl] at HZ lz hbig ⊢
  have HLEN := Lib.hid (And.intro hm (And.intro hn hl))
  clear htab hx hy hz hm hn hl
  obtain ⟨a1, a2, a3⟩ := a
  obtain ⟨b1, b2, b3⟩ := b
  obtain ⟨c1, c2, c3⟩ := c

  go_enter Tryd.func5, Tryd.ntmps5
  go_upto_region 1 with (fail)
  have hst := HST.out
  try simp only at hst
  generalize ((w.alloc (.cells #[.int .i64 a1, .int .i64 a2, .string a3] 25)).alloc (.cells #[.int .i64 b1, .int .i64 b2, .string b3] 25)).alloc (.cells #[.int .i64 c1, .int .i64 c2, .string c3] 25) = w0 at hst ⊢
  clear HST
  obtain ⟨A, hA⟩ : ∃ A, w.heap.size = A := ⟨_, rfl⟩
  have HA := Lib.hid hA
  rw [hA] at hst ⊢
  have HI := Lib.hid hst
  clear hst hA
  go_wp2_with fail
  refine (awake_any _ (HT.out.below HI.out.low)).mono ?_
  rintro e w1 ⟨rfl, hb1⟩
  have HI1 := Lib.hid (HI.out.next hb1)
  clear hb1
  go_wp2_with fail
  go_ret
  exact ⟨rfl, HI1.out.low⟩

set_option maxHeartbeats 8000000 in
set_option maxRecDepth 100000 in
theorem order_A (a b c : Vt) (x y z : List Vt) (vx vy vz : Value) (w : World) (htab : Tb w) (hx : VR w vx x) (hy : VR w vy y) (hz : VR w vz z) (lx : x.length ≤ 281474976710656) (ly : y.length ≤ 281474976710656) (lz : z.length ≤ 281474976710656) (hbig : (x.length : Int) + (y.length : Int) + (z.length : Int) ≤ 400)
    (hab : cmpV a b = -1) (n2 : Int) (hbc : cmpV b c = n2) (hn2 : n2 ≤ 0) (n3 : Int) (hac : cmpV a c = n3) (hn3 : n3 ≤ 0) :
    Calls Tryd.prog 5 #[.agg #[.int .i64 a.1, .int .i64 a.2.1, .string a.2.2], .agg #[.int .i64 b.1, .int .i64 b.2.1, .string b.2.2], .agg #[.int .i64 c.1, .int .i64 c.2.1, .string c.2.2], vx, vy, vz] w fun e w' => e = .returned (.bool true) ∧ Below w.heap.size w w' := by
  obtain ⟨X, cx, rfl, _⟩ := id hx
  obtain ⟨Y, cy, rfl, _⟩ := id hy
  obtain ⟨Z, cz, rfl, _⟩ := id hz
  have HX := Lib.hid hx
  have HY := Lib.hid hy
  have HZ := Lib.hid hz
  have hba : cmpV b a = 1 := by have := three_val.neg b a; omega
  have haa := three_val.rfl' a
  have CAB := Lib.hid (fun W => cmp_to hab W)
  have CBA := Lib.hid (fun W => cmp_to hba W)
  have CAA := Lib.hid (fun W => cmp_to haa W)
  have CBC := Lib.hid (fun W => cmp_to hbc W)
  have CAC := Lib.hid (fun W => cmp_to hac W)
  have OO := Lib.hid (fun (op : Int) W => hold_to (op := op) hab rfl W)
  have HO := Lib.hid (show holdB 1 (-1) = false ∧ holdB 2 (-1) = true ∧ holdB 3 (-1) = true ∧ holdB 4 (-1) = true ∧ holdB 5 (-1) = false ∧ holdB 6 (-1) = false by decide)
  have O7 := Lib.hid (fun W => hold_to (op := 5) (r := true) hba (by decide) W)
  have hE : a ≠ b := fun e => by rw [e, three_val.rfl'] at hab; omega
  have HEQ := Lib.hid (fun (W : World) => eq25_ne W (a := a.1) (b := a.2.1) (c := a.2.2) (a' := b.1) (b' := b.2.1) (c' := b.2.2) hE)
  obtain ⟨mm, hxy⟩ : ∃ mm, cmpR x y = mm := ⟨_, rfl⟩
  obtain ⟨m2, hyz⟩ : ∃ m2, cmpR y z = m2 := ⟨_, rfl⟩
  obtain ⟨m3, hxz⟩ : ∃ m3, cmpR x z = m3 := ⟨_, rfl⟩
  have hyx : cmpR y x = -mm := by have := three_rows.neg y x; omega
  have hrm := three_rows.rng x y
  rw [hxy] at hrm
  have htr := three_rows.trans x y z
  rw [hxy, hyz, hxz] at htr
  have HRM := Lib.hid (And.intro hrm htr)
  have hmb1 : -1 ≤ mm := by omega
  have hmb2 : mm ≤ 1 := by omega
  have hmn : (mm != - -mm) = false := by simp
  have RXY := Lib.hid (fun (W : World) (hb : Below w.heap.size w W) => rows_to hxy hx hy lx ly hb)
  have RYX := Lib.hid (fun (W : World) (hb : Below w.heap.size w W) => rows_to hyx hy hx ly lx hb)
  have RXX := Lib.hid (fun (W : World) (hb : Below w.heap.size w W) => rows_to (three_rows.rfl' x) hx hx lx lx hb)
  have RYZ := Lib.hid (fun (W : World) (hb : Below w.heap.size w W) => rows_to hyz hy hz ly lz hb)
  have RXZ := Lib.hid (fun (W : World) (hb : Below w.heap.size w W) => rows_to hxz hx hz lx lz hb)
  have SXY := Lib.hid (fun (W : World) (hb : Below w.heap.size w W) => same_to hxy hx hy lx hb)
  clear hab hba haa hxy hyz hxz hyx hrm htr hE hbc hac
  have HST := Lib.hid (Inv.start w a b c)
  have HT := Lib.hid htab
  obtain ⟨m, hm⟩ : ∃ m, x.length = m := ⟨_, rfl⟩
  obtain ⟨n, hn⟩ : ∃ n, y.length = n := ⟨_, rfl⟩
  obtain ⟨l, hl⟩ : ∃ l, z.length = l := ⟨_, rfl⟩
  rw [hm] at HX lx hbig RXY RYX RXX RXZ SXY ⊢
  rw [hn] at HY ly hbig RXY RYX RYZ SXY ⊢
  rw [hl] at HZ lz hbig RYZ RXZ ⊢
  have HLEN := Lib.hid (And.intro hm (And.intro hn hl))
  clear htab hx hy hz hm hn hl
  obtain ⟨a1, a2, a3⟩ := a
  obtain ⟨b1, b2, b3⟩ := b
  obtain ⟨c1, c2, c3⟩ := c

  go_enter Tryd.func5, Tryd.ntmps5
  go_upto_region 1 with (fail)
  have hst := HST.out
  try simp only at hst
  generalize ((w.alloc (.cells #[.int .i64 a1, .int .i64 a2, .string a3] 25)).alloc (.cells #[.int .i64 b1, .int .i64 b2, .string b3] 25)).alloc (.cells #[.int .i64 c1, .int .i64 c2, .string c3] 25) = w0 at hst ⊢
  clear HST
  obtain ⟨A, hA⟩ : ∃ A, w.heap.size = A := ⟨_, rfl⟩
  have HA := Lib.hid hA
  rw [hA] at hst ⊢
  have HI := Lib.hid hst
  clear hst hA
  go_wp2_with fail
  refine (awake_any _ (HT.out.below HI.out.low)).mono ?_
  rintro e w1 ⟨rfl, hb1⟩
  have HI1 := Lib.hid (HI.out.next hb1)
  clear hb1
  have heq := HEQ.out
  try simp only at heq
  obtain ⟨q0, q1, q2, _, _, _⟩ := HI1.out.bx
  obtain ⟨r0, r1, r2, _, _, _⟩ := HI1.out.by'
  go_wp2_with fail
  refine (CAB.out _).mono ?_
  rintro e w2 ⟨rfl, hb2⟩
  have HI2 := Lib.hid (HI1.out.next hb2)
  clear hb2
  clear q0 q1 q2 r0 r1 r2
  obtain ⟨q0, q1, q2, _, _, _⟩ := HI2.out.bx
  obtain ⟨r0, r1, r2, _, _, _⟩ := HI2.out.by'
  go_wp2_with fail
  refine (CBA.out _).mono ?_
  rintro e w3 ⟨rfl, hb3⟩
  have HI3 := Lib.hid (HI2.out.next hb3)
  clear hb3
  clear q0 q1 q2 r0 r1 r2
  obtain ⟨q0, q1, q2, _, _, _⟩ := HI3.out.bx
  obtain ⟨r0, r1, r2, _, _, _⟩ := HI3.out.by'
  go_wp2_with fail
  refine (CAA.out _).mono ?_
  rintro e w4 ⟨rfl, hb4⟩
  have HI4 := Lib.hid (HI3.out.next hb4)
  clear hb4
  clear q0 q1 q2 r0 r1 r2
  obtain ⟨r0, r1, r2, _, _, _⟩ := HI4.out.by'
  obtain ⟨s0, s1, s2, _, _, _⟩ := HI4.out.bz
  go_wp2_with fail
  refine (CBC.out _).mono ?_
  rintro e w5 ⟨rfl, hb5⟩
  have HI5 := Lib.hid (HI4.out.next hb5)
  clear hb5
  clear r0 r1 r2 s0 s1 s2
  obtain ⟨q0, q1, q2, _, _, _⟩ := HI5.out.bx
  obtain ⟨s0, s1, s2, _, _, _⟩ := HI5.out.bz
  go_wp2_with fail
  refine (CAC.out _).mono ?_
  rintro e w6 ⟨rfl, hb6⟩
  have HI6 := Lib.hid (HI5.out.next hb6)
  clear hb6
  clear q0 q1 q2 s0 s1 s2
  obtain ⟨q0, q1, q2, _, _, _⟩ := HI6.out.bx
  obtain ⟨r0, r1, r2, _, _, _⟩ := HI6.out.by'
  go_wp2_with fail
  have kq0 := cell_regrown q0
  have kq1 := cell_regrown q1
  have kq2 := cell_regrown q2
  have kr0 := cell_regrown r0
  have kr1 := cell_regrown r1
  have kr2 := cell_regrown r2
  have cO : ∀ (op : Int) d os, Calls Tryd.prog 10 #[.int .i64 op, .agg #[.int .i64 a1, .int .i64 a2, .string a3], .agg #[.int .i64 b1, .int .i64 b2, .string b3]] (Sort.grow (redrawn w6 d) os) fun e w'' => e = .returned (.bool (holdB op (-1))) ∧ ∃ p : Regrown, w'' = Sort.grow (redrawn w6 p.d) p.os := fun op d os => Calls.regrown_of (OO.out op _)
  refine wp_region_quiet_below (by kernel_rfl) (by kernel_rfl) ?_
  repeat (first | go_big_quiet_skip | (go_big_quiet_want; go_big_quiet_op; first | go_big_quiet_on | go_big_quiet_call (exact cO _ _ _)) | quiet_step (exact cO _ _ _))
  refine wpQuiet_nil ?_
  intro _ hw'
  obtain ⟨⟨dq, osq⟩, hw''⟩ := hw'
  subst hw''
  have hbq := below_regrown w6 dq osq
  clear cO kq0 kq1 kq2 kr0 kr1 kr2 q0 q1 q2 r0 r1 r2
  generalize Sort.grow (redrawn w6 dq) osq = w7 at hbq ⊢
  have HI7 := Lib.hid (HI6.out.next hbq)
  clear hbq
  rw [HO.out.1, HO.out.2.1]
  obtain ⟨q0, q1, q2, _, _, _⟩ := HI7.out.bx
  obtain ⟨r0, r1, r2, _, _, _⟩ := HI7.out.by'
  go_wp2_with fail
  have kq0 := cell_regrown q0
  have kq1 := cell_regrown q1
  have kq2 := cell_regrown q2
  have kr0 := cell_regrown r0
  have kr1 := cell_regrown r1
  have kr2 := cell_regrown r2
  have cO : ∀ (op : Int) d os, Calls Tryd.prog 10 #[.int .i64 op, .agg #[.int .i64 a1, .int .i64 a2, .string a3], .agg #[.int .i64 b1, .int .i64 b2, .string b3]] (Sort.grow (redrawn w7 d) os) fun e w'' => e = .returned (.bool (holdB op (-1))) ∧ ∃ p : Regrown, w'' = Sort.grow (redrawn w7 p.d) p.os := fun op d os => Calls.regrown_of (OO.out op _)
  refine wp_region_quiet_below (by kernel_rfl) (by kernel_rfl) ?_
  repeat (first | go_big_quiet_skip | (go_big_quiet_want; go_big_quiet_op; first | go_big_quiet_on | go_big_quiet_call (exact cO _ _ _)) | quiet_step (exact cO _ _ _))
  refine wpQuiet_nil ?_
  intro _ hw'
  obtain ⟨⟨dq, osq⟩, hw''⟩ := hw'
  subst hw''
  have hbq := below_regrown w7 dq osq
  clear cO kq0 kq1 kq2 kr0 kr1 kr2 q0 q1 q2 r0 r1 r2
  generalize Sort.grow (redrawn w7 dq) osq = w8 at hbq ⊢
  have HI8 := Lib.hid (HI7.out.next hbq)
  clear hbq
  rw [HO.out.2.2.1, HO.out.2.2.2.1]
  obtain ⟨q0, q1, q2, _, _, _⟩ := HI8.out.bx
  obtain ⟨r0, r1, r2, _, _, _⟩ := HI8.out.by'
  go_wp2_with fail
  have kq0 := cell_regrown q0
  have kq1 := cell_regrown q1
  have kq2 := cell_regrown q2
  have kr0 := cell_regrown r0
  have kr1 := cell_regrown r1
  have kr2 := cell_regrown r2
  have cO : ∀ (op : Int) d os, Calls Tryd.prog 10 #[.int .i64 op, .agg #[.int .i64 a1, .int .i64 a2, .string a3], .agg #[.int .i64 b1, .int .i64 b2, .string b3]] (Sort.grow (redrawn w8 d) os) fun e w'' => e = .returned (.bool (holdB op (-1))) ∧ ∃ p : Regrown, w'' = Sort.grow (redrawn w8 p.d) p.os := fun op d os => Calls.regrown_of (OO.out op _)
  refine wp_region_quiet_below (by kernel_rfl) (by kernel_rfl) ?_
  repeat (first | go_big_quiet_skip | (go_big_quiet_want; go_big_quiet_op; first | go_big_quiet_on | go_big_quiet_call (exact cO _ _ _)) | quiet_step (exact cO _ _ _))
  refine wpQuiet_nil ?_
  intro _ hw'
  obtain ⟨⟨dq, osq⟩, hw''⟩ := hw'
  subst hw''
  have hbq := below_regrown w8 dq osq
  clear cO kq0 kq1 kq2 kr0 kr1 kr2 q0 q1 q2 r0 r1 r2
  generalize Sort.grow (redrawn w8 dq) osq = w9 at hbq ⊢
  have HI9 := Lib.hid (HI8.out.next hbq)
  clear hbq
  rw [HO.out.2.2.2.2.1, HO.out.2.2.2.2.2]
  obtain ⟨q0, q1, q2, _, _, _⟩ := HI9.out.bx
  obtain ⟨r0, r1, r2, _, _, _⟩ := HI9.out.by'
  go_wp2_with fail
  refine (O7.out _).mono ?_
  rintro e w10 ⟨rfl, hb10⟩
  have HI10 := Lib.hid (HI9.out.next hb10)
  clear hb10
  clear q0 q1 q2 r0 r1 r2
  go_wp2_with fail
  refine (RXY.out _ HI10.out.low).mono ?_
  rintro e w11 ⟨rfl, hb11⟩
  have HI11 := Lib.hid (HI10.out.next hb11)
  clear hb11
  go_wp2_with fail
  refine (RYX.out _ HI11.out.low).mono ?_
  rintro e w12 ⟨rfl, hb12⟩
  have HI12 := Lib.hid (HI11.out.next hb12)
  clear hb12
  go_wp2_with fail
  refine (RXX.out _ HI12.out.low).mono ?_
  rintro e w13 ⟨rfl, hb13⟩
  have HI13 := Lib.hid (HI12.out.next hb13)
  clear hb13
  go_wp2_with fail
  refine (SXY.out _ HI13.out.low).mono ?_
  rintro e w14 ⟨rfl, hb14⟩
  have HI14 := Lib.hid (HI13.out.next hb14)
  clear hb14
  have hm3 : (mm ≤ 0 ∧ m2 ≤ 0 ∧ m3 ≤ 0) ∨ (mm ≤ 0 ∧ 0 < m2) ∨ 0 < mm := by
    have h := HRM.out.2
    by_cases h1 : mm ≤ 0
    · by_cases h2 : m2 ≤ 0
      · exact .inl ⟨h1, h2, h h1 h2⟩
      · exact .inr (.inl ⟨h1, by omega⟩)
    · exact .inr (.inr (by omega))
  rcases hm3 with ⟨h1, h2, h3⟩ | ⟨h1, h2⟩ | h1
  · go_wp2_with fail
    refine (RYZ.out _ HI14.out.low).mono ?_
    rintro e u1 ⟨rfl, hc1⟩
    have HJ := Lib.hid (HI14.out.next hc1)
    clear hc1
    go_wp2_with fail
    refine (RXZ.out _ HJ.out.low).mono ?_
    rintro e u2 ⟨rfl, hc2⟩
    go_wp2_with fail
    go_ret
    exact ⟨rfl, (HJ.out.next hc2).low⟩
  · go_wp2_with fail
    refine (RYZ.out _ HI14.out.low).mono ?_
    rintro e u1 ⟨rfl, hc1⟩
    go_wp2_with fail
    go_ret
    exact ⟨rfl, (HI14.out.next hc1).low⟩
  · go_wp2_with fail
    go_ret
    exact ⟨rfl, HI14.out.low⟩

set_option maxHeartbeats 8000000 in
set_option maxRecDepth 100000 in
theorem order_B (a b c : Vt) (x y z : List Vt) (vx vy vz : Value) (w : World) (htab : Tb w) (hx : VR w vx x) (hy : VR w vy y) (hz : VR w vz z) (lx : x.length ≤ 281474976710656) (ly : y.length ≤ 281474976710656) (lz : z.length ≤ 281474976710656) (hbig : (x.length : Int) + (y.length : Int) + (z.length : Int) ≤ 400)
    (hab : cmpV a b = -1) (n2 : Int) (hbc : cmpV b c = n2) (hn2 : 0 < n2) :
    Calls Tryd.prog 5 #[.agg #[.int .i64 a.1, .int .i64 a.2.1, .string a.2.2], .agg #[.int .i64 b.1, .int .i64 b.2.1, .string b.2.2], .agg #[.int .i64 c.1, .int .i64 c.2.1, .string c.2.2], vx, vy, vz] w fun e w' => e = .returned (.bool true) ∧ Below w.heap.size w w' := by
  obtain ⟨X, cx, rfl, _⟩ := id hx
  obtain ⟨Y, cy, rfl, _⟩ := id hy
  obtain ⟨Z, cz, rfl, _⟩ := id hz
  have HX := Lib.hid hx
  have HY := Lib.hid hy
  have HZ := Lib.hid hz
  have hba : cmpV b a = 1 := by have := three_val.neg b a; omega
  have haa := three_val.rfl' a
  have CAB := Lib.hid (fun W => cmp_to hab W)
  have CBA := Lib.hid (fun W => cmp_to hba W)
  have CAA := Lib.hid (fun W => cmp_to haa W)
  have CBC := Lib.hid (fun W => cmp_to hbc W)
  have OO := Lib.hid (fun (op : Int) W => hold_to (op := op) hab rfl W)
  have HO := Lib.hid (show holdB 1 (-1) = false ∧ holdB 2 (-1) = true ∧ holdB 3 (-1) = true ∧ holdB 4 (-1) = true ∧ holdB 5 (-1) = false ∧ holdB 6 (-1) = false by decide)
  have O7 := Lib.hid (fun W => hold_to (op := 5) (r := true) hba (by decide) W)
  have hE : a ≠ b := fun e => by rw [e, three_val.rfl'] at hab; omega
  have HEQ := Lib.hid (fun (W : World) => eq25_ne W (a := a.1) (b := a.2.1) (c := a.2.2) (a' := b.1) (b' := b.2.1) (c' := b.2.2) hE)
  obtain ⟨mm, hxy⟩ : ∃ mm, cmpR x y = mm := ⟨_, rfl⟩
  obtain ⟨m2, hyz⟩ : ∃ m2, cmpR y z = m2 := ⟨_, rfl⟩
  obtain ⟨m3, hxz⟩ : ∃ m3, cmpR x z = m3 := ⟨_, rfl⟩
  have hyx : cmpR y x = -mm := by have := three_rows.neg y x; omega
  have hrm := three_rows.rng x y
  rw [hxy] at hrm
  have htr := three_rows.trans x y z
  rw [hxy, hyz, hxz] at htr
  have HRM := Lib.hid (And.intro hrm htr)
  have hmb1 : -1 ≤ mm := by omega
  have hmb2 : mm ≤ 1 := by omega
  have hmn : (mm != - -mm) = false := by simp
  have RXY := Lib.hid (fun (W : World) (hb : Below w.heap.size w W) => rows_to hxy hx hy lx ly hb)
  have RYX := Lib.hid (fun (W : World) (hb : Below w.heap.size w W) => rows_to hyx hy hx ly lx hb)
  have RXX := Lib.hid (fun (W : World) (hb : Below w.heap.size w W) => rows_to (three_rows.rfl' x) hx hx lx lx hb)
  have RYZ := Lib.hid (fun (W : World) (hb : Below w.heap.size w W) => rows_to hyz hy hz ly lz hb)
  have RXZ := Lib.hid (fun (W : World) (hb : Below w.heap.size w W) => rows_to hxz hx hz lx lz hb)
  have SXY := Lib.hid (fun (W : World) (hb : Below w.heap.size w W) => same_to hxy hx hy lx hb)
  clear hab hba haa hxy hyz hxz hyx hrm htr hE hbc
  have HST := Lib.hid (Inv.start w a b c)
  have HT := Lib.hid htab
  obtain ⟨m, hm⟩ : ∃ m, x.length = m := ⟨_, rfl⟩
  obtain ⟨n, hn⟩ : ∃ n, y.length = n := ⟨_, rfl⟩
  obtain ⟨l, hl⟩ : ∃ l, z.length = l := ⟨_, rfl⟩
  rw [hm] at HX lx hbig RXY RYX RXX RXZ SXY ⊢
  rw [hn] at HY ly hbig RXY RYX RYZ SXY ⊢
  rw [hl] at HZ lz hbig RYZ RXZ ⊢
  have HLEN := Lib.hid (And.intro hm (And.intro hn hl))
  clear htab hx hy hz hm hn hl
  obtain ⟨a1, a2, a3⟩ := a
  obtain ⟨b1, b2, b3⟩ := b
  obtain ⟨c1, c2, c3⟩ := c

  go_enter Tryd.func5, Tryd.ntmps5
  go_upto_region 1 with (fail)
  have hst := HST.out
  try simp only at hst
  generalize ((w.alloc (.cells #[.int .i64 a1, .int .i64 a2, .string a3] 25)).alloc (.cells #[.int .i64 b1, .int .i64 b2, .string b3] 25)).alloc (.cells #[.int .i64 c1, .int .i64 c2, .string c3] 25) = w0 at hst ⊢
  clear HST
  obtain ⟨A, hA⟩ : ∃ A, w.heap.size = A := ⟨_, rfl⟩
  have HA := Lib.hid hA
  rw [hA] at hst ⊢
  have HI := Lib.hid hst
  clear hst hA
  go_wp2_with fail
  refine (awake_any _ (HT.out.below HI.out.low)).mono ?_
  rintro e w1 ⟨rfl, hb1⟩
  have HI1 := Lib.hid (HI.out.next hb1)
  clear hb1
  have heq := HEQ.out
  try simp only at heq
  obtain ⟨q0, q1, q2, _, _, _⟩ := HI1.out.bx
  obtain ⟨r0, r1, r2, _, _, _⟩ := HI1.out.by'
  go_wp2_with fail
  refine (CAB.out _).mono ?_
  rintro e w2 ⟨rfl, hb2⟩
  have HI2 := Lib.hid (HI1.out.next hb2)
  clear hb2
  clear q0 q1 q2 r0 r1 r2
  obtain ⟨q0, q1, q2, _, _, _⟩ := HI2.out.bx
  obtain ⟨r0, r1, r2, _, _, _⟩ := HI2.out.by'
  go_wp2_with fail
  refine (CBA.out _).mono ?_
  rintro e w3 ⟨rfl, hb3⟩
  have HI3 := Lib.hid (HI2.out.next hb3)
  clear hb3
  clear q0 q1 q2 r0 r1 r2
  obtain ⟨q0, q1, q2, _, _, _⟩ := HI3.out.bx
  obtain ⟨r0, r1, r2, _, _, _⟩ := HI3.out.by'
  go_wp2_with fail
  refine (CAA.out _).mono ?_
  rintro e w4 ⟨rfl, hb4⟩
  have HI4 := Lib.hid (HI3.out.next hb4)
  clear hb4
  clear q0 q1 q2 r0 r1 r2
  obtain ⟨r0, r1, r2, _, _, _⟩ := HI4.out.by'
  obtain ⟨s0, s1, s2, _, _, _⟩ := HI4.out.bz
  go_wp2_with fail
  refine (CBC.out _).mono ?_
  rintro e w5 ⟨rfl, hb5⟩
  have HI5 := Lib.hid (HI4.out.next hb5)
  clear hb5
  clear r0 r1 r2 s0 s1 s2
  obtain ⟨q0, q1, q2, _, _, _⟩ := HI5.out.bx
  obtain ⟨r0, r1, r2, _, _, _⟩ := HI5.out.by'
  go_wp2_with fail
  have kq0 := cell_regrown q0
  have kq1 := cell_regrown q1
  have kq2 := cell_regrown q2
  have kr0 := cell_regrown r0
  have kr1 := cell_regrown r1
  have kr2 := cell_regrown r2
  have cO : ∀ (op : Int) d os, Calls Tryd.prog 10 #[.int .i64 op, .agg #[.int .i64 a1, .int .i64 a2, .string a3], .agg #[.int .i64 b1, .int .i64 b2, .string b3]] (Sort.grow (redrawn w5 d) os) fun e w'' => e = .returned (.bool (holdB op (-1))) ∧ ∃ p : Regrown, w'' = Sort.grow (redrawn w5 p.d) p.os := fun op d os => Calls.regrown_of (OO.out op _)
  refine wp_region_quiet_below (by kernel_rfl) (by kernel_rfl) ?_
  repeat (first | go_big_quiet_skip | (go_big_quiet_want; go_big_quiet_op; first | go_big_quiet_on | go_big_quiet_call (exact cO _ _ _)) | quiet_step (exact cO _ _ _))
  refine wpQuiet_nil ?_
  intro _ hw'
  obtain ⟨⟨dq, osq⟩, hw''⟩ := hw'
  subst hw''
  have hbq := below_regrown w5 dq osq
  clear cO kq0 kq1 kq2 kr0 kr1 kr2 q0 q1 q2 r0 r1 r2
  generalize Sort.grow (redrawn w5 dq) osq = w6 at hbq ⊢
  have HI6 := Lib.hid (HI5.out.next hbq)
  clear hbq
  rw [HO.out.1, HO.out.2.1]
  obtain ⟨q0, q1, q2, _, _, _⟩ := HI6.out.bx
  obtain ⟨r0, r1, r2, _, _, _⟩ := HI6.out.by'
  go_wp2_with fail
  have kq0 := cell_regrown q0
  have kq1 := cell_regrown q1
  have kq2 := cell_regrown q2
  have kr0 := cell_regrown r0
  have kr1 := cell_regrown r1
  have kr2 := cell_regrown r2
  have cO : ∀ (op : Int) d os, Calls Tryd.prog 10 #[.int .i64 op, .agg #[.int .i64 a1, .int .i64 a2, .string a3], .agg #[.int .i64 b1, .int .i64 b2, .string b3]] (Sort.grow (redrawn w6 d) os) fun e w'' => e = .returned (.bool (holdB op (-1))) ∧ ∃ p : Regrown, w'' = Sort.grow (redrawn w6 p.d) p.os := fun op d os => Calls.regrown_of (OO.out op _)
  refine wp_region_quiet_below (by kernel_rfl) (by kernel_rfl) ?_
  repeat (first | go_big_quiet_skip | (go_big_quiet_want; go_big_quiet_op; first | go_big_quiet_on | go_big_quiet_call (exact cO _ _ _)) | quiet_step (exact cO _ _ _))
  refine wpQuiet_nil ?_
  intro _ hw'
  obtain ⟨⟨dq, osq⟩, hw''⟩ := hw'
  subst hw''
  have hbq := below_regrown w6 dq osq
  clear cO kq0 kq1 kq2 kr0 kr1 kr2 q0 q1 q2 r0 r1 r2
  generalize Sort.grow (redrawn w6 dq) osq = w7 at hbq ⊢
  have HI7 := Lib.hid (HI6.out.next hbq)
  clear hbq
  rw [HO.out.2.2.1, HO.out.2.2.2.1]
  obtain ⟨q0, q1, q2, _, _, _⟩ := HI7.out.bx
  obtain ⟨r0, r1, r2, _, _, _⟩ := HI7.out.by'
  go_wp2_with fail
  have kq0 := cell_regrown q0
  have kq1 := cell_regrown q1
  have kq2 := cell_regrown q2
  have kr0 := cell_regrown r0
  have kr1 := cell_regrown r1
  have kr2 := cell_regrown r2
  have cO : ∀ (op : Int) d os, Calls Tryd.prog 10 #[.int .i64 op, .agg #[.int .i64 a1, .int .i64 a2, .string a3], .agg #[.int .i64 b1, .int .i64 b2, .string b3]] (Sort.grow (redrawn w7 d) os) fun e w'' => e = .returned (.bool (holdB op (-1))) ∧ ∃ p : Regrown, w'' = Sort.grow (redrawn w7 p.d) p.os := fun op d os => Calls.regrown_of (OO.out op _)
  refine wp_region_quiet_below (by kernel_rfl) (by kernel_rfl) ?_
  repeat (first | go_big_quiet_skip | (go_big_quiet_want; go_big_quiet_op; first | go_big_quiet_on | go_big_quiet_call (exact cO _ _ _)) | quiet_step (exact cO _ _ _))
  refine wpQuiet_nil ?_
  intro _ hw'
  obtain ⟨⟨dq, osq⟩, hw''⟩ := hw'
  subst hw''
  have hbq := below_regrown w7 dq osq
  clear cO kq0 kq1 kq2 kr0 kr1 kr2 q0 q1 q2 r0 r1 r2
  generalize Sort.grow (redrawn w7 dq) osq = w8 at hbq ⊢
  have HI8 := Lib.hid (HI7.out.next hbq)
  clear hbq
  rw [HO.out.2.2.2.2.1, HO.out.2.2.2.2.2]
  obtain ⟨q0, q1, q2, _, _, _⟩ := HI8.out.bx
  obtain ⟨r0, r1, r2, _, _, _⟩ := HI8.out.by'
  go_wp2_with fail
  refine (O7.out _).mono ?_
  rintro e w9 ⟨rfl, hb9⟩
  have HI9 := Lib.hid (HI8.out.next hb9)
  clear hb9
  clear q0 q1 q2 r0 r1 r2
  go_wp2_with fail
  refine (RXY.out _ HI9.out.low).mono ?_
  rintro e w10 ⟨rfl, hb10⟩
  have HI10 := Lib.hid (HI9.out.next hb10)
  clear hb10
  go_wp2_with fail
  refine (RYX.out _ HI10.out.low).mono ?_
  rintro e w11 ⟨rfl, hb11⟩
  have HI11 := Lib.hid (HI10.out.next hb11)
  clear hb11
  go_wp2_with fail
  refine (RXX.out _ HI11.out.low).mono ?_
  rintro e w12 ⟨rfl, hb12⟩
  have HI12 := Lib.hid (HI11.out.next hb12)
  clear hb12
  go_wp2_with fail
  refine (SXY.out _ HI12.out.low).mono ?_
  rintro e w13 ⟨rfl, hb13⟩
  have HI13 := Lib.hid (HI12.out.next hb13)
  clear hb13
  have hm3 : (mm ≤ 0 ∧ m2 ≤ 0 ∧ m3 ≤ 0) ∨ (mm ≤ 0 ∧ 0 < m2) ∨ 0 < mm := by
    have h := HRM.out.2
    by_cases h1 : mm ≤ 0
    · by_cases h2 : m2 ≤ 0
      · exact .inl ⟨h1, h2, h h1 h2⟩
      · exact .inr (.inl ⟨h1, by omega⟩)
    · exact .inr (.inr (by omega))
  rcases hm3 with ⟨h1, h2, h3⟩ | ⟨h1, h2⟩ | h1
  · go_wp2_with fail
    refine (RYZ.out _ HI13.out.low).mono ?_
    rintro e u1 ⟨rfl, hc1⟩
    have HJ := Lib.hid (HI13.out.next hc1)
    clear hc1
    go_wp2_with fail
    refine (RXZ.out _ HJ.out.low).mono ?_
    rintro e u2 ⟨rfl, hc2⟩
    go_wp2_with fail
    go_ret
    exact ⟨rfl, (HJ.out.next hc2).low⟩
  · go_wp2_with fail
    refine (RYZ.out _ HI13.out.low).mono ?_
    rintro e u1 ⟨rfl, hc1⟩
    go_wp2_with fail
    go_ret
    exact ⟨rfl, (HI13.out.next hc1).low⟩
  · go_wp2_with fail
    go_ret
    exact ⟨rfl, HI13.out.low⟩

set_option maxHeartbeats 8000000 in
set_option maxRecDepth 100000 in
theorem order_C (a b c : Vt) (x y z : List Vt) (vx vy vz : Value) (w : World) (htab : Tb w) (hx : VR w vx x) (hy : VR w vy y) (hz : VR w vz z) (lx : x.length ≤ 281474976710656) (ly : y.length ≤ 281474976710656) (lz : z.length ≤ 281474976710656) (hbig : (x.length : Int) + (y.length : Int) + (z.length : Int) ≤ 400)
    (hab : cmpV a b = 0) (n2 : Int) (hbc : cmpV b c = n2) (hn2 : n2 ≤ 0) (n3 : Int) (hac : cmpV a c = n3) (hn3 : n3 ≤ 0) :
    Calls Tryd.prog 5 #[.agg #[.int .i64 a.1, .int .i64 a.2.1, .string a.2.2], .agg #[.int .i64 b.1, .int .i64 b.2.1, .string b.2.2], .agg #[.int .i64 c.1, .int .i64 c.2.1, .string c.2.2], vx, vy, vz] w fun e w' => e = .returned (.bool true) ∧ Below w.heap.size w w' := by
  obtain ⟨X, cx, rfl, _⟩ := id hx
  obtain ⟨Y, cy, rfl, _⟩ := id hy
  obtain ⟨Z, cz, rfl, _⟩ := id hz
  have HX := Lib.hid hx
  have HY := Lib.hid hy
  have HZ := Lib.hid hz
  have hba : cmpV b a = 0 := by have := three_val.neg b a; omega
  have haa := three_val.rfl' a
  have CAB := Lib.hid (fun W => cmp_to hab W)
  have CBA := Lib.hid (fun W => cmp_to hba W)
  have CAA := Lib.hid (fun W => cmp_to haa W)
  have CBC := Lib.hid (fun W => cmp_to hbc W)
  have CAC := Lib.hid (fun W => cmp_to hac W)
  have OO := Lib.hid (fun (op : Int) W => hold_to (op := op) hab rfl W)
  have HO := Lib.hid (show holdB 1 0 = true ∧ holdB 2 0 = false ∧ holdB 3 0 = false ∧ holdB 4 0 = true ∧ holdB 5 0 = false ∧ holdB 6 0 = true by decide)
  have O7 := Lib.hid (fun W => hold_to (op := 5) (r := false) hba (by decide) W)
  have hE : a = b := (three_val.zero a b).1 hab
  subst hE
  have HEQ := Lib.hid (fun (W : World) => eq25_same W a.1 a.2.1 a.2.2)
  obtain ⟨mm, hxy⟩ : ∃ mm, cmpR x y = mm := ⟨_, rfl⟩
  obtain ⟨m2, hyz⟩ : ∃ m2, cmpR y z = m2 := ⟨_, rfl⟩
  obtain ⟨m3, hxz⟩ : ∃ m3, cmpR x z = m3 := ⟨_, rfl⟩
  have hyx : cmpR y x = -mm := by have := three_rows.neg y x; omega
  have hrm := three_rows.rng x y
  rw [hxy] at hrm
  have htr := three_rows.trans x y z
  rw [hxy, hyz, hxz] at htr
  have HRM := Lib.hid (And.intro hrm htr)
  have hmb1 : -1 ≤ mm := by omega
  have hmb2 : mm ≤ 1 := by omega
  have hmn : (mm != - -mm) = false := by simp
  have RXY := Lib.hid (fun (W : World) (hb : Below w.heap.size w W) => rows_to hxy hx hy lx ly hb)
  have RYX := Lib.hid (fun (W : World) (hb : Below w.heap.size w W) => rows_to hyx hy hx ly lx hb)
  have RXX := Lib.hid (fun (W : World) (hb : Below w.heap.size w W) => rows_to (three_rows.rfl' x) hx hx lx lx hb)
  have RYZ := Lib.hid (fun (W : World) (hb : Below w.heap.size w W) => rows_to hyz hy hz ly lz hb)
  have RXZ := Lib.hid (fun (W : World) (hb : Below w.heap.size w W) => rows_to hxz hx hz lx lz hb)
  have SXY := Lib.hid (fun (W : World) (hb : Below w.heap.size w W) => same_to hxy hx hy lx hb)
  clear hab hba haa hxy hyz hxz hyx hrm htr hbc hac
  have HST := Lib.hid (Inv.start w a a c)
  have HT := Lib.hid htab
  obtain ⟨m, hm⟩ : ∃ m, x.length = m := ⟨_, rfl⟩
  obtain ⟨n, hn⟩ : ∃ n, y.length = n := ⟨_, rfl⟩
  obtain ⟨l, hl⟩ : ∃ l, z.length = l := ⟨_, rfl⟩
  rw [hm] at HX lx hbig RXY RYX RXX RXZ SXY ⊢
  rw [hn] at HY ly hbig RXY RYX RYZ SXY ⊢
  rw [hl] at HZ lz hbig RYZ RXZ ⊢
  have HLEN := Lib.hid (And.intro hm (And.intro hn hl))
  clear htab hx hy hz hm hn hl
  obtain ⟨a1, a2, a3⟩ := a
  obtain ⟨c1, c2, c3⟩ := c

  go_enter Tryd.func5, Tryd.ntmps5
  go_upto_region 1 with (fail)
  have hst := HST.out
  try simp only at hst
  generalize ((w.alloc (.cells #[.int .i64 a1, .int .i64 a2, .string a3] 25)).alloc (.cells #[.int .i64 a1, .int .i64 a2, .string a3] 25)).alloc (.cells #[.int .i64 c1, .int .i64 c2, .string c3] 25) = w0 at hst ⊢
  clear HST
  obtain ⟨A, hA⟩ : ∃ A, w.heap.size = A := ⟨_, rfl⟩
  have HA := Lib.hid hA
  rw [hA] at hst ⊢
  have HI := Lib.hid hst
  clear hst hA
  go_wp2_with fail
  refine (awake_any _ (HT.out.below HI.out.low)).mono ?_
  rintro e w1 ⟨rfl, hb1⟩
  have HI1 := Lib.hid (HI.out.next hb1)
  clear hb1
  have heq := HEQ.out
  try simp only at heq
  obtain ⟨q0, q1, q2, _, _, _⟩ := HI1.out.bx
  obtain ⟨r0, r1, r2, _, _, _⟩ := HI1.out.by'
  go_wp2_with fail
  refine (CAB.out _).mono ?_
  rintro e w2 ⟨rfl, hb2⟩
  have HI2 := Lib.hid (HI1.out.next hb2)
  clear hb2
  clear q0 q1 q2 r0 r1 r2
  obtain ⟨q0, q1, q2, _, _, _⟩ := HI2.out.bx
  obtain ⟨r0, r1, r2, _, _, _⟩ := HI2.out.by'
  go_wp2_with fail
  refine (CBA.out _).mono ?_
  rintro e w3 ⟨rfl, hb3⟩
  have HI3 := Lib.hid (HI2.out.next hb3)
  clear hb3
  clear q0 q1 q2 r0 r1 r2
  obtain ⟨q0, q1, q2, _, _, _⟩ := HI3.out.bx
  obtain ⟨r0, r1, r2, _, _, _⟩ := HI3.out.by'
  go_wp2_with fail
  refine (CAA.out _).mono ?_
  rintro e w4 ⟨rfl, hb4⟩
  have HI4 := Lib.hid (HI3.out.next hb4)
  clear hb4
  clear q0 q1 q2 r0 r1 r2
  obtain ⟨r0, r1, r2, _, _, _⟩ := HI4.out.by'
  obtain ⟨s0, s1, s2, _, _, _⟩ := HI4.out.bz
  go_wp2_with fail
  refine (CBC.out _).mono ?_
  rintro e w5 ⟨rfl, hb5⟩
  have HI5 := Lib.hid (HI4.out.next hb5)
  clear hb5
  clear r0 r1 r2 s0 s1 s2
  obtain ⟨q0, q1, q2, _, _, _⟩ := HI5.out.bx
  obtain ⟨s0, s1, s2, _, _, _⟩ := HI5.out.bz
  go_wp2_with fail
  refine (CAC.out _).mono ?_
  rintro e w6 ⟨rfl, hb6⟩
  have HI6 := Lib.hid (HI5.out.next hb6)
  clear hb6
  clear q0 q1 q2 s0 s1 s2
  obtain ⟨q0, q1, q2, _, _, _⟩ := HI6.out.bx
  obtain ⟨r0, r1, r2, _, _, _⟩ := HI6.out.by'
  go_wp2_with fail
  have kq0 := cell_regrown q0
  have kq1 := cell_regrown q1
  have kq2 := cell_regrown q2
  have kr0 := cell_regrown r0
  have kr1 := cell_regrown r1
  have kr2 := cell_regrown r2
  have cO : ∀ (op : Int) d os, Calls Tryd.prog 10 #[.int .i64 op, .agg #[.int .i64 a1, .int .i64 a2, .string a3], .agg #[.int .i64 a1, .int .i64 a2, .string a3]] (Sort.grow (redrawn w6 d) os) fun e w'' => e = .returned (.bool (holdB op 0)) ∧ ∃ p : Regrown, w'' = Sort.grow (redrawn w6 p.d) p.os := fun op d os => Calls.regrown_of (OO.out op _)
  refine wp_region_quiet_below (by kernel_rfl) (by kernel_rfl) ?_
  repeat (first | go_big_quiet_skip | (go_big_quiet_want; go_big_quiet_op; first | go_big_quiet_on | go_big_quiet_call (exact cO _ _ _)) | quiet_step (exact cO _ _ _))
  refine wpQuiet_nil ?_
  intro _ hw'
  obtain ⟨⟨dq, osq⟩, hw''⟩ := hw'
  subst hw''
  have hbq := below_regrown w6 dq osq
  clear cO kq0 kq1 kq2 kr0 kr1 kr2 q0 q1 q2 r0 r1 r2
  generalize Sort.grow (redrawn w6 dq) osq = w7 at hbq ⊢
  have HI7 := Lib.hid (HI6.out.next hbq)
  clear hbq
  rw [HO.out.1, HO.out.2.1]
  obtain ⟨q0, q1, q2, _, _, _⟩ := HI7.out.bx
  obtain ⟨r0, r1, r2, _, _, _⟩ := HI7.out.by'
  go_wp2_with fail
  have kq0 := cell_regrown q0
  have kq1 := cell_regrown q1
  have kq2 := cell_regrown q2
  have kr0 := cell_regrown r0
  have kr1 := cell_regrown r1
  have kr2 := cell_regrown r2
  have cO : ∀ (op : Int) d os, Calls Tryd.prog 10 #[.int .i64 op, .agg #[.int .i64 a1, .int .i64 a2, .string a3], .agg #[.int .i64 a1, .int .i64 a2, .string a3]] (Sort.grow (redrawn w7 d) os) fun e w'' => e = .returned (.bool (holdB op 0)) ∧ ∃ p : Regrown, w'' = Sort.grow (redrawn w7 p.d) p.os := fun op d os => Calls.regrown_of (OO.out op _)
  refine wp_region_quiet_below (by kernel_rfl) (by kernel_rfl) ?_
  repeat (first | go_big_quiet_skip | (go_big_quiet_want; go_big_quiet_op; first | go_big_quiet_on | go_big_quiet_call (exact cO _ _ _)) | quiet_step (exact cO _ _ _))
  refine wpQuiet_nil ?_
  intro _ hw'
  obtain ⟨⟨dq, osq⟩, hw''⟩ := hw'
  subst hw''
  have hbq := below_regrown w7 dq osq
  clear cO kq0 kq1 kq2 kr0 kr1 kr2 q0 q1 q2 r0 r1 r2
  generalize Sort.grow (redrawn w7 dq) osq = w8 at hbq ⊢
  have HI8 := Lib.hid (HI7.out.next hbq)
  clear hbq
  rw [HO.out.2.2.1, HO.out.2.2.2.1]
  obtain ⟨q0, q1, q2, _, _, _⟩ := HI8.out.bx
  obtain ⟨r0, r1, r2, _, _, _⟩ := HI8.out.by'
  go_wp2_with fail
  have kq0 := cell_regrown q0
  have kq1 := cell_regrown q1
  have kq2 := cell_regrown q2
  have kr0 := cell_regrown r0
  have kr1 := cell_regrown r1
  have kr2 := cell_regrown r2
  have cO : ∀ (op : Int) d os, Calls Tryd.prog 10 #[.int .i64 op, .agg #[.int .i64 a1, .int .i64 a2, .string a3], .agg #[.int .i64 a1, .int .i64 a2, .string a3]] (Sort.grow (redrawn w8 d) os) fun e w'' => e = .returned (.bool (holdB op 0)) ∧ ∃ p : Regrown, w'' = Sort.grow (redrawn w8 p.d) p.os := fun op d os => Calls.regrown_of (OO.out op _)
  refine wp_region_quiet_below (by kernel_rfl) (by kernel_rfl) ?_
  repeat (first | go_big_quiet_skip | (go_big_quiet_want; go_big_quiet_op; first | go_big_quiet_on | go_big_quiet_call (exact cO _ _ _)) | quiet_step (exact cO _ _ _))
  refine wpQuiet_nil ?_
  intro _ hw'
  obtain ⟨⟨dq, osq⟩, hw''⟩ := hw'
  subst hw''
  have hbq := below_regrown w8 dq osq
  clear cO kq0 kq1 kq2 kr0 kr1 kr2 q0 q1 q2 r0 r1 r2
  generalize Sort.grow (redrawn w8 dq) osq = w9 at hbq ⊢
  have HI9 := Lib.hid (HI8.out.next hbq)
  clear hbq
  rw [HO.out.2.2.2.2.1, HO.out.2.2.2.2.2]
  obtain ⟨q0, q1, q2, _, _, _⟩ := HI9.out.bx
  obtain ⟨r0, r1, r2, _, _, _⟩ := HI9.out.by'
  go_wp2_with fail
  refine (O7.out _).mono ?_
  rintro e w10 ⟨rfl, hb10⟩
  have HI10 := Lib.hid (HI9.out.next hb10)
  clear hb10
  clear q0 q1 q2 r0 r1 r2
  go_wp2_with fail
  refine (RXY.out _ HI10.out.low).mono ?_
  rintro e w11 ⟨rfl, hb11⟩
  have HI11 := Lib.hid (HI10.out.next hb11)
  clear hb11
  go_wp2_with fail
  refine (RYX.out _ HI11.out.low).mono ?_
  rintro e w12 ⟨rfl, hb12⟩
  have HI12 := Lib.hid (HI11.out.next hb12)
  clear hb12
  go_wp2_with fail
  refine (RXX.out _ HI12.out.low).mono ?_
  rintro e w13 ⟨rfl, hb13⟩
  have HI13 := Lib.hid (HI12.out.next hb13)
  clear hb13
  go_wp2_with fail
  refine (SXY.out _ HI13.out.low).mono ?_
  rintro e w14 ⟨rfl, hb14⟩
  have HI14 := Lib.hid (HI13.out.next hb14)
  clear hb14
  have hm3 : (mm ≤ 0 ∧ m2 ≤ 0 ∧ m3 ≤ 0) ∨ (mm ≤ 0 ∧ 0 < m2) ∨ 0 < mm := by
    have h := HRM.out.2
    by_cases h1 : mm ≤ 0
    · by_cases h2 : m2 ≤ 0
      · exact .inl ⟨h1, h2, h h1 h2⟩
      · exact .inr (.inl ⟨h1, by omega⟩)
    · exact .inr (.inr (by omega))
  rcases hm3 with ⟨h1, h2, h3⟩ | ⟨h1, h2⟩ | h1
  · go_wp2_with fail
    refine (RYZ.out _ HI14.out.low).mono ?_
    rintro e u1 ⟨rfl, hc1⟩
    have HJ := Lib.hid (HI14.out.next hc1)
    clear hc1
    go_wp2_with fail
    refine (RXZ.out _ HJ.out.low).mono ?_
    rintro e u2 ⟨rfl, hc2⟩
    go_wp2_with fail
    go_ret
    exact ⟨rfl, (HJ.out.next hc2).low⟩
  · go_wp2_with fail
    refine (RYZ.out _ HI14.out.low).mono ?_
    rintro e u1 ⟨rfl, hc1⟩
    go_wp2_with fail
    go_ret
    exact ⟨rfl, (HI14.out.next hc1).low⟩
  · go_wp2_with fail
    go_ret
    exact ⟨rfl, HI14.out.low⟩

set_option maxHeartbeats 8000000 in
set_option maxRecDepth 100000 in
theorem order_D (a b c : Vt) (x y z : List Vt) (vx vy vz : Value) (w : World) (htab : Tb w) (hx : VR w vx x) (hy : VR w vy y) (hz : VR w vz z) (lx : x.length ≤ 281474976710656) (ly : y.length ≤ 281474976710656) (lz : z.length ≤ 281474976710656) (hbig : (x.length : Int) + (y.length : Int) + (z.length : Int) ≤ 400)
    (hab : cmpV a b = 0) (n2 : Int) (hbc : cmpV b c = n2) (hn2 : 0 < n2) :
    Calls Tryd.prog 5 #[.agg #[.int .i64 a.1, .int .i64 a.2.1, .string a.2.2], .agg #[.int .i64 b.1, .int .i64 b.2.1, .string b.2.2], .agg #[.int .i64 c.1, .int .i64 c.2.1, .string c.2.2], vx, vy, vz] w fun e w' => e = .returned (.bool true) ∧ Below w.heap.size w w' := by
  obtain ⟨X, cx, rfl, _⟩ := id hx
  obtain ⟨Y, cy, rfl, _⟩ := id hy
  obtain ⟨Z, cz, rfl, _⟩ := id hz
  have HX := Lib.hid hx
  have HY := Lib.hid hy
  have HZ := Lib.hid hz
  have hba : cmpV b a = 0 := by have := three_val.neg b a; omega
  have haa := three_val.rfl' a
  have CAB := Lib.hid (fun W => cmp_to hab W)
  have CBA := Lib.hid (fun W => cmp_to hba W)
  have CAA := Lib.hid (fun W => cmp_to haa W)
  have CBC := Lib.hid (fun W => cmp_to hbc W)
  have OO := Lib.hid (fun (op : Int) W => hold_to (op := op) hab rfl W)
  have HO := Lib.hid (show holdB 1 0 = true ∧ holdB 2 0 = false ∧ holdB 3 0 = false ∧ holdB 4 0 = true ∧ holdB 5 0 = false ∧ holdB 6 0 = true by decide)
  have O7 := Lib.hid (fun W => hold_to (op := 5) (r := false) hba (by decide) W)
  have hE : a = b := (three_val.zero a b).1 hab
  subst hE
  have HEQ := Lib.hid (fun (W : World) => eq25_same W a.1 a.2.1 a.2.2)
  obtain ⟨mm, hxy⟩ : ∃ mm, cmpR x y = mm := ⟨_, rfl⟩
  obtain ⟨m2, hyz⟩ : ∃ m2, cmpR y z = m2 := ⟨_, rfl⟩
  obtain ⟨m3, hxz⟩ : ∃ m3, cmpR x z = m3 := ⟨_, rfl⟩
  have hyx : cmpR y x = -mm := by have := three_rows.neg y x; omega
  have hrm := three_rows.rng x y
  rw [hxy] at hrm
  have htr := three_rows.trans x y z
  rw [hxy, hyz, hxz] at htr
  have HRM := Lib.hid (And.intro hrm htr)
  have hmb1 : -1 ≤ mm := by omega
  have hmb2 : mm ≤ 1 := by omega
  have hmn : (mm != - -mm) = false := by simp
  have RXY := Lib.hid (fun (W : World) (hb : Below w.heap.size w W) => rows_to hxy hx hy lx ly hb)
  have RYX := Lib.hid (fun (W : World) (hb : Below w.heap.size w W) => rows_to hyx hy hx ly lx hb)
  have RXX := Lib.hid (fun (W : World) (hb : Below w.heap.size w W) => rows_to (three_rows.rfl' x) hx hx lx lx hb)
  have RYZ := Lib.hid (fun (W : World) (hb : Below w.heap.size w W) => rows_to hyz hy hz ly lz hb)
  have RXZ := Lib.hid (fun (W : World) (hb : Below w.heap.size w W) => rows_to hxz hx hz lx lz hb)
  have SXY := Lib.hid (fun (W : World) (hb : Below w.heap.size w W) => same_to hxy hx hy lx hb)
  clear hab hba haa hxy hyz hxz hyx hrm htr hbc
  have HST := Lib.hid (Inv.start w a a c)
  have HT := Lib.hid htab
  obtain ⟨m, hm⟩ : ∃ m, x.length = m := ⟨_, rfl⟩
  obtain ⟨n, hn⟩ : ∃ n, y.length = n := ⟨_, rfl⟩
  obtain ⟨l, hl⟩ : ∃ l, z.length = l := ⟨_, rfl⟩
  rw [hm] at HX lx hbig RXY RYX RXX RXZ SXY ⊢
  rw [hn] at HY ly hbig RXY RYX RYZ SXY ⊢
  rw [hl] at HZ lz hbig RYZ RXZ ⊢
  have HLEN := Lib.hid (And.intro hm (And.intro hn hl))
  clear htab hx hy hz hm hn hl
  obtain ⟨a1, a2, a3⟩ := a
  obtain ⟨c1, c2, c3⟩ := c

  go_enter Tryd.func5, Tryd.ntmps5
  go_upto_region 1 with (fail)
  have hst := HST.out
  try simp only at hst
  generalize ((w.alloc (.cells #[.int .i64 a1, .int .i64 a2, .string a3] 25)).alloc (.cells #[.int .i64 a1, .int .i64 a2, .string a3] 25)).alloc (.cells #[.int .i64 c1, .int .i64 c2, .string c3] 25) = w0 at hst ⊢
  clear HST
  obtain ⟨A, hA⟩ : ∃ A, w.heap.size = A := ⟨_, rfl⟩
  have HA := Lib.hid hA
  rw [hA] at hst ⊢
  have HI := Lib.hid hst
  clear hst hA
  go_wp2_with fail
  refine (awake_any _ (HT.out.below HI.out.low)).mono ?_
  rintro e w1 ⟨rfl, hb1⟩
  have HI1 := Lib.hid (HI.out.next hb1)
  clear hb1
  have heq := HEQ.out
  try simp only at heq
  obtain ⟨q0, q1, q2, _, _, _⟩ := HI1.out.bx
  obtain ⟨r0, r1, r2, _, _, _⟩ := HI1.out.by'
  go_wp2_with fail
  refine (CAB.out _).mono ?_
  rintro e w2 ⟨rfl, hb2⟩
  have HI2 := Lib.hid (HI1.out.next hb2)
  clear hb2
  clear q0 q1 q2 r0 r1 r2
  obtain ⟨q0, q1, q2, _, _, _⟩ := HI2.out.bx
  obtain ⟨r0, r1, r2, _, _, _⟩ := HI2.out.by'
  go_wp2_with fail
  refine (CBA.out _).mono ?_
  rintro e w3 ⟨rfl, hb3⟩
  have HI3 := Lib.hid (HI2.out.next hb3)
  clear hb3
  clear q0 q1 q2 r0 r1 r2
  obtain ⟨q0, q1, q2, _, _, _⟩ := HI3.out.bx
  obtain ⟨r0, r1, r2, _, _, _⟩ := HI3.out.by'
  go_wp2_with fail
  refine (CAA.out _).mono ?_
  rintro e w4 ⟨rfl, hb4⟩
  have HI4 := Lib.hid (HI3.out.next hb4)
  clear hb4
  clear q0 q1 q2 r0 r1 r2
  obtain ⟨r0, r1, r2, _, _, _⟩ := HI4.out.by'
  obtain ⟨s0, s1, s2, _, _, _⟩ := HI4.out.bz
  go_wp2_with fail
  refine (CBC.out _).mono ?_
  rintro e w5 ⟨rfl, hb5⟩
  have HI5 := Lib.hid (HI4.out.next hb5)
  clear hb5
  clear r0 r1 r2 s0 s1 s2
  obtain ⟨q0, q1, q2, _, _, _⟩ := HI5.out.bx
  obtain ⟨r0, r1, r2, _, _, _⟩ := HI5.out.by'
  go_wp2_with fail
  have kq0 := cell_regrown q0
  have kq1 := cell_regrown q1
  have kq2 := cell_regrown q2
  have kr0 := cell_regrown r0
  have kr1 := cell_regrown r1
  have kr2 := cell_regrown r2
  have cO : ∀ (op : Int) d os, Calls Tryd.prog 10 #[.int .i64 op, .agg #[.int .i64 a1, .int .i64 a2, .string a3], .agg #[.int .i64 a1, .int .i64 a2, .string a3]] (Sort.grow (redrawn w5 d) os) fun e w'' => e = .returned (.bool (holdB op 0)) ∧ ∃ p : Regrown, w'' = Sort.grow (redrawn w5 p.d) p.os := fun op d os => Calls.regrown_of (OO.out op _)
  refine wp_region_quiet_below (by kernel_rfl) (by kernel_rfl) ?_
  repeat (first | go_big_quiet_skip | (go_big_quiet_want; go_big_quiet_op; first | go_big_quiet_on | go_big_quiet_call (exact cO _ _ _)) | quiet_step (exact cO _ _ _))
  refine wpQuiet_nil ?_
  intro _ hw'
  obtain ⟨⟨dq, osq⟩, hw''⟩ := hw'
  subst hw''
  have hbq := below_regrown w5 dq osq
  clear cO kq0 kq1 kq2 kr0 kr1 kr2 q0 q1 q2 r0 r1 r2
  generalize Sort.grow (redrawn w5 dq) osq = w6 at hbq ⊢
  have HI6 := Lib.hid (HI5.out.next hbq)
  clear hbq
  rw [HO.out.1, HO.out.2.1]
  obtain ⟨q0, q1, q2, _, _, _⟩ := HI6.out.bx
  obtain ⟨r0, r1, r2, _, _, _⟩ := HI6.out.by'
  go_wp2_with fail
  have kq0 := cell_regrown q0
  have kq1 := cell_regrown q1
  have kq2 := cell_regrown q2
  have kr0 := cell_regrown r0
  have kr1 := cell_regrown r1
  have kr2 := cell_regrown r2
  have cO : ∀ (op : Int) d os, Calls Tryd.prog 10 #[.int .i64 op, .agg #[.int .i64 a1, .int .i64 a2, .string a3], .agg #[.int .i64 a1, .int .i64 a2, .string a3]] (Sort.grow (redrawn w6 d) os) fun e w'' => e = .returned (.bool (holdB op 0)) ∧ ∃ p : Regrown, w'' = Sort.grow (redrawn w6 p.d) p.os := fun op d os => Calls.regrown_of (OO.out op _)
  refine wp_region_quiet_below (by kernel_rfl) (by kernel_rfl) ?_
  repeat (first | go_big_quiet_skip | (go_big_quiet_want; go_big_quiet_op; first | go_big_quiet_on | go_big_quiet_call (exact cO _ _ _)) | quiet_step (exact cO _ _ _))
  refine wpQuiet_nil ?_
  intro _ hw'
  obtain ⟨⟨dq, osq⟩, hw''⟩ := hw'
  subst hw''
  have hbq := below_regrown w6 dq osq
  clear cO kq0 kq1 kq2 kr0 kr1 kr2 q0 q1 q2 r0 r1 r2
  generalize Sort.grow (redrawn w6 dq) osq = w7 at hbq ⊢
  have HI7 := Lib.hid (HI6.out.next hbq)
  clear hbq
  rw [HO.out.2.2.1, HO.out.2.2.2.1]
  obtain ⟨q0, q1, q2, _, _, _⟩ := HI7.out.bx
  obtain ⟨r0, r1, r2, _, _, _⟩ := HI7.out.by'
  go_wp2_with fail
  have kq0 := cell_regrown q0
  have kq1 := cell_regrown q1
  have kq2 := cell_regrown q2
  have kr0 := cell_regrown r0
  have kr1 := cell_regrown r1
  have kr2 := cell_regrown r2
  have cO : ∀ (op : Int) d os, Calls Tryd.prog 10 #[.int .i64 op, .agg #[.int .i64 a1, .int .i64 a2, .string a3], .agg #[.int .i64 a1, .int .i64 a2, .string a3]] (Sort.grow (redrawn w7 d) os) fun e w'' => e = .returned (.bool (holdB op 0)) ∧ ∃ p : Regrown, w'' = Sort.grow (redrawn w7 p.d) p.os := fun op d os => Calls.regrown_of (OO.out op _)
  refine wp_region_quiet_below (by kernel_rfl) (by kernel_rfl) ?_
  repeat (first | go_big_quiet_skip | (go_big_quiet_want; go_big_quiet_op; first | go_big_quiet_on | go_big_quiet_call (exact cO _ _ _)) | quiet_step (exact cO _ _ _))
  refine wpQuiet_nil ?_
  intro _ hw'
  obtain ⟨⟨dq, osq⟩, hw''⟩ := hw'
  subst hw''
  have hbq := below_regrown w7 dq osq
  clear cO kq0 kq1 kq2 kr0 kr1 kr2 q0 q1 q2 r0 r1 r2
  generalize Sort.grow (redrawn w7 dq) osq = w8 at hbq ⊢
  have HI8 := Lib.hid (HI7.out.next hbq)
  clear hbq
  rw [HO.out.2.2.2.2.1, HO.out.2.2.2.2.2]
  obtain ⟨q0, q1, q2, _, _, _⟩ := HI8.out.bx
  obtain ⟨r0, r1, r2, _, _, _⟩ := HI8.out.by'
  go_wp2_with fail
  refine (O7.out _).mono ?_
  rintro e w9 ⟨rfl, hb9⟩
  have HI9 := Lib.hid (HI8.out.next hb9)
  clear hb9
  clear q0 q1 q2 r0 r1 r2
  go_wp2_with fail
  refine (RXY.out _ HI9.out.low).mono ?_
  rintro e w10 ⟨rfl, hb10⟩
  have HI10 := Lib.hid (HI9.out.next hb10)
  clear hb10
  go_wp2_with fail
  refine (RYX.out _ HI10.out.low).mono ?_
  rintro e w11 ⟨rfl, hb11⟩
  have HI11 := Lib.hid (HI10.out.next hb11)
  clear hb11
  go_wp2_with fail
  refine (RXX.out _ HI11.out.low).mono ?_
  rintro e w12 ⟨rfl, hb12⟩
  have HI12 := Lib.hid (HI11.out.next hb12)
  clear hb12
  go_wp2_with fail
  refine (SXY.out _ HI12.out.low).mono ?_
  rintro e w13 ⟨rfl, hb13⟩
  have HI13 := Lib.hid (HI12.out.next hb13)
  clear hb13
  have hm3 : (mm ≤ 0 ∧ m2 ≤ 0 ∧ m3 ≤ 0) ∨ (mm ≤ 0 ∧ 0 < m2) ∨ 0 < mm := by
    have h := HRM.out.2
    by_cases h1 : mm ≤ 0
    · by_cases h2 : m2 ≤ 0
      · exact .inl ⟨h1, h2, h h1 h2⟩
      · exact .inr (.inl ⟨h1, by omega⟩)
    · exact .inr (.inr (by omega))
  rcases hm3 with ⟨h1, h2, h3⟩ | ⟨h1, h2⟩ | h1
  · go_wp2_with fail
    refine (RYZ.out _ HI13.out.low).mono ?_
    rintro e u1 ⟨rfl, hc1⟩
    have HJ := Lib.hid (HI13.out.next hc1)
    clear hc1
    go_wp2_with fail
    refine (RXZ.out _ HJ.out.low).mono ?_
    rintro e u2 ⟨rfl, hc2⟩
    go_wp2_with fail
    go_ret
    exact ⟨rfl, (HJ.out.next hc2).low⟩
  · go_wp2_with fail
    refine (RYZ.out _ HI13.out.low).mono ?_
    rintro e u1 ⟨rfl, hc1⟩
    go_wp2_with fail
    go_ret
    exact ⟨rfl, (HI13.out.next hc1).low⟩
  · go_wp2_with fail
    go_ret
    exact ⟨rfl, HI13.out.low⟩

set_option maxHeartbeats 8000000 in
set_option maxRecDepth 100000 in
theorem order_E (a b c : Vt) (x y z : List Vt) (vx vy vz : Value) (w : World) (htab : Tb w) (hx : VR w vx x) (hy : VR w vy y) (hz : VR w vz z) (lx : x.length ≤ 281474976710656) (ly : y.length ≤ 281474976710656) (lz : z.length ≤ 281474976710656) (hbig : (x.length : Int) + (y.length : Int) + (z.length : Int) ≤ 400)
    (hab : cmpV a b = 1) :
    Calls Tryd.prog 5 #[.agg #[.int .i64 a.1, .int .i64 a.2.1, .string a.2.2], .agg #[.int .i64 b.1, .int .i64 b.2.1, .string b.2.2], .agg #[.int .i64 c.1, .int .i64 c.2.1, .string c.2.2], vx, vy, vz] w fun e w' => e = .returned (.bool true) ∧ Below w.heap.size w w' := by
  obtain ⟨X, cx, rfl, _⟩ := id hx
  obtain ⟨Y, cy, rfl, _⟩ := id hy
  obtain ⟨Z, cz, rfl, _⟩ := id hz
  have HX := Lib.hid hx
  have HY := Lib.hid hy
  have HZ := Lib.hid hz
  have hba : cmpV b a = -1 := by have := three_val.neg b a; omega
  have haa := three_val.rfl' a
  have CAB := Lib.hid (fun W => cmp_to hab W)
  have CBA := Lib.hid (fun W => cmp_to hba W)
  have CAA := Lib.hid (fun W => cmp_to haa W)
  have OO := Lib.hid (fun (op : Int) W => hold_to (op := op) hab rfl W)
  have HO := Lib.hid (show holdB 1 1 = false ∧ holdB 2 1 = true ∧ holdB 3 1 = false ∧ holdB 4 1 = false ∧ holdB 5 1 = true ∧ holdB 6 1 = true by decide)
  have O7 := Lib.hid (fun W => hold_to (op := 5) (r := false) hba (by decide) W)
  have hE : a ≠ b := fun e => by rw [e, three_val.rfl'] at hab; omega
  have HEQ := Lib.hid (fun (W : World) => eq25_ne W (a := a.1) (b := a.2.1) (c := a.2.2) (a' := b.1) (b' := b.2.1) (c' := b.2.2) hE)
  obtain ⟨mm, hxy⟩ : ∃ mm, cmpR x y = mm := ⟨_, rfl⟩
  obtain ⟨m2, hyz⟩ : ∃ m2, cmpR y z = m2 := ⟨_, rfl⟩
  obtain ⟨m3, hxz⟩ : ∃ m3, cmpR x z = m3 := ⟨_, rfl⟩
  have hyx : cmpR y x = -mm := by have := three_rows.neg y x; omega
  have hrm := three_rows.rng x y
  rw [hxy] at hrm
  have htr := three_rows.trans x y z
  rw [hxy, hyz, hxz] at htr
  have HRM := Lib.hid (And.intro hrm htr)
  have hmb1 : -1 ≤ mm := by omega
  have hmb2 : mm ≤ 1 := by omega
  have hmn : (mm != - -mm) = false := by simp
  have RXY := Lib.hid (fun (W : World) (hb : Below w.heap.size w W) => rows_to hxy hx hy lx ly hb)
  have RYX := Lib.hid (fun (W : World) (hb : Below w.heap.size w W) => rows_to hyx hy hx ly lx hb)
  have RXX := Lib.hid (fun (W : World) (hb : Below w.heap.size w W) => rows_to (three_rows.rfl' x) hx hx lx lx hb)
  have RYZ := Lib.hid (fun (W : World) (hb : Below w.heap.size w W) => rows_to hyz hy hz ly lz hb)
  have RXZ := Lib.hid (fun (W : World) (hb : Below w.heap.size w W) => rows_to hxz hx hz lx lz hb)
  have SXY := Lib.hid (fun (W : World) (hb : Below w.heap.size w W) => same_to hxy hx hy lx hb)
  clear hab hba haa hxy hyz hxz hyx hrm htr hE
  have HST := Lib.hid (Inv.start w a b c)
  have HT := Lib.hid htab
  obtain ⟨m, hm⟩ : ∃ m, x.length = m := ⟨_, rfl⟩
  obtain ⟨n, hn⟩ : ∃ n, y.length = n := ⟨_, rfl⟩
  obtain ⟨l, hl⟩ : ∃ l, z.length = l := ⟨_, rfl⟩
  rw [hm] at HX lx hbig RXY RYX RXX RXZ SXY ⊢
  rw [hn] at HY ly hbig RXY RYX RYZ SXY ⊢
  rw [hl] at HZ lz hbig RYZ RXZ ⊢
  have HLEN := Lib.hid (And.intro hm (And.intro hn hl))
  clear htab hx hy hz hm hn hl
  obtain ⟨a1, a2, a3⟩ := a
  obtain ⟨b1, b2, b3⟩ := b
  obtain ⟨c1, c2, c3⟩ := c

  go_enter Tryd.func5, Tryd.ntmps5
  go_upto_region 1 with (fail)
  have hst := HST.out
  try simp only at hst
  generalize ((w.alloc (.cells #[.int .i64 a1, .int .i64 a2, .string a3] 25)).alloc (.cells #[.int .i64 b1, .int .i64 b2, .string b3] 25)).alloc (.cells #[.int .i64 c1, .int .i64 c2, .string c3] 25) = w0 at hst ⊢
  clear HST
  obtain ⟨A, hA⟩ : ∃ A, w.heap.size = A := ⟨_, rfl⟩
  have HA := Lib.hid hA
  rw [hA] at hst ⊢
  have HI := Lib.hid hst
  clear hst hA
  go_wp2_with fail
  refine (awake_any _ (HT.out.below HI.out.low)).mono ?_
  rintro e w1 ⟨rfl, hb1⟩
  have HI1 := Lib.hid (HI.out.next hb1)
  clear hb1
  have heq := HEQ.out
  try simp only at heq
  obtain ⟨q0, q1, q2, _, _, _⟩ := HI1.out.bx
  obtain ⟨r0, r1, r2, _, _, _⟩ := HI1.out.by'
  go_wp2_with fail
  refine (CAB.out _).mono ?_
  rintro e w2 ⟨rfl, hb2⟩
  have HI2 := Lib.hid (HI1.out.next hb2)
  clear hb2
  clear q0 q1 q2 r0 r1 r2
  obtain ⟨q0, q1, q2, _, _, _⟩ := HI2.out.bx
  obtain ⟨r0, r1, r2, _, _, _⟩ := HI2.out.by'
  go_wp2_with fail
  refine (CBA.out _).mono ?_
  rintro e w3 ⟨rfl, hb3⟩
  have HI3 := Lib.hid (HI2.out.next hb3)
  clear hb3
  clear q0 q1 q2 r0 r1 r2
  obtain ⟨q0, q1, q2, _, _, _⟩ := HI3.out.bx
  obtain ⟨r0, r1, r2, _, _, _⟩ := HI3.out.by'
  go_wp2_with fail
  refine (CAA.out _).mono ?_
  rintro e w4 ⟨rfl, hb4⟩
  have HI4 := Lib.hid (HI3.out.next hb4)
  clear hb4
  clear q0 q1 q2 r0 r1 r2
  obtain ⟨q0, q1, q2, _, _, _⟩ := HI4.out.bx
  obtain ⟨r0, r1, r2, _, _, _⟩ := HI4.out.by'
  go_wp2_with fail
  have kq0 := cell_regrown q0
  have kq1 := cell_regrown q1
  have kq2 := cell_regrown q2
  have kr0 := cell_regrown r0
  have kr1 := cell_regrown r1
  have kr2 := cell_regrown r2
  have cO : ∀ (op : Int) d os, Calls Tryd.prog 10 #[.int .i64 op, .agg #[.int .i64 a1, .int .i64 a2, .string a3], .agg #[.int .i64 b1, .int .i64 b2, .string b3]] (Sort.grow (redrawn w4 d) os) fun e w'' => e = .returned (.bool (holdB op 1)) ∧ ∃ p : Regrown, w'' = Sort.grow (redrawn w4 p.d) p.os := fun op d os => Calls.regrown_of (OO.out op _)
  refine wp_region_quiet_below (by kernel_rfl) (by kernel_rfl) ?_
  repeat (first | go_big_quiet_skip | (go_big_quiet_want; go_big_quiet_op; first | go_big_quiet_on | go_big_quiet_call (exact cO _ _ _)) | quiet_step (exact cO _ _ _))
  refine wpQuiet_nil ?_
  intro _ hw'
  obtain ⟨⟨dq, osq⟩, hw''⟩ := hw'
  subst hw''
  have hbq := below_regrown w4 dq osq
  clear cO kq0 kq1 kq2 kr0 kr1 kr2 q0 q1 q2 r0 r1 r2
  generalize Sort.grow (redrawn w4 dq) osq = w5 at hbq ⊢
  have HI5 := Lib.hid (HI4.out.next hbq)
  clear hbq
  rw [HO.out.1, HO.out.2.1]
  obtain ⟨q0, q1, q2, _, _, _⟩ := HI5.out.bx
  obtain ⟨r0, r1, r2, _, _, _⟩ := HI5.out.by'
  go_wp2_with fail
  have kq0 := cell_regrown q0
  have kq1 := cell_regrown q1
  have kq2 := cell_regrown q2
  have kr0 := cell_regrown r0
  have kr1 := cell_regrown r1
  have kr2 := cell_regrown r2
  have cO : ∀ (op : Int) d os, Calls Tryd.prog 10 #[.int .i64 op, .agg #[.int .i64 a1, .int .i64 a2, .string a3], .agg #[.int .i64 b1, .int .i64 b2, .string b3]] (Sort.grow (redrawn w5 d) os) fun e w'' => e = .returned (.bool (holdB op 1)) ∧ ∃ p : Regrown, w'' = Sort.grow (redrawn w5 p.d) p.os := fun op d os => Calls.regrown_of (OO.out op _)
  refine wp_region_quiet_below (by kernel_rfl) (by kernel_rfl) ?_
  repeat (first | go_big_quiet_skip | (go_big_quiet_want; go_big_quiet_op; first | go_big_quiet_on | go_big_quiet_call (exact cO _ _ _)) | quiet_step (exact cO _ _ _))
  refine wpQuiet_nil ?_
  intro _ hw'
  obtain ⟨⟨dq, osq⟩, hw''⟩ := hw'
  subst hw''
  have hbq := below_regrown w5 dq osq
  clear cO kq0 kq1 kq2 kr0 kr1 kr2 q0 q1 q2 r0 r1 r2
  generalize Sort.grow (redrawn w5 dq) osq = w6 at hbq ⊢
  have HI6 := Lib.hid (HI5.out.next hbq)
  clear hbq
  rw [HO.out.2.2.1, HO.out.2.2.2.1]
  obtain ⟨q0, q1, q2, _, _, _⟩ := HI6.out.bx
  obtain ⟨r0, r1, r2, _, _, _⟩ := HI6.out.by'
  go_wp2_with fail
  have kq0 := cell_regrown q0
  have kq1 := cell_regrown q1
  have kq2 := cell_regrown q2
  have kr0 := cell_regrown r0
  have kr1 := cell_regrown r1
  have kr2 := cell_regrown r2
  have cO : ∀ (op : Int) d os, Calls Tryd.prog 10 #[.int .i64 op, .agg #[.int .i64 a1, .int .i64 a2, .string a3], .agg #[.int .i64 b1, .int .i64 b2, .string b3]] (Sort.grow (redrawn w6 d) os) fun e w'' => e = .returned (.bool (holdB op 1)) ∧ ∃ p : Regrown, w'' = Sort.grow (redrawn w6 p.d) p.os := fun op d os => Calls.regrown_of (OO.out op _)
  refine wp_region_quiet_below (by kernel_rfl) (by kernel_rfl) ?_
  repeat (first | go_big_quiet_skip | (go_big_quiet_want; go_big_quiet_op; first | go_big_quiet_on | go_big_quiet_call (exact cO _ _ _)) | quiet_step (exact cO _ _ _))
  refine wpQuiet_nil ?_
  intro _ hw'
  obtain ⟨⟨dq, osq⟩, hw''⟩ := hw'
  subst hw''
  have hbq := below_regrown w6 dq osq
  clear cO kq0 kq1 kq2 kr0 kr1 kr2 q0 q1 q2 r0 r1 r2
  generalize Sort.grow (redrawn w6 dq) osq = w7 at hbq ⊢
  have HI7 := Lib.hid (HI6.out.next hbq)
  clear hbq
  rw [HO.out.2.2.2.2.1, HO.out.2.2.2.2.2]
  obtain ⟨q0, q1, q2, _, _, _⟩ := HI7.out.bx
  obtain ⟨r0, r1, r2, _, _, _⟩ := HI7.out.by'
  go_wp2_with fail
  refine (O7.out _).mono ?_
  rintro e w8 ⟨rfl, hb8⟩
  have HI8 := Lib.hid (HI7.out.next hb8)
  clear hb8
  clear q0 q1 q2 r0 r1 r2
  go_wp2_with fail
  refine (RXY.out _ HI8.out.low).mono ?_
  rintro e w9 ⟨rfl, hb9⟩
  have HI9 := Lib.hid (HI8.out.next hb9)
  clear hb9
  go_wp2_with fail
  refine (RYX.out _ HI9.out.low).mono ?_
  rintro e w10 ⟨rfl, hb10⟩
  have HI10 := Lib.hid (HI9.out.next hb10)
  clear hb10
  go_wp2_with fail
  refine (RXX.out _ HI10.out.low).mono ?_
  rintro e w11 ⟨rfl, hb11⟩
  have HI11 := Lib.hid (HI10.out.next hb11)
  clear hb11
  go_wp2_with fail
  refine (SXY.out _ HI11.out.low).mono ?_
  rintro e w12 ⟨rfl, hb12⟩
  have HI12 := Lib.hid (HI11.out.next hb12)
  clear hb12
  have hm3 : (mm ≤ 0 ∧ m2 ≤ 0 ∧ m3 ≤ 0) ∨ (mm ≤ 0 ∧ 0 < m2) ∨ 0 < mm := by
    have h := HRM.out.2
    by_cases h1 : mm ≤ 0
    · by_cases h2 : m2 ≤ 0
      · exact .inl ⟨h1, h2, h h1 h2⟩
      · exact .inr (.inl ⟨h1, by omega⟩)
    · exact .inr (.inr (by omega))
  rcases hm3 with ⟨h1, h2, h3⟩ | ⟨h1, h2⟩ | h1
  · go_wp2_with fail
    refine (RYZ.out _ HI12.out.low).mono ?_
    rintro e u1 ⟨rfl, hc1⟩
    have HJ := Lib.hid (HI12.out.next hc1)
    clear hc1
    go_wp2_with fail
    refine (RXZ.out _ HJ.out.low).mono ?_
    rintro e u2 ⟨rfl, hc2⟩
    go_wp2_with fail
    go_ret
    exact ⟨rfl, (HJ.out.next hc2).low⟩
  · go_wp2_with fail
    refine (RYZ.out _ HI12.out.low).mono ?_
    rintro e u1 ⟨rfl, hc1⟩
    go_wp2_with fail
    go_ret
    exact ⟨rfl, (HI12.out.next hc1).low⟩
  · go_wp2_with fail
    go_ret
    exact ⟨rfl, HI12.out.low⟩

theorem order_any (a b c : Vt) (x y z : List Vt) (vx vy vz : Value) (w : World) (htab : Tb w) (hx : VR w vx x) (hy : VR w vy y) (hz : VR w vz z) (lx : x.length ≤ 281474976710656) (ly : y.length ≤ 281474976710656) (lz : z.length ≤ 281474976710656) :
    Calls Tryd.prog 5 #[.agg #[.int .i64 a.1, .int .i64 a.2.1, .string a.2.2], .agg #[.int .i64 b.1, .int .i64 b.2.1, .string b.2.2], .agg #[.int .i64 c.1, .int .i64 c.2.1, .string c.2.2], vx, vy, vz] w fun e w' => e = .returned (.bool true) ∧ Below w.heap.size w w' := by
  by_cases hbig : (x.length : Int) + (y.length : Int) + (z.length : Int) ≤ 400
  · have htr := three_val.trans a b c
    rcases three_val.rng a b with h | h | h
    · by_cases h2 : cmpV b c ≤ 0
      · exact order_A a b c x y z vx vy vz w htab hx hy hz lx ly lz hbig h _ rfl h2 _ rfl (htr (by omega) h2)
      · exact order_B a b c x y z vx vy vz w htab hx hy hz lx ly lz hbig h _ rfl (by omega)
    · by_cases h2 : cmpV b c ≤ 0
      · exact order_C a b c x y z vx vy vz w htab hx hy hz lx ly lz hbig h _ rfl h2 _ rfl (htr (by omega) h2)
      · exact order_D a b c x y z vx vy vz w htab hx hy hz lx ly lz hbig h _ rfl (by omega)
    · exact order_E a b c x y z vx vy vz w htab hx hy hz lx ly lz hbig h
  · exact order_long a b c x y z vx vy vz w htab hx hy hz lx ly lz (by omega)
end Go.Proofs.YtadjgjbkjhallaaDoor
