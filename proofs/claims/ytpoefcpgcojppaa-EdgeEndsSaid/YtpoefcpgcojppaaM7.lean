/- Texts QB, UK, one behind the other. -/
import Derived.Test.YtpoefcpgcojppaaM0
import Derived.Test.YtpoefcpgcojppaaM1
import Derived.Test.YtpoefcpgcojppaaM2
import Derived.Test.YtpoefcpgcojppaaM3
import Derived.Test.YtpoefcpgcojppaaM4
import Derived.Test.YtpoefcpgcojppaaM5
import Derived.Test.YtpoefcpgcojppaaM6
import Derived.BigQuiet
import Derived.Lib.QuietBelow
set_option linter.unusedSimpArgs false
namespace Go.Proofs.Ytpoefcpgcojppaa
open Go.ChangeShapes Go.WideShapes Go.ChangeAt Go.RowKit
set_option linter.unusedVariables false

theorem slice_any {w : World} {v : Value} {l : List Pt} (h : PR w v l) : ∃ A n c, v = .slice A n c := by
  obtain ⟨A, c, e⟩ := h.form
  exact ⟨A, _, c, e⟩
theorem putB_le {e : Ed} (h : checkE e = 0) : (putB e).length ≤ 281474976710656 := by
  have := putE_len h
  unfold putB
  rw [if_pos h]
  omega
/-- what is parsed: a right edge -/
theorem parse_yes {W : World} {v : Value} {l : List UInt8} {e : Ed} (hp : parseE l = (e, 0)) (h : BR W v l) (hc : CapOk v) (hl : l.length ≤ 281474976710656) :
    Calls Try.prog 25 #[v] W fun z w' => ∃ A n c, z = .returned (.tuple #[e.v (.slice A n c), .int .i64 0]) ∧ PR w' (.slice A n c) e.props ∧ Below W.heap.size W w' := by
  refine (parse_any h hc hl).mono ?_
  rintro z w' ⟨pv, rfl, hb, hw⟩
  rw [hp] at hb ⊢
  obtain ⟨A, n, c, rfl⟩ := slice_any hb
  exact ⟨A, n, c, rfl, hb, hw⟩
theorem parse_not {W : World} {v : Value} {l : List UInt8} (hp : parseE l = (zeroE, 4)) (h : BR W v l) (hc : CapOk v) (hl : l.length ≤ 281474976710656) :
    Calls Try.prog 25 #[v] W fun z w' => ∃ A n c, z = .returned (.tuple #[.agg #[.string ⟨#[]⟩, .string ⟨#[]⟩, .string ⟨#[]⟩, .int .i64 0, .slice A n c], .int .i64 4]) ∧ PR w' (.slice A n c) [] ∧ Below W.heap.size W w' := by
  refine (parse_any h hc hl).mono ?_
  rintro z w' ⟨pv, rfl, hb, hw⟩
  rw [hp] at hb ⊢
  obtain ⟨A, n, c, rfl⟩ := slice_any hb
  exact ⟨A, n, c, rfl, hb, hw⟩
theorem put_yes {W : World} {v : Value} {e : Ed} (h0 : checkE e = 0) (h : PR W v e.props) (hs : SzE e) :
    Calls Try.prog 14 #[e.v v] W fun z w' => ∃ v, z = .returned (.tuple #[v, .int .i64 0]) ∧ BR w' v (putE e) ∧ CapOk v ∧ Below W.heap.size W w' := by
  refine (put_cap h hs).mono ?_
  rintro z w' ⟨v, rfl, hb, hc, hw⟩
  have e1 : putB e = putE e := by unfold putB; rw [if_pos h0]
  rw [e1] at hb
  rw [h0]
  exact ⟨v, rfl, hb, hc, hw⟩
theorem sameE_yes {W : World} {v1 v2 : Value} {e : Ed} (h1 : PR W v1 e.props) (h2 : PR W v2 e.props) (hn : e.props.length ≤ 281474976710656) :
    Calls Try.prog 27 #[e.v v1, e.v v2] W fun z w' => z = .returned (.bool true) ∧ Gr W w' := by
  refine (sameE_any h1 h2 hn).mono ?_
  rintro z w' ⟨rfl, hw⟩
  exact ⟨by rw [decide_eq_true rfl], hw⟩
theorem sameB_yes {W : World} {v1 v2 : Value} {l : List UInt8} (h1 : BR W v1 l) (h2 : BR W v2 l) (hn : l.length ≤ 281474976710656) :
    Calls Try.prog 22 #[v1, v2] W fun z w' => z = .returned (.bool true) ∧ Gr W w' := by
  refine (sameB_any h1 h2 hn).mono ?_
  rintro z w' ⟨rfl, hw⟩
  exact ⟨by rw [decide_eq_true rfl], hw⟩

set_option maxHeartbeats 4000000 in
set_option maxRecDepth 100000 in
theorem back0 {w : World} {v1 v2 vb : Value} {x y : Ed} {l : List UInt8} (h1 : PR w v1 x.props) (h2 : PR w v2 y.props) (hb : BR w vb l) (hcap : CapOk vb) (hx : SzE x) (hy : SzE y) (hl : l.length ≤ 281474976710656) (hcx : checkE x = 0) (hcy : checkE y = 0) {g : Ed} (hpl : parseE l = (g, 0)) (hg0 : checkE g = 0) (hgl : putE g = l) (hsg : SzE g) :
    Calls Try.prog 7 #[x.v v1, y.v v2, vb] w fun e w' => e = .returned (.bool true) ∧ Below w.heap.size w w' := by
  obtain ⟨A1, n1, c1, rfl⟩ := slice_any h1
  obtain ⟨A2, n2, c2, rfl⟩ := slice_any h2
  obtain ⟨A3, c3, rfl⟩ := hb.form
  unfold Ed.v
  obtain ⟨W0, hW0⟩ : ∃ W, (w.alloc (.cells #[.string x.src, .string x.dst, .string x.lab, .int .i64 x.time, .slice A1 n1 c1] 24)).alloc (.cells #[.string y.src, .string y.dst, .string y.lab, .int .i64 y.time, .slice A2 n2 c2] 24) = W := ⟨_, rfl⟩
  have HX := Lib.hid (show Bx5 W0 w.heap.size (.string x.src) (.string x.dst) (.string x.lab) (.int .i64 x.time) (.slice A1 n1 c1) by rw [← hW0]; exact Bx5.below (Bx5.new w _ _ _ _ _ 24) ((Below.refl _ _).alloc (Nat.le_refl _) _))
  have HY := Lib.hid (show Bx5 W0 (w.heap.size + 1) (.string y.src) (.string y.dst) (.string y.lab) (.int .i64 y.time) (.slice A2 n2 c2) by rw [← hW0]; exact bx_at)
  have HT0 := Lib.hid (show Below w.heap.size w W0 by rw [← hW0]; exact ((Below.refl w.heap.size w).alloc (Nat.le_refl _) _).alloc (by simp) _)
  have H1 := Lib.hid (h1.below HT0.out)
  have H2 := Lib.hid (h2.below HT0.out)
  have H3 := Lib.hid (hb.below HT0.out)
  obtain ⟨n3, hn3⟩ : ∃ n, l.length = n := ⟨_, rfl⟩
  have HN3 := Lib.hid hn3
  have hl' : n3 ≤ 281474976710656 := hn3 ▸ hl
  have HSX := Lib.hid hx
  have HSY := Lib.hid hy
  have HCAP := Lib.hid hcap
  have HL := Lib.hid hl
  clear h1 h2 hb hcap hx hy hl
  have f1 := fun W (hW : Below W0.heap.size W0 W) => put_cap (H1.out.below hW) HSX.out
  have f2 := fun W (hW : Below W0.heap.size W0 W) => put_cap (H2.out.below hW) HSY.out
  have f3 := fun W (hW : Below W0.heap.size W0 W) => check_any (H1.out.below hW) HSX.out
  unfold PutsC Ed.v at f1 f2
  unfold CheckR Ed.v at f3
  have HQX := Lib.hid (show parseE (putB x) = (x, 0) by unfold putB; rw [if_pos hcx]; exact parse_put hcx)
  have HLX := Lib.hid (putB_le hcx)
  have f4 := fun W v (h : BR W v (putB x)) (hc : CapOk v) => parse_yes HQX.out h hc HLX.out
  have f5 := fun W (hW : Below W0.heap.size W0 W) A n c (h : PR W (.slice A n c) x.props) => sameE_yes h (H1.out.below hW) HSX.out.2.2.2.1
  unfold Ed.v at f4 f5
  have HDQ := Lib.hid (show decide (putB x = putB y) = decide (x = y) by
    rw [decide_eq_decide]
    unfold putB
    rw [if_pos hcx, if_pos hcy]
    exact ⟨put_inj hcx hcy, fun h => by rw [h]⟩)
  obtain ⟨r, hr⟩ : ∃ r, decide (x = y) = r := ⟨_, rfl⟩
  have hrr : (r != r) = false := by cases r <;> rfl
  have HR := Lib.hid hr
  rw [hr] at HDQ
  clear hr
  rw [hcx] at f1 f3
  rw [hcy] at f2
  have HG0 := Lib.hid hg0
  have f6 := fun W (hW : Below W0.heap.size W0 W) => parse_yes (e := g) hpl (H3.out.below hW) HCAP.out HL.out
  have f7 := fun W v (h : PR W v g.props) => put_yes HG0.out h hsg
  unfold Ed.v at f6 f7
  rw [hgl] at f7
  have f8 := fun W (hW : Below W0.heap.size W0 W) v (h : BR W v l) => sameB_yes h (H3.out.below hW) HL.out
  have HKR := Lib.hid (Below.refl W0.heap.size W0)
  have F1 := Lib.hid f1
  have F2 := Lib.hid f2
  have F3 := Lib.hid f3
  have F4 := Lib.hid f4
  have F5 := Lib.hid f5
  have F6 := Lib.hid f6
  have F7 := Lib.hid f7
  have F8 := Lib.hid f8
  clear f1 f2 f3 f4 f5 f6 f7 f8 hcx hcy hpl hg0 hgl hsg
  rw [hn3] at H3 HCAP F6 F8 ⊢
  clear hn3
  go_enter Try.func7, Try.ntmps7
  go_upto_region 1 with (fail)
  try rw [hW0]
  clear hW0
  obtain ⟨a0, a1, a2, a3, a4, _⟩ := HX.out
  obtain ⟨b0, b1, b2, b3, b4, _⟩ := HY.out
  go_wp2_with (go_at_call 10; refine (awake_any _).mono ?_; rintro z w1 ⟨hz, hw⟩; subst hz; have HK1 := Lib.hid hw; clear a0 a1 a2 a3 a4 b0 b1 b2 b3 b4; obtain ⟨a0, a1, a2, a3, a4, _⟩ := HX.out.below HK1.out; obtain ⟨b0, b1, b2, b3, b4, _⟩ := HY.out.below HK1.out; clear hw)
  refine (size_any (l := [(x, .slice A1 n1 c1), (y, .slice A2 n2 c2)]) (ER.of_block (heap_alloc_new _ _) rfl 2 (fun p hp => ?_)) (by simp) (fun p hp => ?_)).mono ?_
  · rcases List.mem_cons.1 hp with rfl | hp
    · exact (H1.out.below HK1.out).below ((Below.refl _ _).alloc (Nat.le_refl _) _)
    · rw [List.mem_singleton.1 hp]
      exact (H2.out.below HK1.out).below ((Below.refl _ _).alloc (Nat.le_refl _) _)
  · rcases List.mem_cons.1 hp with rfl | hp
    · exact HSX.out.2.2.2.1
    · rw [List.mem_singleton.1 hp]
      exact HSY.out.2.2.2.1
  rintro z w2 ⟨m, hz, hm1, hm2, hw⟩
  subst hz
  have HK2 := Lib.hid (chn (HK1.out.alloc HK1.out.size _) hw.below)
  clear a0 a1 a2 a3 a4 b0 b1 b2 b3 b4
  obtain ⟨a0, a1, a2, a3, a4, _⟩ := HX.out.below HK2.out; obtain ⟨b0, b1, b2, b3, b4, _⟩ := HY.out.below HK2.out
  clear hw
  by_cases hm : 2000 < m + n3
  · clear H1 H2
    go_wp2_with fail
    go_ret
    exact ⟨rfl, HT0.out.trans (HK2.out.mono HT0.out.size)⟩
  have hm3 : (0 : Int) ≤ m := by simp at hm1; omega
  go_upto_region 13 with (first
    | (go_at_call 14; refine (F1.out _ HK2.out).mono ?_; clear F1; rintro z w3 ⟨px, hz, bx, cpx, hw⟩; subst hz; have HK3 := Lib.hid (chn HK2.out hw); have HBX3 := Lib.hid bx; have HCX := Lib.hid cpx; clear a0 a1 a2 a3 a4 b0 b1 b2 b3 b4; obtain ⟨a0, a1, a2, a3, a4, _⟩ := HX.out.below HK3.out; obtain ⟨b0, b1, b2, b3, b4, _⟩ := HY.out.below HK3.out; clear hw bx cpx)
    | (go_at_call 14; refine (F2.out _ HK3.out).mono ?_; clear F2; rintro z w4 ⟨py, hz, by_, cpy, hw⟩; subst hz; have HK4 := Lib.hid (chn HK3.out hw); have HBX4 := Lib.hid (HBX3.out.below hw); have HBY4 := Lib.hid by_; clear a0 a1 a2 a3 a4 b0 b1 b2 b3 b4; obtain ⟨a0, a1, a2, a3, a4, _⟩ := HX.out.below HK4.out; obtain ⟨b0, b1, b2, b3, b4, _⟩ := HY.out.below HK4.out; clear hw by_ cpy)
    | (go_at_call 16; refine (F3.out _ HK4.out).mono ?_; clear F3; rintro z w5 ⟨hz, hw⟩; subst hz; have HK5 := Lib.hid (chn HK4.out hw); have HBX5 := Lib.hid (HBX4.out.below hw); have HBY5 := Lib.hid (HBY4.out.below hw); clear a0 a1 a2 a3 a4 b0 b1 b2 b3 b4; obtain ⟨a0, a1, a2, a3, a4, _⟩ := HX.out.below HK5.out; obtain ⟨b0, b1, b2, b3, b4, _⟩ := HY.out.below HK5.out; clear hw)
    | (go_at_call 25; refine (F4.out _ _ HBX5.out HCX.out).mono ?_; clear F4; rintro z w6 ⟨A6, n6, c6, hz, hp6, hw⟩; subst hz; have HK6 := Lib.hid (chn HK5.out hw); have HBX6 := Lib.hid (HBX5.out.below hw); have HBY6 := Lib.hid (HBY5.out.below hw); have HP6 := Lib.hid hp6; clear a0 a1 a2 a3 a4 b0 b1 b2 b3 b4; obtain ⟨a0, a1, a2, a3, a4, _⟩ := HX.out.below HK6.out; obtain ⟨b0, b1, b2, b3, b4, _⟩ := HY.out.below HK6.out; clear hw hp6)
    | (go_at_call 27; refine (F5.out _ (HK6.out.alloc HK6.out.size _) _ _ _ (HP6.out.below ((Below.refl _ _).alloc (Nat.le_refl _) _))).mono ?_; clear F5; rintro z w7 ⟨hz, hw⟩; subst hz; have HK7 := Lib.hid (chn (HK6.out.alloc HK6.out.size _) hw.below); have HBX7 := Lib.hid ((HBX6.out.below ((Below.refl _ _).alloc (Nat.le_refl _) _)).below hw.below); have HBY7 := Lib.hid ((HBY6.out.below ((Below.refl _ _).alloc (Nat.le_refl _) _)).below hw.below); clear a0 a1 a2 a3 a4 b0 b1 b2 b3 b4; obtain ⟨a0, a1, a2, a3, a4, _⟩ := HX.out.below HK7.out; obtain ⟨b0, b1, b2, b3, b4, _⟩ := HY.out.below HK7.out; clear hw)
    | fail)
  have cB : ∀ n os, Calls Try.prog 22 #[px, py] (Sort.grow (w7.drewN n) os) fun e w'' => e = .returned (.bool r) ∧ ∃ p : GrownBy, w'' = Sort.grow (w7.drewN p.n) p.os := fun n os => by
    have hg : Gr w7 (Sort.grow (w7.drewN n) os) := ⟨n, os, rfl⟩
    have h := sameB_any (HBX7.out.below hg.below) (HBY7.out.below hg.below) HLX.out
    rw [HDQ.out] at h
    unfold Gr at h
    exact Calls.grown_of h
  have cE : ∀ n os, Calls Try.prog 27 #[.agg #[.string x.src, .string x.dst, .string x.lab, .int .i64 x.time, .slice A1 n1 c1], .agg #[.string y.src, .string y.dst, .string y.lab, .int .i64 y.time, .slice A2 n2 c2]] (Sort.grow (w7.drewN n) os) fun e w'' => e = .returned (.bool r) ∧ ∃ p : GrownBy, w'' = Sort.grow (w7.drewN p.n) p.os := fun n os => by
    have hg : Gr w7 (Sort.grow (w7.drewN n) os) := ⟨n, os, rfl⟩
    have h := sameE_any ((H1.out.below HK7.out).below hg.below) ((H2.out.below HK7.out).below hg.below) HSX.out.2.2.2.1
    rw [HR.out] at h
    unfold Gr Ed.v at h
    exact Calls.grown_of h
  have hlx : w.heap.size < w7.heap.size := by have := HT0.out; exact (HX.out.below HK7.out).lt
  have hly : w.heap.size + 1 < w7.heap.size := (HY.out.below HK7.out).lt
  have ka0 := cell_grown (a := ⟨w.heap.size, 0, none⟩) hlx a0
  have kb0 := cell_grown (a := ⟨w.heap.size + 1, 0, none⟩) hly b0
  have ka1 := cell_grown (a := ⟨w.heap.size, 1, none⟩) hlx a1
  have kb1 := cell_grown (a := ⟨w.heap.size + 1, 1, none⟩) hly b1
  have ka2 := cell_grown (a := ⟨w.heap.size, 2, none⟩) hlx a2
  have kb2 := cell_grown (a := ⟨w.heap.size + 1, 2, none⟩) hly b2
  have ka3 := cell_grown (a := ⟨w.heap.size, 3, none⟩) hlx a3
  have kb3 := cell_grown (a := ⟨w.heap.size + 1, 3, none⟩) hly b3
  have ka4 := cell_grown (a := ⟨w.heap.size, 4, none⟩) hlx a4
  have kb4 := cell_grown (a := ⟨w.heap.size + 1, 4, none⟩) hly b4
  clear hlx hly a0 a1 a2 a3 a4 b0 b1 b2 b3 b4
  refine wp_region_quiet_grown mixed (by kernel_rfl) ?_
  repeat (first | go_big_quiet_skip | (go_big_quiet_want; go_big_quiet_op; first | go_big_quiet_on | go_big_quiet_call (first | exact cB _ _ | exact cE _ _)) | quiet_step (first | exact cB _ _ | exact cE _ _))
  refine wpQuiet_nil ?_
  intro _ hw'
  obtain ⟨⟨nq, osq⟩, hw''⟩ := hw'
  subst hw''
  have HK8 := Lib.hid (chn HK7.out (Gr.below (⟨nq, osq, rfl⟩ : Gr w7 (Sort.grow (w7.drewN nq) osq))))
  clear cB cE ka0 ka1 ka2 ka3 ka4 kb0 kb1 kb2 kb3 kb4
  generalize Sort.grow (w7.drewN nq) osq = w8 at *
  go_wp2_with (first
    | (go_at_call 25; refine (F6.out _ HK8.out).mono ?_; clear F6; rintro z w9 ⟨A9, n9, c9, hz, hp9, hw⟩; subst hz; have HK9 := Lib.hid (chn HK8.out hw); have HP9 := Lib.hid hp9; clear hw hp9)
    | (go_at_call 14; refine (F7.out _ _ (HP9.out.below ((Below.refl _ _).alloc (Nat.le_refl _) _))).mono ?_; clear F7; rintro z w10 ⟨pz, hz, bz, cpz, hw⟩; subst hz; have HK10 := Lib.hid (chn (HK9.out.alloc HK9.out.size _) hw); have HBZ := Lib.hid bz; clear hw bz cpz)
    | (go_at_call 22; refine (F8.out _ HK10.out _ HBZ.out).mono ?_; clear F8; rintro z w11 ⟨hz, hw⟩; subst hz; have HK11 := Lib.hid (chn HK10.out hw.below); clear hw)
    | fail)
  go_ret
  exact ⟨rfl, HT0.out.trans (HK11.out.mono HT0.out.size)⟩

set_option maxHeartbeats 4000000 in
set_option maxRecDepth 100000 in
theorem back1 {w : World} {v1 v2 vb : Value} {x y : Ed} {l : List UInt8} (h1 : PR w v1 x.props) (h2 : PR w v2 y.props) (hb : BR w vb l) (hcap : CapOk vb) (hx : SzE x) (hy : SzE y) (hl : l.length ≤ 281474976710656) (hcx : checkE x = 0) (hcy : checkE y = 0) (hpl : parseE l = (zeroE, 4)) :
    Calls Try.prog 7 #[x.v v1, y.v v2, vb] w fun e w' => e = .returned (.bool true) ∧ Below w.heap.size w w' := by
  obtain ⟨A1, n1, c1, rfl⟩ := slice_any h1
  obtain ⟨A2, n2, c2, rfl⟩ := slice_any h2
  obtain ⟨A3, c3, rfl⟩ := hb.form
  unfold Ed.v
  obtain ⟨W0, hW0⟩ : ∃ W, (w.alloc (.cells #[.string x.src, .string x.dst, .string x.lab, .int .i64 x.time, .slice A1 n1 c1] 24)).alloc (.cells #[.string y.src, .string y.dst, .string y.lab, .int .i64 y.time, .slice A2 n2 c2] 24) = W := ⟨_, rfl⟩
  have HX := Lib.hid (show Bx5 W0 w.heap.size (.string x.src) (.string x.dst) (.string x.lab) (.int .i64 x.time) (.slice A1 n1 c1) by rw [← hW0]; exact Bx5.below (Bx5.new w _ _ _ _ _ 24) ((Below.refl _ _).alloc (Nat.le_refl _) _))
  have HY := Lib.hid (show Bx5 W0 (w.heap.size + 1) (.string y.src) (.string y.dst) (.string y.lab) (.int .i64 y.time) (.slice A2 n2 c2) by rw [← hW0]; exact bx_at)
  have HT0 := Lib.hid (show Below w.heap.size w W0 by rw [← hW0]; exact ((Below.refl w.heap.size w).alloc (Nat.le_refl _) _).alloc (by simp) _)
  have H1 := Lib.hid (h1.below HT0.out)
  have H2 := Lib.hid (h2.below HT0.out)
  have H3 := Lib.hid (hb.below HT0.out)
  obtain ⟨n3, hn3⟩ : ∃ n, l.length = n := ⟨_, rfl⟩
  have HN3 := Lib.hid hn3
  have hl' : n3 ≤ 281474976710656 := hn3 ▸ hl
  have HSX := Lib.hid hx
  have HSY := Lib.hid hy
  have HCAP := Lib.hid hcap
  have HL := Lib.hid hl
  clear h1 h2 hb hcap hx hy hl
  have f1 := fun W (hW : Below W0.heap.size W0 W) => put_cap (H1.out.below hW) HSX.out
  have f2 := fun W (hW : Below W0.heap.size W0 W) => put_cap (H2.out.below hW) HSY.out
  have f3 := fun W (hW : Below W0.heap.size W0 W) => check_any (H1.out.below hW) HSX.out
  unfold PutsC Ed.v at f1 f2
  unfold CheckR Ed.v at f3
  have HQX := Lib.hid (show parseE (putB x) = (x, 0) by unfold putB; rw [if_pos hcx]; exact parse_put hcx)
  have HLX := Lib.hid (putB_le hcx)
  have f4 := fun W v (h : BR W v (putB x)) (hc : CapOk v) => parse_yes HQX.out h hc HLX.out
  have f5 := fun W (hW : Below W0.heap.size W0 W) A n c (h : PR W (.slice A n c) x.props) => sameE_yes h (H1.out.below hW) HSX.out.2.2.2.1
  unfold Ed.v at f4 f5
  have HDQ := Lib.hid (show decide (putB x = putB y) = decide (x = y) by
    rw [decide_eq_decide]
    unfold putB
    rw [if_pos hcx, if_pos hcy]
    exact ⟨put_inj hcx hcy, fun h => by rw [h]⟩)
  obtain ⟨r, hr⟩ : ∃ r, decide (x = y) = r := ⟨_, rfl⟩
  have hrr : (r != r) = false := by cases r <;> rfl
  have HR := Lib.hid hr
  rw [hr] at HDQ
  clear hr
  rw [hcx] at f1 f3
  rw [hcy] at f2
  have f6 := fun W (hW : Below W0.heap.size W0 W) => parse_not hpl (H3.out.below hW) HCAP.out HL.out
  have f7 := fun W A n c (h : PR W (.slice A n c) []) => sameE_yes (e := zeroE) (v2 := .slice none 0 0) h (PR.nil _ _ _) (by decide)
  unfold Ed.v zeroE at f7
  have HKR := Lib.hid (Below.refl W0.heap.size W0)
  have F1 := Lib.hid f1
  have F2 := Lib.hid f2
  have F3 := Lib.hid f3
  have F4 := Lib.hid f4
  have F5 := Lib.hid f5
  have F6 := Lib.hid f6
  have F7 := Lib.hid f7
  clear f1 f2 f3 f4 f5 f6 f7 hcx hcy hpl
  rw [hn3] at H3 HCAP F6 ⊢
  clear hn3
  go_enter Try.func7, Try.ntmps7
  go_upto_region 1 with (fail)
  try rw [hW0]
  clear hW0
  obtain ⟨a0, a1, a2, a3, a4, _⟩ := HX.out
  obtain ⟨b0, b1, b2, b3, b4, _⟩ := HY.out
  go_wp2_with (go_at_call 10; refine (awake_any _).mono ?_; rintro z w1 ⟨hz, hw⟩; subst hz; have HK1 := Lib.hid hw; clear a0 a1 a2 a3 a4 b0 b1 b2 b3 b4; obtain ⟨a0, a1, a2, a3, a4, _⟩ := HX.out.below HK1.out; obtain ⟨b0, b1, b2, b3, b4, _⟩ := HY.out.below HK1.out; clear hw)
  refine (size_any (l := [(x, .slice A1 n1 c1), (y, .slice A2 n2 c2)]) (ER.of_block (heap_alloc_new _ _) rfl 2 (fun p hp => ?_)) (by simp) (fun p hp => ?_)).mono ?_
  · rcases List.mem_cons.1 hp with rfl | hp
    · exact (H1.out.below HK1.out).below ((Below.refl _ _).alloc (Nat.le_refl _) _)
    · rw [List.mem_singleton.1 hp]
      exact (H2.out.below HK1.out).below ((Below.refl _ _).alloc (Nat.le_refl _) _)
  · rcases List.mem_cons.1 hp with rfl | hp
    · exact HSX.out.2.2.2.1
    · rw [List.mem_singleton.1 hp]
      exact HSY.out.2.2.2.1
  rintro z w2 ⟨m, hz, hm1, hm2, hw⟩
  subst hz
  have HK2 := Lib.hid (chn (HK1.out.alloc HK1.out.size _) hw.below)
  clear a0 a1 a2 a3 a4 b0 b1 b2 b3 b4
  obtain ⟨a0, a1, a2, a3, a4, _⟩ := HX.out.below HK2.out; obtain ⟨b0, b1, b2, b3, b4, _⟩ := HY.out.below HK2.out
  clear hw
  by_cases hm : 2000 < m + n3
  · clear H1 H2
    go_wp2_with fail
    go_ret
    exact ⟨rfl, HT0.out.trans (HK2.out.mono HT0.out.size)⟩
  have hm3 : (0 : Int) ≤ m := by simp at hm1; omega
  go_upto_region 13 with (first
    | (go_at_call 14; refine (F1.out _ HK2.out).mono ?_; clear F1; rintro z w3 ⟨px, hz, bx, cpx, hw⟩; subst hz; have HK3 := Lib.hid (chn HK2.out hw); have HBX3 := Lib.hid bx; have HCX := Lib.hid cpx; clear a0 a1 a2 a3 a4 b0 b1 b2 b3 b4; obtain ⟨a0, a1, a2, a3, a4, _⟩ := HX.out.below HK3.out; obtain ⟨b0, b1, b2, b3, b4, _⟩ := HY.out.below HK3.out; clear hw bx cpx)
    | (go_at_call 14; refine (F2.out _ HK3.out).mono ?_; clear F2; rintro z w4 ⟨py, hz, by_, cpy, hw⟩; subst hz; have HK4 := Lib.hid (chn HK3.out hw); have HBX4 := Lib.hid (HBX3.out.below hw); have HBY4 := Lib.hid by_; clear a0 a1 a2 a3 a4 b0 b1 b2 b3 b4; obtain ⟨a0, a1, a2, a3, a4, _⟩ := HX.out.below HK4.out; obtain ⟨b0, b1, b2, b3, b4, _⟩ := HY.out.below HK4.out; clear hw by_ cpy)
    | (go_at_call 16; refine (F3.out _ HK4.out).mono ?_; clear F3; rintro z w5 ⟨hz, hw⟩; subst hz; have HK5 := Lib.hid (chn HK4.out hw); have HBX5 := Lib.hid (HBX4.out.below hw); have HBY5 := Lib.hid (HBY4.out.below hw); clear a0 a1 a2 a3 a4 b0 b1 b2 b3 b4; obtain ⟨a0, a1, a2, a3, a4, _⟩ := HX.out.below HK5.out; obtain ⟨b0, b1, b2, b3, b4, _⟩ := HY.out.below HK5.out; clear hw)
    | (go_at_call 25; refine (F4.out _ _ HBX5.out HCX.out).mono ?_; clear F4; rintro z w6 ⟨A6, n6, c6, hz, hp6, hw⟩; subst hz; have HK6 := Lib.hid (chn HK5.out hw); have HBX6 := Lib.hid (HBX5.out.below hw); have HBY6 := Lib.hid (HBY5.out.below hw); have HP6 := Lib.hid hp6; clear a0 a1 a2 a3 a4 b0 b1 b2 b3 b4; obtain ⟨a0, a1, a2, a3, a4, _⟩ := HX.out.below HK6.out; obtain ⟨b0, b1, b2, b3, b4, _⟩ := HY.out.below HK6.out; clear hw hp6)
    | (go_at_call 27; refine (F5.out _ (HK6.out.alloc HK6.out.size _) _ _ _ (HP6.out.below ((Below.refl _ _).alloc (Nat.le_refl _) _))).mono ?_; clear F5; rintro z w7 ⟨hz, hw⟩; subst hz; have HK7 := Lib.hid (chn (HK6.out.alloc HK6.out.size _) hw.below); have HBX7 := Lib.hid ((HBX6.out.below ((Below.refl _ _).alloc (Nat.le_refl _) _)).below hw.below); have HBY7 := Lib.hid ((HBY6.out.below ((Below.refl _ _).alloc (Nat.le_refl _) _)).below hw.below); clear a0 a1 a2 a3 a4 b0 b1 b2 b3 b4; obtain ⟨a0, a1, a2, a3, a4, _⟩ := HX.out.below HK7.out; obtain ⟨b0, b1, b2, b3, b4, _⟩ := HY.out.below HK7.out; clear hw)
    | fail)
  have cB : ∀ n os, Calls Try.prog 22 #[px, py] (Sort.grow (w7.drewN n) os) fun e w'' => e = .returned (.bool r) ∧ ∃ p : GrownBy, w'' = Sort.grow (w7.drewN p.n) p.os := fun n os => by
    have hg : Gr w7 (Sort.grow (w7.drewN n) os) := ⟨n, os, rfl⟩
    have h := sameB_any (HBX7.out.below hg.below) (HBY7.out.below hg.below) HLX.out
    rw [HDQ.out] at h
    unfold Gr at h
    exact Calls.grown_of h
  have cE : ∀ n os, Calls Try.prog 27 #[.agg #[.string x.src, .string x.dst, .string x.lab, .int .i64 x.time, .slice A1 n1 c1], .agg #[.string y.src, .string y.dst, .string y.lab, .int .i64 y.time, .slice A2 n2 c2]] (Sort.grow (w7.drewN n) os) fun e w'' => e = .returned (.bool r) ∧ ∃ p : GrownBy, w'' = Sort.grow (w7.drewN p.n) p.os := fun n os => by
    have hg : Gr w7 (Sort.grow (w7.drewN n) os) := ⟨n, os, rfl⟩
    have h := sameE_any ((H1.out.below HK7.out).below hg.below) ((H2.out.below HK7.out).below hg.below) HSX.out.2.2.2.1
    rw [HR.out] at h
    unfold Gr Ed.v at h
    exact Calls.grown_of h
  have hlx : w.heap.size < w7.heap.size := by have := HT0.out; exact (HX.out.below HK7.out).lt
  have hly : w.heap.size + 1 < w7.heap.size := (HY.out.below HK7.out).lt
  have ka0 := cell_grown (a := ⟨w.heap.size, 0, none⟩) hlx a0
  have kb0 := cell_grown (a := ⟨w.heap.size + 1, 0, none⟩) hly b0
  have ka1 := cell_grown (a := ⟨w.heap.size, 1, none⟩) hlx a1
  have kb1 := cell_grown (a := ⟨w.heap.size + 1, 1, none⟩) hly b1
  have ka2 := cell_grown (a := ⟨w.heap.size, 2, none⟩) hlx a2
  have kb2 := cell_grown (a := ⟨w.heap.size + 1, 2, none⟩) hly b2
  have ka3 := cell_grown (a := ⟨w.heap.size, 3, none⟩) hlx a3
  have kb3 := cell_grown (a := ⟨w.heap.size + 1, 3, none⟩) hly b3
  have ka4 := cell_grown (a := ⟨w.heap.size, 4, none⟩) hlx a4
  have kb4 := cell_grown (a := ⟨w.heap.size + 1, 4, none⟩) hly b4
  clear hlx hly a0 a1 a2 a3 a4 b0 b1 b2 b3 b4
  refine wp_region_quiet_grown mixed (by kernel_rfl) ?_
  repeat (first | go_big_quiet_skip | (go_big_quiet_want; go_big_quiet_op; first | go_big_quiet_on | go_big_quiet_call (first | exact cB _ _ | exact cE _ _)) | quiet_step (first | exact cB _ _ | exact cE _ _))
  refine wpQuiet_nil ?_
  intro _ hw'
  obtain ⟨⟨nq, osq⟩, hw''⟩ := hw'
  subst hw''
  have HK8 := Lib.hid (chn HK7.out (Gr.below (⟨nq, osq, rfl⟩ : Gr w7 (Sort.grow (w7.drewN nq) osq))))
  clear cB cE ka0 ka1 ka2 ka3 ka4 kb0 kb1 kb2 kb3 kb4
  generalize Sort.grow (w7.drewN nq) osq = w8 at *
  go_wp2_with (first
    | (go_at_call 25; refine (F6.out _ HK8.out).mono ?_; clear F6; rintro z w9 ⟨A9, n9, c9, hz, hp9, hw⟩; subst hz; have HK9 := Lib.hid (chn HK8.out hw); have HP9 := Lib.hid hp9; clear hw hp9)
    | (go_at_call 27; refine (F7.out _ _ _ _ (HP9.out.below ((Below.refl _ _).alloc (Nat.le_refl _) _))).mono ?_; clear F7; rintro z w11 ⟨hz, hw⟩; subst hz; have HK11 := Lib.hid (chn (HK9.out.alloc HK9.out.size _) hw.below); clear hw)
    | fail)
  go_ret
  exact ⟨rfl, HT0.out.trans (HK11.out.mono HT0.out.size)⟩

set_option maxHeartbeats 4000000 in
set_option maxRecDepth 100000 in
theorem back2 {w : World} {v1 v2 vb : Value} {x y : Ed} {l : List UInt8} (h1 : PR w v1 x.props) (h2 : PR w v2 y.props) (hb : BR w vb l) (hcap : CapOk vb) (hx : SzE x) (hy : SzE y) (hl : l.length ≤ 281474976710656) (hcx : checkE x = 0) (hcy : checkE y ≠ 0) {g : Ed} (hpl : parseE l = (g, 0)) (hg0 : checkE g = 0) (hgl : putE g = l) (hsg : SzE g) :
    Calls Try.prog 7 #[x.v v1, y.v v2, vb] w fun e w' => e = .returned (.bool true) ∧ Below w.heap.size w w' := by
  obtain ⟨A1, n1, c1, rfl⟩ := slice_any h1
  obtain ⟨A2, n2, c2, rfl⟩ := slice_any h2
  obtain ⟨A3, c3, rfl⟩ := hb.form
  unfold Ed.v
  obtain ⟨W0, hW0⟩ : ∃ W, (w.alloc (.cells #[.string x.src, .string x.dst, .string x.lab, .int .i64 x.time, .slice A1 n1 c1] 24)).alloc (.cells #[.string y.src, .string y.dst, .string y.lab, .int .i64 y.time, .slice A2 n2 c2] 24) = W := ⟨_, rfl⟩
  have HX := Lib.hid (show Bx5 W0 w.heap.size (.string x.src) (.string x.dst) (.string x.lab) (.int .i64 x.time) (.slice A1 n1 c1) by rw [← hW0]; exact Bx5.below (Bx5.new w _ _ _ _ _ 24) ((Below.refl _ _).alloc (Nat.le_refl _) _))
  have HY := Lib.hid (show Bx5 W0 (w.heap.size + 1) (.string y.src) (.string y.dst) (.string y.lab) (.int .i64 y.time) (.slice A2 n2 c2) by rw [← hW0]; exact bx_at)
  have HT0 := Lib.hid (show Below w.heap.size w W0 by rw [← hW0]; exact ((Below.refl w.heap.size w).alloc (Nat.le_refl _) _).alloc (by simp) _)
  have H1 := Lib.hid (h1.below HT0.out)
  have H2 := Lib.hid (h2.below HT0.out)
  have H3 := Lib.hid (hb.below HT0.out)
  obtain ⟨n3, hn3⟩ : ∃ n, l.length = n := ⟨_, rfl⟩
  have HN3 := Lib.hid hn3
  have hl' : n3 ≤ 281474976710656 := hn3 ▸ hl
  have HSX := Lib.hid hx
  have HSY := Lib.hid hy
  have HCAP := Lib.hid hcap
  have HL := Lib.hid hl
  clear h1 h2 hb hcap hx hy hl
  have f1 := fun W (hW : Below W0.heap.size W0 W) => put_cap (H1.out.below hW) HSX.out
  have f2 := fun W (hW : Below W0.heap.size W0 W) => put_cap (H2.out.below hW) HSY.out
  have f3 := fun W (hW : Below W0.heap.size W0 W) => check_any (H1.out.below hW) HSX.out
  unfold PutsC Ed.v at f1 f2
  unfold CheckR Ed.v at f3
  have HQX := Lib.hid (show parseE (putB x) = (x, 0) by unfold putB; rw [if_pos hcx]; exact parse_put hcx)
  have HLX := Lib.hid (putB_le hcx)
  have f4 := fun W v (h : BR W v (putB x)) (hc : CapOk v) => parse_yes HQX.out h hc HLX.out
  have f5 := fun W (hW : Below W0.heap.size W0 W) A n c (h : PR W (.slice A n c) x.props) => sameE_yes h (H1.out.below hW) HSX.out.2.2.2.1
  unfold Ed.v at f4 f5
  rw [hcx] at f1 f3
  obtain ⟨cd, hcd⟩ : ∃ c, checkE y = c := ⟨_, rfl⟩
  rw [hcd] at f2 hcy
  have hb1 : (cd == 0) = false := by simpa using hcy
  clear hcd hcy
  have HG0 := Lib.hid hg0
  have f6 := fun W (hW : Below W0.heap.size W0 W) => parse_yes (e := g) hpl (H3.out.below hW) HCAP.out HL.out
  have f7 := fun W v (h : PR W v g.props) => put_yes HG0.out h hsg
  unfold Ed.v at f6 f7
  rw [hgl] at f7
  have f8 := fun W (hW : Below W0.heap.size W0 W) v (h : BR W v l) => sameB_yes h (H3.out.below hW) HL.out
  have HKR := Lib.hid (Below.refl W0.heap.size W0)
  have F1 := Lib.hid f1
  have F2 := Lib.hid f2
  have F3 := Lib.hid f3
  have F4 := Lib.hid f4
  have F5 := Lib.hid f5
  have F6 := Lib.hid f6
  have F7 := Lib.hid f7
  have F8 := Lib.hid f8
  clear f1 f2 f3 f4 f5 f6 f7 f8 hcx hpl hg0 hgl hsg
  rw [hn3] at H3 HCAP F6 F8 ⊢
  clear hn3
  go_enter Try.func7, Try.ntmps7
  go_upto_region 1 with (fail)
  try rw [hW0]
  clear hW0
  obtain ⟨a0, a1, a2, a3, a4, _⟩ := HX.out
  obtain ⟨b0, b1, b2, b3, b4, _⟩ := HY.out
  go_wp2_with (go_at_call 10; refine (awake_any _).mono ?_; rintro z w1 ⟨hz, hw⟩; subst hz; have HK1 := Lib.hid hw; clear a0 a1 a2 a3 a4 b0 b1 b2 b3 b4; obtain ⟨a0, a1, a2, a3, a4, _⟩ := HX.out.below HK1.out; obtain ⟨b0, b1, b2, b3, b4, _⟩ := HY.out.below HK1.out; clear hw)
  refine (size_any (l := [(x, .slice A1 n1 c1), (y, .slice A2 n2 c2)]) (ER.of_block (heap_alloc_new _ _) rfl 2 (fun p hp => ?_)) (by simp) (fun p hp => ?_)).mono ?_
  · rcases List.mem_cons.1 hp with rfl | hp
    · exact (H1.out.below HK1.out).below ((Below.refl _ _).alloc (Nat.le_refl _) _)
    · rw [List.mem_singleton.1 hp]
      exact (H2.out.below HK1.out).below ((Below.refl _ _).alloc (Nat.le_refl _) _)
  · rcases List.mem_cons.1 hp with rfl | hp
    · exact HSX.out.2.2.2.1
    · rw [List.mem_singleton.1 hp]
      exact HSY.out.2.2.2.1
  rintro z w2 ⟨m, hz, hm1, hm2, hw⟩
  subst hz
  have HK2 := Lib.hid (chn (HK1.out.alloc HK1.out.size _) hw.below)
  clear a0 a1 a2 a3 a4 b0 b1 b2 b3 b4
  obtain ⟨a0, a1, a2, a3, a4, _⟩ := HX.out.below HK2.out; obtain ⟨b0, b1, b2, b3, b4, _⟩ := HY.out.below HK2.out
  clear hw
  by_cases hm : 2000 < m + n3
  · clear H1 H2
    go_wp2_with fail
    go_ret
    exact ⟨rfl, HT0.out.trans (HK2.out.mono HT0.out.size)⟩
  have hm3 : (0 : Int) ≤ m := by simp at hm1; omega
  go_upto_region 13 with (first
    | (go_at_call 14; refine (F1.out _ HK2.out).mono ?_; clear F1; rintro z w3 ⟨px, hz, bx, cpx, hw⟩; subst hz; have HK3 := Lib.hid (chn HK2.out hw); have HBX3 := Lib.hid bx; have HCX := Lib.hid cpx; clear a0 a1 a2 a3 a4 b0 b1 b2 b3 b4; obtain ⟨a0, a1, a2, a3, a4, _⟩ := HX.out.below HK3.out; obtain ⟨b0, b1, b2, b3, b4, _⟩ := HY.out.below HK3.out; clear hw bx cpx)
    | (go_at_call 14; refine (F2.out _ HK3.out).mono ?_; clear F2; rintro z w4 ⟨py, hz, by_, cpy, hw⟩; subst hz; have HK4 := Lib.hid (chn HK3.out hw); have HBX4 := Lib.hid (HBX3.out.below hw); have HBY4 := Lib.hid by_; clear a0 a1 a2 a3 a4 b0 b1 b2 b3 b4; obtain ⟨a0, a1, a2, a3, a4, _⟩ := HX.out.below HK4.out; obtain ⟨b0, b1, b2, b3, b4, _⟩ := HY.out.below HK4.out; clear hw by_ cpy)
    | (go_at_call 16; refine (F3.out _ HK4.out).mono ?_; clear F3; rintro z w5 ⟨hz, hw⟩; subst hz; have HK5 := Lib.hid (chn HK4.out hw); have HBX5 := Lib.hid (HBX4.out.below hw); have HBY5 := Lib.hid (HBY4.out.below hw); clear a0 a1 a2 a3 a4 b0 b1 b2 b3 b4; obtain ⟨a0, a1, a2, a3, a4, _⟩ := HX.out.below HK5.out; obtain ⟨b0, b1, b2, b3, b4, _⟩ := HY.out.below HK5.out; clear hw)
    | (go_at_call 25; refine (F4.out _ _ HBX5.out HCX.out).mono ?_; clear F4; rintro z w6 ⟨A6, n6, c6, hz, hp6, hw⟩; subst hz; have HK6 := Lib.hid (chn HK5.out hw); have HBX6 := Lib.hid (HBX5.out.below hw); have HBY6 := Lib.hid (HBY5.out.below hw); have HP6 := Lib.hid hp6; clear a0 a1 a2 a3 a4 b0 b1 b2 b3 b4; obtain ⟨a0, a1, a2, a3, a4, _⟩ := HX.out.below HK6.out; obtain ⟨b0, b1, b2, b3, b4, _⟩ := HY.out.below HK6.out; clear hw hp6)
    | (go_at_call 27; refine (F5.out _ (HK6.out.alloc HK6.out.size _) _ _ _ (HP6.out.below ((Below.refl _ _).alloc (Nat.le_refl _) _))).mono ?_; clear F5; rintro z w7 ⟨hz, hw⟩; subst hz; have HK7 := Lib.hid (chn (HK6.out.alloc HK6.out.size _) hw.below); have HBX7 := Lib.hid ((HBX6.out.below ((Below.refl _ _).alloc (Nat.le_refl _) _)).below hw.below); have HBY7 := Lib.hid ((HBY6.out.below ((Below.refl _ _).alloc (Nat.le_refl _) _)).below hw.below); clear a0 a1 a2 a3 a4 b0 b1 b2 b3 b4; obtain ⟨a0, a1, a2, a3, a4, _⟩ := HX.out.below HK7.out; obtain ⟨b0, b1, b2, b3, b4, _⟩ := HY.out.below HK7.out; clear hw)
    | fail)
  refine wp_region_quiet_grown mixed (by kernel_rfl) ?_
  repeat (first | go_big_quiet_skip | (go_big_quiet_want; go_big_quiet_op; first | go_big_quiet_on | go_big_quiet_call (fail)) | quiet_step (fail))
  refine wpQuiet_nil ?_
  intro _ hw'
  obtain ⟨⟨nq, osq⟩, hw''⟩ := hw'
  subst hw''
  have HK8 := Lib.hid (chn HK7.out (Gr.below (⟨nq, osq, rfl⟩ : Gr w7 (Sort.grow (w7.drewN nq) osq))))
  clear a0 a1 a2 a3 a4 b0 b1 b2 b3 b4
  generalize Sort.grow (w7.drewN nq) osq = w8 at *
  go_wp2_with (first
    | (go_at_call 25; refine (F6.out _ HK8.out).mono ?_; clear F6; rintro z w9 ⟨A9, n9, c9, hz, hp9, hw⟩; subst hz; have HK9 := Lib.hid (chn HK8.out hw); have HP9 := Lib.hid hp9; clear hw hp9)
    | (go_at_call 14; refine (F7.out _ _ (HP9.out.below ((Below.refl _ _).alloc (Nat.le_refl _) _))).mono ?_; clear F7; rintro z w10 ⟨pz, hz, bz, cpz, hw⟩; subst hz; have HK10 := Lib.hid (chn (HK9.out.alloc HK9.out.size _) hw); have HBZ := Lib.hid bz; clear hw bz cpz)
    | (go_at_call 22; refine (F8.out _ HK10.out _ HBZ.out).mono ?_; clear F8; rintro z w11 ⟨hz, hw⟩; subst hz; have HK11 := Lib.hid (chn HK10.out hw.below); clear hw)
    | fail)
  go_ret
  exact ⟨rfl, HT0.out.trans (HK11.out.mono HT0.out.size)⟩

set_option maxHeartbeats 4000000 in
set_option maxRecDepth 100000 in
theorem back3 {w : World} {v1 v2 vb : Value} {x y : Ed} {l : List UInt8} (h1 : PR w v1 x.props) (h2 : PR w v2 y.props) (hb : BR w vb l) (hcap : CapOk vb) (hx : SzE x) (hy : SzE y) (hl : l.length ≤ 281474976710656) (hcx : checkE x = 0) (hcy : checkE y ≠ 0) (hpl : parseE l = (zeroE, 4)) :
    Calls Try.prog 7 #[x.v v1, y.v v2, vb] w fun e w' => e = .returned (.bool true) ∧ Below w.heap.size w w' := by
  obtain ⟨A1, n1, c1, rfl⟩ := slice_any h1
  obtain ⟨A2, n2, c2, rfl⟩ := slice_any h2
  obtain ⟨A3, c3, rfl⟩ := hb.form
  unfold Ed.v
  obtain ⟨W0, hW0⟩ : ∃ W, (w.alloc (.cells #[.string x.src, .string x.dst, .string x.lab, .int .i64 x.time, .slice A1 n1 c1] 24)).alloc (.cells #[.string y.src, .string y.dst, .string y.lab, .int .i64 y.time, .slice A2 n2 c2] 24) = W := ⟨_, rfl⟩
  have HX := Lib.hid (show Bx5 W0 w.heap.size (.string x.src) (.string x.dst) (.string x.lab) (.int .i64 x.time) (.slice A1 n1 c1) by rw [← hW0]; exact Bx5.below (Bx5.new w _ _ _ _ _ 24) ((Below.refl _ _).alloc (Nat.le_refl _) _))
  have HY := Lib.hid (show Bx5 W0 (w.heap.size + 1) (.string y.src) (.string y.dst) (.string y.lab) (.int .i64 y.time) (.slice A2 n2 c2) by rw [← hW0]; exact bx_at)
  have HT0 := Lib.hid (show Below w.heap.size w W0 by rw [← hW0]; exact ((Below.refl w.heap.size w).alloc (Nat.le_refl _) _).alloc (by simp) _)
  have H1 := Lib.hid (h1.below HT0.out)
  have H2 := Lib.hid (h2.below HT0.out)
  have H3 := Lib.hid (hb.below HT0.out)
  obtain ⟨n3, hn3⟩ : ∃ n, l.length = n := ⟨_, rfl⟩
  have HN3 := Lib.hid hn3
  have hl' : n3 ≤ 281474976710656 := hn3 ▸ hl
  have HSX := Lib.hid hx
  have HSY := Lib.hid hy
  have HCAP := Lib.hid hcap
  have HL := Lib.hid hl
  clear h1 h2 hb hcap hx hy hl
  have f1 := fun W (hW : Below W0.heap.size W0 W) => put_cap (H1.out.below hW) HSX.out
  have f2 := fun W (hW : Below W0.heap.size W0 W) => put_cap (H2.out.below hW) HSY.out
  have f3 := fun W (hW : Below W0.heap.size W0 W) => check_any (H1.out.below hW) HSX.out
  unfold PutsC Ed.v at f1 f2
  unfold CheckR Ed.v at f3
  have HQX := Lib.hid (show parseE (putB x) = (x, 0) by unfold putB; rw [if_pos hcx]; exact parse_put hcx)
  have HLX := Lib.hid (putB_le hcx)
  have f4 := fun W v (h : BR W v (putB x)) (hc : CapOk v) => parse_yes HQX.out h hc HLX.out
  have f5 := fun W (hW : Below W0.heap.size W0 W) A n c (h : PR W (.slice A n c) x.props) => sameE_yes h (H1.out.below hW) HSX.out.2.2.2.1
  unfold Ed.v at f4 f5
  rw [hcx] at f1 f3
  obtain ⟨cd, hcd⟩ : ∃ c, checkE y = c := ⟨_, rfl⟩
  rw [hcd] at f2 hcy
  have hb1 : (cd == 0) = false := by simpa using hcy
  clear hcd hcy
  have f6 := fun W (hW : Below W0.heap.size W0 W) => parse_not hpl (H3.out.below hW) HCAP.out HL.out
  have f7 := fun W A n c (h : PR W (.slice A n c) []) => sameE_yes (e := zeroE) (v2 := .slice none 0 0) h (PR.nil _ _ _) (by decide)
  unfold Ed.v zeroE at f7
  have HKR := Lib.hid (Below.refl W0.heap.size W0)
  have F1 := Lib.hid f1
  have F2 := Lib.hid f2
  have F3 := Lib.hid f3
  have F4 := Lib.hid f4
  have F5 := Lib.hid f5
  have F6 := Lib.hid f6
  have F7 := Lib.hid f7
  clear f1 f2 f3 f4 f5 f6 f7 hcx hpl
  rw [hn3] at H3 HCAP F6 ⊢
  clear hn3
  go_enter Try.func7, Try.ntmps7
  go_upto_region 1 with (fail)
  try rw [hW0]
  clear hW0
  obtain ⟨a0, a1, a2, a3, a4, _⟩ := HX.out
  obtain ⟨b0, b1, b2, b3, b4, _⟩ := HY.out
  go_wp2_with (go_at_call 10; refine (awake_any _).mono ?_; rintro z w1 ⟨hz, hw⟩; subst hz; have HK1 := Lib.hid hw; clear a0 a1 a2 a3 a4 b0 b1 b2 b3 b4; obtain ⟨a0, a1, a2, a3, a4, _⟩ := HX.out.below HK1.out; obtain ⟨b0, b1, b2, b3, b4, _⟩ := HY.out.below HK1.out; clear hw)
  refine (size_any (l := [(x, .slice A1 n1 c1), (y, .slice A2 n2 c2)]) (ER.of_block (heap_alloc_new _ _) rfl 2 (fun p hp => ?_)) (by simp) (fun p hp => ?_)).mono ?_
  · rcases List.mem_cons.1 hp with rfl | hp
    · exact (H1.out.below HK1.out).below ((Below.refl _ _).alloc (Nat.le_refl _) _)
    · rw [List.mem_singleton.1 hp]
      exact (H2.out.below HK1.out).below ((Below.refl _ _).alloc (Nat.le_refl _) _)
  · rcases List.mem_cons.1 hp with rfl | hp
    · exact HSX.out.2.2.2.1
    · rw [List.mem_singleton.1 hp]
      exact HSY.out.2.2.2.1
  rintro z w2 ⟨m, hz, hm1, hm2, hw⟩
  subst hz
  have HK2 := Lib.hid (chn (HK1.out.alloc HK1.out.size _) hw.below)
  clear a0 a1 a2 a3 a4 b0 b1 b2 b3 b4
  obtain ⟨a0, a1, a2, a3, a4, _⟩ := HX.out.below HK2.out; obtain ⟨b0, b1, b2, b3, b4, _⟩ := HY.out.below HK2.out
  clear hw
  by_cases hm : 2000 < m + n3
  · clear H1 H2
    go_wp2_with fail
    go_ret
    exact ⟨rfl, HT0.out.trans (HK2.out.mono HT0.out.size)⟩
  have hm3 : (0 : Int) ≤ m := by simp at hm1; omega
  go_upto_region 13 with (first
    | (go_at_call 14; refine (F1.out _ HK2.out).mono ?_; clear F1; rintro z w3 ⟨px, hz, bx, cpx, hw⟩; subst hz; have HK3 := Lib.hid (chn HK2.out hw); have HBX3 := Lib.hid bx; have HCX := Lib.hid cpx; clear a0 a1 a2 a3 a4 b0 b1 b2 b3 b4; obtain ⟨a0, a1, a2, a3, a4, _⟩ := HX.out.below HK3.out; obtain ⟨b0, b1, b2, b3, b4, _⟩ := HY.out.below HK3.out; clear hw bx cpx)
    | (go_at_call 14; refine (F2.out _ HK3.out).mono ?_; clear F2; rintro z w4 ⟨py, hz, by_, cpy, hw⟩; subst hz; have HK4 := Lib.hid (chn HK3.out hw); have HBX4 := Lib.hid (HBX3.out.below hw); have HBY4 := Lib.hid by_; clear a0 a1 a2 a3 a4 b0 b1 b2 b3 b4; obtain ⟨a0, a1, a2, a3, a4, _⟩ := HX.out.below HK4.out; obtain ⟨b0, b1, b2, b3, b4, _⟩ := HY.out.below HK4.out; clear hw by_ cpy)
    | (go_at_call 16; refine (F3.out _ HK4.out).mono ?_; clear F3; rintro z w5 ⟨hz, hw⟩; subst hz; have HK5 := Lib.hid (chn HK4.out hw); have HBX5 := Lib.hid (HBX4.out.below hw); have HBY5 := Lib.hid (HBY4.out.below hw); clear a0 a1 a2 a3 a4 b0 b1 b2 b3 b4; obtain ⟨a0, a1, a2, a3, a4, _⟩ := HX.out.below HK5.out; obtain ⟨b0, b1, b2, b3, b4, _⟩ := HY.out.below HK5.out; clear hw)
    | (go_at_call 25; refine (F4.out _ _ HBX5.out HCX.out).mono ?_; clear F4; rintro z w6 ⟨A6, n6, c6, hz, hp6, hw⟩; subst hz; have HK6 := Lib.hid (chn HK5.out hw); have HBX6 := Lib.hid (HBX5.out.below hw); have HBY6 := Lib.hid (HBY5.out.below hw); have HP6 := Lib.hid hp6; clear a0 a1 a2 a3 a4 b0 b1 b2 b3 b4; obtain ⟨a0, a1, a2, a3, a4, _⟩ := HX.out.below HK6.out; obtain ⟨b0, b1, b2, b3, b4, _⟩ := HY.out.below HK6.out; clear hw hp6)
    | (go_at_call 27; refine (F5.out _ (HK6.out.alloc HK6.out.size _) _ _ _ (HP6.out.below ((Below.refl _ _).alloc (Nat.le_refl _) _))).mono ?_; clear F5; rintro z w7 ⟨hz, hw⟩; subst hz; have HK7 := Lib.hid (chn (HK6.out.alloc HK6.out.size _) hw.below); have HBX7 := Lib.hid ((HBX6.out.below ((Below.refl _ _).alloc (Nat.le_refl _) _)).below hw.below); have HBY7 := Lib.hid ((HBY6.out.below ((Below.refl _ _).alloc (Nat.le_refl _) _)).below hw.below); clear a0 a1 a2 a3 a4 b0 b1 b2 b3 b4; obtain ⟨a0, a1, a2, a3, a4, _⟩ := HX.out.below HK7.out; obtain ⟨b0, b1, b2, b3, b4, _⟩ := HY.out.below HK7.out; clear hw)
    | fail)
  refine wp_region_quiet_grown mixed (by kernel_rfl) ?_
  repeat (first | go_big_quiet_skip | (go_big_quiet_want; go_big_quiet_op; first | go_big_quiet_on | go_big_quiet_call (fail)) | quiet_step (fail))
  refine wpQuiet_nil ?_
  intro _ hw'
  obtain ⟨⟨nq, osq⟩, hw''⟩ := hw'
  subst hw''
  have HK8 := Lib.hid (chn HK7.out (Gr.below (⟨nq, osq, rfl⟩ : Gr w7 (Sort.grow (w7.drewN nq) osq))))
  clear a0 a1 a2 a3 a4 b0 b1 b2 b3 b4
  generalize Sort.grow (w7.drewN nq) osq = w8 at *
  go_wp2_with (first
    | (go_at_call 25; refine (F6.out _ HK8.out).mono ?_; clear F6; rintro z w9 ⟨A9, n9, c9, hz, hp9, hw⟩; subst hz; have HK9 := Lib.hid (chn HK8.out hw); have HP9 := Lib.hid hp9; clear hw hp9)
    | (go_at_call 27; refine (F7.out _ _ _ _ (HP9.out.below ((Below.refl _ _).alloc (Nat.le_refl _) _))).mono ?_; clear F7; rintro z w11 ⟨hz, hw⟩; subst hz; have HK11 := Lib.hid (chn (HK9.out.alloc HK9.out.size _) hw.below); clear hw)
    | fail)
  go_ret
  exact ⟨rfl, HT0.out.trans (HK11.out.mono HT0.out.size)⟩

set_option maxHeartbeats 4000000 in
set_option maxRecDepth 100000 in
theorem back4 {w : World} {v1 v2 vb : Value} {x y : Ed} {l : List UInt8} (h1 : PR w v1 x.props) (h2 : PR w v2 y.props) (hb : BR w vb l) (hcap : CapOk vb) (hx : SzE x) (hy : SzE y) (hl : l.length ≤ 281474976710656) (hcx : checkE x ≠ 0) {g : Ed} (hpl : parseE l = (g, 0)) (hg0 : checkE g = 0) (hgl : putE g = l) (hsg : SzE g) :
    Calls Try.prog 7 #[x.v v1, y.v v2, vb] w fun e w' => e = .returned (.bool true) ∧ Below w.heap.size w w' := by
  obtain ⟨A1, n1, c1, rfl⟩ := slice_any h1
  obtain ⟨A2, n2, c2, rfl⟩ := slice_any h2
  obtain ⟨A3, c3, rfl⟩ := hb.form
  unfold Ed.v
  obtain ⟨W0, hW0⟩ : ∃ W, (w.alloc (.cells #[.string x.src, .string x.dst, .string x.lab, .int .i64 x.time, .slice A1 n1 c1] 24)).alloc (.cells #[.string y.src, .string y.dst, .string y.lab, .int .i64 y.time, .slice A2 n2 c2] 24) = W := ⟨_, rfl⟩
  have HX := Lib.hid (show Bx5 W0 w.heap.size (.string x.src) (.string x.dst) (.string x.lab) (.int .i64 x.time) (.slice A1 n1 c1) by rw [← hW0]; exact Bx5.below (Bx5.new w _ _ _ _ _ 24) ((Below.refl _ _).alloc (Nat.le_refl _) _))
  have HY := Lib.hid (show Bx5 W0 (w.heap.size + 1) (.string y.src) (.string y.dst) (.string y.lab) (.int .i64 y.time) (.slice A2 n2 c2) by rw [← hW0]; exact bx_at)
  have HT0 := Lib.hid (show Below w.heap.size w W0 by rw [← hW0]; exact ((Below.refl w.heap.size w).alloc (Nat.le_refl _) _).alloc (by simp) _)
  have H1 := Lib.hid (h1.below HT0.out)
  have H2 := Lib.hid (h2.below HT0.out)
  have H3 := Lib.hid (hb.below HT0.out)
  obtain ⟨n3, hn3⟩ : ∃ n, l.length = n := ⟨_, rfl⟩
  have HN3 := Lib.hid hn3
  have hl' : n3 ≤ 281474976710656 := hn3 ▸ hl
  have HSX := Lib.hid hx
  have HSY := Lib.hid hy
  have HCAP := Lib.hid hcap
  have HL := Lib.hid hl
  clear h1 h2 hb hcap hx hy hl
  have f1 := fun W (hW : Below W0.heap.size W0 W) => put_cap (H1.out.below hW) HSX.out
  have f2 := fun W (hW : Below W0.heap.size W0 W) => put_cap (H2.out.below hW) HSY.out
  have f3 := fun W (hW : Below W0.heap.size W0 W) => check_any (H1.out.below hW) HSX.out
  unfold PutsC Ed.v at f1 f2
  unfold CheckR Ed.v at f3
  obtain ⟨cc, hcc⟩ : ∃ c, checkE x = c := ⟨_, rfl⟩
  rw [hcc] at f1 f3 hcx
  have hb0 : (cc == 0) = false := by simpa using hcx
  clear hcc hcx
  obtain ⟨cd, hcd⟩ : ∃ c, checkE y = c := ⟨_, rfl⟩
  rw [hcd] at f2
  clear hcd
  have HG0 := Lib.hid hg0
  have f6 := fun W (hW : Below W0.heap.size W0 W) => parse_yes (e := g) hpl (H3.out.below hW) HCAP.out HL.out
  have f7 := fun W v (h : PR W v g.props) => put_yes HG0.out h hsg
  unfold Ed.v at f6 f7
  rw [hgl] at f7
  have f8 := fun W (hW : Below W0.heap.size W0 W) v (h : BR W v l) => sameB_yes h (H3.out.below hW) HL.out
  have HKR := Lib.hid (Below.refl W0.heap.size W0)
  have F1 := Lib.hid f1
  have F2 := Lib.hid f2
  have F3 := Lib.hid f3
  have F6 := Lib.hid f6
  have F7 := Lib.hid f7
  have F8 := Lib.hid f8
  clear f1 f2 f3 f6 f7 f8 hpl hg0 hgl hsg
  rw [hn3] at H3 HCAP F6 F8 ⊢
  clear hn3
  go_enter Try.func7, Try.ntmps7
  go_upto_region 1 with (fail)
  try rw [hW0]
  clear hW0
  obtain ⟨a0, a1, a2, a3, a4, _⟩ := HX.out
  obtain ⟨b0, b1, b2, b3, b4, _⟩ := HY.out
  go_wp2_with (go_at_call 10; refine (awake_any _).mono ?_; rintro z w1 ⟨hz, hw⟩; subst hz; have HK1 := Lib.hid hw; clear a0 a1 a2 a3 a4 b0 b1 b2 b3 b4; obtain ⟨a0, a1, a2, a3, a4, _⟩ := HX.out.below HK1.out; obtain ⟨b0, b1, b2, b3, b4, _⟩ := HY.out.below HK1.out; clear hw)
  refine (size_any (l := [(x, .slice A1 n1 c1), (y, .slice A2 n2 c2)]) (ER.of_block (heap_alloc_new _ _) rfl 2 (fun p hp => ?_)) (by simp) (fun p hp => ?_)).mono ?_
  · rcases List.mem_cons.1 hp with rfl | hp
    · exact (H1.out.below HK1.out).below ((Below.refl _ _).alloc (Nat.le_refl _) _)
    · rw [List.mem_singleton.1 hp]
      exact (H2.out.below HK1.out).below ((Below.refl _ _).alloc (Nat.le_refl _) _)
  · rcases List.mem_cons.1 hp with rfl | hp
    · exact HSX.out.2.2.2.1
    · rw [List.mem_singleton.1 hp]
      exact HSY.out.2.2.2.1
  rintro z w2 ⟨m, hz, hm1, hm2, hw⟩
  subst hz
  have HK2 := Lib.hid (chn (HK1.out.alloc HK1.out.size _) hw.below)
  clear a0 a1 a2 a3 a4 b0 b1 b2 b3 b4
  obtain ⟨a0, a1, a2, a3, a4, _⟩ := HX.out.below HK2.out; obtain ⟨b0, b1, b2, b3, b4, _⟩ := HY.out.below HK2.out
  clear hw
  by_cases hm : 2000 < m + n3
  · clear H1 H2
    go_wp2_with fail
    go_ret
    exact ⟨rfl, HT0.out.trans (HK2.out.mono HT0.out.size)⟩
  have hm3 : (0 : Int) ≤ m := by simp at hm1; omega
  go_upto_region 13 with (first
    | (go_at_call 14; refine (F1.out _ HK2.out).mono ?_; clear F1; rintro z w3 ⟨px, hz, bx, cpx, hw⟩; subst hz; have HK3 := Lib.hid (chn HK2.out hw); have HBX3 := Lib.hid bx; have HCX := Lib.hid cpx; clear a0 a1 a2 a3 a4 b0 b1 b2 b3 b4; obtain ⟨a0, a1, a2, a3, a4, _⟩ := HX.out.below HK3.out; obtain ⟨b0, b1, b2, b3, b4, _⟩ := HY.out.below HK3.out; clear hw bx cpx)
    | (go_at_call 14; refine (F2.out _ HK3.out).mono ?_; clear F2; rintro z w4 ⟨py, hz, by_, cpy, hw⟩; subst hz; have HK4 := Lib.hid (chn HK3.out hw); have HBX4 := Lib.hid (HBX3.out.below hw); have HBY4 := Lib.hid by_; clear a0 a1 a2 a3 a4 b0 b1 b2 b3 b4; obtain ⟨a0, a1, a2, a3, a4, _⟩ := HX.out.below HK4.out; obtain ⟨b0, b1, b2, b3, b4, _⟩ := HY.out.below HK4.out; clear hw by_ cpy)
    | (go_at_call 16; refine (F3.out _ HK4.out).mono ?_; clear F3; rintro z w5 ⟨hz, hw⟩; subst hz; have HK5 := Lib.hid (chn HK4.out hw); have HBX5 := Lib.hid (HBX4.out.below hw); have HBY5 := Lib.hid (HBY4.out.below hw); clear a0 a1 a2 a3 a4 b0 b1 b2 b3 b4; obtain ⟨a0, a1, a2, a3, a4, _⟩ := HX.out.below HK5.out; obtain ⟨b0, b1, b2, b3, b4, _⟩ := HY.out.below HK5.out; clear hw)
    | fail)
  refine wp_region_quiet_grown mixed (by kernel_rfl) ?_
  repeat (first | go_big_quiet_skip | (go_big_quiet_want; go_big_quiet_op; first | go_big_quiet_on | go_big_quiet_call (fail)) | quiet_step (fail))
  refine wpQuiet_nil ?_
  intro _ hw'
  obtain ⟨⟨nq, osq⟩, hw''⟩ := hw'
  subst hw''
  have HK8 := Lib.hid (chn HK5.out (Gr.below (⟨nq, osq, rfl⟩ : Gr w5 (Sort.grow (w5.drewN nq) osq))))
  clear a0 a1 a2 a3 a4 b0 b1 b2 b3 b4
  generalize Sort.grow (w5.drewN nq) osq = w8 at *
  go_wp2_with (first
    | (go_at_call 25; refine (F6.out _ HK8.out).mono ?_; clear F6; rintro z w9 ⟨A9, n9, c9, hz, hp9, hw⟩; subst hz; have HK9 := Lib.hid (chn HK8.out hw); have HP9 := Lib.hid hp9; clear hw hp9)
    | (go_at_call 14; refine (F7.out _ _ (HP9.out.below ((Below.refl _ _).alloc (Nat.le_refl _) _))).mono ?_; clear F7; rintro z w10 ⟨pz, hz, bz, cpz, hw⟩; subst hz; have HK10 := Lib.hid (chn (HK9.out.alloc HK9.out.size _) hw); have HBZ := Lib.hid bz; clear hw bz cpz)
    | (go_at_call 22; refine (F8.out _ HK10.out _ HBZ.out).mono ?_; clear F8; rintro z w11 ⟨hz, hw⟩; subst hz; have HK11 := Lib.hid (chn HK10.out hw.below); clear hw)
    | fail)
  go_ret
  exact ⟨rfl, HT0.out.trans (HK11.out.mono HT0.out.size)⟩

set_option maxHeartbeats 4000000 in
set_option maxRecDepth 100000 in
theorem back5 {w : World} {v1 v2 vb : Value} {x y : Ed} {l : List UInt8} (h1 : PR w v1 x.props) (h2 : PR w v2 y.props) (hb : BR w vb l) (hcap : CapOk vb) (hx : SzE x) (hy : SzE y) (hl : l.length ≤ 281474976710656) (hcx : checkE x ≠ 0) (hpl : parseE l = (zeroE, 4)) :
    Calls Try.prog 7 #[x.v v1, y.v v2, vb] w fun e w' => e = .returned (.bool true) ∧ Below w.heap.size w w' := by
  obtain ⟨A1, n1, c1, rfl⟩ := slice_any h1
  obtain ⟨A2, n2, c2, rfl⟩ := slice_any h2
  obtain ⟨A3, c3, rfl⟩ := hb.form
  unfold Ed.v
  obtain ⟨W0, hW0⟩ : ∃ W, (w.alloc (.cells #[.string x.src, .string x.dst, .string x.lab, .int .i64 x.time, .slice A1 n1 c1] 24)).alloc (.cells #[.string y.src, .string y.dst, .string y.lab, .int .i64 y.time, .slice A2 n2 c2] 24) = W := ⟨_, rfl⟩
  have HX := Lib.hid (show Bx5 W0 w.heap.size (.string x.src) (.string x.dst) (.string x.lab) (.int .i64 x.time) (.slice A1 n1 c1) by rw [← hW0]; exact Bx5.below (Bx5.new w _ _ _ _ _ 24) ((Below.refl _ _).alloc (Nat.le_refl _) _))
  have HY := Lib.hid (show Bx5 W0 (w.heap.size + 1) (.string y.src) (.string y.dst) (.string y.lab) (.int .i64 y.time) (.slice A2 n2 c2) by rw [← hW0]; exact bx_at)
  have HT0 := Lib.hid (show Below w.heap.size w W0 by rw [← hW0]; exact ((Below.refl w.heap.size w).alloc (Nat.le_refl _) _).alloc (by simp) _)
  have H1 := Lib.hid (h1.below HT0.out)
  have H2 := Lib.hid (h2.below HT0.out)
  have H3 := Lib.hid (hb.below HT0.out)
  obtain ⟨n3, hn3⟩ : ∃ n, l.length = n := ⟨_, rfl⟩
  have HN3 := Lib.hid hn3
  have hl' : n3 ≤ 281474976710656 := hn3 ▸ hl
  have HSX := Lib.hid hx
  have HSY := Lib.hid hy
  have HCAP := Lib.hid hcap
  have HL := Lib.hid hl
  clear h1 h2 hb hcap hx hy hl
  have f1 := fun W (hW : Below W0.heap.size W0 W) => put_cap (H1.out.below hW) HSX.out
  have f2 := fun W (hW : Below W0.heap.size W0 W) => put_cap (H2.out.below hW) HSY.out
  have f3 := fun W (hW : Below W0.heap.size W0 W) => check_any (H1.out.below hW) HSX.out
  unfold PutsC Ed.v at f1 f2
  unfold CheckR Ed.v at f3
  obtain ⟨cc, hcc⟩ : ∃ c, checkE x = c := ⟨_, rfl⟩
  rw [hcc] at f1 f3 hcx
  have hb0 : (cc == 0) = false := by simpa using hcx
  clear hcc hcx
  obtain ⟨cd, hcd⟩ : ∃ c, checkE y = c := ⟨_, rfl⟩
  rw [hcd] at f2
  clear hcd
  have f6 := fun W (hW : Below W0.heap.size W0 W) => parse_not hpl (H3.out.below hW) HCAP.out HL.out
  have f7 := fun W A n c (h : PR W (.slice A n c) []) => sameE_yes (e := zeroE) (v2 := .slice none 0 0) h (PR.nil _ _ _) (by decide)
  unfold Ed.v zeroE at f7
  have HKR := Lib.hid (Below.refl W0.heap.size W0)
  have F1 := Lib.hid f1
  have F2 := Lib.hid f2
  have F3 := Lib.hid f3
  have F6 := Lib.hid f6
  have F7 := Lib.hid f7
  clear f1 f2 f3 f6 f7 hpl
  rw [hn3] at H3 HCAP F6 ⊢
  clear hn3
  go_enter Try.func7, Try.ntmps7
  go_upto_region 1 with (fail)
  try rw [hW0]
  clear hW0
  obtain ⟨a0, a1, a2, a3, a4, _⟩ := HX.out
  obtain ⟨b0, b1, b2, b3, b4, _⟩ := HY.out
  go_wp2_with (go_at_call 10; refine (awake_any _).mono ?_; rintro z w1 ⟨hz, hw⟩; subst hz; have HK1 := Lib.hid hw; clear a0 a1 a2 a3 a4 b0 b1 b2 b3 b4; obtain ⟨a0, a1, a2, a3, a4, _⟩ := HX.out.below HK1.out; obtain ⟨b0, b1, b2, b3, b4, _⟩ := HY.out.below HK1.out; clear hw)
  refine (size_any (l := [(x, .slice A1 n1 c1), (y, .slice A2 n2 c2)]) (ER.of_block (heap_alloc_new _ _) rfl 2 (fun p hp => ?_)) (by simp) (fun p hp => ?_)).mono ?_
  · rcases List.mem_cons.1 hp with rfl | hp
    · exact (H1.out.below HK1.out).below ((Below.refl _ _).alloc (Nat.le_refl _) _)
    · rw [List.mem_singleton.1 hp]
      exact (H2.out.below HK1.out).below ((Below.refl _ _).alloc (Nat.le_refl _) _)
  · rcases List.mem_cons.1 hp with rfl | hp
    · exact HSX.out.2.2.2.1
    · rw [List.mem_singleton.1 hp]
      exact HSY.out.2.2.2.1
  rintro z w2 ⟨m, hz, hm1, hm2, hw⟩
  subst hz
  have HK2 := Lib.hid (chn (HK1.out.alloc HK1.out.size _) hw.below)
  clear a0 a1 a2 a3 a4 b0 b1 b2 b3 b4
  obtain ⟨a0, a1, a2, a3, a4, _⟩ := HX.out.below HK2.out; obtain ⟨b0, b1, b2, b3, b4, _⟩ := HY.out.below HK2.out
  clear hw
  by_cases hm : 2000 < m + n3
  · clear H1 H2
    go_wp2_with fail
    go_ret
    exact ⟨rfl, HT0.out.trans (HK2.out.mono HT0.out.size)⟩
  have hm3 : (0 : Int) ≤ m := by simp at hm1; omega
  go_upto_region 13 with (first
    | (go_at_call 14; refine (F1.out _ HK2.out).mono ?_; clear F1; rintro z w3 ⟨px, hz, bx, cpx, hw⟩; subst hz; have HK3 := Lib.hid (chn HK2.out hw); have HBX3 := Lib.hid bx; have HCX := Lib.hid cpx; clear a0 a1 a2 a3 a4 b0 b1 b2 b3 b4; obtain ⟨a0, a1, a2, a3, a4, _⟩ := HX.out.below HK3.out; obtain ⟨b0, b1, b2, b3, b4, _⟩ := HY.out.below HK3.out; clear hw bx cpx)
    | (go_at_call 14; refine (F2.out _ HK3.out).mono ?_; clear F2; rintro z w4 ⟨py, hz, by_, cpy, hw⟩; subst hz; have HK4 := Lib.hid (chn HK3.out hw); have HBX4 := Lib.hid (HBX3.out.below hw); have HBY4 := Lib.hid by_; clear a0 a1 a2 a3 a4 b0 b1 b2 b3 b4; obtain ⟨a0, a1, a2, a3, a4, _⟩ := HX.out.below HK4.out; obtain ⟨b0, b1, b2, b3, b4, _⟩ := HY.out.below HK4.out; clear hw by_ cpy)
    | (go_at_call 16; refine (F3.out _ HK4.out).mono ?_; clear F3; rintro z w5 ⟨hz, hw⟩; subst hz; have HK5 := Lib.hid (chn HK4.out hw); have HBX5 := Lib.hid (HBX4.out.below hw); have HBY5 := Lib.hid (HBY4.out.below hw); clear a0 a1 a2 a3 a4 b0 b1 b2 b3 b4; obtain ⟨a0, a1, a2, a3, a4, _⟩ := HX.out.below HK5.out; obtain ⟨b0, b1, b2, b3, b4, _⟩ := HY.out.below HK5.out; clear hw)
    | fail)
  refine wp_region_quiet_grown mixed (by kernel_rfl) ?_
  repeat (first | go_big_quiet_skip | (go_big_quiet_want; go_big_quiet_op; first | go_big_quiet_on | go_big_quiet_call (fail)) | quiet_step (fail))
  refine wpQuiet_nil ?_
  intro _ hw'
  obtain ⟨⟨nq, osq⟩, hw''⟩ := hw'
  subst hw''
  have HK8 := Lib.hid (chn HK5.out (Gr.below (⟨nq, osq, rfl⟩ : Gr w5 (Sort.grow (w5.drewN nq) osq))))
  clear a0 a1 a2 a3 a4 b0 b1 b2 b3 b4
  generalize Sort.grow (w5.drewN nq) osq = w8 at *
  go_wp2_with (first
    | (go_at_call 25; refine (F6.out _ HK8.out).mono ?_; clear F6; rintro z w9 ⟨A9, n9, c9, hz, hp9, hw⟩; subst hz; have HK9 := Lib.hid (chn HK8.out hw); have HP9 := Lib.hid hp9; clear hw hp9)
    | (go_at_call 27; refine (F7.out _ _ _ _ (HP9.out.below ((Below.refl _ _).alloc (Nat.le_refl _) _))).mono ?_; clear F7; rintro z w11 ⟨hz, hw⟩; subst hz; have HK11 := Lib.hid (chn (HK9.out.alloc HK9.out.size _) hw.below); clear hw)
    | fail)
  go_ret
  exact ⟨rfl, HT0.out.trans (HK11.out.mono HT0.out.size)⟩


theorem back_any {w : World} {v1 v2 vb : Value} {x y : Ed} {l : List UInt8} (h1 : PR w v1 x.props) (h2 : PR w v2 y.props) (hb : BR w vb l) (hcap : CapOk vb) (hx : SzE x) (hy : SzE y) (hl : l.length ≤ 281474976710656) :
    Calls Try.prog 7 #[x.v v1, y.v v2, vb] w fun e w' => e = .returned (.bool true) ∧ Below w.heap.size w w' := by
  by_cases hcx : checkE x = 0
  · by_cases hcy : checkE y = 0
    · rcases parse_cases l with ⟨p1, p2, p3⟩ | ⟨_, p3⟩
      · exact back0 h1 h2 hb hcap hx hy hl hcx hcy p3 p1 p2 (szP_guess l)
      · exact back1 h1 h2 hb hcap hx hy hl hcx hcy p3
    · rcases parse_cases l with ⟨p1, p2, p3⟩ | ⟨_, p3⟩
      · exact back2 h1 h2 hb hcap hx hy hl hcx hcy p3 p1 p2 (szP_guess l)
      · exact back3 h1 h2 hb hcap hx hy hl hcx hcy p3
  · rcases parse_cases l with ⟨p1, p2, p3⟩ | ⟨_, p3⟩
    · exact back4 h1 h2 hb hcap hx hy hl hcx p3 p1 p2 (szP_guess l)
    · exact back5 h1 h2 hb hcap hx hy hl hcx p3
end Go.Proofs.Ytpoefcpgcojppaa

namespace Go.Proofs.Ytpoefcpgcojppaa
open Go.ChangeShapes Go.WideShapes Go.ChangeAt Go.RowKit
set_option linter.unusedVariables false

set_option maxHeartbeats 2000000 in
theorem sameX_yes {w : World} {v1 v2 : Value} {l m : List Ev} (h1 : ER w v1 l) (h2 : ER w v2 m) (he : l.map (·.1) = m.map (·.1)) (hp : ∀ p ∈ l, p.1.props.length ≤ 281474976710656) (hl : l.length ≤ 1000000) :
    Calls Try.prog 31 #[v1, v2] w fun e w' => e = .returned (.bool true) ∧ Below w.heap.size w w' := by
  have H1 := Lib.hid h1
  have H2 := Lib.hid h2
  have HE := Lib.hid he
  have HP := Lib.hid hp
  have hlen : m.length = l.length := by have := congrArg List.length he; simpa using this.symm
  obtain ⟨A, c, rfl⟩ := h1.form
  obtain ⟨B, d, rfl⟩ := h2.form
  obtain ⟨n, hn⟩ : ∃ n, l.length = n := ⟨_, rfl⟩
  rw [hlen] at H2 ⊢
  have HN := Lib.hid (And.intro hn (hlen.trans hn))
  rw [hn] at H1 H2 hl ⊢
  clear h1 h2 he hp hn hlen
  go_enter Try.func31, Try.ntmps31
  go_wp2_with fail
  go_loopw [5] (fun i wr => ∃ k : Nat, k ≤ n ∧ i = .int .i64 k ∧ Below w.heap.size w wr) (fun i _ => n - (Lib.intOf i).toNat)
  case atStart => exact ⟨0, Nat.zero_le _, rfl, Below.refl _ _⟩
  case round =>
    obtain ⟨k, hk, rfl, hb⟩ := hrel
    have HB := Lib.hid hb
    by_cases hlt : k < n
    · have e1 : k < l.length := by have := HN.out; omega
      have e2 : k < m.length := by have := HN.out; omega
      have hx1 : ER wr (.slice A n c) l := H1.out.below hb
      have hx2 : ER wr (.slice B n d) m := H2.out.below hb
      obtain ⟨ad, f1, _, q0, q1, q2, q3, q4⟩ := hx1.at4 e1
      subst f1
      obtain ⟨ad2, f2, _, r0, r1, r2, r3, r4⟩ := hx2.at4 e2
      subst f2
      have hxy : (l[k]'e1).1 = (m[k]'e2).1 := by
        have h := congrArg (fun z => z[k]?) HE.out
        simpa [e1, e2] using h
      have hp1 := hx1.each _ (List.getElem_mem e1)
      have hp2 := hx2.each _ (List.getElem_mem e2)
      have hpl := HP.out _ (List.getElem_mem e1)
      rw [← hxy] at r0 r1 r2 r3 hp2
      obtain ⟨x, hx⟩ : ∃ x, (l[k]'e1).1 = x := ⟨_, rfl⟩
      rw [hx] at q0 q1 q2 q3 r0 r1 r2 r3 hp1 hp2 hpl
      obtain ⟨p1, hpp1⟩ : ∃ x, (l[k]'e1).2 = x := ⟨_, rfl⟩
      obtain ⟨p2, hpp2⟩ : ∃ x, (m[k]'e2).2 = x := ⟨_, rfl⟩
      rw [hpp1] at q4 hp1
      rw [hpp2] at r4 hp2
      have cS := fun dd os => Calls.regrown_of (by have h := (sameE_yes (hp1.below (below_regrown wr dd os)) (hp2.below (below_regrown wr dd os)) hpl).mono (fun e w' (h : e = .returned (.bool true) ∧ Gr (Sort.grow (redrawn wr dd) os) w') => (⟨h.1, h.2.below⟩ : _ ∧ Below _ _ w')); unfold Ed.v at h; exact h)
      have q0 := cell_regrown q0; have q1 := cell_regrown q1; have q2 := cell_regrown q2; have q3 := cell_regrown q3; have q4 := cell_regrown q4
      have r0 := cell_regrown r0; have r1 := cell_regrown r1; have r2 := cell_regrown r2; have r3 := cell_regrown r3; have r4 := cell_regrown r4
      clear hxy hx hpp1 hpp2 hx1 hx2 hp1 hp2 hpl hb
      go_upto_region 6 with (fail)
      refine wp_region_quiet_below (by kernel_rfl) (by kernel_rfl) ?_
      repeat (first | go_big_quiet_skip | (go_big_quiet_want; go_big_quiet_op; first | go_big_quiet_on | go_big_quiet_call (exact cS _ _)) | quiet_step (exact cS _ _))
      refine wpQuiet_nil ?_
      intro _ hw'
      obtain ⟨⟨dq, osq⟩, hw''⟩ := hw'
      subst hw''
      have HB2 := Lib.hid (HB.out.trans ((below_regrown wr dq osq).mono HB.out.size))
      clear cS q0 q1 q2 q3 q4 r0 r1 r2 r3 r4
      generalize Sort.grow (redrawn wr dq) osq = wA at HB2 ⊢
      go_wp2_with fail
      go_roundw
      case rel => exact ⟨k + 1, by omega, by go_num, HB2.out⟩
      case measure => simp [Lib.intOf]; omega
    · obtain rfl : k = n := by omega
      go_wp2_with fail
      go_ret
      exact ⟨rfl, HB.out⟩
end Go.Proofs.Ytpoefcpgcojppaa
