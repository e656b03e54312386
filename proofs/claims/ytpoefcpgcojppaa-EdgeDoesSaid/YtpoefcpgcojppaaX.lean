/- Walks of what holds props, edges, bytes against each other. -/
import Derived.Test.YtpoefcpgcojppaaW
namespace Go.Proofs.Ytpoefcpgcojppaa
open Go.ChangeShapes Go.WideShapes Go.ChangeAt Go.RowKit
set_option linter.unusedVariables false

theorem tl_iff (a b : ByteArray) : a.toList = b.toList ↔ a = b := ⟨fun h => data_inj (by rwa [ByteArray.toList_eq, ByteArray.toList_eq] at h), fun h => by rw [h]⟩
theorem eqIn53 (W : World) (d : Nat) (k k' : ByteArray) (a a' b b' : Int) (c c' : ByteArray) : (Op.equalIn (d + 1 + 1 + 1) 53 (.agg #[.string k, .int .i64 a, .int .i64 b, .string c]) (.agg #[.string k', .int .i64 a', .int .i64 b', .string c'])).run Try.prog W = .ok (decide ((k, a, b, c) = (k', a', b', c'))) W := by
  rw [run_equalIn_struct W (d + 1 + 1) 53 _ _ (by kernel_rfl) (by kernel_rfl)]
  simp [Program.fieldsOf, Try.underlying53, Op.eqFields, go_sem]
  simp only [tl_iff]
  by_cases h0 : k = k' <;> by_cases h1 : a = a' <;> by_cases h2 : b = b' <;> by_cases h3 : c = c' <;> simp [h0, h1, h2, h3]
theorem eq53 (W : World) (k k' : ByteArray) (a a' b b' : Int) (c c' : ByteArray) : (binOp .eql 53 (.agg #[.string k, .int .i64 a, .int .i64 b, .string c]) (.agg #[.string k', .int .i64 a', .int .i64 b', .string c'])).run Try.prog W = .ok (.bool (decide ((k, a, b, c) = (k', a', b', c')))) W := by
  rw [run_eql_struct, eqIn53]
  rfl
theorem ne53 (W : World) (k k' : ByteArray) (a a' b b' : Int) (c c' : ByteArray) : (binOp .neq 53 (.agg #[.string k, .int .i64 a, .int .i64 b, .string c]) (.agg #[.string k', .int .i64 a', .int .i64 b', .string c'])).run Try.prog W = .ok (.bool (!decide ((k, a, b, c) = (k', a', b', c')))) W := by
  rw [run_neq_struct, eqIn53]
  rfl
theorem ne53_eq (W : World) (k : ByteArray) (a b : Int) (c : ByteArray) : (binOp .neq 53 (.agg #[.string k, .int .i64 a, .int .i64 b, .string c]) (.agg #[.string k, .int .i64 a, .int .i64 b, .string c])).run Try.prog W = .ok (.bool false) W := by
  rw [ne53, decide_eq_true rfl]
  rfl
theorem ne53_not (W : World) {k k' : ByteArray} {a b : Int} {c : ByteArray} {a' b' : Int} {c' : ByteArray} (h : (k, a, b, c) ≠ (k', a', b', c')) : (binOp .neq 53 (.agg #[.string k, .int .i64 a, .int .i64 b, .string c]) (.agg #[.string k', .int .i64 a', .int .i64 b', .string c'])).run Try.prog W = .ok (.bool true) W := by
  rw [ne53, decide_eq_false h]
  rfl
theorem eq53_eq (W : World) (k : ByteArray) (a b : Int) (c : ByteArray) : (binOp .eql 53 (.agg #[.string k, .int .i64 a, .int .i64 b, .string c]) (.agg #[.string k, .int .i64 a, .int .i64 b, .string c])).run Try.prog W = .ok (.bool true) W := by
  rw [eq53, decide_eq_true rfl]

theorem sameP_ne (A B : Option Addr) (m n c d : Nat) (w : World) (h : m ≠ n) :
    Calls Try.prog 62 #[.slice A m c, .slice B n d] w fun e w' => e = .returned (.bool false) ∧ Gr w w' := by
  have h1 : ((m : Int) != n) = true := by rw [bne_iff_ne]; omega
  go_enter Try.func62, Try.ntmps62
  go_wp2_with fail
  go_ret
  exact ⟨rfl, Gr.refl _⟩

set_option maxHeartbeats 2000000 in
theorem sameP_any {w : World} {v1 v2 : Value} {x y : List Pt} (h1 : PR w v1 x) (h2 : PR w v2 y) (hn : x.length ≤ 281474976710656) :
    Calls Try.prog 62 #[v1, v2] w fun e w' => e = .returned (.bool (decide (x = y))) ∧ Gr w w' := by
  have H1 := Lib.hid h1
  have H2 := Lib.hid h2
  obtain ⟨A, c, rfl, _⟩ := h1
  obtain ⟨B, d, rfl, _⟩ := h2
  by_cases hl : x.length = y.length
  · obtain ⟨n, hN⟩ : ∃ n, x.length = n := ⟨_, rfl⟩
    have HN := Lib.hid (And.intro hN (hl.symm.trans hN))
    rw [← hl] at H2 ⊢
    rw [hN] at H1 H2 hn ⊢
    clear hN hl
    go_enter Try.func62, Try.ntmps62
    go_wp2_with fail
    go_loopw [5] (fun i wr => ∃ k : Nat, k ≤ n ∧ i = .int .i64 k ∧ x.take k = y.take k ∧ Gr w wr) (fun i _ => n - (Lib.intOf i).toNat)
    case atStart => exact ⟨0, Nat.zero_le _, rfl, by simp, Gr.refl _⟩
    case round =>
      obtain ⟨k, hk, rfl, ht, hb⟩ := hrel
      have HT := Lib.hid ht
      have HB := Lib.hid hb
      clear ht hb
      by_cases hlt : k < n
      · have e1 : k < x.length := by have := HN.out.1; omega
        have e2 : k < y.length := by have := HN.out.2; omega
        obtain ⟨ad, f1, _, q0, q1, q2, q3⟩ := PR.at4 (H1.out.gr HB.out) e1
        subst f1
        obtain ⟨ad2, f2, _, r0, r1, r2, r3⟩ := PR.at4 (H2.out.gr HB.out) e2
        subst f2
        obtain ⟨p, hp⟩ : ∃ p, x[k] = p := ⟨_, rfl⟩
        obtain ⟨q, hq⟩ : ∃ q, y[k] = q := ⟨_, rfl⟩
        rw [hp] at q0 q1 q2 q3
        rw [hq] at r0 r1 r2 r3
        have HX := Lib.hid hp
        have HY := Lib.hid hq
        clear hp hq
        obtain ⟨p0, p1, p2, p3⟩ := p
        obtain ⟨s0, s1, s2, s3⟩ := q
        by_cases hxy : (p0, p1, p2, p3) = (s0, s1, s2, s3)
        · have HXY := Lib.hid hxy
          injection hxy with z0 z1
          injection z1 with z1 z2
          injection z2 with z2 z3
          subst z0 z1 z2 z3
          have hne := fun W => ne53_eq W p0 p1 p2 p3
          go_upto_region 6 with (fail)
          go_quiet (fail)
          have HBQ := Lib.hid (HB.out.drewN nq)
          clear q0 q1 q2 q3 r0 r1 r2 r3 hne
          generalize wr.drewN nq = WT at *
          go_wp2_with fail
          go_roundw
          case rel => exact ⟨k + 1, by omega, by go_num, take_stepP HT.out e1 e2 (HX.out.trans HY.out.symm), HBQ.out⟩
          case measure => simp [Lib.intOf]; omega
        · have hne := fun W => ne53_not W hxy
          have HXY := Lib.hid hxy
          clear hxy
          go_upto_region 6 with (fail)
          go_quiet (fail)
          have HBQ := Lib.hid (HB.out.drewN nq)
          clear q0 q1 q2 q3 r0 r1 r2 r3 hne
          generalize wr.drewN nq = WT at *
          go_wp2_with fail
          go_ret
          refine ⟨ret_bool ?_, HBQ.out⟩
          symm
          rw [decide_eq_false_iff_not]
          rintro rfl
          exact HXY.out (HX.out.symm.trans HY.out)
      · have : k = n := by omega
        subst this
        go_wp2_with fail
        go_ret
        refine ⟨ret_bool ?_, HB.out⟩
        symm
        rw [decide_eq_true_iff]
        have h := HT.out
        rwa [List.take_of_length_le (by have := HN.out.1; omega), List.take_of_length_le (by have := HN.out.2; omega)] at h
  · rw [decide_eq_false (fun h => hl (by rw [h]))]
    exact sameP_ne A B _ _ c d w hl

/-! ### edges -/
def Ed.v (e : Ed) (pv : Value) : Value := .agg #[.string e.src, .string e.dst, .string e.lab, .int .i64 e.time, pv]
theorem Ed.v_key (e : Ed) (pv : Value) : e.v pv = eV e.key pv := rfl
theorem ed_ext {x y : Ed} : x = y ↔ x.src = y.src ∧ x.dst = y.dst ∧ x.lab = y.lab ∧ x.time = y.time ∧ x.props = y.props := by
  cases x; cases y; simp

set_option maxHeartbeats 2000000 in
theorem sameE_any {w : World} {v1 v2 : Value} {x y : Ed} (h1 : PR w v1 x.props) (h2 : PR w v2 y.props) (hn : x.props.length ≤ 281474976710656) :
    Calls Try.prog 27 #[x.v v1, y.v v2] w fun e w' => e = .returned (.bool (decide (x = y))) ∧ Gr w w' := by
  have hsp : ∀ W, Gr w W → Calls Try.prog 62 #[v1, v2] W fun e w' => e = .returned (.bool (decide (x.props = y.props))) ∧ Gr W w' := fun W hW => sameP_any (h1.gr hW) (h2.gr hW) hn
  have HS := Lib.hid hsp
  obtain ⟨s1, d1, l1, t1, p1⟩ := x
  obtain ⟨s2, d2, l2, t2, p2⟩ := y
  unfold Ed.v
  simp only at HS ⊢
  clear hsp h1 h2 hn
  have hg0 : ∀ x y : Value, Gr w ((w.alloc (.cells #[.string s1, .string d1, .string l1, .int .i64 t1, x] 24)).alloc (.cells #[.string s2, .string d2, .string l2, .int .i64 t2, y] 24)) := fun x y => ((Gr.refl w).alloc _).alloc _
  have HG0 := Lib.hid hg0
  clear hg0
  by_cases e1 : s1 = s2
  · subst e1
    by_cases e2 : d1 = d2
    · subst e2
      by_cases e3 : l1 = l2
      · subst e3
        by_cases e4 : t1 = t2
        · subst e4
          have HE := Lib.hid (show decide (p1 = p2) = decide ((⟨s1, d1, l1, t1, p1⟩ : Ed) = ⟨s1, d1, l1, t1, p2⟩) by rw [decide_eq_decide, ed_ext]; simp)
          go_enter Try.func27, Try.ntmps27
          go_wp2_with (go_at_call 62; refine (HS.out _ (HG0.out _ _)).mono ?_; rintro e w1 ⟨rfl, hg⟩)
          go_ret
          exact ⟨ret_bool HE.out, (HG0.out _ _).trans hg⟩
        · have HE := Lib.hid (show false = decide ((⟨s1, d1, l1, t1, p1⟩ : Ed) = ⟨s1, d1, l1, t2, p2⟩) by symm; rw [decide_eq_false_iff_not, ed_ext]; simp [e4])
          have e4' : (t1 == t2) = false := by simpa using e4
          clear e4
          go_enter Try.func27, Try.ntmps27
          go_wp2_with fail
          go_ret
          exact ⟨ret_bool HE.out, HG0.out _ _⟩
      · have HE := Lib.hid (show false = decide ((⟨s1, d1, l1, t1, p1⟩ : Ed) = ⟨s1, d1, l2, t2, p2⟩) by symm; rw [decide_eq_false_iff_not, ed_ext]; simp [e3])
        have e3' : (l1.toList == l2.toList) = false := by rw [beqS, decide_eq_false e3]
        clear e3
        go_enter Try.func27, Try.ntmps27
        go_wp2_with fail
        go_ret
        exact ⟨ret_bool HE.out, HG0.out _ _⟩
    · have HE := Lib.hid (show false = decide ((⟨s1, d1, l1, t1, p1⟩ : Ed) = ⟨s1, d2, l2, t2, p2⟩) by symm; rw [decide_eq_false_iff_not, ed_ext]; simp [e2])
      have e2' : (d1.toList == d2.toList) = false := by rw [beqS, decide_eq_false e2]
      clear e2
      go_enter Try.func27, Try.ntmps27
      go_wp2_with fail
      go_ret
      exact ⟨ret_bool HE.out, HG0.out _ _⟩
  · have HE := Lib.hid (show false = decide ((⟨s1, d1, l1, t1, p1⟩ : Ed) = ⟨s2, d2, l2, t2, p2⟩) by symm; rw [decide_eq_false_iff_not, ed_ext]; simp [e1])
    have e1' : (s1.toList == s2.toList) = false := by rw [beqS, decide_eq_false e1]
    clear e1
    go_enter Try.func27, Try.ntmps27
    go_wp2_with fail
    go_ret
    exact ⟨ret_bool HE.out, HG0.out _ _⟩
end Go.Proofs.Ytpoefcpgcojppaa
