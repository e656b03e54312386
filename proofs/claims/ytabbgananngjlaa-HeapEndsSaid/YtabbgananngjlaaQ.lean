/- Walk of the law's many: each item stands as often in one row as in the other one. -/
import Derived.Test.YtabbgananngjlaaP
namespace Go.Proofs.Ytabbgananngjlaa
open Go.ChangeShapes Go.WideShapes Go.ChangeAt Go.RowKit
set_option linter.unusedVariables false

/-- how often an item stands among the first k, as a number -/
def cnt (l : List It) (x : It) (k : Nat) : Int := ((l.take k).count x : Nat)
theorem cnt_zero (l : List It) (x : It) : cnt l x 0 = 0 := by simp [cnt]
theorem cnt_succ {l : List It} {x : It} {k : Nat} (h : k < l.length) : cnt l x (k + 1) = cnt l x k + (if g l k = x then 1 else 0) := by
  unfold cnt
  rw [g_get h, List.take_succ_eq_append_getElem h, List.count_append]
  by_cases e : l[k] = x
  · simp [e]
  · simp [e]
theorem cnt_all {l m : List It} {x : It} (h : l.Perm m) : cnt l x l.length = cnt m x l.length := by
  unfold cnt
  rw [List.take_length, h.length_eq, List.take_length, h.count_eq]
theorem cnt_bd (l : List It) (x : It) (k : Nat) : 0 ≤ cnt l x k ∧ cnt l x k ≤ k := by
  unfold cnt
  have h1 := List.count_le_length (a := x) (l := l.take k)
  have h2 := List.length_take_le k l
  omega

set_option maxRecDepth 100000 in
set_option maxHeartbeats 2000000 in
theorem many_any {w : World} {v1 v2 : Value} {l1 l2 : List It} (h1 : PR w v1 l1) (h2 : PR w v2 l2) (hp : l1.Perm l2) (hl : l1.length ≤ 1000000) :
    Calls Try.prog 28 #[v1, v2] w fun e w' => e = .returned (.bool true) ∧ Below w.heap.size w w' := by
  have H1 := Lib.hid h1
  have H2 := Lib.hid h2
  have HP := Lib.hid hp
  obtain ⟨A, c, rfl, _⟩ := h1
  obtain ⟨B, d, rfl, _⟩ := h2
  obtain ⟨n, hn⟩ : ∃ n, l1.length = n := ⟨_, rfl⟩
  have hn2 : l2.length = n := by rw [← hn]; exact hp.length_eq.symm
  have HN := Lib.hid hn
  have HN2 := Lib.hid hn2
  rw [hn] at hl
  have HS := Lib.hid (show Value.slice A l1.length c = .slice A n c by rw [hn])
  have HS2 := Lib.hid (show Value.slice B l2.length d = .slice B n d by rw [hn2])
  rw [HS.out, HS2.out]
  rw [HS.out] at H1
  rw [HS2.out] at H2
  clear hp hn hn2
  go_enter Try.func28, Try.ntmps28
  go_wp2_with fail
  go_loopw [5] (fun i wr => ∃ q : Nat, q ≤ n ∧ i = .int .i64 q ∧ Below w.heap.size w wr) (fun i _ => n - (intOf i).toNat)
  case atStart => exact ⟨0, Nat.zero_le _, rfl, Below.refl _ _⟩
  case round =>
    obtain ⟨q, hq, rfl, hbw⟩ := hrel
    have HB := Lib.hid hbw
    clear hbw
    by_cases hlt : q < n
    · obtain ⟨x, hx⟩ : ∃ x, g l1 q = x := ⟨_, rfl⟩
      have HX := Lib.hid hx
      clear hx
      go_wp2_with fail
      go_loopw [6, 7] (fun m k wr => ∃ r : Nat, r ≤ n ∧ k = .int .i64 r ∧ m = .int .i64 (cnt l1 x r - cnt l2 x r) ∧ Below w.heap.size w wr) (fun _ k _ => n - (intOf k).toNat)
      case atStart => exact ⟨0, Nat.zero_le _, rfl, by rw [cnt_zero, cnt_zero]; rfl, HB.out⟩
      case round =>
        obtain ⟨r, hr, rfl, rfl, hbr⟩ := hrel
        have HBR := Lib.hid hbr
        clear hbr
        by_cases hlr : r < n
        · obtain ⟨ad, e1, _, _, x1, x2⟩ := PR.at2 (H1.out.below HBR.out) (k := q) (by have := HN.out; omega)
          subst e1
          obtain ⟨ad', e1, _, _, y1, y2⟩ := PR.at2 (H1.out.below HBR.out) (k := r) (by have := HN.out; omega)
          injection e1 with e1
          subst e1
          obtain ⟨ad2, e1, _, _, z1, z2⟩ := PR.at2 (H2.out.below HBR.out) (k := r) (by have := HN2.out; omega)
          subst e1
          rw [HX.out] at x1 x2
          obtain ⟨y, hy⟩ : ∃ y, g l1 r = y := ⟨_, rfl⟩
          obtain ⟨z, hz⟩ : ∃ z, g l2 r = z := ⟨_, rfl⟩
          rw [hy] at y1 y2
          rw [hz] at z1 z2
          have hc1 := cnt_succ (l := l1) (x := x) (k := r) (by have := HN.out; omega)
          have hc2 := cnt_succ (l := l2) (x := x) (k := r) (by have := HN2.out; omega)
          rw [hy] at hc1
          rw [hz] at hc2
          obtain ⟨b1, b2⟩ := cnt_bd l1 x r
          obtain ⟨b3, b4⟩ := cnt_bd l2 x r
          have HC1 := Lib.hid hc1
          have HC2 := Lib.hid hc2
          clear hc1 hc2 hy hz
          obtain ⟨m1, hm1⟩ : ∃ m, cnt l1 x r = m := ⟨_, rfl⟩
          obtain ⟨m2, hm2⟩ : ∃ m, cnt l2 x r = m := ⟨_, rfl⟩
          rw [hm1] at b1 b2 HC1
          rw [hm2] at b3 b4 HC2
          rw [hm1, hm2]
          have HM1 := Lib.hid hm1
          have HM2 := Lib.hid hm2
          clear hm1 hm2
          have E1 := fun W => eq40 W y.1 y.2 x.1 x.2
          have E2 := fun W => eq40 W z.1 z.2 x.1 x.2
          by_cases t1 : y = x
          · have e1 : decide ((y.1, y.2) = (x.1, x.2)) = true := decide_eq_true (by rw [t1])
            rw [if_pos t1] at HC1
            simp only [e1] at E1
            clear e1 t1
            by_cases t2 : z = x
            · have e2 : decide ((z.1, z.2) = (x.1, x.2)) = true := decide_eq_true (by rw [t2])
              rw [if_pos t2] at HC2
              simp only [e2] at E2
              clear e2 t2
              go_wp2_with fail
              go_region
              go_wp2_with fail
              go_region
              go_wp2_with fail
              go_roundw
              case rel =>
                refine ⟨r + 1, by omega, by go_num, ?_, HBR.out.drew.drew⟩
                rw [HC1.out, HC2.out]
                go_num
              case measure => simp [intOf] <;> omega
            · have e2 : decide ((z.1, z.2) = (x.1, x.2)) = false := decide_eq_false (fun e => t2 e)
              rw [if_neg t2] at HC2
              simp only [e2] at E2
              clear e2 t2
              go_wp2_with fail
              go_region
              go_wp2_with fail
              go_region
              go_wp2_with fail
              go_roundw
              case rel =>
                refine ⟨r + 1, by omega, by go_num, ?_, HBR.out.drew.drew⟩
                rw [HC1.out, HC2.out]
                go_num
              case measure => simp [intOf] <;> omega
          · have e1 : decide ((y.1, y.2) = (x.1, x.2)) = false := decide_eq_false (fun e => t1 e)
            rw [if_neg t1] at HC1
            simp only [e1] at E1
            clear e1 t1
            by_cases t2 : z = x
            · have e2 : decide ((z.1, z.2) = (x.1, x.2)) = true := decide_eq_true (by rw [t2])
              rw [if_pos t2] at HC2
              simp only [e2] at E2
              clear e2 t2
              go_wp2_with fail
              go_region
              go_wp2_with fail
              go_region
              go_wp2_with fail
              go_roundw
              case rel =>
                refine ⟨r + 1, by omega, by go_num, ?_, HBR.out.drew.drew⟩
                rw [HC1.out, HC2.out]
                go_num
              case measure => simp [intOf] <;> omega
            · have e2 : decide ((z.1, z.2) = (x.1, x.2)) = false := decide_eq_false (fun e => t2 e)
              rw [if_neg t2] at HC2
              simp only [e2] at E2
              clear e2 t2
              go_wp2_with fail
              go_region
              go_wp2_with fail
              go_region
              go_wp2_with fail
              go_roundw
              case rel =>
                refine ⟨r + 1, by omega, by go_num, ?_, HBR.out.drew.drew⟩
                rw [HC1.out, HC2.out]
                go_num
              case measure => simp [intOf] <;> omega
        · obtain rfl : r = n := by omega
          have hz := cnt_all (x := x) HP.out
          rw [HN.out] at hz
          rw [hz]
          clear hz
          have hz2 : cnt l2 x r - cnt l2 x r = 0 := by omega
          rw [hz2]
          go_wp2_with fail
          go_roundw
          case rel => exact ⟨q + 1, by omega, by go_num, HBR.out⟩
          case measure => simp [intOf] <;> omega
    · obtain rfl : q = n := by omega
      go_wp2_with fail
      go_ret
      exact ⟨rfl, HB.out⟩
end Go.Proofs.Ytabbgananngjlaa
