/- Walks of what tells a prop's value. -/
import Derived.Test.YtpoefcpgcojppaaRE
namespace Go.Proofs.Ytpoefcpgcojppaa
open Go.ChangeShapes Go.WideShapes Go.ChangeAt Go.RowKit
set_option linter.unusedVariables false

/-- the value of the first prop of a key -/
def propOf (key : ByteArray) : List Pt → Vt × Bool
  | [] => ((0, 0, ⟨#[]⟩), false)
  | p :: l => if p.1 = key then (p.2, true) else propOf key l
theorem propOf_drop {key : ByteArray} {l : List Pt} {k : Nat} (h : k < l.length) : propOf key (l.drop k) = if l[k].1 = key then (l[k].2, true) else propOf key (l.drop (k + 1)) := by
  rw [List.drop_eq_getElem_cons h]
  rfl
def PropR (key : ByteArray) (x : Ed) (w : World) (e : Ending) (w' : World) : Prop := e = .returned (.tuple #[.agg #[.int .i64 (propOf key x.props).1.1, .int .i64 (propOf key x.props).1.2.1, .string (propOf key x.props).1.2.2], .bool (propOf key x.props).2]) ∧ Below w.heap.size w w'
theorem below_set3 {w : World} {N E : Nat} (h : N ≤ E) (a0 a1 a2 : Value) : Below N w (((w.setCell ⟨E, 0, none⟩ a0).setCell ⟨E, 1, none⟩ a1).setCell ⟨E, 2, none⟩ a2) :=
  (((Below.refl N w).setCell (p := ⟨E, 0, none⟩) h a0).setCell (p := ⟨E, 1, none⟩) h a1).setCell (p := ⟨E, 2, none⟩) h a2
abbrev zV3 : Obj := .cells #[.int .i64 0, .int .i64 0, .string ⟨#[]⟩] 31

set_option maxHeartbeats 2000000 in
theorem prop_any {w : World} {x : Ed} {v : Value} (key : ByteArray) (h : PR w v x.props) (hl : x.props.length ≤ 281474976710656) : Calls Try.prog 12 #[x.v v, .string key] w (PropR key x w) := by
  unfold PropR
  obtain ⟨s, d, lb, t, l⟩ := x
  simp only at h hl ⊢
  unfold Ed.v
  simp only
  have H := Lib.hid h
  obtain ⟨A, c, rfl⟩ := h.form
  obtain ⟨n, hn⟩ : ∃ n, l.length = n := ⟨_, rfl⟩
  have HN := Lib.hid hn
  rw [hn] at H hl ⊢
  clear h hn
  obtain ⟨W0, hW0⟩ : ∃ W, (w.alloc (.cells #[.string s, .string d, .string lb, .int .i64 t, .slice A n c] 24)).alloc zV3 = W := ⟨_, rfl⟩
  have HB0 := Lib.hid (show Below w.heap.size w W0 by rw [← hW0]; exact ((Below.refl _ w).alloc (Nat.le_refl _) _).alloc (by simp) _)
  have HX := Lib.hid (show Bx5 W0 w.heap.size (.string s) (.string d) (.string lb) (.int .i64 t) (.slice A n c) by rw [← hW0]; exact Bx5.below (Bx5.new w _ _ _ _ _ 24) ((Below.refl _ _).alloc (Nat.le_refl _) _))
  have HR0 := Lib.hid (show W0.heap[w.heap.size + 1]? = some (.cells #[.int .i64 0, .int .i64 0, .string ⟨#[]⟩] 31 (0, 0)) by
    have := heap_alloc_new (w.alloc (.cells #[.string s, .string d, .string lb, .int .i64 t, .slice A n c] 24)) zV3
    rw [World.size_alloc, hW0] at this
    exact this)
  go_enter Try.func12, Try.ntmps12
  go_upto_region 1 with (fail)
  try rw [hW0]
  clear hW0
  obtain ⟨a0, a1, a2, a3, a4, _⟩ := HX.out
  go_wp2_with fail
  go_step3
  go_wp2_with fail
  go_step3
  go_wp2_with fail
  go_loopw [11] (fun i wr => ∃ k : Nat, k ≤ n ∧ i = .int .i64 k ∧ propOf key (l.drop k) = propOf key l ∧ Below W0.heap.size W0 wr) (fun i _ => n - (Lib.intOf i).toNat)
  case atStart => exact ⟨0, Nat.zero_le _, rfl, by rw [List.drop_zero], Below.refl _ _⟩
  case round =>
    obtain ⟨k, hk, rfl, hp, hb⟩ := hrel
    have HP := Lib.hid hp
    have HB := Lib.hid hb
    have hBw : w.heap.size + 1 < wr.heap.size := Nat.lt_of_lt_of_le (Array.getElem?_eq_some_iff.1 HR0.out).1 hb.size
    have HRr := Lib.hid (heap_keep hb HR0.out)
    clear hp hb a0 a1 a2 a3 a4
    by_cases hlt : k < n
    · have e1 : k < l.length := by have := HN.out; omega
      obtain ⟨ad, f1, hab, q0, q1, q2, q3⟩ := PR.at4 ((H.out.below HB0.out).below HB.out) e1
      subst f1
      have hst := propOf_drop (key := key) e1
      rw [HP.out] at hst
      obtain ⟨⟨pk, pa, pb, px⟩, hpp⟩ : ∃ p, l[k] = p := ⟨_, rfl⟩
      rw [hpp] at q0 q1 q2 q3 hst
      simp only at q0 q1 q2 q3 hst
      have HWA := Lib.hid ((Below.refl wr.heap.size wr).alloc (Nat.le_refl _) (.cells #[.string pk, .int .i64 pa, .int .i64 pb, .string px] 53))
      by_cases hkey : pk = key
      · subst hkey
        rw [if_pos rfl] at hst
        have HST := Lib.hid hst
        have hRw := HRr.out
        have r0 := cell_of_row _ _ 0 _ 31 (0, 0) hRw
        have r1 := cell_of_row _ _ 1 _ 31 (0, 0) hRw
        have r2 := cell_of_row _ _ 2 _ 31 (0, 0) hRw
        have s0 := Go.Joins.unfrozen_of_block hRw 0
        have s1 := Go.Joins.unfrozen_of_block hRw 1
        have s2 := Go.Joins.unfrozen_of_block hRw 2
        have hRa := heap_keep HWA.out HRr.out
        have d0 := cell_of_row _ _ 0 _ 31 (0, 0) hRa
        have d1 := cell_of_row _ _ 1 _ 31 (0, 0) hRa
        have d2 := cell_of_row _ _ 2 _ 31 (0, 0) hRa
        have g0 := Go.Joins.unfrozen_of_block hRa 0
        have g1' := Go.Joins.unfrozen_of_block hRa 1
        have g2' := Go.Joins.unfrozen_of_block hRa 2
        clear hst hpp hRa hRw
        go_wp2_with fail
        unfold Exit.noGoto
        have hF : ((((wr.setCell ⟨w.heap.size + 1, 0, none⟩ (.int .i64 pa)).setCell ⟨w.heap.size + 1, 1, none⟩ (.int .i64 pb)).setCell ⟨w.heap.size + 1, 2, none⟩ (.string px)).alloc (.cells #[.string pk, .int .i64 pa, .int .i64 pb, .string px] 53)).heap[w.heap.size + 1]? = some (.cells #[.int .i64 pa, .int .i64 pb, .string px] 31 (0, 0)) := (Below.heap_alloc _ _ _ (by simp; omega)).trans (Go.Joins.block_setCell (Go.Joins.block_setCell (Go.Joins.block_setCell HRr.out _) _) _)
        have e0 := cell_of_row _ _ 0 _ 31 (0, 0) hF
        have e1' := cell_of_row _ _ 1 _ 31 (0, 0) hF
        have e2 := cell_of_row _ _ 2 _ 31 (0, 0) hF
        exact bodyPost_ret (v := .tuple #[.agg #[.int .i64 pa, .int .i64 pb, .string px], .bool true]) (by simp [results, Try.results12, go_sem, e0, e1', e2]) rfl ⟨by rw [HST.out], (HB0.out.trans (HB.out.mono HB0.out.size)).trans ((below_set3 (Nat.le_succ _) _ _ _).alloc (by simp; omega) _)⟩
      · rw [if_neg hkey] at hst
        have HST := Lib.hid hst
        have hne : (pk.toList == key.toList) = false := by rw [beqS, decide_eq_false hkey]
        clear hst hpp hkey
        go_wp2_with fail
        go_roundw
        case rel => exact ⟨k + 1, by omega, by go_num, HST.out.symm, HB.out.alloc HB.out.size _⟩
        case measure => simp [Lib.intOf]; omega
    · obtain rfl : k = n := by omega
      have hz : propOf key l = ((0, 0, ⟨#[]⟩), false) := by
        rw [← HP.out, List.drop_eq_nil_of_le (by rw [HN.out]; exact Nat.le_refl _)]
        rfl
      have HZ := Lib.hid hz
      have hRa := HRr.out
      have d0 := cell_of_row _ _ 0 _ 31 (0, 0) hRa
      have d1 := cell_of_row _ _ 1 _ 31 (0, 0) hRa
      have d2 := cell_of_row _ _ 2 _ 31 (0, 0) hRa
      have g0 := Go.Joins.unfrozen_of_block hRa 0
      have g1' := Go.Joins.unfrozen_of_block hRa 1
      have g2' := Go.Joins.unfrozen_of_block hRa 2
      clear hRa hz
      go_wp2_with fail
      unfold Exit.noGoto
      exact bodyPost_ret (v := .tuple #[.agg #[.int .i64 0, .int .i64 0, .string ⟨#[]⟩], .bool false]) (by simp [results, Try.results12, go_sem, d0, d1, d2, g0, g1', g2']) rfl ⟨by rw [HZ.out], (HB0.out.trans (HB.out.mono HB0.out.size)).trans (below_set3 (Nat.le_succ _) _ _ _)⟩

set_option maxHeartbeats 2000000 in
theorem rProp_any {w : World} {x : Ed} {v : Value} (key : ByteArray) (h : PR w v x.props) (hl : x.props.length ≤ 281474976710656) : Calls Try.prog 13 #[x.v v, .string key] w (PropR key x w) := by
  unfold PropR
  obtain ⟨s, d, lb, t, l⟩ := x
  simp only at h hl ⊢
  unfold Ed.v
  simp only
  have H := Lib.hid h
  obtain ⟨A, c, rfl⟩ := h.form
  obtain ⟨n, hn⟩ : ∃ n, l.length = n := ⟨_, rfl⟩
  have HN := Lib.hid hn
  rw [hn] at H hl ⊢
  clear h hn
  obtain ⟨W0, hW0⟩ : ∃ W, (w.alloc (.cells #[.string s, .string d, .string lb, .int .i64 t, .slice A n c] 24)).alloc zV3 = W := ⟨_, rfl⟩
  have HB0 := Lib.hid (show Below w.heap.size w W0 by rw [← hW0]; exact ((Below.refl _ w).alloc (Nat.le_refl _) _).alloc (by simp) _)
  have HX := Lib.hid (show Bx5 W0 w.heap.size (.string s) (.string d) (.string lb) (.int .i64 t) (.slice A n c) by rw [← hW0]; exact Bx5.below (Bx5.new w _ _ _ _ _ 24) ((Below.refl _ _).alloc (Nat.le_refl _) _))
  have HR0 := Lib.hid (show W0.heap[w.heap.size + 1]? = some (.cells #[.int .i64 0, .int .i64 0, .string ⟨#[]⟩] 31 (0, 0)) by
    have := heap_alloc_new (w.alloc (.cells #[.string s, .string d, .string lb, .int .i64 t, .slice A n c] 24)) zV3
    rw [World.size_alloc, hW0] at this
    exact this)
  go_enter Try.func13, Try.ntmps13
  go_upto_region 1 with (fail)
  try rw [hW0]
  clear hW0
  obtain ⟨a0, a1, a2, a3, a4, _⟩ := HX.out
  go_wp2_with fail
  go_loop [6] (fun i => ∃ k : Nat, k ≤ n ∧ i = .int .i64 k ∧ propOf key (l.drop k) = propOf key l) (fun i => n - (Lib.intOf i).toNat)
  case atStart => exact ⟨0, Nat.zero_le _, rfl, by rw [List.drop_zero]⟩
  case round =>
    obtain ⟨k, hk, rfl, hp⟩ := hrel
    have HP := Lib.hid hp
    have hRa := HR0.out
    have d0 := cell_of_row _ _ 0 _ 31 (0, 0) hRa
    have d1 := cell_of_row _ _ 1 _ 31 (0, 0) hRa
    have d2 := cell_of_row _ _ 2 _ 31 (0, 0) hRa
    have g0 := Go.Joins.unfrozen_of_block hRa 0
    have g1' := Go.Joins.unfrozen_of_block hRa 1
    have g2' := Go.Joins.unfrozen_of_block hRa 2
    clear hp hRa
    by_cases hlt : k < n
    · have e1 : k < l.length := by have := HN.out; omega
      obtain ⟨ad, f1, hab, q0, q1, q2, q3⟩ := PR.at4 (H.out.below HB0.out) e1
      subst f1
      have hst := propOf_drop (key := key) e1
      rw [HP.out] at hst
      obtain ⟨⟨pk, pa, pb, px⟩, hpp⟩ : ∃ p, l[k] = p := ⟨_, rfl⟩
      rw [hpp] at q0 q1 q2 q3 hst
      simp only at q0 q1 q2 q3 hst
      by_cases hkey : pk = key
      · subst hkey
        rw [if_pos rfl] at hst
        have HST := Lib.hid hst
        clear hst hpp
        go_wp2_with fail
        exact bodyPost_ret (v := .tuple #[.agg #[.int .i64 pa, .int .i64 pb, .string px], .bool true]) (by simp [results, Try.results13, go_sem, d0, d1, d2, g0, g1', g2']) rfl ⟨by rw [HST.out], HB0.out.trans (below_set3 (Nat.le_succ _) _ _ _)⟩
      · rw [if_neg hkey] at hst
        have HST := Lib.hid hst
        have hne : (pk.toList == key.toList) = false := by rw [beqS, decide_eq_false hkey]
        clear hst hpp hkey
        go_wp2_with fail
        go_round
        case rel => exact ⟨k + 1, by omega, by go_num, HST.out.symm⟩
        case measure => simp [Lib.intOf]; omega
    · obtain rfl : k = n := by omega
      have hz : propOf key l = ((0, 0, ⟨#[]⟩), false) := by
        rw [← HP.out, List.drop_eq_nil_of_le (by rw [HN.out]; exact Nat.le_refl _)]
        rfl
      have HZ := Lib.hid hz
      clear hz
      go_wp2_with fail
      exact bodyPost_ret (v := .tuple #[.agg #[.int .i64 0, .int .i64 0, .string ⟨#[]⟩], .bool false]) (by simp [results, Try.results13, go_sem, d0, d1, d2, g0, g1', g2']) rfl ⟨by rw [HZ.out], HB0.out.trans (below_set3 (Nat.le_succ _) _ _ _)⟩
end Go.Proofs.Ytpoefcpgcojppaa
