/- Edges lent, and that they stay as they were. -/
import Derived.Test.YtpoefcpgcojppaaTA
import Derived.Test.YtpoefcpgcojppaaQB
import Derived.Test.YtpoefcpgcojppaaRE
namespace Go.Proofs.Ytpoefcpgcojppaa
open Go.ChangeShapes Go.WideShapes Go.ChangeAt Go.RowKit
set_option linter.unusedVariables false

def LentE (x : Ed) (w : World) (e : Ending) (w' : World) : Prop :=
  ∃ g c, e = .returned (x.v (.slice (some ⟨g, 0, none⟩) x.props.length c)) ∧ w'.ownsRow w.heap.size 53 4 (.slice (some ⟨g, 0, none⟩) (x.props.length + 12) c) (x.props.length + 12) (flatP (x.props ++ mksP)) ∧ Below w.heap.size w w'

set_option maxHeartbeats 2000000 in
theorem lentE_any {w : World} {x : Ed} {v : Value} (h : PR w v x.props) (hl : x.props.length ≤ 1000000) : Calls Try.prog 11 #[x.v v] w (LentE x w) := by
  unfold LentE
  obtain ⟨A, n, c, rfl⟩ := slice_any h
  have f37 := fun W (hW : Below w.heap.size w W) => lentP_any _ x.props W (h.below hW) hl
  unfold LentP at f37
  obtain ⟨m, hm⟩ : ∃ m, x.props.length = m := ⟨_, rfl⟩
  rw [hm] at f37 ⊢
  have F37 := Lib.hid f37
  unfold Ed.v
  have hb0 : Below w.heap.size w ((w.alloc (.cells #[.string x.src, .string x.dst, .string x.lab, .int .i64 x.time, .slice A n c] 24)).alloc zE5) := ((Below.refl _ w).alloc (Nat.le_refl _) _).alloc (by simp) _
  have HB0 := Lib.hid hb0
  have hE0 : EB ((w.alloc (.cells #[.string x.src, .string x.dst, .string x.lab, .int .i64 x.time, .slice A n c] 24)).alloc zE5) w.heap.size x.src x.dst x.lab x.time (.slice A n c) := (Below.heap_alloc _ _ _ (by simp)).trans (heap_alloc_new w _)
  have HE0 := Lib.hid hE0
  have hR0 := heap_alloc_new (w.alloc (.cells #[.string x.src, .string x.dst, .string x.lab, .int .i64 x.time, .slice A n c] 24)) zE5
  rw [World.size_alloc] at hR0
  have HR0 := Lib.hid hR0
  clear f37 hm h hl hb0 hE0 hR0
  obtain ⟨s, d, l, t, ps⟩ := x
  simp only at *
  go_enter Try.func11, Try.ntmps11
  go_wp2_with (go_at_call 37; refine (F37.out _ HB0.out).mono ?_; clear F37; rintro z w1 ⟨g, cc, hz, hrow, hw⟩; subst hz; have HROW := Lib.hid hrow; have HB1 := Lib.hid hw; have hE1 : EB w1 w.heap.size s d l t (.slice A n c) := heap_keep hw HE0.out; have hR1 : w1.heap[w.heap.size + 1]? = some (.cells #[.string ⟨#[]⟩, .string ⟨#[]⟩, .string ⟨#[]⟩, .int .i64 0, .slice none 0 0] 24 (0, 0)) := heap_keep hw HR0.out; obtain ⟨c0, c1, c2, c3, c4⟩ := EB.at5 hE1; have g4 := (EB.fz hE1).2.2.2.2; obtain ⟨d0, d1, d2, d3, d4, _⟩ := Bx5.of hR1; obtain ⟨f0, f1, f2, f3, f4⟩ := Fx5.of hR1; clear hE1 hR1 hrow hw)
  have hz := HB1.out.size
  have hbase : w.heap.size + 1 < ((w.alloc (.cells #[.string s, .string d, .string l, .int .i64 t, .slice A n c] 24)).alloc zE5).heap.size := by simp
  have hW : Below w.heap.size w (w1.setCell ⟨w.heap.size, 4, none⟩ (.slice (some ⟨g, 0, none⟩) m cc)) := (HB0.out.trans (HB1.out.mono HB0.out.size)).setCell (p := ⟨w.heap.size, 4, none⟩) (Nat.le_refl _) _
  have hrow1 := ownsRow_setCell_below HROW.out (a := ⟨w.heap.size, 4, none⟩) (by show w.heap.size < _; omega) (.slice (some ⟨g, 0, none⟩) m cc)
  exact bodyPost_ret (v := .agg #[.string s, .string d, .string l, .int .i64 t, .slice (some ⟨g, 0, none⟩) m cc]) (by simp [results, Try.results11, go_sem, d0, d1, d2, d3, d4, f0, f1, f2, f3, f4]) rfl ⟨g, cc, rfl, own_lower (ownsRow_setCell_below (ownsRow_setCell_below (ownsRow_setCell_below (ownsRow_setCell_below (ownsRow_setCell_below hrow1 (a := ⟨w.heap.size + 1, 0, none⟩) hbase _) (a := ⟨w.heap.size + 1, 1, none⟩) hbase _) (a := ⟨w.heap.size + 1, 2, none⟩) hbase _) (a := ⟨w.heap.size + 1, 3, none⟩) hbase _) (a := ⟨w.heap.size + 1, 4, none⟩) hbase _) HB0.out.size, hW.trans (below_set5 (Nat.le_succ _) _ _ _ _ _)⟩

set_option maxHeartbeats 2000000 in
theorem keptE_any {w : World} {x : Ed} {A : Option Addr} {q c : Nat} {v2 : Value} (h1 : PR w (.slice A q c) (x.props ++ mksP)) (hq : x.props.length ≤ q) (hc : q ≤ c) (h2 : PR w v2 x.props) (hl : x.props.length ≤ 100000) :
    Calls Try.prog 23 #[x.v (.slice A x.props.length c), x.v v2] w fun e w' => e = .returned (.bool true) ∧ Gr w w' := by
  obtain ⟨A2, n2, c2, rfl⟩ := slice_any h2
  have ht : PR w (.slice A x.props.length c) x.props := by
    have h := h1.take hq
    rwa [List.take_left' rfl] at h
  have f27 := fun W (hW : Gr w W) => sameE_yes (ht.gr hW) (h2.gr hW) (by omega)
  have f55 := fun W (hW : Gr w W) => keptP_any x.props _ (h1.gr hW) hc (h2.gr hW) hl
  unfold Ed.v at f27 ⊢
  obtain ⟨m, hm⟩ : ∃ m, x.props.length = m := ⟨_, rfl⟩
  rw [hm] at f27 f55 ⊢
  obtain ⟨W0, hW0⟩ : ∃ W, (w.alloc (.cells #[.string x.src, .string x.dst, .string x.lab, .int .i64 x.time, .slice A m c] 24)).alloc (.cells #[.string x.src, .string x.dst, .string x.lab, .int .i64 x.time, .slice A2 n2 c2] 24) = W := ⟨_, rfl⟩
  have HX := Lib.hid (show Bx5 W0 w.heap.size (.string x.src) (.string x.dst) (.string x.lab) (.int .i64 x.time) (.slice A m c) by rw [← hW0]; exact Bx5.below (Bx5.new w _ _ _ _ _ 24) ((Below.refl _ _).alloc (Nat.le_refl _) _))
  have HY := Lib.hid (show Bx5 W0 (w.heap.size + 1) (.string x.src) (.string x.dst) (.string x.lab) (.int .i64 x.time) (.slice A2 n2 c2) by rw [← hW0]; exact bx_at)
  have HG0 := Lib.hid (show Gr w W0 by rw [← hW0]; exact ((Gr.refl w).alloc _).alloc _)
  have F27 := Lib.hid f27
  have F55 := Lib.hid f55
  clear f27 f55 h1 h2 ht hm
  go_enter Try.func23, Try.ntmps23
  go_upto_region 1 with (fail)
  try rw [hW0]
  clear hW0
  obtain ⟨a0, a1, a2, a3, a4, _⟩ := HX.out
  obtain ⟨b0, b1, b2, b3, b4, _⟩ := HY.out
  go_wp2_with (first
    | (go_at_call 27; refine (F27.out _ HG0.out).mono ?_; clear F27; rintro z w1 ⟨hz, hw⟩; subst hz; have HG1 := Lib.hid (HG0.out.trans hw); clear a0 a1 a2 a3 a4 b0 b1 b2 b3 b4; obtain ⟨a0, a1, a2, a3, a4, _⟩ := HX.out.below hw.below; obtain ⟨b0, b1, b2, b3, b4, _⟩ := HY.out.below hw.below; clear hw)
    | (go_at_call 55; refine (F55.out _ HG1.out).mono ?_; clear F55; rintro z w2 ⟨hz, hw⟩; subst hz; have HG2 := Lib.hid (HG1.out.trans hw); clear hw)
    | fail)
  go_ret
  exact ⟨rfl, HG2.out⟩
end Go.Proofs.Ytpoefcpgcojppaa
