/- Texts TG, RD, VB, VC, VH, one behind the other. -/
import Derived.Test.YtpoefcpgcojppaaM0
import Derived.Test.YtpoefcpgcojppaaM1
import Derived.Test.YtpoefcpgcojppaaM2
import Derived.Test.YtpoefcpgcojppaaM3
import Derived.Test.YtpoefcpgcojppaaM4
import Derived.Test.YtpoefcpgcojppaaM5
import Derived.Test.YtpoefcpgcojppaaM6
import Derived.Test.YtpoefcpgcojppaaM7
import Derived.Test.YtpoefcpgcojppaaM8
import Derived.Test.YtpoefcpgcojppaaM9
import Derived.Test.YtpoefcpgcojppaaM10
set_option linter.unusedSimpArgs false
namespace Go.Proofs.Ytpoefcpgcojppaa
open Go.ChangeShapes Go.WideShapes Go.ChangeAt Go.RowKit
set_option linter.unusedVariables false

set_option maxHeartbeats 4000000 in
set_option maxRecDepth 100000 in
theorem does_any {w : World} {v1 v2 : Value} {x y : Ed} {key : ByteArray} (h1 : PR w v1 x.props) (h2 : PR w v2 y.props) (hx : SzE x) (hy : SzE y) :
    Calls Try.prog 3 #[x.v v1, y.v v2, .string key] w fun e w' => e = .returned (.bool true) ∧ Below w.heap.size w w' := by
  obtain ⟨A1, n1, c1, rfl⟩ := slice_any h1
  obtain ⟨A2, n2, c2, rfl⟩ := slice_any h2
  unfold Ed.v
  obtain ⟨W0, hW0⟩ : ∃ W, (w.alloc (.cells #[.string x.src, .string x.dst, .string x.lab, .int .i64 x.time, .slice A1 n1 c1] 24)).alloc (.cells #[.string y.src, .string y.dst, .string y.lab, .int .i64 y.time, .slice A2 n2 c2] 24) = W := ⟨_, rfl⟩
  have HX := Lib.hid (show Bx5 W0 w.heap.size (.string x.src) (.string x.dst) (.string x.lab) (.int .i64 x.time) (.slice A1 n1 c1) by rw [← hW0]; exact Bx5.below (Bx5.new w _ _ _ _ _ 24) ((Below.refl _ _).alloc (Nat.le_refl _) _))
  have HY := Lib.hid (show Bx5 W0 (w.heap.size + 1) (.string y.src) (.string y.dst) (.string y.lab) (.int .i64 y.time) (.slice A2 n2 c2) by rw [← hW0]; exact bx_at)
  have HT0 := Lib.hid (show Below w.heap.size w W0 by rw [← hW0]; exact ((Below.refl w.heap.size w).alloc (Nat.le_refl _) _).alloc (by simp) _)
  have H1 := Lib.hid (h1.below HT0.out)
  have H2 := Lib.hid (h2.below HT0.out)
  have HSX := Lib.hid hx
  have HSY := Lib.hid hy
  clear h1 h2 hx hy
  go_enter Try.func3, Try.ntmps3
  go_upto_region 1 with (fail)
  try rw [hW0]
  clear hW0
  obtain ⟨a0, a1, a2, a3, a4, _⟩ := HX.out
  obtain ⟨b0, b1, b2, b3, b4, _⟩ := HY.out
  go_wp2_with fail
  refine (size_sum (l := [(x, .slice A1 n1 c1), (y, .slice A2 n2 c2)]) (ER.of_block (heap_alloc_new _ _) rfl 2 (fun p hp => ?_)) (by simp) (fun p hp => ?_)).mono ?_
  · rcases List.mem_cons.1 hp with rfl | hp
    · exact H1.out.below ((Below.refl _ _).alloc (Nat.le_refl _) _)
    · rw [List.mem_singleton.1 hp]
      exact H2.out.below ((Below.refl _ _).alloc (Nat.le_refl _) _)
  · rcases List.mem_cons.1 hp with rfl | hp
    · exact HSX.out.2.2.2.1
    · rw [List.mem_singleton.1 hp]
      exact HSY.out.2.2.2.1
  rintro z w2 ⟨m, hz, hm1, hm0, hm2, hw⟩
  subst hz
  have HK2 := Lib.hid (((Below.refl W0.heap.size W0).alloc (Nat.le_refl _) _).trans (hw.below.mono (by simp)))
  clear a0 a1 a2 a3 a4 b0 b1 b2 b3 b4
  clear hw
  by_cases hm : 2000 < m
  · clear H1 H2
    go_wp2_with (go_at_call 10; refine (awake_any _).mono ?_; rintro z w3 ⟨hz, hw⟩; subst hz; have HK3 := Lib.hid (chn HK2.out hw); clear hw)
    go_ret
    exact ⟨rfl, HT0.out.trans (HK3.out.mono HT0.out.size)⟩
  obtain ⟨a0, a1, a2, a3, a4, _⟩ := HX.out.below HK2.out
  obtain ⟨b0, b1, b2, b3, b4, _⟩ := HY.out.below HK2.out
  have hm4 := hm1 (by omega)
  have hmx : x.props.length ≤ 1000000 := by simp [sumP] at hm4; omega
  have hmy : y.props.length ≤ 1000000 := by simp [sumP] at hm4; omega
  have HMX := Lib.hid (show x.props.length ≤ 100000 by simp [sumP] at hm4; omega)
  have HMY := Lib.hid (show y.props.length ≤ 100000 by simp [sumP] at hm4; omega)
  clear hm1 hm4
  go_upto_region 3 with (fail)
  have f1 := fun W (hW : Below w2.heap.size w2 W) => lentE_any ((H1.out.below HK2.out).below hW) hmx
  have f2 := fun W (hW : Below w2.heap.size w2 W) => lentE_any ((H2.out.below HK2.out).below hW) hmy
  unfold LentE Ed.v at f1 f2
  have F1 := Lib.hid f1
  have F2 := Lib.hid f2
  clear f1 f2
  have hB : ∀ W, Below w2.heap.size w2 W → (W.cell? ⟨w.heap.size, 0, none⟩ = some (.string x.src) ∧ W.cell? ⟨w.heap.size, 1, none⟩ = some (.string x.dst) ∧ W.cell? ⟨w.heap.size, 2, none⟩ = some (.string x.lab) ∧ W.cell? ⟨w.heap.size, 3, none⟩ = some (.int .i64 x.time) ∧ W.cell? ⟨w.heap.size, 4, none⟩ = some (.slice A1 n1 c1)) ∧ (W.cell? ⟨w.heap.size + 1, 0, none⟩ = some (.string y.src) ∧ W.cell? ⟨w.heap.size + 1, 1, none⟩ = some (.string y.dst) ∧ W.cell? ⟨w.heap.size + 1, 2, none⟩ = some (.string y.lab) ∧ W.cell? ⟨w.heap.size + 1, 3, none⟩ = some (.int .i64 y.time) ∧ W.cell? ⟨w.heap.size + 1, 4, none⟩ = some (.slice A2 n2 c2)) := fun W hW => by
    obtain ⟨p0, p1, p2, p3, p4, _⟩ := (HX.out.below HK2.out).below hW
    obtain ⟨q0, q1, q2, q3, q4, _⟩ := (HY.out.below HK2.out).below hW
    exact ⟨⟨p0, p1, p2, p3, p4⟩, ⟨q0, q1, q2, q3, q4⟩⟩
  have HBD := Lib.hid hB
  have B0 := Lib.hid ((Below.refl w2.heap.size w2).drew)
  have BA : Hid (∀ W o, Below w2.heap.size w2 W → Below w2.heap.size w2 (W.alloc o)) := fun W o h => h.alloc h.size o
  have D1 : Hid (∀ o, Below w2.heap.size w2 ((w2.alloc o).drew)) := fun o => ((Below.refl _ w2).alloc (Nat.le_refl _) o).drew
  have D2 : Hid (∀ o o', Below w2.heap.size w2 (((w2.alloc o).alloc o').drew)) := fun o o' => (((Below.refl _ w2).alloc (Nat.le_refl _) o).alloc (by simp) o').drew
  have BS : Hid (∀ W E c0 c1 c2 c3 c4, w2.heap.size ≤ E → Below w2.heap.size w2 W → Below w2.heap.size w2 (((((W.setCell ⟨E, 0, none⟩ c0).setCell ⟨E, 1, none⟩ c1).setCell ⟨E, 2, none⟩ c2).setCell ⟨E, 3, none⟩ c3).setCell ⟨E, 4, none⟩ c4)) := fun W E c0 c1 c2 c3 c4 hE hW => hW.trans (below_set5 hE _ _ _ _ _)
  clear hB a0 a1 a2 a3 a4 b0 b1 b2 b3 b4
  go_cut [7, 8] from 28 (fun t7 t8 wc => ∃ (wB : World) (E7 E8 gA cA gB cB : Nat), t7 = .pointer (some ⟨E7, 0, none⟩) ∧ t8 = .pointer (some ⟨E8, 0, none⟩) ∧ Two wB wc E7 E8 (.string x.src) (.string x.dst) (.string x.lab) (.int .i64 x.time) (.slice (some ⟨gA, 0, none⟩) x.props.length cA) (.string y.src) (.string y.dst) (.string y.lab) (.int .i64 y.time) (.slice (some ⟨gB, 0, none⟩) y.props.length cB) ∧ wB.ownsRow w2.heap.size 53 4 (.slice (some ⟨gA, 0, none⟩) (x.props.length + 12) cA) (x.props.length + 12) (flatP (x.props ++ mksP)) ∧ wB.ownsRow w2.heap.size 53 4 (.slice (some ⟨gB, 0, none⟩) (y.props.length + 12) cB) (y.props.length + 12) (flatP (y.props ++ mksP)) ∧ Below w2.heap.size w2 wB ∧ (w2.heap.size ≤ E7 ∧ w2.heap.size ≤ E8 ∧ E7 ≠ E8 ∧ gA ≠ E7 ∧ gA ≠ E8 ∧ gB ≠ E7 ∧ gB ≠ E8))
  case first =>
    go_region_held3 (fun W => (W.cell? ⟨w.heap.size, 0, none⟩ = some (.string x.src) ∧ W.cell? ⟨w.heap.size, 1, none⟩ = some (.string x.dst) ∧ W.cell? ⟨w.heap.size, 2, none⟩ = some (.string x.lab) ∧ W.cell? ⟨w.heap.size, 3, none⟩ = some (.int .i64 x.time) ∧ W.cell? ⟨w.heap.size, 4, none⟩ = some (.slice A1 n1 c1)) ∧ (W.cell? ⟨w.heap.size + 1, 0, none⟩ = some (.string y.src) ∧ W.cell? ⟨w.heap.size + 1, 1, none⟩ = some (.string y.dst) ∧ W.cell? ⟨w.heap.size + 1, 2, none⟩ = some (.string y.lab) ∧ W.cell? ⟨w.heap.size + 1, 3, none⟩ = some (.int .i64 y.time) ∧ W.cell? ⟨w.heap.size + 1, 4, none⟩ = some (.slice A2 n2 c2))) (first | with_reducible exact HBD.out _ B0.out | with_reducible exact HBD.out _ (D1.out _) | with_reducible exact HBD.out _ (D2.out _ _) | with_reducible exact HBD.out _ (BA.out _ _ (D1.out _)) | with_reducible exact HBD.out _ (BA.out _ _ B0.out) | with_reducible exact HBD.out _ (BA.out _ _ (BA.out _ _ B0.out)) | with_reducible exact HBD.out _ B1.out | with_reducible exact HBD.out _ (BA.out _ _ B1.out) | with_reducible exact HBD.out _ (BA.out _ _ (BA.out _ _ B1.out)) | with_reducible exact HBD.out _ B2.out | with_reducible exact HBD.out _ (BA.out _ _ B2.out) | with_reducible exact HBD.out _ (BA.out _ _ (BA.out _ _ B2.out)) | with_reducible exact HBD.out _ (BS.out _ _ _ _ _ _ _ (by first | exact Nat.le_refl _ | exact Nat.le_succ _ | omega) B2.out) | with_reducible exact HBD.out _ (BA.out _ _ (BS.out _ _ _ _ _ _ _ (by first | exact Nat.le_refl _ | exact Nat.le_succ _ | omega) B2.out)) | with_reducible exact HBD.out _ (BS.out _ _ _ _ _ _ _ (by first | exact Nat.le_refl _ | exact Nat.le_succ _ | omega) (BA.out _ _ B2.out)) | with_reducible exact HBD.out _ (BA.out _ _ (BA.out _ _ (BS.out _ _ _ _ _ _ _ (by first | exact Nat.le_refl _ | exact Nat.le_succ _ | omega) B2.out))) | with_reducible exact HBD.out _ (BA.out _ _ (BS.out _ _ _ _ _ _ _ (by first | exact Nat.le_refl _ | exact Nat.le_succ _ | omega) (BA.out _ _ B2.out))) | with_reducible exact HBD.out _ (BS.out _ _ _ _ _ _ _ (by first | exact Nat.le_refl _ | exact Nat.le_succ _ | omega) (BA.out _ _ (BA.out _ _ B2.out))) | with_reducible exact HBD.out _ (BS.out _ _ _ _ _ _ _ (by first | exact Nat.le_refl _ | exact Nat.le_succ _ | omega) (BS.out _ _ _ _ _ _ _ (by first | exact Nat.le_refl _ | exact Nat.le_succ _ | omega) B2.out)) | with_reducible exact HBD.out _ (BA.out _ _ (BS.out _ _ _ _ _ _ _ (by first | exact Nat.le_refl _ | exact Nat.le_succ _ | omega) (BS.out _ _ _ _ _ _ _ (by first | exact Nat.le_refl _ | exact Nat.le_succ _ | omega) B2.out))) | with_reducible exact HBD.out _ (BS.out _ _ _ _ _ _ _ (by first | exact Nat.le_refl _ | exact Nat.le_succ _ | omega) (BA.out _ _ (BS.out _ _ _ _ _ _ _ (by first | exact Nat.le_refl _ | exact Nat.le_succ _ | omega) B2.out))) | with_reducible exact HBD.out _ (BS.out _ _ _ _ _ _ _ (by first | exact Nat.le_refl _ | exact Nat.le_succ _ | omega) (BS.out _ _ _ _ _ _ _ (by first | exact Nat.le_refl _ | exact Nat.le_succ _ | omega) (BA.out _ _ B2.out))) | (go_keep; done)) (first
      | (go_at_call 11; first
        | (refine (F1.out _ (by with_reducible exact B0.out)).mono ?_; clear F1; rintro z wA ⟨gA, cA, hz, hrow, hw⟩; subst hz; have RA := Lib.hid hrow; have pA1 := own_base hrow gA rfl; have pA2 := own_lt hrow gA rfl; (try simp at pA1); have JA := Lib.hid hw; have B1 := Lib.hid (show Below w2.heap.size w2 wA from (B0.out).trans (hw.mono (B0.out).size)); have s1 : w2.heap.size ≤ wA.heap.size := B1.out.size; clear hrow hw)
        | (refine (F1.out _ (by with_reducible exact BA.out _ _ B0.out)).mono ?_; clear F1; rintro z wA ⟨gA, cA, hz, hrow, hw⟩; subst hz; have RA := Lib.hid hrow; have pA1 := own_base hrow gA rfl; have pA2 := own_lt hrow gA rfl; (try simp at pA1); have JA := Lib.hid hw; have B1 := Lib.hid (show Below w2.heap.size w2 wA from (BA.out _ zE5 B0.out).trans (hw.mono (BA.out _ zE5 B0.out).size)); have s1 : w2.heap.size ≤ wA.heap.size := B1.out.size; have Z7 := Lib.hid (show wA.heap[w2.heap.size]? = some (.cells #[.string ⟨#[]⟩, .string ⟨#[]⟩, .string ⟨#[]⟩, .int .i64 0, .slice none 0 0] 24 (0, 0)) from heap_keep hw (heap_alloc_new w2.drew zE5)); have n7 : w2.heap.size ≠ wA.heap.size := Nat.ne_of_lt (Array.getElem?_eq_some_iff.1 Z7.out).1; clear hrow hw)
        | (refine (F1.out _ (by with_reducible exact BA.out _ _ (BA.out _ _ B0.out))).mono ?_; clear F1; rintro z wA ⟨gA, cA, hz, hrow, hw⟩; subst hz; have RA := Lib.hid hrow; have pA1 := own_base hrow gA rfl; have pA2 := own_lt hrow gA rfl; (try simp at pA1); have JA := Lib.hid hw; have B1 := Lib.hid (show Below w2.heap.size w2 wA from (BA.out _ zE5 (BA.out _ zE5 B0.out)).trans (hw.mono (BA.out _ zE5 (BA.out _ zE5 B0.out)).size)); have s1 : w2.heap.size ≤ wA.heap.size := B1.out.size; have Z7 := Lib.hid (show wA.heap[w2.heap.size]? = some (.cells #[.string ⟨#[]⟩, .string ⟨#[]⟩, .string ⟨#[]⟩, .int .i64 0, .slice none 0 0] 24 (0, 0)) from heap_keep hw ((Below.heap_alloc _ _ _ (by simp)).trans (heap_alloc_new w2.drew zE5))); have Z8 := Lib.hid (show wA.heap[w2.heap.size + 1]? = some (.cells #[.string ⟨#[]⟩, .string ⟨#[]⟩, .string ⟨#[]⟩, .int .i64 0, .slice none 0 0] 24 (0, 0)) from heap_keep hw (heap_at1 w2.drew zE5 zE5)); clear hrow hw)
        | (refine (F1.out _ (by with_reducible exact D1.out _)).mono ?_; clear F1; rintro z wA ⟨gA, cA, hz, hrow, hw⟩; subst hz; have RA := Lib.hid hrow; have pA1 := own_base hrow gA rfl; have pA2 := own_lt hrow gA rfl; (try simp at pA1); have JA := Lib.hid hw; have B1 := Lib.hid (show Below w2.heap.size w2 wA from (D1.out zE5).trans (hw.mono (D1.out zE5).size)); have s1 : w2.heap.size ≤ wA.heap.size := B1.out.size; have Z7 := Lib.hid (show wA.heap[w2.heap.size]? = some (.cells #[.string ⟨#[]⟩, .string ⟨#[]⟩, .string ⟨#[]⟩, .int .i64 0, .slice none 0 0] 24 (0, 0)) from heap_keep hw (heap_alloc_new w2 zE5)); have n7 : w2.heap.size ≠ wA.heap.size := Nat.ne_of_lt (Array.getElem?_eq_some_iff.1 Z7.out).1; clear hrow hw)
        | (refine (F1.out _ (by with_reducible exact D2.out _ _)).mono ?_; clear F1; rintro z wA ⟨gA, cA, hz, hrow, hw⟩; subst hz; have RA := Lib.hid hrow; have pA1 := own_base hrow gA rfl; have pA2 := own_lt hrow gA rfl; (try simp at pA1); have JA := Lib.hid hw; have B1 := Lib.hid (show Below w2.heap.size w2 wA from (D2.out zE5 zE5).trans (hw.mono (D2.out zE5 zE5).size)); have s1 : w2.heap.size ≤ wA.heap.size := B1.out.size; have Z7 := Lib.hid (show wA.heap[w2.heap.size]? = some (.cells #[.string ⟨#[]⟩, .string ⟨#[]⟩, .string ⟨#[]⟩, .int .i64 0, .slice none 0 0] 24 (0, 0)) from heap_keep hw ((Below.heap_alloc _ _ _ (by simp)).trans (heap_alloc_new w2 zE5))); have Z8 := Lib.hid (show wA.heap[w2.heap.size + 1]? = some (.cells #[.string ⟨#[]⟩, .string ⟨#[]⟩, .string ⟨#[]⟩, .int .i64 0, .slice none 0 0] 24 (0, 0)) from heap_keep hw (heap_at1 w2 zE5 zE5)); clear hrow hw)
        | (refine (F1.out _ (by with_reducible exact BA.out _ _ (D1.out _))).mono ?_; clear F1; rintro z wA ⟨gA, cA, hz, hrow, hw⟩; subst hz; have RA := Lib.hid hrow; have pA1 := own_base hrow gA rfl; have pA2 := own_lt hrow gA rfl; (try simp at pA1); have JA := Lib.hid hw; have B1 := Lib.hid (show Below w2.heap.size w2 wA from (BA.out _ zE5 (D1.out zE5)).trans (hw.mono (BA.out _ zE5 (D1.out zE5)).size)); have s1 : w2.heap.size ≤ wA.heap.size := B1.out.size; have Z7 := Lib.hid (show wA.heap[w2.heap.size]? = some (.cells #[.string ⟨#[]⟩, .string ⟨#[]⟩, .string ⟨#[]⟩, .int .i64 0, .slice none 0 0] 24 (0, 0)) from heap_keep hw ((Below.heap_alloc _ _ _ (by simp)).trans (heap_alloc_new w2 zE5))); have Z8 := Lib.hid (show wA.heap[w2.heap.size + 1]? = some (.cells #[.string ⟨#[]⟩, .string ⟨#[]⟩, .string ⟨#[]⟩, .int .i64 0, .slice none 0 0] 24 (0, 0)) from heap_keep hw (heap_at1 w2 zE5 zE5)); clear hrow hw))
      | (go_at_call 11; first
        | (refine (F2.out _ (by with_reducible exact B1.out)).mono ?_; clear F2; rintro z wB ⟨gB, cB, hz, hrow, hw⟩; subst hz; have RB := Lib.hid hrow; have pB1 := own_base hrow gB rfl; have pB2 := own_lt hrow gB rfl; (try simp at pB1); have JB := Lib.hid hw; have B2 := Lib.hid (show Below w2.heap.size w2 wB from (B1.out).trans (hw.mono (B1.out).size)); have s2 : wA.heap.size ≤ wB.heap.size := Nat.le_trans (Below.refl wA.heap.size wA).size hw.size; have KW := Lib.hid ((Below.refl wA.heap.size wA).trans (hw.mono (Below.refl wA.heap.size wA).size)); (try (have Y7 := heap_keep KW.out Z7.out; obtain ⟨y0, y1, y2, y3, y4, yl⟩ := Bx5.of Y7; obtain ⟨yf0, yf1, yf2, yf3, yf4⟩ := Fx5.of Y7)); (try (have Y8 := heap_keep KW.out Z8.out; obtain ⟨v0, v1, v2, v3, v4, vl⟩ := Bx5.of Y8; obtain ⟨vf0, vf1, vf2, vf3, vf4⟩ := Fx5.of Y8)); clear hrow hw)
        | (refine (F2.out _ (by with_reducible exact BA.out _ _ B1.out)).mono ?_; clear F2; rintro z wB ⟨gB, cB, hz, hrow, hw⟩; subst hz; have RB := Lib.hid hrow; have pB1 := own_base hrow gB rfl; have pB2 := own_lt hrow gB rfl; (try simp at pB1); have JB := Lib.hid hw; have B2 := Lib.hid (show Below w2.heap.size w2 wB from (BA.out _ zE5 B1.out).trans (hw.mono (BA.out _ zE5 B1.out).size)); have s2 : wA.heap.size ≤ wB.heap.size := Nat.le_trans ((Below.refl wA.heap.size wA).alloc (Nat.le_refl _) zE5).size hw.size; have KW := Lib.hid (((Below.refl wA.heap.size wA).alloc (Nat.le_refl _) zE5).trans (hw.mono ((Below.refl wA.heap.size wA).alloc (Nat.le_refl _) zE5).size)); (try (have Y7 := heap_keep KW.out Z7.out; obtain ⟨y0, y1, y2, y3, y4, yl⟩ := Bx5.of Y7; obtain ⟨yf0, yf1, yf2, yf3, yf4⟩ := Fx5.of Y7)); (try (have Y8 := heap_keep KW.out Z8.out; obtain ⟨v0, v1, v2, v3, v4, vl⟩ := Bx5.of Y8; obtain ⟨vf0, vf1, vf2, vf3, vf4⟩ := Fx5.of Y8)); have X7 : wB.heap[wA.heap.size]? = some (.cells #[.string ⟨#[]⟩, .string ⟨#[]⟩, .string ⟨#[]⟩, .int .i64 0, .slice none 0 0] 24 (0, 0)) := heap_keep hw (heap_alloc_new wA zE5); obtain ⟨x0, x1, x2, x3, x4, xl⟩ := Bx5.of X7; obtain ⟨xf0, xf1, xf2, xf3, xf4⟩ := Fx5.of X7; clear hrow hw)
        | (refine (F2.out _ (by with_reducible exact BA.out _ _ (BA.out _ _ B1.out))).mono ?_; clear F2; rintro z wB ⟨gB, cB, hz, hrow, hw⟩; subst hz; have RB := Lib.hid hrow; have pB1 := own_base hrow gB rfl; have pB2 := own_lt hrow gB rfl; (try simp at pB1); have JB := Lib.hid hw; have B2 := Lib.hid (show Below w2.heap.size w2 wB from (BA.out _ zE5 (BA.out _ zE5 B1.out)).trans (hw.mono (BA.out _ zE5 (BA.out _ zE5 B1.out)).size)); have s2 : wA.heap.size ≤ wB.heap.size := Nat.le_trans (((Below.refl wA.heap.size wA).alloc (Nat.le_refl _) zE5).alloc (by simp) zE5).size hw.size; have KW := Lib.hid ((((Below.refl wA.heap.size wA).alloc (Nat.le_refl _) zE5).alloc (by simp) zE5).trans (hw.mono (((Below.refl wA.heap.size wA).alloc (Nat.le_refl _) zE5).alloc (by simp) zE5).size)); (try (have Y7 := heap_keep KW.out Z7.out; obtain ⟨y0, y1, y2, y3, y4, yl⟩ := Bx5.of Y7; obtain ⟨yf0, yf1, yf2, yf3, yf4⟩ := Fx5.of Y7)); (try (have Y8 := heap_keep KW.out Z8.out; obtain ⟨v0, v1, v2, v3, v4, vl⟩ := Bx5.of Y8; obtain ⟨vf0, vf1, vf2, vf3, vf4⟩ := Fx5.of Y8)); have X7 : wB.heap[wA.heap.size]? = some (.cells #[.string ⟨#[]⟩, .string ⟨#[]⟩, .string ⟨#[]⟩, .int .i64 0, .slice none 0 0] 24 (0, 0)) := heap_keep hw ((Below.heap_alloc _ _ _ (by simp)).trans (heap_alloc_new wA zE5)); obtain ⟨x0, x1, x2, x3, x4, xl⟩ := Bx5.of X7; obtain ⟨xf0, xf1, xf2, xf3, xf4⟩ := Fx5.of X7; have X8 : wB.heap[wA.heap.size + 1]? = some (.cells #[.string ⟨#[]⟩, .string ⟨#[]⟩, .string ⟨#[]⟩, .int .i64 0, .slice none 0 0] 24 (0, 0)) := heap_keep hw (heap_at1 wA zE5 zE5); obtain ⟨u0, u1, u2, u3, u4, ul⟩ := Bx5.of X8; obtain ⟨uf0, uf1, uf2, uf3, uf4⟩ := Fx5.of X8; clear hrow hw)))
    all_goals go_wp2_with fail
    all_goals go_meet
    all_goals have RA2 := Lib.hid (own_lower (own_below RA.out KW.out) (show w2.heap.size ≤ _ by first | omega | (simp; done) | (simp; omega)))
    all_goals have RB2 := Lib.hid (own_lower RB.out (show w2.heap.size ≤ _ by first | omega | (simp; done) | (simp; omega)))
    all_goals first
      | with_reducible exact ⟨wB, _, _, gA, cA, gB, cB, rfl, rfl, two_a wB _ _ _ _ _ _ _ _ _ _, RA2.out, RB2.out, B2.out, by omega⟩
      | with_reducible exact ⟨wB, _, _, gA, cA, gB, cB, rfl, rfl, (two_a wB _ _ _ _ _ _ _ _ _ _).swap, RA2.out, RB2.out, B2.out, by omega⟩
      | with_reducible exact ⟨wB, _, _, gA, cA, gB, cB, rfl, rfl, two_c Y7 _ _ _ _ _ _ _ _ _ _, RA2.out, RB2.out, B2.out, by omega⟩
      | with_reducible exact ⟨wB, _, _, gA, cA, gB, cB, rfl, rfl, two_c X7 _ _ _ _ _ _ _ _ _ _, RA2.out, RB2.out, B2.out, by omega⟩
      | with_reducible exact ⟨wB, _, _, gA, cA, gB, cB, rfl, rfl, (two_c Y7 _ _ _ _ _ _ _ _ _ _).swap, RA2.out, RB2.out, B2.out, by omega⟩
      | with_reducible exact ⟨wB, _, _, gA, cA, gB, cB, rfl, rfl, (two_c X7 _ _ _ _ _ _ _ _ _ _).swap, RA2.out, RB2.out, B2.out, by omega⟩
      | with_reducible exact ⟨wB, _, _, gA, cA, gB, cB, rfl, rfl, two_e Y7 X7 (by omega) _ _ _ _ _ _ _ _ _ _, RA2.out, RB2.out, B2.out, by omega⟩
      | with_reducible exact ⟨wB, _, _, gA, cA, gB, cB, rfl, rfl, two_e X7 Y7 (by omega) _ _ _ _ _ _ _ _ _ _, RA2.out, RB2.out, B2.out, by omega⟩
      | with_reducible exact ⟨wB, _, _, gA, cA, gB, cB, rfl, rfl, two_e Y7 Y8 (by omega) _ _ _ _ _ _ _ _ _ _, RA2.out, RB2.out, B2.out, by omega⟩
      | with_reducible exact ⟨wB, _, _, gA, cA, gB, cB, rfl, rfl, two_e Y8 Y7 (by omega) _ _ _ _ _ _ _ _ _ _, RA2.out, RB2.out, B2.out, by omega⟩
      | with_reducible exact ⟨wB, _, _, gA, cA, gB, cB, rfl, rfl, two_e X7 X8 (by omega) _ _ _ _ _ _ _ _ _ _, RA2.out, RB2.out, B2.out, by omega⟩
      | with_reducible exact ⟨wB, _, _, gA, cA, gB, cB, rfl, rfl, two_e X8 X7 (by omega) _ _ _ _ _ _ _ _ _ _, RA2.out, RB2.out, B2.out, by omega⟩
  case rest =>
    obtain ⟨wB, E7, E8, gA, cA, gB, cB, rfl, rfl, h2o, hra, hrb, hbe, hne⟩ := hcut
    have hkp := h2o.kp
    have hbc : Below w2.heap.size w2 wc := ⟨hkp.os.trans hbe.os, hkp.tape.trans hbe.tape, hkp.output.trans hbe.output, Nat.le_trans hbe.size hkp.size, fun k hk => (hkp.block k (Nat.lt_of_lt_of_le hk hbe.size) ⟨by omega, by omega⟩).trans (hbe.block k hk)⟩
    have HBC := Lib.hid hbc
    have HX7 := Lib.hid (Bx5.of h2o.h7)
    have HX8 := Lib.hid (Bx5.of h2o.h8)
    have HX0 := Lib.hid ((HX.out.below HK2.out).below hbc)
    have HY0 := Lib.hid ((HY.out.below HK2.out).below hbc)
    have HPX := Lib.hid ((H1.out.below HK2.out).below hbc)
    have HPY := Lib.hid ((H2.out.below HK2.out).below hbc)
    have HPA := Lib.hid (show PR wc (.slice (some ⟨gA, 0, none⟩) (x.props.length + 12) cA) (x.props ++ mksP) from (PR.of_own hra).keep hkp (fun _ g hg _ => by injection hg with hg; subst hg; exact ⟨hne.2.2.2.1, hne.2.2.2.2.1⟩))
    have HPB := Lib.hid (show PR wc (.slice (some ⟨gB, 0, none⟩) (y.props.length + 12) cB) (y.props ++ mksP) from (PR.of_own hrb).keep hkp (fun _ g hg _ => by injection hg with hg; subst hg; exact ⟨hne.2.2.2.2.2.1, hne.2.2.2.2.2.2⟩))
    have HCA := Lib.hid (own_room hra)
    have HCB := Lib.hid (own_room hrb)
    have HTC := Lib.hid (HT0.out.trans ((HK2.out.trans (hbc.mono HK2.out.size)).mono HT0.out.size))
    clear h2o hra hrb hbe hne hkp hbc HX HY H1 H2 HBD B0 BA D1 D2 BS F1 F2 HK2
    have HQA := Lib.hid (show PR wc (.slice (some ⟨gA, 0, none⟩) x.props.length cA) x.props by
      have h := HPA.out.take (show x.props.length ≤ x.props.length + 12 by omega)
      rwa [List.take_left' rfl] at h)
    have HQB := Lib.hid (show PR wc (.slice (some ⟨gB, 0, none⟩) y.props.length cB) y.props by
      have h := HPB.out.take (show y.props.length ≤ y.props.length + 12 by omega)
      rwa [List.take_left' rfl] at h)
    obtain ⟨⟨⟨va, vb, vc⟩, is⟩, hpv⟩ : ∃ q, propOf key x.props = q := ⟨_, rfl⟩
    have f12 := fun W (hW : Below wc.heap.size wc W) => prop_any key (x := x) (HQA.out.below hW) (by omega)
    have f13 := fun W (hW : Below wc.heap.size wc W) => rProp_any key (x := x) (HPX.out.below hW) (by omega)
    unfold PropR at f12 f13
    rw [hpv] at f12 f13
    unfold Ed.v at f12 f13
    simp only at f12 f13
    have F12 := Lib.hid f12
    have F13 := Lib.hid f13
    clear f12 f13 hpv
    have B0 := Lib.hid (Below.refl wc.heap.size wc)
    obtain ⟨a0, a1, a2, a3, a4, _⟩ := HX7.out
    go_upto_region 5 with (go_at_call 12; refine (F12.out _ B0.out).mono ?_; clear F12; rintro z w4 ⟨hz, hw⟩; subst hz; have B4 := Lib.hid (B0.out.trans (hw.mono B0.out.size)); clear hw)
    clear a0 a1 a2 a3 a4
    have hV := heap_alloc_new w4 (.cells #[.int .i64 va, .int .i64 vb, .string vc] 31)
    have HB5 := Lib.hid (show Below wc.heap.size wc (w4.alloc (.cells #[.int .i64 va, .int .i64 vb, .string vc] 31)) from B4.out.alloc B4.out.size _)
    have HV := Lib.hid hV
    clear hV B4
    generalize w4.alloc (.cells #[.int .i64 va, .int .i64 vb, .string vc] 31) = w5 at HB5 HV ⊢
    generalize w4.heap.size = e9 at HV ⊢
    obtain ⟨a0, a1, a2, a3, a4, _⟩ := HX0.out.below HB5.out
    go_upto_region 6 with (go_at_call 13; refine (F13.out _ HB5.out).mono ?_; clear F13; rintro z w6 ⟨hz, hw⟩; subst hz; have B6 := Lib.hid (HB5.out.trans (hw.mono HB5.out.size)); have HV6 := Lib.hid (heap_keep hw HV.out); clear hw)
    clear a0 a1 a2 a3 a4
    have hU := heap_alloc_new w6 (.cells #[.int .i64 va, .int .i64 vb, .string vc] 31)
    have HB7 := Lib.hid (show Below wc.heap.size wc (w6.alloc (.cells #[.int .i64 va, .int .i64 vb, .string vc] 31)) from B6.out.alloc B6.out.size _)
    have HU := Lib.hid hU
    have HV7 := Lib.hid (heap_keep ((Below.refl w6.heap.size w6).alloc (Nat.le_refl _) (.cells #[.int .i64 va, .int .i64 vb, .string vc] 31)) HV6.out)
    clear hU B6 HV6 HV
    generalize w6.alloc (.cells #[.int .i64 va, .int .i64 vb, .string vc] 31) = w7 at HB7 HU HV7 ⊢
    generalize w6.heap.size = e11 at HU ⊢
    have f14 := fun W (hW : Below wc.heap.size wc W) => put_any (e := x) (HQA.out.below hW) HSX.out
    have f15 := fun W (hW : Below wc.heap.size wc W) => rPut_any (e := x) (HPX.out.below hW) HSX.out
    unfold PutsR Ed.v at f14 f15
    obtain ⟨cc, hcc⟩ : ∃ c, checkE x = c := ⟨_, rfl⟩
    have HPL := Lib.hid (show (putB x).length ≤ 600 by
      unfold putB
      split
      · rename_i h0; exact putE_len h0
      · simp)
    obtain ⟨L, hL⟩ : ∃ L, putB x = L := ⟨_, rfl⟩
    rw [hcc, hL] at f14 f15
    rw [hL] at HPL
    have HCC := Lib.hid hcc
    have F14 := Lib.hid f14
    have F15 := Lib.hid f15
    clear f14 f15 hcc hL
    obtain ⟨a0, a1, a2, a3, a4, _⟩ := HX7.out.below HB7.out
    go_upto_region 7 with (go_at_call 14; refine (F14.out _ HB7.out).mono ?_; clear F14; rintro z w8 ⟨p1, hz, hb1, hw⟩; subst hz; have HB8 := Lib.hid (HB7.out.trans (hw.mono HB7.out.size)); have HV8 := Lib.hid (heap_keep hw HV7.out); have HU8 := Lib.hid (heap_keep hw HU.out); have HP1 := Lib.hid hb1; clear hw hb1)
    clear a0 a1 a2 a3 a4 HV7 HU HB7
    obtain ⟨a0, a1, a2, a3, a4, _⟩ := HX0.out.below HB8.out
    go_upto_region 8 with (go_at_call 15; refine (F15.out _ HB8.out).mono ?_; clear F15; rintro z w9 ⟨p2, hz, hb2, hw⟩; subst hz; have HB9 := Lib.hid (HB8.out.trans (hw.mono HB8.out.size)); have HV9 := Lib.hid (heap_keep hw HV8.out); have HU9 := Lib.hid (heap_keep hw HU8.out); have HP1' := Lib.hid (HP1.out.below hw); have HP2 := Lib.hid hb2; clear hw hb2)
    clear a0 a1 a2 a3 a4 HV8 HU8 HB8 HP1
    obtain ⟨cm, hcm⟩ : ∃ c, cmpK x.key y.key = c := ⟨_, rfl⟩
    obtain ⟨lk, hlk⟩ : ∃ c, decide (cm = 0) = c := ⟨_, rfl⟩
    have BW : Hid (∀ d os, Below wc.heap.size wc (Sort.grow (redrawn w9 d) os)) := fun d os => HB9.out.trans ((below_regrown w9 d os).mono HB9.out.size)
    have cK := fun d os => Calls.regrown_of (by have h := check_any (e := x) (HQA.out.below (BW.out d os)) HSX.out; unfold CheckR Ed.v at h; rw [HCC.out] at h; exact h)
    have cR := fun d os => Calls.regrown_of (by have h := (rCheck_any (e := x) (HPX.out.below (BW.out d os)) HSX.out).mono (fun e w' (h : RCheckR x _ e w') => (⟨h.1, h.2.below⟩ : _ ∧ Below _ _ w')); unfold Ed.v at h; rw [HCC.out] at h; exact h)
    have cC := fun d os => Calls.regrown_of (by have h := (compare_gr x.key y.key (.slice (some ⟨gA, 0, none⟩) x.props.length cA) (.slice (some ⟨gB, 0, none⟩) y.props.length cB) (Sort.grow (redrawn w9 d) os)).mono (fun e w' (h : _ ∧ _) => (⟨h.1, h.2.below⟩ : _ ∧ Below _ _ w')); unfold eV at h; rw [hcm] at h; exact h)
    have cD := fun d os => Calls.regrown_of (by have h := (rCompare_gr x.key y.key (.slice A1 n1 c1) (.slice A2 n2 c2) (Sort.grow (redrawn w9 d) os)).mono (fun e w' (h : _ ∧ _) => (⟨h.1, h.2.below⟩ : _ ∧ Below _ _ w')); unfold eV at h; rw [hcm] at h; exact h)
    have cL := fun d os => Calls.regrown_of (by have h := (like_gr x.key y.key (.slice (some ⟨gA, 0, none⟩) x.props.length cA) (.slice (some ⟨gB, 0, none⟩) y.props.length cB) (Sort.grow (redrawn w9 d) os)).mono (fun e w' (h : _ ∧ _) => (⟨h.1, h.2.below⟩ : _ ∧ Below _ _ w')); unfold eV at h; rw [hcm, hlk] at h; exact h)
    have cM := fun d os => Calls.regrown_of (by have h := (rLike_gr x.key y.key (.slice A1 n1 c1) (.slice A2 n2 c2) (Sort.grow (redrawn w9 d) os)).mono (fun e w' (h : _ ∧ _) => (⟨h.1, h.2.below⟩ : _ ∧ Below _ _ w')); unfold eV at h; rw [hcm, hlk] at h; exact h)
    unfold Ed.key at cC cD cL cM
    simp only at cC cD cL cM
    obtain ⟨p0, p1', p2', p3, p4, _⟩ := HX7.out.below HB9.out
    obtain ⟨q0, q1, q2, q3, q4, _⟩ := HX8.out.below HB9.out
    obtain ⟨r0, r1, r2, r3, r4, _⟩ := HX0.out.below HB9.out
    obtain ⟨s0, s1, s2, s3, s4, _⟩ := HY0.out.below HB9.out
    have p0 := cell_regrown p0; have p1' := cell_regrown p1'; have p2' := cell_regrown p2'; have p3 := cell_regrown p3; have p4 := cell_regrown p4
    have q0 := cell_regrown q0; have q1 := cell_regrown q1; have q2 := cell_regrown q2; have q3 := cell_regrown q3; have q4 := cell_regrown q4
    have r0 := cell_regrown r0; have r1 := cell_regrown r1; have r2 := cell_regrown r2; have r3 := cell_regrown r3; have r4 := cell_regrown r4
    have s0 := cell_regrown s0; have s1 := cell_regrown s1; have s2 := cell_regrown s2; have s3 := cell_regrown s3; have s4 := cell_regrown s4
    clear hcm hlk
    refine wp_region_quiet_below (by kernel_rfl) (by kernel_rfl) ?_
    repeat (first | go_big_quiet_skip | (go_big_quiet_want; go_big_quiet_op; first | go_big_quiet_on | go_big_quiet_call (first | exact cK _ _ | exact cR _ _ | exact cC _ _ | exact cD _ _ | exact cL _ _ | exact cM _ _)) | quiet_step (first | exact cK _ _ | exact cR _ _ | exact cC _ _ | exact cD _ _ | exact cL _ _ | exact cM _ _))
    refine wpQuiet_nil ?_
    intro _ hw'
    obtain ⟨⟨dq, osq⟩, hw''⟩ := hw'
    subst hw''
    have HBA := Lib.hid (BW.out dq osq)
    have HVA := Lib.hid (heap_keep (below_regrown w9 dq osq) HV9.out)
    have HUA := Lib.hid (heap_keep (below_regrown w9 dq osq) HU9.out)
    have HPA1 := Lib.hid (HP1'.out.below (below_regrown w9 dq osq))
    have HPA2 := Lib.hid (HP2.out.below (below_regrown w9 dq osq))
    clear cK cR cC cD cL cM p0 p1' p2' p3 p4 q0 q1 q2 q3 q4 r0 r1 r2 r3 r4 s0 s1 s2 s3 s4 BW HV9 HU9 HP1' HP2 HB9
    generalize Sort.grow (redrawn w9 dq) osq = wA at HBA HVA HUA HPA1 HPA2 ⊢
    have hEQ := fun W => eq31_eq W va vb vc
    have d0 := cell_of_row _ _ 0 _ 31 (0, 0) HVA.out
    have d1 := cell_of_row _ _ 1 _ 31 (0, 0) HVA.out
    have d2 := cell_of_row _ _ 2 _ 31 (0, 0) HVA.out
    have u0 := cell_of_row _ _ 0 _ 31 (0, 0) HUA.out
    have u1 := cell_of_row _ _ 1 _ 31 (0, 0) HUA.out
    have u2 := cell_of_row _ _ 2 _ 31 (0, 0) HUA.out
    have F22 := Lib.hid ((sameB_any HPA1.out HPA2.out (by have := HPL.out; omega)).mono (fun e w' (h : e = .returned (.bool (decide (L = L))) ∧ Gr wA w') => (⟨by rw [h.1, decide_eq_true rfl], h.2.below⟩ : e = .returned (.bool true) ∧ Below wA.heap.size wA w')))
    have f23 := fun W (hW : Below wc.heap.size wc W) => (keptE_any (x := x) (HPA.out.below hW) (by omega) HCA.out (HPX.out.below hW) HMX.out).mono (fun e w' (h : _ ∧ Gr W w') => (⟨h.1, h.2.below⟩ : _ ∧ Below W.heap.size W w'))
    have g23 := fun W (hW : Below wc.heap.size wc W) => (keptE_any (x := y) (HPB.out.below hW) (by omega) HCB.out (HPY.out.below hW) HMY.out).mono (fun e w' (h : _ ∧ Gr W w') => (⟨h.1, h.2.below⟩ : _ ∧ Below W.heap.size W w'))
    unfold Ed.v at f23 g23
    have F23 := Lib.hid f23
    have G23 := Lib.hid g23
    clear f23 g23 HVA HUA HPA1 HPA2 HPL HPA HPB HPX HPY HCA HCB HQA HQB
    go_wp2_with (first
      | (go_at_call 22; refine F22.out.mono ?_; clear F22; rintro z wD ⟨hz, hw⟩; subst hz; have HBD := Lib.hid (HBA.out.trans (hw.mono HBA.out.size)); clear hw; obtain ⟨p0, p1', p2', p3, p4, _⟩ := HX7.out.below HBD.out; obtain ⟨r0, r1, r2, r3, r4, _⟩ := HX0.out.below HBD.out)
      | (go_at_call 23; refine (F23.out _ HBD.out).mono ?_; clear F23; rintro z wE ⟨hz, hw⟩; subst hz; have HBE := Lib.hid (HBD.out.trans (hw.mono HBD.out.size)); clear hw; obtain ⟨q0, q1, q2, q3, q4, _⟩ := HX8.out.below HBE.out; obtain ⟨s0, s1, s2, s3, s4, _⟩ := HY0.out.below HBE.out)
      | (go_at_call 23; refine (G23.out _ HBE.out).mono ?_; clear G23; rintro z wF ⟨hz, hw⟩; subst hz; have HBF := Lib.hid (HBE.out.trans (hw.mono HBE.out.size)); clear hw)
      | (go_at_call 10; refine (awake_any _).mono ?_; rintro z wG ⟨hz, hw⟩; subst hz; have HBG := Lib.hid (HBF.out.trans (hw.mono HBF.out.size)); clear hw)
      | fail)
    go_ret
    exact ⟨rfl, HTC.out.trans (HBG.out.mono HTC.out.size)⟩
end Go.Proofs.Ytpoefcpgcojppaa

namespace Go.Proofs.Ytpoefcpgcojppaa
open Go.ChangeShapes Go.WideShapes Go.ChangeAt Go.RowKit
set_option linter.unusedVariables false

/-- a lent row reads as the bytes -/
theorem lent_br {w : World} {base g c n : Nat} {l M : List UInt8} (h : w.ownsRow base 5 1 (.slice (some ⟨g, 0, none⟩) n c) n (byC (l ++ M))) : BR w (.slice (some ⟨g, 0, none⟩) l.length c) l := by
  refine ⟨_, _, rfl, fun hn => ⟨_, rfl, own_lt h g rfl, fun j u hj => ?_⟩⟩
  refine h.cells (g := g) rfl j u ?_
  rw [byC_app, List.getElem?_append_left (List.getElem?_eq_some_iff.1 hj).1]
  exact hj
theorem lent_cap {w : World} {base g c n m : Nat} {xs : List Value} (h : w.ownsRow base 5 1 (.slice (some ⟨g, 0, none⟩) n c) n xs) (hm : m ≤ n) : CapOk (.slice (some ⟨g, 0, none⟩) m c) := by
  have := own_room h
  intro A n' c' e
  injection e with e1 e2 e3
  subst e1 e2 e3
  exact ⟨by omega, fun h => by cases h⟩
theorem guess_sz' (l : List UInt8) : (parseE l).1.props.length ≤ 281474976710656 := by
  rcases parse_cases l with ⟨_, _, h⟩ | ⟨_, h⟩
  · rw [h]
    exact (szP_guess l).2.2.2.1
  · rw [h]
    exact Nat.zero_le _

set_option maxHeartbeats 4000000 in
set_option maxRecDepth 100000 in
theorem parses_any {w : World} {vb : Value} {l : List UInt8} (hb : BR w vb l) (hcap : CapOk vb) (hl : l.length ≤ 281474976710656) :
    Calls Try.prog 4 #[vb] w fun e w' => e = .returned (.bool true) ∧ Below w.heap.size w w' := by
  obtain ⟨A3, c3, rfl⟩ := hb.form
  by_cases hbig : 2000 < l.length
  · obtain ⟨n, hn⟩ : ∃ n, l.length = n := ⟨_, rfl⟩
    rw [hn] at hbig ⊢
    have hbi : (2000 : Int) < (n : Int) := by omega
    clear hn hb hcap hl
    go_enter Try.func4, Try.ntmps4
    go_wp2_with (go_at_call 10; refine (awake_any _).mono ?_; rintro z w1 ⟨hz, hw⟩; subst hz)
    go_ret
    exact ⟨rfl, hw⟩
  · have hl2 : l.length ≤ 2000 := by omega
    have F24 := Lib.hid (lent_any _ l w hb (by omega))
    unfold LentR at F24
    have hp : ∃ (e : Ed) (c : Int), parseE l = (e, c) := ⟨_, _, rfl⟩
    obtain ⟨e, cc, hp⟩ := hp
    have hsz := guess_sz' l
    rw [hp] at hsz
    have f25 := fun W v (h : BR W v l) (hc : CapOk v) => parse_any h hc hl
    have f26 := fun W v (h : BR W v l) (hc : CapOk v) => rparse_walk h hc hl
    rw [rParse_eq] at f26
    rw [hp] at f25 f26
    unfold ParsR Ed.v at f25 f26
    simp only at f25 f26 hsz
    have f27 := fun W v1 v2 (h1 : PR W v1 e.props) (h2 : PR W v2 e.props) => sameE_yes h1 h2 hsz
    unfold Ed.v at f27
    have F25 := Lib.hid f25
    have F26 := Lib.hid f26
    have F27 := Lib.hid f27
    have HBR := Lib.hid hb
    have HCAP := Lib.hid hcap
    have HL2 := Lib.hid hl2
    obtain ⟨n, hn⟩ : ∃ n, l.length = n := ⟨_, rfl⟩
    have HN := Lib.hid hn
    rw [hn] at hbig HBR HCAP F24 ⊢
    have hbi : ¬ (2000 : Int) < (n : Int) := by omega
    clear f25 f26 f27 hp hsz hn hb hcap hl hl2
    go_enter Try.func4, Try.ntmps4
    go_wp2_with (first
      | (go_at_call 24; refine F24.out.mono ?_; clear F24; rintro z w1 ⟨g, c1, hz, hrow, hw⟩; subst hz; have HROW := Lib.hid hrow; have HB1 := Lib.hid hw; clear hrow hw)
      | (go_at_call 25; refine (F25.out _ _ (by have := lent_br HROW.out; rwa [HN.out] at this) (lent_cap HROW.out (by omega))).mono ?_; clear F25; rintro z w2 ⟨pv, hz, hpr, hw⟩; subst hz; have HR2 := Lib.hid (own_below HROW.out hw); have HP2 := Lib.hid hpr; have HB2 := Lib.hid (chn HB1.out hw); obtain ⟨A4, n4, c4, hpv⟩ := slice_any hpr; subst hpv; clear hpr hw)
      | (go_at_call 26; refine (F26.out _ _ (HBR.out.below (HB2.out.alloc HB2.out.size _)) HCAP.out).mono ?_; clear F26; rintro z w3 ⟨pv5, hz, hpr, hw⟩; subst hz; have HAL := Lib.hid ((Below.refl w2.heap.size w2).alloc (Nat.le_refl _) (.cells #[.string e.src, .string e.dst, .string e.lab, .int .i64 e.time, .slice A4 n4 c4] 24)); have HR3 := Lib.hid (own_below (own_below HR2.out HAL.out) hw); have HP3 := Lib.hid (HP2.out.below (HAL.out.trans (hw.mono (by simp)))); have HQ3 := Lib.hid hpr; have HB3 := Lib.hid (chn (HB2.out.alloc HB2.out.size _) hw); have hX := (Bx5.new w2 (.string e.src) (.string e.dst) (.string e.lab) (.int .i64 e.time) (.slice A4 n4 c4) 24).below hw; obtain ⟨a0, a1, a2, a3, a4, _⟩ := hX; obtain ⟨A5, n5, c5, hpv⟩ := slice_any hpr; subst hpv; clear hpr hw)
      | (go_at_call 27; have HAL2 := Lib.hid ((Below.refl w3.heap.size w3).alloc (Nat.le_refl _) (.cells #[.string e.src, .string e.dst, .string e.lab, .int .i64 e.time, .slice A5 n5 c5] 24)); refine (F27.out _ _ _ (HP3.out.below HAL2.out) (HQ3.out.below HAL2.out)).mono ?_; clear F27; rintro z w4 ⟨hz, hw⟩; subst hz; have HR4 := Lib.hid (own_below (own_below HR3.out HAL2.out) hw.below); have HB4 := Lib.hid (chn (HB3.out.alloc HB3.out.size _) hw.below); clear hw)
      | (go_at_call 28; have F28 := kept_any l _ (by have := HR4.out; rw [← HN.out] at this; exact this) (HBR.out.below HB4.out) (by have := HL2.out; omega); rw [HN.out] at F28; refine F28.mono ?_; clear F28; rintro z w5 ⟨hz, hw⟩; subst hz; have HB5 := Lib.hid (chn HB4.out hw.below); clear hw)
      | (go_at_call 10; refine (awake_any _).mono ?_; rintro z w6 ⟨hz, hw⟩; subst hz; have HB6 := Lib.hid (chn HB5.out hw); clear hw)
      | fail)
    go_ret
    exact ⟨rfl, HB6.out⟩
end Go.Proofs.Ytpoefcpgcojppaa

namespace Go.Proofs.Ytpoefcpgcojppaa
open Go.ChangeShapes Go.WideShapes Go.ChangeAt Go.RowKit
set_option linter.unusedVariables false

def gP : List Pt := [(⟨#[107]⟩, 1, -3, ⟨#[]⟩), (⟨#[108]⟩, 2, 0, ⟨#[113, 32, 114]⟩)]
def gE : Ed := ⟨⟨#[97, 49]⟩, ⟨#[55]⟩, ⟨#[120, 95, 121]⟩, 258, gP⟩
theorem gE_sm : SmE gE := by
  refine ⟨by decide, by decide, by decide, by decide, fun p hp => ?_⟩
  have h0 : p = (⟨#[107]⟩, 1, -3, ⟨#[]⟩) ∨ p = (⟨#[108]⟩, 2, 0, ⟨#[113, 32, 114]⟩) := by simpa [gE, gP] using hp
  rcases h0 with rfl | rfl <;> exact ⟨by decide, by decide⟩
def nmL : List ByteArray := [⟨#[]⟩, ⟨#[97]⟩, ⟨#[49]⟩, ⟨#[95]⟩, ⟨#[65]⟩, ⟨#[97, 32, 98]⟩, ⟨#[109, 97, 116, 99, 104]⟩, ⟨#[97, 115]⟩, ⟨#[97, 97, 97, 97, 97, 97, 97, 97, 97, 97, 97, 97, 97, 97, 97, 97, 97, 97, 97, 97]⟩, ⟨#[97, 97, 97, 97, 97, 97, 97, 97, 97, 97, 97, 97, 97, 97, 97, 97, 97, 97, 97, 97, 97]⟩]
theorem nmL_len : nmL.length = 10 := rfl
theorem nmL_sm : ∀ s ∈ nmL, s.size ≤ 1000 := by decide +kernel
def tmL : List Int := [-9223372036854775808, -1, 0, 1, 1099511627776, 1099511627777, 9223372036854775807]
structure Gd (W : World) (b1 b2 bp bg bn bt : Nat) : Prop where
  c1 : W.heap[b1]? = some (.cells #[.int .i64 1, .int .i64 (-3), .string ⟨#[]⟩] 31 (0, 0))
  c2 : W.heap[b2]? = some (.cells #[.int .i64 2, .int .i64 0, .string ⟨#[113, 32, 114]⟩] 31 (0, 0))
  cp : W.heap[bp]? = some (.cells #[.string ⟨#[107]⟩, .int .i64 1, .int .i64 (-3), .string ⟨#[]⟩, .string ⟨#[108]⟩, .int .i64 2, .int .i64 0, .string ⟨#[113, 32, 114]⟩] 53 (0, 0))
  cg : EB W bg ⟨#[97, 49]⟩ ⟨#[55]⟩ ⟨#[120, 95, 121]⟩ 258 (.slice (some ⟨bp, 0, none⟩) 2 2)
  cn : W.heap[bn]? = some (.cells (nmL.map Value.string).toArray 9 (0, 0))
  ct : W.heap[bt]? = some (.cells (tmL.map (Value.int .i64)).toArray 3 (0, 0))
theorem Gd.below {W W' : World} {b1 b2 bp bg bn bt : Nat} (h : Gd W b1 b2 bp bg bn bt) (hb : Below W.heap.size W W') : Gd W' b1 b2 bp bg bn bt :=
  ⟨heap_keep hb h.c1, heap_keep hb h.c2, heap_keep hb h.cp, heap_keep hb h.cg, heap_keep hb h.cn, heap_keep hb h.ct⟩
theorem Gd.pr {W : World} {b1 b2 bp bg bn bt : Nat} (h : Gd W b1 b2 bp bg bn bt) : PR W (.slice (some ⟨bp, 0, none⟩) 2 2) gE.props :=
  PR.of_own (base := 0) (n := 2) (t := 53) ⟨rfl, .inr ⟨bp, 2, _, rfl, Nat.zero_le _, h.cp, Nat.le_refl _, by unfold maxLen; omega, rfl, rfl⟩⟩
theorem Gd.nm {W : World} {b1 b2 bp bg bn bt : Nat} (h : Gd W b1 b2 bp bg bn bt) {k : Nat} (hk : k < 10) : ∃ s : ByteArray, s.size ≤ 1000 ∧ W.cell? ⟨bn, k, none⟩ = some (.string s) := by
  have hk' : k < nmL.length := by rw [nmL_len]; exact hk
  refine ⟨nmL[k], nmL_sm _ (List.getElem_mem hk'), ?_⟩
  rw [cell_of_row _ _ _ _ _ _ h.cn]
  simp [hk']
theorem Gd.tm {W : World} {b1 b2 bp bg bn bt : Nat} (h : Gd W b1 b2 bp bg bn bt) {k : Nat} (hk : k < 7) : ∃ t : Int, W.cell? ⟨bt, k, none⟩ = some (.int .i64 t) := by
  have hk' : k < tmL.length := hk
  refine ⟨tmL[k], ?_⟩
  rw [cell_of_row _ _ _ _ _ _ h.ct]
  simp [hk']
def gd0 (w : World) : World := ((((((w.alloc (.cells #[.int .i64 1, .int .i64 (-3), .string ⟨#[]⟩] 31)).alloc (.cells #[.int .i64 2, .int .i64 0, .string ⟨#[113, 32, 114]⟩] 31)).alloc (.cells #[.string ⟨#[107]⟩, .int .i64 1, .int .i64 (-3), .string ⟨#[]⟩, .string ⟨#[108]⟩, .int .i64 2, .int .i64 0, .string ⟨#[113, 32, 114]⟩] 53)).alloc (.cells #[.string ⟨#[97, 49]⟩, .string ⟨#[55]⟩, .string ⟨#[120, 95, 121]⟩, .int .i64 258, .slice (some ⟨w.heap.size + 1 + 1, 0, none⟩) 2 2] 24)).alloc (.cells #[.string ⟨#[]⟩, .string ⟨#[97]⟩, .string ⟨#[49]⟩, .string ⟨#[95]⟩, .string ⟨#[65]⟩, .string ⟨#[97, 32, 98]⟩, .string ⟨#[109, 97, 116, 99, 104]⟩, .string ⟨#[97, 115]⟩, .string ⟨#[97, 97, 97, 97, 97, 97, 97, 97, 97, 97, 97, 97, 97, 97, 97, 97, 97, 97, 97, 97]⟩, .string ⟨#[97, 97, 97, 97, 97, 97, 97, 97, 97, 97, 97, 97, 97, 97, 97, 97, 97, 97, 97, 97, 97]⟩] 9)).alloc (.cells #[.int .i64 (-9223372036854775808), .int .i64 (-1), .int .i64 0, .int .i64 1, .int .i64 1099511627776, .int .i64 1099511627777, .int .i64 9223372036854775807] 3))
theorem gd_new (w : World) : Gd (gd0 w) w.heap.size (w.heap.size + 1) (w.heap.size + 1 + 1) (w.heap.size + 1 + 1 + 1) (w.heap.size + 1 + 1 + 1 + 1) (w.heap.size + 1 + 1 + 1 + 1 + 1) ∧ Below w.heap.size w (gd0 w) ∧ w.heap.size ≤ (gd0 w).heap.size := by
  have hs : ∀ (W : World) (o : Obj), (W.alloc o).heap.size = W.heap.size + 1 := fun W o => by simp
  have ho : ∀ (W : World) (o : Obj) (r : Nat), r < W.heap.size → (W.alloc o).heap[r]? = W.heap[r]? := fun W o r h => heap_alloc_old W o h
  have hb : Below w.heap.size w (gd0 w) := by
    unfold gd0
    refine (((((Below.refl _ w).alloc (Nat.le_refl _) _).alloc ?_ _).alloc ?_ _).alloc ?_ _).alloc ?_ _ |>.alloc ?_ _ <;> simp <;> omega
  have al : ∀ (W : World) (o : Obj) (k : Nat), W.heap.size = k → (W.alloc o).heap[k]? = some o := fun W o k h => by rw [← h]; exact heap_alloc_new W o
  refine ⟨⟨?_, ?_, ?_, ?_, ?_, ?_⟩, hb, hb.size⟩
  · unfold gd0; rw [ho _ _ _ (by simp <;> omega), ho _ _ _ (by simp <;> omega), ho _ _ _ (by simp <;> omega), ho _ _ _ (by simp <;> omega), ho _ _ _ (by simp)]; exact al _ _ _ rfl
  · unfold gd0; rw [ho _ _ _ (by simp <;> omega), ho _ _ _ (by simp <;> omega), ho _ _ _ (by simp <;> omega), ho _ _ _ (by simp)]; exact al _ _ _ (by simp)
  · unfold gd0; rw [ho _ _ _ (by simp <;> omega), ho _ _ _ (by simp <;> omega), ho _ _ _ (by simp)]; exact al _ _ _ (by simp)
  · unfold gd0 EB; rw [ho _ _ _ (by simp <;> omega), ho _ _ _ (by simp)]; exact al _ _ _ (by simp)
  · unfold gd0; rw [ho _ _ _ (by simp)]; exact al _ _ _ (by simp)
  · unfold gd0; exact al _ _ _ (by simp)
end Go.Proofs.Ytpoefcpgcojppaa

namespace Go.Proofs.Ytpoefcpgcojppaa
open Go.ChangeShapes Go.WideShapes Go.ChangeAt Go.RowKit
set_option linter.unusedVariables false

theorem ROk.block {w : World} {N g c n : Nat} {Q : List Ev} (h : ROk w N (.slice (some ⟨g, 0, none⟩) n c) n Q) : ∃ cur, w.heap[g]? = some (.cells cur 24 (0, 0)) ∧ N ≤ g := by
  rcases h.own.2 with ⟨e, _⟩ | ⟨b, cap, cur, e, hb, hh, _⟩
  · cases e
  · injection e with e1 _ _
    injection e1 with e1
    injection e1 with e1
    subst e1
    exact ⟨cur, hh, hb⟩
theorem EOk.pblock {w : World} {N : Nat} {p : Ev} (h : EOk w N p) : ∃ g c cur, p.2 = .slice (some ⟨g, 0, none⟩) 2 c ∧ w.heap[g]? = some (.cells cur 53 (0, 0)) ∧ 8 ≤ cur.size ∧ N ≤ g ∧ 2 ≤ c := by
  obtain ⟨h1, h2, h3⟩ := h
  unfold Own53 at h3
  rw [h2] at h3
  rcases h3.2 with ⟨_, e⟩ | ⟨b, cap, cur, e, hb, hh, h4, _, h5, _⟩
  · omega
  · exact ⟨b, cap, cur, e, hh, by omega, hb, h4⟩
theorem ROk.app {w w' : World} {N n : Nat} {v v' : Value} {Q : List Ev} {p : Ev} (h : ROk w N v n Q) (hp : EOk w N p) (ho : w'.ownsRow N 24 5 v' (n + 1) (flatX Q ++ flatX [p])) (hg : w.grownBy w' v.ownBlock) : ROk w' N v' (n + 1) (Q ++ [p]) := by
  refine ⟨by rw [List.length_append, h.len]; rfl, by rw [flatX_app]; exact ho, fun q hq => ?_⟩
  rcases List.mem_append.1 hq with hq | hq
  · obtain ⟨h1, h2, h3⟩ := h.each q hq
    exact ⟨h1, h2, own_grow2 h3 h.own (by decide) hg⟩
  · rw [List.mem_singleton.1 hq]
    obtain ⟨h1, h2, h3⟩ := hp
    exact ⟨h1, h2, own_grow2 h3 h.own (by decide) hg⟩
theorem good_copy {W : World} {b1 b2 bp bg bn bt : Nat} (h : Gd W b1 b2 bp bg bn bt) : Calls Try.prog 35 #[.agg #[.string ⟨#[97, 49]⟩, .string ⟨#[55]⟩, .string ⟨#[120, 95, 121]⟩, .int .i64 258, .slice (some ⟨bp, 0, none⟩) 2 2]] W fun e w' => ∃ g c, e = .returned (.agg #[.string ⟨#[97, 49]⟩, .string ⟨#[55]⟩, .string ⟨#[120, 95, 121]⟩, .int .i64 258, .slice (some ⟨g, 0, none⟩) 2 c]) ∧ w'.ownsRow W.heap.size 53 4 (.slice (some ⟨g, 0, none⟩) 2 c) 2 (flatP gP) ∧ Below W.heap.size W w' := by
  refine (copyE_any (x := gE) h.pr (by decide)).mono ?_
  rintro e w' ⟨A, c, rfl, ho, hb⟩
  obtain ⟨g, cap, hv⟩ := ownsRow_succ (k := 1) ho
  injection hv with h1 _ h2
  subst h1 h2
  exact ⟨g, c, rfl, ho, hb⟩
theorem good_ok {w : World} {N g c : Nat} (h : w.ownsRow N 53 4 (.slice (some ⟨g, 0, none⟩) 2 c) 2 (flatP gP)) : EOk w N (gE, .slice (some ⟨g, 0, none⟩) 2 c) := ⟨gE_sm, rfl, h⟩
theorem st_x {W0 w : World} {M g c : Nat} {Q : List Ev} (hI : ROk w M (.slice (some ⟨g, 0, none⟩) 6 c) 6 Q ∧ Below M W0 w) {u : Value} (a k b : Nat) (ha : k * 5 + b = a) (hk : k < 6) (hu : (b < 3 ∧ ∃ s : ByteArray, s.size ≤ 1000 ∧ u = .string s) ∨ (b = 3 ∧ ∃ t : Int, u = .int .i64 t)) : ∃ Q', Hid (ROk (w.setCell ⟨g, a, none⟩ u) M (.slice (some ⟨g, 0, none⟩) 6 c) 6 Q' ∧ Below M W0 (w.setCell ⟨g, a, none⟩ u)) := by
  subst ha
  obtain ⟨Q', h⟩ := hI.1.setX hk hu
  obtain ⟨_, _, hg⟩ := hI.1.block
  exact ⟨Q', h, hI.2.setCell (p := ⟨g, _, none⟩) hg u⟩
theorem st_p {W0 w : World} {M g c h j : Nat} {Q : List Ev} {cur : Array Value} (hI : ROk w M (.slice (some ⟨g, 0, none⟩) 6 c) 6 Q ∧ Below M W0 w) {u : Value} (hh : w.heap[h]? = some (.cells cur 53 (0, 0))) (hM : M ≤ h) (hf : Fits j u) : ∃ Q', Hid (ROk (w.setCell ⟨h, j, none⟩ u).drew M (.slice (some ⟨g, 0, none⟩) 6 c) 6 Q' ∧ Below M W0 (w.setCell ⟨h, j, none⟩ u).drew) := by
  obtain ⟨Q', h1⟩ := hI.1.setP hh hf
  exact ⟨Q', h1.below (Below.refl _ _).drew, (hI.2.setCell (p := ⟨h, j, none⟩) hM u).drew⟩
theorem pk_x {w : World} {M g c : Nat} {Q : List Ev} (hI : ROk w M (.slice (some ⟨g, 0, none⟩) 6 c) 6 Q) (a k : Nat) (ha : k * 5 + 4 = a) (hk : k < 6) : ∃ h c' cur, w.cell? ⟨g, a, none⟩ = some (.slice (some ⟨h, 0, none⟩) 2 c') ∧ w.heap[h]? = some (.cells cur 53 (0, 0)) ∧ 8 ≤ cur.size ∧ M ≤ h := by
  subst ha
  have hkQ : k < Q.length := by rw [hI.len]; exact hk
  obtain ⟨_, _, _, _, q4⟩ := own_cells5 hI.own hkQ
  obtain ⟨h, c', cur, e, h1, h2, h3, _⟩ := (hI.each _ (List.getElem_mem hkQ)).pblock
  rw [e] at q4
  exact ⟨h, c', cur, q4, h1, h2, h3⟩
theorem at_x {w : World} {M g c : Nat} {Q : List Ev} (hI : ROk w M (.slice (some ⟨g, 0, none⟩) 6 c) 6 Q) (a k b : Nat) (ha : k * 5 + b = a) (hk : k < 6) (hb : b < 5) : (∃ y, w.cell? ⟨g, a, none⟩ = some y) ∧ w.frozen? ⟨g, a, none⟩ = false := by
  subst ha
  have hkQ : k < Q.length := by rw [hI.len]; exact hk
  obtain ⟨q0, q1, q2, q3, q4⟩ := own_cells5 hI.own hkQ
  obtain ⟨cur, hh, _⟩ := hI.block
  refine ⟨?_, Go.Joins.unfrozen_of_block hh _⟩
  match b, hb with
  | 0, _ => exact ⟨_, q0⟩
  | 1, _ => exact ⟨_, q1⟩
  | 2, _ => exact ⟨_, q2⟩
  | 3, _ => exact ⟨_, q3⟩
  | 4, _ => exact ⟨_, q4⟩
theorem at_p {w : World} {h j : Nat} {cur : Array Value} (hh : w.heap[h]? = some (.cells cur 53 (0, 0))) (hc : 8 ≤ cur.size) (hj : j < 8) : (∃ y, w.cell? ⟨h, j, none⟩ = some y) ∧ w.frozen? ⟨h, j, none⟩ = false :=
  ⟨cell_some hh (by omega), Go.Joins.unfrozen_of_block hh _⟩
theorem cell_keep {w W : World} {a : Addr} {v : Value} (hW : Below w.heap.size w W) (h : w.cell? a = some v) : W.cell? a = some v := by
  rw [hW.cell (block_lt_of_cell h)]; exact h
theorem nm_all {W0 : World} {M b1 b2 bp bg bn bt : Nat} (h : ∀ W, Below M W0 W → Gd W b1 b2 bp bg bn bt) {k : Nat} (hk : k < 10) : ∃ s : ByteArray, s.size ≤ 1000 ∧ Hid (∀ W, Below M W0 W → W.cell? ⟨bn, k, none⟩ = some (.string s)) := by
  have hk' : k < nmL.length := by rw [nmL_len]; exact hk
  refine ⟨nmL[k], nmL_sm _ (List.getElem_mem hk'), fun W hW => ?_⟩
  rw [cell_of_row _ _ _ _ _ _ (h W hW).cn]
  simp [hk']
theorem tm_all {W0 : World} {M b1 b2 bp bg bn bt : Nat} (h : ∀ W, Below M W0 W → Gd W b1 b2 bp bg bn bt) {k : Nat} (hk : k < 7) : ∃ t : Int, Hid (∀ W, Below M W0 W → W.cell? ⟨bt, k, none⟩ = some (.int .i64 t)) := by
  have hk' : k < tmL.length := hk
  refine ⟨tmL[k], fun W hW => ?_⟩
  rw [cell_of_row _ _ _ _ _ _ (h W hW).ct]
  simp [hk']
theorem nextm {q : Nat} (h : q < 6) : ∃ m : Nat, m < 6 ∧ ((q : Int) + 1).tmod 6 = (m : Int) :=
  match q, h with
  | 0, _ => ⟨1, by omega, by decide⟩
  | 1, _ => ⟨2, by omega, by decide⟩
  | 2, _ => ⟨3, by omega, by decide⟩
  | 3, _ => ⟨4, by omega, by decide⟩
  | 4, _ => ⟨5, by omega, by decide⟩
  | 5, _ => ⟨0, by omega, by decide⟩
theorem modm {k : Nat} (h : k < 10) : ∃ r : Nat, r < 7 ∧ (k : Int).tmod 7 = (r : Int) :=
  match k, h with
  | 0, _ => ⟨0, by omega, by decide⟩
  | 1, _ => ⟨1, by omega, by decide⟩
  | 2, _ => ⟨2, by omega, by decide⟩
  | 3, _ => ⟨3, by omega, by decide⟩
  | 4, _ => ⟨4, by omega, by decide⟩
  | 5, _ => ⟨5, by omega, by decide⟩
  | 6, _ => ⟨6, by omega, by decide⟩
  | 7, _ => ⟨0, by omega, by decide⟩
  | 8, _ => ⟨1, by omega, by decide⟩
  | 9, _ => ⟨2, by omega, by decide⟩
/-- an edge of the row, as a value and as what the deeds take -/
theorem ex_at {w : World} {N g c n : Nat} {Q : List Ev} (h : ROk w N (.slice (some ⟨g, 0, none⟩) n c) n Q) (q : Nat) (hq : q < n) : ∃ (x : Ed) (gp cp : Nat), SmE x ∧ x.props.length = 2 ∧ (w.cell? ⟨g, q * 5, none⟩ = some (.string x.src) ∧ w.cell? ⟨g, q * 5 + 1, none⟩ = some (.string x.dst) ∧ w.cell? ⟨g, q * 5 + 2, none⟩ = some (.string x.lab) ∧ w.cell? ⟨g, q * 5 + 3, none⟩ = some (.int .i64 x.time) ∧ w.cell? ⟨g, q * 5 + 4, none⟩ = some (.slice (some ⟨gp, 0, none⟩) 2 cp)) ∧ PR w (.slice (some ⟨gp, 0, none⟩) 2 cp) x.props := by
  have hk : q < Q.length := by rw [h.len]; exact hq
  obtain ⟨q0, q1, q2, q3, q4⟩ := own_cells5 h.own hk
  have he := h.each _ (List.getElem_mem hk)
  obtain ⟨gp, cp, cur, e, _⟩ := he.pblock
  have hpr : PR w Q[q].2 Q[q].1.props := he.2.2.pr
  rw [e] at q4 hpr
  exact ⟨Q[q].1, gp, cp, he.1, he.2.1, ⟨q0, q1, q2, q3, q4⟩, hpr⟩
theorem does2 {w : World} {x y : Ed} {v1 v2 : Value} {key : ByteArray} (h1 : PR w v1 x.props) (h2 : PR w v2 y.props) (hx : SmE x) (hy : SmE y) : Hid (∀ W, Below w.heap.size w W → Calls Try.prog 3 #[.agg #[.string x.src, .string x.dst, .string x.lab, .int .i64 x.time, v1], .agg #[.string y.src, .string y.dst, .string y.lab, .int .i64 y.time, v2], .string key] W fun e w' => e = .returned (.bool true) ∧ Below W.heap.size W w') :=
  fun W hW => does_any (h1.below hW) (h2.below hW) hx.sz hy.sz
theorem sorts4 {w : World} {x y : Ed} {bp gp1 cp1 gp2 cp2 : Nat} (h0 : PR w (.slice (some ⟨bp, 0, none⟩) 2 2) gP) (h1 : PR w (.slice (some ⟨gp1, 0, none⟩) 2 cp1) x.props) (h2 : PR w (.slice (some ⟨gp2, 0, none⟩) 2 cp2) y.props) (hx : x.props.length = 2) (hy : y.props.length = 2) : Hid (∀ W, Below w.heap.size w W → Calls Try.prog 5 #[.slice (some ⟨W.heap.size, 0, none⟩) 4 4] (W.alloc (.cells #[.string ⟨#[97, 49]⟩, .string ⟨#[55]⟩, .string ⟨#[120, 95, 121]⟩, .int .i64 258, .slice (some ⟨bp, 0, none⟩) 2 2, .string x.src, .string x.dst, .string x.lab, .int .i64 x.time, .slice (some ⟨gp1, 0, none⟩) 2 cp1, .string y.src, .string y.dst, .string y.lab, .int .i64 y.time, .slice (some ⟨gp2, 0, none⟩) 2 cp2, .string ⟨#[97, 49]⟩, .string ⟨#[55]⟩, .string ⟨#[120, 95, 121]⟩, .int .i64 258, .slice (some ⟨bp, 0, none⟩) 2 2] 24)) fun e w' => e = .returned (.bool true) ∧ Below (W.alloc (.cells #[.string ⟨#[97, 49]⟩, .string ⟨#[55]⟩, .string ⟨#[120, 95, 121]⟩, .int .i64 258, .slice (some ⟨bp, 0, none⟩) 2 2, .string x.src, .string x.dst, .string x.lab, .int .i64 x.time, .slice (some ⟨gp1, 0, none⟩) 2 cp1, .string y.src, .string y.dst, .string y.lab, .int .i64 y.time, .slice (some ⟨gp2, 0, none⟩) 2 cp2, .string ⟨#[97, 49]⟩, .string ⟨#[55]⟩, .string ⟨#[120, 95, 121]⟩, .int .i64 258, .slice (some ⟨bp, 0, none⟩) 2 2] 24)).heap.size (W.alloc (.cells #[.string ⟨#[97, 49]⟩, .string ⟨#[55]⟩, .string ⟨#[120, 95, 121]⟩, .int .i64 258, .slice (some ⟨bp, 0, none⟩) 2 2, .string x.src, .string x.dst, .string x.lab, .int .i64 x.time, .slice (some ⟨gp1, 0, none⟩) 2 cp1, .string y.src, .string y.dst, .string y.lab, .int .i64 y.time, .slice (some ⟨gp2, 0, none⟩) 2 cp2, .string ⟨#[97, 49]⟩, .string ⟨#[55]⟩, .string ⟨#[120, 95, 121]⟩, .int .i64 258, .slice (some ⟨bp, 0, none⟩) 2 2] 24)) w') := by
  intro W hW
  have hA : ∀ o, Below W.heap.size W (W.alloc o) := fun o => (Below.refl _ _).alloc (Nat.le_refl _) o
  have h0 := h0.below hW
  have h1 := h1.below hW
  have h2 := h2.below hW
  have her := ER.of_block (w := W.alloc (.cells #[.string ⟨#[97, 49]⟩, .string ⟨#[55]⟩, .string ⟨#[120, 95, 121]⟩, .int .i64 258, .slice (some ⟨bp, 0, none⟩) 2 2, .string x.src, .string x.dst, .string x.lab, .int .i64 x.time, .slice (some ⟨gp1, 0, none⟩) 2 cp1, .string y.src, .string y.dst, .string y.lab, .int .i64 y.time, .slice (some ⟨gp2, 0, none⟩) 2 cp2, .string ⟨#[97, 49]⟩, .string ⟨#[55]⟩, .string ⟨#[120, 95, 121]⟩, .int .i64 258, .slice (some ⟨bp, 0, none⟩) 2 2] 24)) (l := [(gE, .slice (some ⟨bp, 0, none⟩) 2 2), (x, .slice (some ⟨gp1, 0, none⟩) 2 cp1), (y, .slice (some ⟨gp2, 0, none⟩) 2 cp2), (gE, .slice (some ⟨bp, 0, none⟩) 2 2)]) (heap_alloc_new W _) rfl 4 (fun p hp => by
    have : p = (gE, .slice (some ⟨bp, 0, none⟩) 2 2) ∨ p = (x, .slice (some ⟨gp1, 0, none⟩) 2 cp1) ∨ p = (y, .slice (some ⟨gp2, 0, none⟩) 2 cp2) := by
      simp only [List.mem_cons, List.not_mem_nil, or_false] at hp
      rcases hp with h | h | h | h
      · exact .inl h
      · exact .inr (.inl h)
      · exact .inr (.inr h)
      · exact .inl h
    rcases this with rfl | rfl | rfl
    · exact h0.below (hA _)
    · exact h1.below (hA _)
    · exact h2.below (hA _))
  refine sorts_any her (by simp) (fun p hp => ?_)
  have : p.1.props.length = 2 := by
    simp only [List.mem_cons, List.not_mem_nil, or_false] at hp
    rcases hp with rfl | rfl | rfl | rfl
    · rfl
    · exact hx
    · exact hy
    · rfl
  omega
theorem ex_len {w : World} {N n : Nat} {v : Value} {Q : List Ev} (h : ROk w N v n Q) (hn : n ≤ 6) : Q.length ≤ 281474976710656 ∧ ∀ p ∈ Q, p.1.props.length ≤ 281474976710656 := by
  have := h.len
  exact ⟨by omega, fun p hp => by have := (h.each p hp).2.1; omega⟩
end Go.Proofs.Ytpoefcpgcojppaa

namespace Go.Proofs.Ytpoefcpgcojppaa
open Go.ChangeShapes Go.WideShapes Go.ChangeAt Go.RowKit
set_option linter.unusedVariables false

def PutsO (e : Ed) (w : World) (x : Ending) (w' : World) : Prop := ∃ v, x = .returned (.tuple #[v, .int .i64 (checkE e)]) ∧ w'.ownsRow w.heap.size 5 1 v (putB e).length (byC (putB e)) ∧ Below w.heap.size w w'
set_option maxHeartbeats 4000000 in
set_option maxRecDepth 100000 in
theorem rPut_own {w : World} {pv : Value} {e : Ed} (h : PR w pv e.props) (hs : SzE e) : Calls Try.prog 15 #[e.v pv] w (PutsO e w) := by
  obtain ⟨i0, hi, hz0, hz1, hz2⟩ := info_parts5
  unfold PutsO
  have hck : ∀ W, Below w.heap.size w W → Calls Try.prog 17 #[e.v pv] W (RCheckR e W) := fun W hW => rCheck_any (h.below hW) hs
  unfold RCheckR at hck
  have HCK := Lib.hid hck
  clear hck
  have H := Lib.hid h
  have HX0 := Lib.hid (Bx5.new w (.string e.src) (.string e.dst) (.string e.lab) (.int .i64 e.time) pv 24)
  have HW0 := Lib.hid ((Below.refl w.heap.size w).alloc (Nat.le_refl _) (.cells #[.string e.src, .string e.dst, .string e.lab, .int .i64 e.time, pv] 24))
  by_cases hc0 : checkE e = 0
  · have HC0 := Lib.hid hc0
    have HPB := Lib.hid (show putB e = putE e by unfold putB; rw [if_pos hc0])
    rw [hc0] at HCK ⊢
    unfold Ed.v at HCK ⊢
    clear hc0
    obtain ⟨A, c, rfl⟩ := h.form
    clear h hs
    obtain ⟨n, hN⟩ : ∃ n, e.props.length = n := ⟨_, rfl⟩
    have HN := Lib.hid hN
    have hn8 : n ≤ 8 := by rw [← hN]; exact (check_ok.1 HC0.out).1.2.2.2.1
    rw [hN] at H HX0 HW0 HCK ⊢
    clear hN
    go_enter Try.func15, Try.ntmps15
    go_wp2_with (go_at_call 17; refine (HCK.out _ HW0.out).mono ?_; clear HCK; rintro x w1 ⟨rfl, k1⟩; have HX1 := Lib.hid (HX0.out.below k1.below); have HW1 := Lib.hid (chn HW0.out k1.below); clear k1)
    have HLEN := Lib.hid (And.intro (headB_len HC0.out) (And.intro (propsB_len e.props (areP_mem (check_ok.1 HC0.out).1.2.2.2)) (putE_len HC0.out)))
    have HV := Lib.hid (show e.src.size ≤ 20 ∧ e.dst.size ≤ 20 ∧ e.lab.size ≤ 20 from ⟨verB_size (check_ok.1 HC0.out).1.1, verB_size (check_ok.1 HC0.out).1.2.1, verB_size (freB_ver (check_ok.1 HC0.out).1.2.2.1)⟩)
    obtain ⟨B0, hB0⟩ : ∃ B, w.heap.size = B := ⟨_, rfl⟩
    have HB0 := Lib.hid hB0
    have hx1 := HX1.out
    rw [hB0] at hx1 ⊢
    obtain ⟨q0, q1, q2, q3, q4, qlt⟩ := hx1
    have HXX := Lib.hid (Bx5.mk q0 q1 q2 q3 q4 qlt)
    clear hB0 HX0 HX1
    have F1 := Lib.hid (fun W => rText_any e.src W (by have := HV.out.1; omega))
    have F2 := Lib.hid (fun W => rText_any e.dst W (by have := HV.out.2.1; omega))
    have F3 := Lib.hid (fun W => rText_any e.lab W (by have := HV.out.2.2; omega))
    have HL3 := Lib.hid (show (txt e.src).length ≤ 21 ∧ (txt e.dst).length ≤ 21 ∧ (txt e.lab).length ≤ 21 by rw [txt_len, txt_len, txt_len]; have := HV.out; omega)
    go_region_held3 (fun w' => w'.cell? ⟨B0, 0, none⟩ = some (.string e.src) ∧ w'.cell? ⟨B0, 1, none⟩ = some (.string e.dst) ∧ w'.cell? ⟨B0, 2, none⟩ = some (.string e.lab)) (first | exact ⟨q0, q1, q2⟩ | exact ⟨y0, y1, y2⟩ | exact ⟨z0, z1, z2⟩ | exact ⟨u0, u1, u2⟩ | exact ⟨x0, x1, x2⟩ | exact ⟨r0, r1, r2⟩ | (go_keep; done)) (first
      | (go_at_call 41; first
        | (refine (F1.out _).mono ?_; clear F1; rintro x wA ⟨vA, rfl, a1, a2⟩; have hlA : w1.heap.size ≤ wA.heap.size := a2.size; have HBA := Lib.hid (((Below.refl w1.heap.size w1).drew).trans a2); have HA := Lib.hid (show wA.ownsRow w1.heap.size 5 1 vA (txt e.src).length (byC (txt e.src)) from a1); clear a1 a2; obtain ⟨y0, y1, y2, y3, y4, _⟩ := Bx5.belowN HXX.out HBA.out qlt)
        | (refine (F2.out _).mono ?_; clear F2; rintro x wB ⟨vB, rfl, b1, b2⟩; have HBB := Lib.hid (HBA.out.trans (b2.mono hlA)); have hlB : w1.heap.size ≤ wB.heap.size := HBB.out.size; have HAB := Lib.hid (own_below HA.out b2); have HVB := Lib.hid (BR.of_own b1); clear b1 b2; obtain ⟨z0, z1, z2, z3, z4, _⟩ := Bx5.belowN HXX.out HBB.out qlt)
        | (refine (F3.out _).mono ?_; clear F3; rintro x wD ⟨vD, rfl, d1, d2⟩; have HBD := Lib.hid (HBC.out.trans (d2.mono hlC)); have hlD : w1.heap.size ≤ wD.heap.size := HBD.out.size; have HCD := Lib.hid (own_below HC.out d2); have HVD := Lib.hid (BR.of_own d1); clear d1 d2; obtain ⟨x0, x1, x2, x3, x4, _⟩ := Bx5.belowN HXX.out HBD.out qlt))
      | (refine step_append_br rfl (.tmp 15) (.tmp 18) rfl (base := w1.heap.size) Try.underlying34 hi hz0 hz1 hz2 (v := vA) (by simp [Act.eval, Act.put]) HAB.out (v2 := vB) (by simp [Act.eval, Act.put]) HVB.out (by have := HL3.out; omega) hlB ?_; intro vC wC e1 e2 e3; have HBC := Lib.hid (own_grown HBB.out HAB.out (Nat.le_refl _) hlB e2); have hlC : w1.heap.size ≤ wC.heap.size := HBC.out.size; have HC := Lib.hid e1; clear e1 e2 e3; obtain ⟨u0, u1, u2, u3, u4, _⟩ := Bx5.belowN HXX.out HBC.out qlt)
      | (refine step_append_br rfl (.tmp 19) (.tmp 22) rfl (base := w1.heap.size) Try.underlying34 hi hz0 hz1 hz2 (v := vC) (by simp [Act.eval, Act.put]) HCD.out (v2 := vD) (by simp [Act.eval, Act.put]) HVD.out (by have := HL3.out; omega) hlD ?_; intro vE wE e1 e2 e3; have HBE := Lib.hid (own_grown HBD.out HCD.out (Nat.le_refl _) hlD e2); have hlE : w1.heap.size ≤ wE.heap.size := HBE.out.size; have HE := Lib.hid e1; clear e1 e2 e3; obtain ⟨r0, r1, r2, r3, r4, _⟩ := Bx5.belowN HXX.out HBE.out qlt))
    clear y0 y1 y2 y3 y4 z0 z1 z2 z3 z4 u0 u1 u2 u3 u4 x0 x1 x2 x3 x4 q0 q1 q2 q3 q4 hlA hlB hlC hlD HA HAB HC HCD HVB HVD HBA HBB HBC HBD
    have HE2 := Lib.hid (show wE.ownsRow w1.heap.size 5 1 vE (txts [e.src, e.dst, e.lab]).length (byC (txts [e.src, e.dst, e.lab])) by
      have h1 : txts [e.src, e.dst, e.lab] = txt e.src ++ txt e.dst ++ txt e.lab := by simp [txts]
      rw [h1, byC_app, byC_app, List.length_append, List.length_append]
      exact HE.out)
    have hw8 := wrap_u8 (n : Int)
    have HTL := Lib.hid (show (txts [e.src, e.dst, e.lab]).length ≤ 63 ∧ (headB e).length ≤ 69 ∧ byC (txts [e.src, e.dst, e.lab]) ++ byC (num6 e.time) = byC (headB e) ∧ (txts [e.src, e.dst, e.lab]).length + (num6 e.time).length = (headB e).length by
      have h2 : headB e = txts [e.src, e.dst, e.lab] ++ num6 e.time := by simp [headB, txts]
      have h3 := HLEN.out.1
      rw [h2, ← byC_app]
      rw [h2] at h3
      rw [List.length_append, num6_len] at h3 ⊢
      exact ⟨by omega, h3, rfl, rfl⟩)
    clear HE r0 r1 r2
    go_wp2_with (first
      | (go_at_call 42; refine (rNumber_any e.time _).mono ?_; rintro x w2 ⟨v2, rfl, a1, a2⟩; have HB2 := Lib.hid (HBE.out.trans (a2.mono hlE)); have hl2 : w1.heap.size ≤ w2.heap.size := HB2.out.size; have H2 := Lib.hid (own_below HE2.out a2); have HV2 := Lib.hid (BR.of_own a1); clear a1 a2)
      | (at_builtin; first
        | (refine wpList_append_br rfl _ _ rfl Try.underlying34 hi hz0 hz1 hz2 rfl H2.out rfl HV2.out (by rw [num6_len]; have := HTL.out.1; omega) hl2 ?_; intro v3 w3 e1 e2 e3; have HB3 := Lib.hid (own_grown HB2.out H2.out (Nat.le_refl _) hl2 e2); have hl3 : w1.heap.size ≤ w3.heap.size := HB3.out.size; have H3 := Lib.hid (show w3.ownsRow w1.heap.size 5 1 v3 (headB e).length (byC (headB e)) by rw [← HTL.out.2.2.1, ← HTL.out.2.2.2]; exact e1); clear e1 e2 e3 H2; obtain ⟨t0, t1, t2, t3, t4, _⟩ := Bx5.belowN HXX.out HB3.out qlt)
        | (refine wpList_append_own_at _ rfl _ _ 34 rfl w1.heap.size 5 i0 (.int .u8 0) 1 1 Try.underlying34 hi hz0 hz1 hz2 rfl (by decide) _ (headB e).length (byC (headB e)) rfl (H3.out.alloc _) ⟨w3.heap.size, 0, none⟩ 1 1 [.int .u8 ((oct (n : Int)).toNat : Int)] rfl rfl (cell_one_new _ _ _) (by simp [Value.oneCell']) (by have := HTL.out.2.1; unfold maxLen; omega) (by have := HTL.out.2.1; omega) (by rw [World.size_alloc]; omega) ?_; intro v4 w4 e1 e2 e3 e4; have HB4 := Lib.hid (own_grown (HB3.out.alloc hl3 (.cells #[.int .u8 ((oct (n : Int)).toNat : Int)] 5)) (H3.out.alloc _) (Nat.le_refl _) (by rw [World.size_alloc]; omega) e2); have H4 := Lib.hid (show w4.ownsRow w1.heap.size 5 1 v4 (headB e ++ [oct (n : Int)]).length (byC (headB e ++ [oct (n : Int)])) by rw [byC_app, List.length_append]; exact e1); clear e1 e2 e3 e4)))
    obtain ⟨R0, hR0⟩ : ∃ R, headB e ++ [oct (n : Int)] = R := ⟨_, rfl⟩
    have HR0 := Lib.hid hR0
    have HR0l := Lib.hid (show R0.length ≤ 70 by rw [← hR0]; have := HTL.out.2.1; simp; omega)
    rw [hR0] at H4
    have HPW := Lib.hid (H.out.below (HW1.out))
    clear hR0 t0 t1 t2 t3 t4 hl2 hl3 hlE
    go_loopw [5, 6] (fun b i wr => ∃ k : Nat, k ≤ n ∧ i = .int .i64 k ∧ wr.ownsRow w1.heap.size 5 1 b (R0 ++ propsB (e.props.take k)).length (byC (R0 ++ propsB (e.props.take k))) ∧ Below w1.heap.size w1 wr) (fun _ i _ => n - (Lib.intOf i).toNat)
    case atStart => exact ⟨0, Nat.zero_le _, rfl, by simpa [propsB] using H4.out, HB4.out⟩
    case round =>
      obtain ⟨k, hk, rfl, hr, hb⟩ := hrel
      have HB := Lib.hid hb
      have hsz : w1.heap.size ≤ wr.heap.size := hb.size
      obtain ⟨_, _, _, _, c4, _⟩ := Bx5.belowN HXX.out hb qlt
      clear hb
      by_cases hlt : k < n
      · have e1 : k < e.props.length := by rw [HN.out]; exact hlt
        obtain ⟨ad, f1, hab, x0, x1, x2, x3⟩ := PR.at4 (HPW.out.below HB.out) e1
        subst f1
        have hpp := areP_mem (check_ok.1 HC0.out).1.2.2.2 _ (List.getElem_mem e1)
        obtain ⟨p, hp⟩ : ∃ p, e.props[k] = p := ⟨_, rfl⟩
        rw [hp] at x0 x1 x2 x3 hpp
        have HT : Hid (propsB (e.props.take (k + 1)) = propsB (e.props.take k) ++ propB p) := by
          show _ = _
          rw [List.take_succ_eq_append_getElem e1, hp, propsB_snoc]
        obtain ⟨L, hL⟩ : ∃ L, R0 ++ propsB (e.props.take k) = L := ⟨_, rfl⟩
        have HL := Lib.hid hL
        have hLl : L.length ≤ 900 := by
          have h1 := propsB_len (e.props.take k) (fun q hq => areP_mem (check_ok.1 HC0.out).1.2.2.2 q (List.mem_of_mem_take hq))
          have h2 := HR0l.out
          rw [List.length_take] at h1
          rw [← hL]
          simp only [List.length_append]
          omega
        rw [hL] at hr
        have HR := Lib.hid hr
        obtain ⟨key, vv⟩ := p
        simp only at x0 x1 x2 x3 hpp
        have HPP := Lib.hid hpp
        have HKS := Lib.hid (show (txt key).length ≤ 21 ∧ key.size ≤ 20 by have := verB_size (freB_ver HPP.out.1); rw [txt_len]; omega)
        have FK := Lib.hid (fun W => rText_any key W (by have := HKS.out.2; omega))
        have hwf : ∀ W : World, Grw wr u5 W u5 → Below w1.heap.size w1 W := fun W hW => HB.out.trans (hW.base hsz (own_base HR.out))
        have HWF := Lib.hid hwf
        have HFIN : ∀ (W : World) (v' : Value) (l : List UInt8), l = propB (key, vv) → W.ownsRow w1.heap.size 5 1 v' (L ++ l).length (byC (L ++ l)) → Hid (W.ownsRow w1.heap.size 5 1 v' (R0 ++ propsB (e.props.take (k + 1))).length (byC (R0 ++ propsB (e.props.take (k + 1))))) := fun W v' l hl hW => by
          show W.ownsRow _ _ _ _ _ _
          rw [HT.out, ← List.append_assoc, HL.out, ← hl]
          exact hW
        have HBF : ∀ (W : World) (v' : Value), Grw wr u5 W v' → Hid (Below w1.heap.size w1 W) := fun W v' hW => HB.out.trans (hW.base hsz (own_base HR.out))
        clear hp hL hpp hr hwf
        go_upto_region 11 with (fail)
        have hnew := Bx3.new wr (.int .i64 vv.1) (.int .i64 vv.2.1) (.string vv.2.2) 31
        have HGA := Lib.hid (Grw.alloc (w := wr) u5 (.cells #[.int .i64 vv.1, .int .i64 vv.2.1, .string vv.2.2] 31))
        have HRA := Lib.hid (HR.out.alloc (.cells #[.int .i64 vv.1, .int .i64 vv.2.1, .string vv.2.2] 31))
        have hba : Below wr.heap.size wr (wr.alloc (.cells #[.int .i64 vv.1, .int .i64 vv.2.1, .string vv.2.2] 31)) := (Below.refl _ wr).alloc (Nat.le_refl _) _
        have c4' := (hba.cell (p := ⟨B0, 4, none⟩) (by have := HB.out.size; omega)).trans c4
        have x0' := (hba.cell (p := ad.add (k * 4)) (by rw [block_add]; exact hab)).trans x0
        have HNE := Lib.hid (own_ne HR.out (Nat.le_refl wr.heap.size))
        clear x0 x1 x2 x3 hba c4
        generalize wr.alloc (.cells #[.int .i64 vv.1, .int .i64 vv.2.1, .string vv.2.2] 31) = wa at *
        obtain ⟨B1, hB1⟩ : ∃ B, wr.heap.size = B := ⟨_, rfl⟩
        rw [hB1] at hnew HNE ⊢
        have HB1 := Lib.hid hB1
        have HX3 := Lib.hid hnew
        have hlt1 := hnew.lt
        have hsa : w1.heap.size ≤ wa.heap.size := by omega
        clear hB1 hnew
        rcases right_cases HPP.out.2 with ⟨nn, hvv, n1, n2⟩ | ⟨tx, hvv, hT⟩
        all_goals have HVV := Lib.hid hvv
        all_goals clear hvv
        · rw [HVV.out] at HX3
          simp only at HX3
          have hwn : IntKind.i64.wrap (nn + 1099511627776) = nn + 1099511627776 := by rw [IntKind.wrap_i64]; omega
          have FN := Lib.hid (fun W => rNumber_any (nn + 1099511627776) W)
          have HEN := Lib.hid (show (num6 (nn + 1099511627776)).length ≤ 60 by rw [num6_len]; omega)
          go_wp2_with (first
            | (go_at_call 41; first
              | (refine (FK.out _).mono ?_; clear FK; rintro x wA ⟨vA, rfl, a1, a2⟩; have HGB := Lib.hid (Grw.of_below u5 a2); have HRB := Lib.hid (own_below HRA.out a2); have HVA := Lib.hid (BR.of_own a1); have hsb : w1.heap.size ≤ wA.heap.size := Nat.le_trans hsa a2.size; clear a1 a2)
              | (refine (FT.out _).mono ?_; clear FT; rintro x wD ⟨vD, rfl, a1, a2⟩; have HGE := Lib.hid (HGD.out.trans (Grw.of_below vC a2)); have HRE := Lib.hid (own_below HRD.out a2); have HVE := Lib.hid (BR.of_own a1); have hsd : w1.heap.size ≤ wD.heap.size := Nat.le_trans hsc a2.size; clear a1 a2))
            | (go_at_call 42; refine (FN.out _).mono ?_; clear FN; rintro x wD ⟨vD, rfl, a1, a2⟩; have HGE := Lib.hid (HGD.out.trans (Grw.of_below vC a2)); have HRE := Lib.hid (own_below HRD.out a2); have HVE := Lib.hid (BR.of_own a1); have hsd : w1.heap.size ≤ wD.heap.size := Nat.le_trans hsc a2.size; clear a1 a2)
            | (at_builtin; first
              | (refine wpList_append_br rfl _ _ rfl Try.underlying34 hi hz0 hz1 hz2 rfl HRB.out rfl HVA.out (by have := HKS.out.1; omega) hsb ?_; intro vB wB e1 e2 e3; have HGC := Lib.hid (HGB.out.trans (Grw.of_at e2 e3)); have HRC := Lib.hid (own_app e1); have hsb2 : w1.heap.size ≤ wB.heap.size := Nat.le_trans hsb e2.size; clear e1 e2 e3 HRB; obtain ⟨g0, g1, g2, _⟩ := HX3.out.grw HGC.out HNE.out)
              | (refine wpList_append_own_at _ rfl _ _ 34 rfl w1.heap.size 5 i0 (.int .u8 0) 1 1 Try.underlying34 hi hz0 hz1 hz2 rfl (by decide) _ (L ++ txt key).length (byC (L ++ txt key)) rfl (HRC.out.alloc _) ⟨wB.heap.size, 0, none⟩ 1 1 [.int .u8 1] rfl rfl (cell_one_new _ _ _) (by simp [Value.oneCell']) (by have := HKS.out.1; rw [List.length_append]; unfold maxLen; omega) (by have := HKS.out.1; rw [List.length_append]; omega) (by rw [World.size_alloc]; omega) ?_; intro vC wC e1 e2 e3 e4; have HGD := Lib.hid ((HGC.out.trans (Grw.alloc vB (.cells #[.int .u8 1] 5))).trans (Grw.of_at e2 e4)); have HRD := Lib.hid (own_snoc (x := 1) (by rfl) e1); have hsc : w1.heap.size ≤ wC.heap.size := Nat.le_trans hsb2 (Nat.le_trans (by rw [World.size_alloc]; omega) e2.size); clear e1 e2 e3 e4 HRC g0 g1 g2; obtain ⟨g0, g1, g2, _⟩ := HX3.out.grw HGD.out HNE.out)
              | (refine wpList_append_br rfl _ _ rfl Try.underlying34 hi hz0 hz1 hz2 rfl HRE.out rfl HVE.out (by rw [List.length_append, List.length_append]; have := HKS.out.1; have := HEN.out; simp only [List.length_singleton]; omega) hsd ?_; intro vF wF e1 e2 e3; have HGF := Lib.hid (HGE.out.trans (Grw.of_at e2 e3)); have HRF := Lib.hid (own_app e1); clear e1 e2 e3)))
          have HF := HFIN wF vF (txt key ++ ([oct 1] ++ num6 (nn + 1099511627776))) (by rw [HVV.out]; simp [propB, valB_num, txts]) (by rw [← List.append_assoc, ← List.append_assoc]; exact HRF.out)
          have HFB := HBF wF vF (HGA.out.trans HGF.out)
          go_roundw
          case rel => exact ⟨k + 1, by omega, by go_num, HF.out, HFB.out⟩
          case measure => simp [Lib.intOf]; omega
        · rw [HVV.out] at HX3
          simp only at HX3
          have FT := Lib.hid (fun W => rText_any tx W (by have := isT_size hT; omega))
          have HEN := Lib.hid (show (txt tx).length ≤ 60 by rw [txt_len]; have := isT_size hT; omega)
          go_wp2_with (first
            | (go_at_call 41; first
              | (refine (FK.out _).mono ?_; clear FK; rintro x wA ⟨vA, rfl, a1, a2⟩; have HGB := Lib.hid (Grw.of_below u5 a2); have HRB := Lib.hid (own_below HRA.out a2); have HVA := Lib.hid (BR.of_own a1); have hsb : w1.heap.size ≤ wA.heap.size := Nat.le_trans hsa a2.size; clear a1 a2)
              | (refine (FT.out _).mono ?_; clear FT; rintro x wD ⟨vD, rfl, a1, a2⟩; have HGE := Lib.hid (HGD.out.trans (Grw.of_below vC a2)); have HRE := Lib.hid (own_below HRD.out a2); have HVE := Lib.hid (BR.of_own a1); have hsd : w1.heap.size ≤ wD.heap.size := Nat.le_trans hsc a2.size; clear a1 a2))
            | (go_at_call 42; refine (FN.out _).mono ?_; clear FN; rintro x wD ⟨vD, rfl, a1, a2⟩; have HGE := Lib.hid (HGD.out.trans (Grw.of_below vC a2)); have HRE := Lib.hid (own_below HRD.out a2); have HVE := Lib.hid (BR.of_own a1); have hsd : w1.heap.size ≤ wD.heap.size := Nat.le_trans hsc a2.size; clear a1 a2)
            | (at_builtin; first
              | (refine wpList_append_br rfl _ _ rfl Try.underlying34 hi hz0 hz1 hz2 rfl HRB.out rfl HVA.out (by have := HKS.out.1; omega) hsb ?_; intro vB wB e1 e2 e3; have HGC := Lib.hid (HGB.out.trans (Grw.of_at e2 e3)); have HRC := Lib.hid (own_app e1); have hsb2 : w1.heap.size ≤ wB.heap.size := Nat.le_trans hsb e2.size; clear e1 e2 e3 HRB; obtain ⟨g0, g1, g2, _⟩ := HX3.out.grw HGC.out HNE.out)
              | (refine wpList_append_own_at _ rfl _ _ 34 rfl w1.heap.size 5 i0 (.int .u8 0) 1 1 Try.underlying34 hi hz0 hz1 hz2 rfl (by decide) _ (L ++ txt key).length (byC (L ++ txt key)) rfl (HRC.out.alloc _) ⟨wB.heap.size, 0, none⟩ 1 1 [.int .u8 2] rfl rfl (cell_one_new _ _ _) (by simp [Value.oneCell']) (by have := HKS.out.1; rw [List.length_append]; unfold maxLen; omega) (by have := HKS.out.1; rw [List.length_append]; omega) (by rw [World.size_alloc]; omega) ?_; intro vC wC e1 e2 e3 e4; have HGD := Lib.hid ((HGC.out.trans (Grw.alloc vB (.cells #[.int .u8 2] 5))).trans (Grw.of_at e2 e4)); have HRD := Lib.hid (own_snoc (x := 2) (by rfl) e1); have hsc : w1.heap.size ≤ wC.heap.size := Nat.le_trans hsb2 (Nat.le_trans (by rw [World.size_alloc]; omega) e2.size); clear e1 e2 e3 e4 HRC g0 g1 g2; obtain ⟨g0, g1, g2, _⟩ := HX3.out.grw HGD.out HNE.out)
              | (refine wpList_append_br rfl _ _ rfl Try.underlying34 hi hz0 hz1 hz2 rfl HRE.out rfl HVE.out (by rw [List.length_append, List.length_append]; have := HKS.out.1; have := HEN.out; simp only [List.length_singleton]; omega) hsd ?_; intro vF wF e1 e2 e3; have HGF := Lib.hid (HGE.out.trans (Grw.of_at e2 e3)); have HRF := Lib.hid (own_app e1); clear e1 e2 e3)))
          have HF := HFIN wF vF (txt key ++ ([oct 2] ++ txt tx)) (by rw [HVV.out]; simp [propB, valB_text, txts]) (by rw [← List.append_assoc, ← List.append_assoc]; exact HRF.out)
          have HFB := HBF wF vF (HGA.out.trans HGF.out)
          go_roundw
          case rel => exact ⟨k + 1, by omega, by go_num, HF.out, HFB.out⟩
          case measure => simp [Lib.intOf]; omega
      · obtain rfl : k = n := by omega
        rw [List.take_of_length_le (by rw [HN.out]; exact Nat.le_refl _)] at hr
        have HE := Lib.hid (show R0 ++ propsB e.props = putB e by rw [HPB.out, ← HR0.out]; unfold putE; rw [HN.out])
        rw [HE.out] at hr
        have HR := Lib.hid hr
        clear hr
        go_wp2_with fail
        exact bodyPost_ret (v := .tuple #[u5, .int .i64 0]) (by simp [results, Try.results15, go_sem]) rfl ⟨_, rfl, own_lower HR.out HW1.out.size, HW1.out.trans (HB.out.mono HW1.out.size)⟩
  · have HE := Lib.hid (show putB e = [] by unfold putB; rw [if_neg hc0])
    obtain ⟨cc, hcc⟩ : ∃ c, checkE e = c := ⟨_, rfl⟩
    rw [hcc] at HCK hc0 ⊢
    rw [HE.out]
    have hb : (cc != 0) = true := by simpa using hc0
    unfold Ed.v at HCK ⊢
    clear hc0 hcc hs
    go_enter Try.func15, Try.ntmps15
    go_wp2_with (go_at_call 17; refine (HCK.out _ HW0.out).mono ?_; clear HCK; rintro x w1 ⟨rfl, k1⟩)
    exact bodyPost_ret (v := .tuple #[.slice none 0 0, .int .i64 cc]) (by simp [results, Try.results15, go_sem]) rfl ⟨_, rfl, World.ownsRow_nil _ w.heap.size 5 1, chn HW0.out k1.below⟩
end Go.Proofs.Ytpoefcpgcojppaa
