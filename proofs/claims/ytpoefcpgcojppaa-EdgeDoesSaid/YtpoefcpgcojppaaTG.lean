/- Walk of what an edge does. -/
import Derived.Test.YtpoefcpgcojppaaTH
namespace Go.Proofs.Ytpoefcpgcojppaa
open Go.ChangeShapes Go.WideShapes Go.ChangeAt Go.RowKit
set_option linter.unusedVariables false

set_option maxHeartbeats 4000000 in
set_option maxRecDepth 100000 in
theorem does_any {w : World} {v1 v2 : Value} {x y : Ed} {key : ByteArray} (h1 : PR w v1 x.props) (h2 : PR w v2 y.props) (hx : SzE x) (hy : SzE y) :
    Calls Try.prog 3 #[x.v v1, y.v v2, .string key] w fun e w' => e = .returned (.bool true) ∧ Below w.heap.size w w' := by
  obtain ⟨A1, n1, c1, rfl⟩ := slice_any h1
  obtain ⟨A2, n2, c2, rfl⟩ := slice_any h2
  unfold Ed.v
  obtain ⟨W0, hW0⟩ : ∃ W, (w.alloc (.cells #[.string x.src, .string x.dst, .string x.lab, .int .i64 x.time, .slice A1 n1 c1] 24)).alloc (.cells #[.string y.src, .string y.dst, .string y.lab, .int .i64 y.time, .slice A2 n2 c2] 24) = W := ⟨_, rfl⟩
  have HX := Lib.hid (show Bx5 W0 w.heap.size (.string x.src) (.string x.dst) (.string x.lab) (.int .i64 x.time) (.slice A1 n1 c1) by rw [← hW0]; exact Bx5.below (Bx5.new w _ _ _ _ _ 24) ((Below.refl _ _).alloc (Nat.le_refl _) _))
  have HY := Lib.hid (show Bx5 W0 (w.heap.size + 1) (.string y.src) (.string y.dst) (.string y.lab) (.int .i64 y.time) (.slice A2 n2 c2) by rw [← hW0]; exact bx_at)
  have HT0 := Lib.hid (show Below w.heap.size w W0 by rw [← hW0]; exact ((Below.refl w.heap.size w).alloc (Nat.le_refl _) _).alloc (by simp) _)
  have H1 := Lib.hid (h1.below HT0.out)
  have H2 := Lib.hid (h2.below HT0.out)
  have HSX := Lib.hid hx
  have HSY := Lib.hid hy
  clear h1 h2 hx hy
  go_enter Try.func3, Try.ntmps3
  go_upto_region 1 with (fail)
  try rw [hW0]
  clear hW0
  obtain ⟨a0, a1, a2, a3, a4, _⟩ := HX.out
  obtain ⟨b0, b1, b2, b3, b4, _⟩ := HY.out
  go_wp2_with fail
  refine (size_sum (l := [(x, .slice A1 n1 c1), (y, .slice A2 n2 c2)]) (ER.of_block (heap_alloc_new _ _) rfl 2 (fun p hp => ?_)) (by simp) (fun p hp => ?_)).mono ?_
  · rcases List.mem_cons.1 hp with rfl | hp
    · exact H1.out.below ((Below.refl _ _).alloc (Nat.le_refl _) _)
    · rw [List.mem_singleton.1 hp]
      exact H2.out.below ((Below.refl _ _).alloc (Nat.le_refl _) _)
  · rcases List.mem_cons.1 hp with rfl | hp
    · exact HSX.out.2.2.2.1
    · rw [List.mem_singleton.1 hp]
      exact HSY.out.2.2.2.1
  rintro z w2 ⟨m, hz, hm1, hm0, hm2, hw⟩
  subst hz
  have HK2 := Lib.hid (((Below.refl W0.heap.size W0).alloc (Nat.le_refl _) _).trans (hw.below.mono (by simp)))
  clear a0 a1 a2 a3 a4 b0 b1 b2 b3 b4
  clear hw
  by_cases hm : 2000 < m
  · clear H1 H2
    go_wp2_with (go_at_call 10; refine (awake_any _).mono ?_; rintro z w3 ⟨hz, hw⟩; subst hz; have HK3 := Lib.hid (chn HK2.out hw); clear hw)
    go_ret
    exact ⟨rfl, HT0.out.trans (HK3.out.mono HT0.out.size)⟩
  obtain ⟨a0, a1, a2, a3, a4, _⟩ := HX.out.below HK2.out
  obtain ⟨b0, b1, b2, b3, b4, _⟩ := HY.out.below HK2.out
  have hm4 := hm1 (by omega)
  have hmx : x.props.length ≤ 1000000 := by simp [sumP] at hm4; omega
  have hmy : y.props.length ≤ 1000000 := by simp [sumP] at hm4; omega
  have HMX := Lib.hid (show x.props.length ≤ 100000 by simp [sumP] at hm4; omega)
  have HMY := Lib.hid (show y.props.length ≤ 100000 by simp [sumP] at hm4; omega)
  clear hm1 hm4
  go_upto_region 3 with (fail)
  have f1 := fun W (hW : Below w2.heap.size w2 W) => lentE_any ((H1.out.below HK2.out).below hW) hmx
  have f2 := fun W (hW : Below w2.heap.size w2 W) => lentE_any ((H2.out.below HK2.out).below hW) hmy
  unfold LentE Ed.v at f1 f2
  have F1 := Lib.hid f1
  have F2 := Lib.hid f2
  clear f1 f2
  have hB : ∀ W, Below w2.heap.size w2 W → (W.cell? ⟨w.heap.size, 0, none⟩ = some (.string x.src) ∧ W.cell? ⟨w.heap.size, 1, none⟩ = some (.string x.dst) ∧ W.cell? ⟨w.heap.size, 2, none⟩ = some (.string x.lab) ∧ W.cell? ⟨w.heap.size, 3, none⟩ = some (.int .i64 x.time) ∧ W.cell? ⟨w.heap.size, 4, none⟩ = some (.slice A1 n1 c1)) ∧ (W.cell? ⟨w.heap.size + 1, 0, none⟩ = some (.string y.src) ∧ W.cell? ⟨w.heap.size + 1, 1, none⟩ = some (.string y.dst) ∧ W.cell? ⟨w.heap.size + 1, 2, none⟩ = some (.string y.lab) ∧ W.cell? ⟨w.heap.size + 1, 3, none⟩ = some (.int .i64 y.time) ∧ W.cell? ⟨w.heap.size + 1, 4, none⟩ = some (.slice A2 n2 c2)) := fun W hW => by
    obtain ⟨p0, p1, p2, p3, p4, _⟩ := (HX.out.below HK2.out).below hW
    obtain ⟨q0, q1, q2, q3, q4, _⟩ := (HY.out.below HK2.out).below hW
    exact ⟨⟨p0, p1, p2, p3, p4⟩, ⟨q0, q1, q2, q3, q4⟩⟩
  have HBD := Lib.hid hB
  have B0 := Lib.hid ((Below.refl w2.heap.size w2).drew)
  have BA : Hid (∀ W o, Below w2.heap.size w2 W → Below w2.heap.size w2 (W.alloc o)) := fun W o h => h.alloc h.size o
  have D1 : Hid (∀ o, Below w2.heap.size w2 ((w2.alloc o).drew)) := fun o => ((Below.refl _ w2).alloc (Nat.le_refl _) o).drew
  have D2 : Hid (∀ o o', Below w2.heap.size w2 (((w2.alloc o).alloc o').drew)) := fun o o' => (((Below.refl _ w2).alloc (Nat.le_refl _) o).alloc (by simp) o').drew
  have BS : Hid (∀ W E c0 c1 c2 c3 c4, w2.heap.size ≤ E → Below w2.heap.size w2 W → Below w2.heap.size w2 (((((W.setCell ⟨E, 0, none⟩ c0).setCell ⟨E, 1, none⟩ c1).setCell ⟨E, 2, none⟩ c2).setCell ⟨E, 3, none⟩ c3).setCell ⟨E, 4, none⟩ c4)) := fun W E c0 c1 c2 c3 c4 hE hW => hW.trans (below_set5 hE _ _ _ _ _)
  clear hB a0 a1 a2 a3 a4 b0 b1 b2 b3 b4
  go_cut [7, 8] from 28 (fun t7 t8 wc => ∃ (wB : World) (E7 E8 gA cA gB cB : Nat), t7 = .pointer (some ⟨E7, 0, none⟩) ∧ t8 = .pointer (some ⟨E8, 0, none⟩) ∧ Two wB wc E7 E8 (.string x.src) (.string x.dst) (.string x.lab) (.int .i64 x.time) (.slice (some ⟨gA, 0, none⟩) x.props.length cA) (.string y.src) (.string y.dst) (.string y.lab) (.int .i64 y.time) (.slice (some ⟨gB, 0, none⟩) y.props.length cB) ∧ wB.ownsRow w2.heap.size 53 4 (.slice (some ⟨gA, 0, none⟩) (x.props.length + 12) cA) (x.props.length + 12) (flatP (x.props ++ mksP)) ∧ wB.ownsRow w2.heap.size 53 4 (.slice (some ⟨gB, 0, none⟩) (y.props.length + 12) cB) (y.props.length + 12) (flatP (y.props ++ mksP)) ∧ Below w2.heap.size w2 wB ∧ (w2.heap.size ≤ E7 ∧ w2.heap.size ≤ E8 ∧ E7 ≠ E8 ∧ gA ≠ E7 ∧ gA ≠ E8 ∧ gB ≠ E7 ∧ gB ≠ E8))
  case first =>
    go_region_held3 (fun W => (W.cell? ⟨w.heap.size, 0, none⟩ = some (.string x.src) ∧ W.cell? ⟨w.heap.size, 1, none⟩ = some (.string x.dst) ∧ W.cell? ⟨w.heap.size, 2, none⟩ = some (.string x.lab) ∧ W.cell? ⟨w.heap.size, 3, none⟩ = some (.int .i64 x.time) ∧ W.cell? ⟨w.heap.size, 4, none⟩ = some (.slice A1 n1 c1)) ∧ (W.cell? ⟨w.heap.size + 1, 0, none⟩ = some (.string y.src) ∧ W.cell? ⟨w.heap.size + 1, 1, none⟩ = some (.string y.dst) ∧ W.cell? ⟨w.heap.size + 1, 2, none⟩ = some (.string y.lab) ∧ W.cell? ⟨w.heap.size + 1, 3, none⟩ = some (.int .i64 y.time) ∧ W.cell? ⟨w.heap.size + 1, 4, none⟩ = some (.slice A2 n2 c2))) (first | with_reducible exact HBD.out _ B0.out | with_reducible exact HBD.out _ (D1.out _) | with_reducible exact HBD.out _ (D2.out _ _) | with_reducible exact HBD.out _ (BA.out _ _ (D1.out _)) | with_reducible exact HBD.out _ (BA.out _ _ B0.out) | with_reducible exact HBD.out _ (BA.out _ _ (BA.out _ _ B0.out)) | with_reducible exact HBD.out _ B1.out | with_reducible exact HBD.out _ (BA.out _ _ B1.out) | with_reducible exact HBD.out _ (BA.out _ _ (BA.out _ _ B1.out)) | with_reducible exact HBD.out _ B2.out | with_reducible exact HBD.out _ (BA.out _ _ B2.out) | with_reducible exact HBD.out _ (BA.out _ _ (BA.out _ _ B2.out)) | with_reducible exact HBD.out _ (BS.out _ _ _ _ _ _ _ (by first | exact Nat.le_refl _ | exact Nat.le_succ _ | omega) B2.out) | with_reducible exact HBD.out _ (BA.out _ _ (BS.out _ _ _ _ _ _ _ (by first | exact Nat.le_refl _ | exact Nat.le_succ _ | omega) B2.out)) | with_reducible exact HBD.out _ (BS.out _ _ _ _ _ _ _ (by first | exact Nat.le_refl _ | exact Nat.le_succ _ | omega) (BA.out _ _ B2.out)) | with_reducible exact HBD.out _ (BA.out _ _ (BA.out _ _ (BS.out _ _ _ _ _ _ _ (by first | exact Nat.le_refl _ | exact Nat.le_succ _ | omega) B2.out))) | with_reducible exact HBD.out _ (BA.out _ _ (BS.out _ _ _ _ _ _ _ (by first | exact Nat.le_refl _ | exact Nat.le_succ _ | omega) (BA.out _ _ B2.out))) | with_reducible exact HBD.out _ (BS.out _ _ _ _ _ _ _ (by first | exact Nat.le_refl _ | exact Nat.le_succ _ | omega) (BA.out _ _ (BA.out _ _ B2.out))) | with_reducible exact HBD.out _ (BS.out _ _ _ _ _ _ _ (by first | exact Nat.le_refl _ | exact Nat.le_succ _ | omega) (BS.out _ _ _ _ _ _ _ (by first | exact Nat.le_refl _ | exact Nat.le_succ _ | omega) B2.out)) | with_reducible exact HBD.out _ (BA.out _ _ (BS.out _ _ _ _ _ _ _ (by first | exact Nat.le_refl _ | exact Nat.le_succ _ | omega) (BS.out _ _ _ _ _ _ _ (by first | exact Nat.le_refl _ | exact Nat.le_succ _ | omega) B2.out))) | with_reducible exact HBD.out _ (BS.out _ _ _ _ _ _ _ (by first | exact Nat.le_refl _ | exact Nat.le_succ _ | omega) (BA.out _ _ (BS.out _ _ _ _ _ _ _ (by first | exact Nat.le_refl _ | exact Nat.le_succ _ | omega) B2.out))) | with_reducible exact HBD.out _ (BS.out _ _ _ _ _ _ _ (by first | exact Nat.le_refl _ | exact Nat.le_succ _ | omega) (BS.out _ _ _ _ _ _ _ (by first | exact Nat.le_refl _ | exact Nat.le_succ _ | omega) (BA.out _ _ B2.out))) | (go_keep; done)) (first
      | (go_at_call 11; first
        | (refine (F1.out _ (by with_reducible exact B0.out)).mono ?_; clear F1; rintro z wA ⟨gA, cA, hz, hrow, hw⟩; subst hz; have RA := Lib.hid hrow; have pA1 := own_base hrow gA rfl; have pA2 := own_lt hrow gA rfl; (try simp at pA1); have JA := Lib.hid hw; have B1 := Lib.hid (show Below w2.heap.size w2 wA from (B0.out).trans (hw.mono (B0.out).size)); have s1 : w2.heap.size ≤ wA.heap.size := B1.out.size; clear hrow hw)
        | (refine (F1.out _ (by with_reducible exact BA.out _ _ B0.out)).mono ?_; clear F1; rintro z wA ⟨gA, cA, hz, hrow, hw⟩; subst hz; have RA := Lib.hid hrow; have pA1 := own_base hrow gA rfl; have pA2 := own_lt hrow gA rfl; (try simp at pA1); have JA := Lib.hid hw; have B1 := Lib.hid (show Below w2.heap.size w2 wA from (BA.out _ zE5 B0.out).trans (hw.mono (BA.out _ zE5 B0.out).size)); have s1 : w2.heap.size ≤ wA.heap.size := B1.out.size; have Z7 := Lib.hid (show wA.heap[w2.heap.size]? = some (.cells #[.string ⟨#[]⟩, .string ⟨#[]⟩, .string ⟨#[]⟩, .int .i64 0, .slice none 0 0] 24 (0, 0)) from heap_keep hw (heap_alloc_new w2.drew zE5)); have n7 : w2.heap.size ≠ wA.heap.size := Nat.ne_of_lt (Array.getElem?_eq_some_iff.1 Z7.out).1; clear hrow hw)
        | (refine (F1.out _ (by with_reducible exact BA.out _ _ (BA.out _ _ B0.out))).mono ?_; clear F1; rintro z wA ⟨gA, cA, hz, hrow, hw⟩; subst hz; have RA := Lib.hid hrow; have pA1 := own_base hrow gA rfl; have pA2 := own_lt hrow gA rfl; (try simp at pA1); have JA := Lib.hid hw; have B1 := Lib.hid (show Below w2.heap.size w2 wA from (BA.out _ zE5 (BA.out _ zE5 B0.out)).trans (hw.mono (BA.out _ zE5 (BA.out _ zE5 B0.out)).size)); have s1 : w2.heap.size ≤ wA.heap.size := B1.out.size; have Z7 := Lib.hid (show wA.heap[w2.heap.size]? = some (.cells #[.string ⟨#[]⟩, .string ⟨#[]⟩, .string ⟨#[]⟩, .int .i64 0, .slice none 0 0] 24 (0, 0)) from heap_keep hw ((Below.heap_alloc _ _ _ (by simp)).trans (heap_alloc_new w2.drew zE5))); have Z8 := Lib.hid (show wA.heap[w2.heap.size + 1]? = some (.cells #[.string ⟨#[]⟩, .string ⟨#[]⟩, .string ⟨#[]⟩, .int .i64 0, .slice none 0 0] 24 (0, 0)) from heap_keep hw (heap_at1 w2.drew zE5 zE5)); clear hrow hw)
        | (refine (F1.out _ (by with_reducible exact D1.out _)).mono ?_; clear F1; rintro z wA ⟨gA, cA, hz, hrow, hw⟩; subst hz; have RA := Lib.hid hrow; have pA1 := own_base hrow gA rfl; have pA2 := own_lt hrow gA rfl; (try simp at pA1); have JA := Lib.hid hw; have B1 := Lib.hid (show Below w2.heap.size w2 wA from (D1.out zE5).trans (hw.mono (D1.out zE5).size)); have s1 : w2.heap.size ≤ wA.heap.size := B1.out.size; have Z7 := Lib.hid (show wA.heap[w2.heap.size]? = some (.cells #[.string ⟨#[]⟩, .string ⟨#[]⟩, .string ⟨#[]⟩, .int .i64 0, .slice none 0 0] 24 (0, 0)) from heap_keep hw (heap_alloc_new w2 zE5)); have n7 : w2.heap.size ≠ wA.heap.size := Nat.ne_of_lt (Array.getElem?_eq_some_iff.1 Z7.out).1; clear hrow hw)
        | (refine (F1.out _ (by with_reducible exact D2.out _ _)).mono ?_; clear F1; rintro z wA ⟨gA, cA, hz, hrow, hw⟩; subst hz; have RA := Lib.hid hrow; have pA1 := own_base hrow gA rfl; have pA2 := own_lt hrow gA rfl; (try simp at pA1); have JA := Lib.hid hw; have B1 := Lib.hid (show Below w2.heap.size w2 wA from (D2.out zE5 zE5).trans (hw.mono (D2.out zE5 zE5).size)); have s1 : w2.heap.size ≤ wA.heap.size := B1.out.size; have Z7 := Lib.hid (show wA.heap[w2.heap.size]? = some (.cells #[.string ⟨#[]⟩, .string ⟨#[]⟩, .string ⟨#[]⟩, .int .i64 0, .slice none 0 0] 24 (0, 0)) from heap_keep hw ((Below.heap_alloc _ _ _ (by simp)).trans (heap_alloc_new w2 zE5))); have Z8 := Lib.hid (show wA.heap[w2.heap.size + 1]? = some (.cells #[.string ⟨#[]⟩, .string ⟨#[]⟩, .string ⟨#[]⟩, .int .i64 0, .slice none 0 0] 24 (0, 0)) from heap_keep hw (heap_at1 w2 zE5 zE5)); clear hrow hw)
        | (refine (F1.out _ (by with_reducible exact BA.out _ _ (D1.out _))).mono ?_; clear F1; rintro z wA ⟨gA, cA, hz, hrow, hw⟩; subst hz; have RA := Lib.hid hrow; have pA1 := own_base hrow gA rfl; have pA2 := own_lt hrow gA rfl; (try simp at pA1); have JA := Lib.hid hw; have B1 := Lib.hid (show Below w2.heap.size w2 wA from (BA.out _ zE5 (D1.out zE5)).trans (hw.mono (BA.out _ zE5 (D1.out zE5)).size)); have s1 : w2.heap.size ≤ wA.heap.size := B1.out.size; have Z7 := Lib.hid (show wA.heap[w2.heap.size]? = some (.cells #[.string ⟨#[]⟩, .string ⟨#[]⟩, .string ⟨#[]⟩, .int .i64 0, .slice none 0 0] 24 (0, 0)) from heap_keep hw ((Below.heap_alloc _ _ _ (by simp)).trans (heap_alloc_new w2 zE5))); have Z8 := Lib.hid (show wA.heap[w2.heap.size + 1]? = some (.cells #[.string ⟨#[]⟩, .string ⟨#[]⟩, .string ⟨#[]⟩, .int .i64 0, .slice none 0 0] 24 (0, 0)) from heap_keep hw (heap_at1 w2 zE5 zE5)); clear hrow hw))
      | (go_at_call 11; first
        | (refine (F2.out _ (by with_reducible exact B1.out)).mono ?_; clear F2; rintro z wB ⟨gB, cB, hz, hrow, hw⟩; subst hz; have RB := Lib.hid hrow; have pB1 := own_base hrow gB rfl; have pB2 := own_lt hrow gB rfl; (try simp at pB1); have JB := Lib.hid hw; have B2 := Lib.hid (show Below w2.heap.size w2 wB from (B1.out).trans (hw.mono (B1.out).size)); have s2 : wA.heap.size ≤ wB.heap.size := Nat.le_trans (Below.refl wA.heap.size wA).size hw.size; have KW := Lib.hid ((Below.refl wA.heap.size wA).trans (hw.mono (Below.refl wA.heap.size wA).size)); (try (have Y7 := heap_keep KW.out Z7.out; obtain ⟨y0, y1, y2, y3, y4, yl⟩ := Bx5.of Y7; obtain ⟨yf0, yf1, yf2, yf3, yf4⟩ := Fx5.of Y7)); (try (have Y8 := heap_keep KW.out Z8.out; obtain ⟨v0, v1, v2, v3, v4, vl⟩ := Bx5.of Y8; obtain ⟨vf0, vf1, vf2, vf3, vf4⟩ := Fx5.of Y8)); clear hrow hw)
        | (refine (F2.out _ (by with_reducible exact BA.out _ _ B1.out)).mono ?_; clear F2; rintro z wB ⟨gB, cB, hz, hrow, hw⟩; subst hz; have RB := Lib.hid hrow; have pB1 := own_base hrow gB rfl; have pB2 := own_lt hrow gB rfl; (try simp at pB1); have JB := Lib.hid hw; have B2 := Lib.hid (show Below w2.heap.size w2 wB from (BA.out _ zE5 B1.out).trans (hw.mono (BA.out _ zE5 B1.out).size)); have s2 : wA.heap.size ≤ wB.heap.size := Nat.le_trans ((Below.refl wA.heap.size wA).alloc (Nat.le_refl _) zE5).size hw.size; have KW := Lib.hid (((Below.refl wA.heap.size wA).alloc (Nat.le_refl _) zE5).trans (hw.mono ((Below.refl wA.heap.size wA).alloc (Nat.le_refl _) zE5).size)); (try (have Y7 := heap_keep KW.out Z7.out; obtain ⟨y0, y1, y2, y3, y4, yl⟩ := Bx5.of Y7; obtain ⟨yf0, yf1, yf2, yf3, yf4⟩ := Fx5.of Y7)); (try (have Y8 := heap_keep KW.out Z8.out; obtain ⟨v0, v1, v2, v3, v4, vl⟩ := Bx5.of Y8; obtain ⟨vf0, vf1, vf2, vf3, vf4⟩ := Fx5.of Y8)); have X7 : wB.heap[wA.heap.size]? = some (.cells #[.string ⟨#[]⟩, .string ⟨#[]⟩, .string ⟨#[]⟩, .int .i64 0, .slice none 0 0] 24 (0, 0)) := heap_keep hw (heap_alloc_new wA zE5); obtain ⟨x0, x1, x2, x3, x4, xl⟩ := Bx5.of X7; obtain ⟨xf0, xf1, xf2, xf3, xf4⟩ := Fx5.of X7; clear hrow hw)
        | (refine (F2.out _ (by with_reducible exact BA.out _ _ (BA.out _ _ B1.out))).mono ?_; clear F2; rintro z wB ⟨gB, cB, hz, hrow, hw⟩; subst hz; have RB := Lib.hid hrow; have pB1 := own_base hrow gB rfl; have pB2 := own_lt hrow gB rfl; (try simp at pB1); have JB := Lib.hid hw; have B2 := Lib.hid (show Below w2.heap.size w2 wB from (BA.out _ zE5 (BA.out _ zE5 B1.out)).trans (hw.mono (BA.out _ zE5 (BA.out _ zE5 B1.out)).size)); have s2 : wA.heap.size ≤ wB.heap.size := Nat.le_trans (((Below.refl wA.heap.size wA).alloc (Nat.le_refl _) zE5).alloc (by simp) zE5).size hw.size; have KW := Lib.hid ((((Below.refl wA.heap.size wA).alloc (Nat.le_refl _) zE5).alloc (by simp) zE5).trans (hw.mono (((Below.refl wA.heap.size wA).alloc (Nat.le_refl _) zE5).alloc (by simp) zE5).size)); (try (have Y7 := heap_keep KW.out Z7.out; obtain ⟨y0, y1, y2, y3, y4, yl⟩ := Bx5.of Y7; obtain ⟨yf0, yf1, yf2, yf3, yf4⟩ := Fx5.of Y7)); (try (have Y8 := heap_keep KW.out Z8.out; obtain ⟨v0, v1, v2, v3, v4, vl⟩ := Bx5.of Y8; obtain ⟨vf0, vf1, vf2, vf3, vf4⟩ := Fx5.of Y8)); have X7 : wB.heap[wA.heap.size]? = some (.cells #[.string ⟨#[]⟩, .string ⟨#[]⟩, .string ⟨#[]⟩, .int .i64 0, .slice none 0 0] 24 (0, 0)) := heap_keep hw ((Below.heap_alloc _ _ _ (by simp)).trans (heap_alloc_new wA zE5)); obtain ⟨x0, x1, x2, x3, x4, xl⟩ := Bx5.of X7; obtain ⟨xf0, xf1, xf2, xf3, xf4⟩ := Fx5.of X7; have X8 : wB.heap[wA.heap.size + 1]? = some (.cells #[.string ⟨#[]⟩, .string ⟨#[]⟩, .string ⟨#[]⟩, .int .i64 0, .slice none 0 0] 24 (0, 0)) := heap_keep hw (heap_at1 wA zE5 zE5); obtain ⟨u0, u1, u2, u3, u4, ul⟩ := Bx5.of X8; obtain ⟨uf0, uf1, uf2, uf3, uf4⟩ := Fx5.of X8; clear hrow hw)))
    all_goals go_wp2_with fail
    all_goals go_meet
    all_goals have RA2 := Lib.hid (own_lower (own_below RA.out KW.out) (show w2.heap.size ≤ _ by first | omega | (simp; done) | (simp; omega)))
    all_goals have RB2 := Lib.hid (own_lower RB.out (show w2.heap.size ≤ _ by first | omega | (simp; done) | (simp; omega)))
    all_goals first
      | with_reducible exact ⟨wB, _, _, gA, cA, gB, cB, rfl, rfl, two_a wB _ _ _ _ _ _ _ _ _ _, RA2.out, RB2.out, B2.out, by omega⟩
      | with_reducible exact ⟨wB, _, _, gA, cA, gB, cB, rfl, rfl, (two_a wB _ _ _ _ _ _ _ _ _ _).swap, RA2.out, RB2.out, B2.out, by omega⟩
      | with_reducible exact ⟨wB, _, _, gA, cA, gB, cB, rfl, rfl, two_c Y7 _ _ _ _ _ _ _ _ _ _, RA2.out, RB2.out, B2.out, by omega⟩
      | with_reducible exact ⟨wB, _, _, gA, cA, gB, cB, rfl, rfl, two_c X7 _ _ _ _ _ _ _ _ _ _, RA2.out, RB2.out, B2.out, by omega⟩
      | with_reducible exact ⟨wB, _, _, gA, cA, gB, cB, rfl, rfl, (two_c Y7 _ _ _ _ _ _ _ _ _ _).swap, RA2.out, RB2.out, B2.out, by omega⟩
      | with_reducible exact ⟨wB, _, _, gA, cA, gB, cB, rfl, rfl, (two_c X7 _ _ _ _ _ _ _ _ _ _).swap, RA2.out, RB2.out, B2.out, by omega⟩
      | with_reducible exact ⟨wB, _, _, gA, cA, gB, cB, rfl, rfl, two_e Y7 X7 (by omega) _ _ _ _ _ _ _ _ _ _, RA2.out, RB2.out, B2.out, by omega⟩
      | with_reducible exact ⟨wB, _, _, gA, cA, gB, cB, rfl, rfl, two_e X7 Y7 (by omega) _ _ _ _ _ _ _ _ _ _, RA2.out, RB2.out, B2.out, by omega⟩
      | with_reducible exact ⟨wB, _, _, gA, cA, gB, cB, rfl, rfl, two_e Y7 Y8 (by omega) _ _ _ _ _ _ _ _ _ _, RA2.out, RB2.out, B2.out, by omega⟩
      | with_reducible exact ⟨wB, _, _, gA, cA, gB, cB, rfl, rfl, two_e Y8 Y7 (by omega) _ _ _ _ _ _ _ _ _ _, RA2.out, RB2.out, B2.out, by omega⟩
      | with_reducible exact ⟨wB, _, _, gA, cA, gB, cB, rfl, rfl, two_e X7 X8 (by omega) _ _ _ _ _ _ _ _ _ _, RA2.out, RB2.out, B2.out, by omega⟩
      | with_reducible exact ⟨wB, _, _, gA, cA, gB, cB, rfl, rfl, two_e X8 X7 (by omega) _ _ _ _ _ _ _ _ _ _, RA2.out, RB2.out, B2.out, by omega⟩
  case rest =>
    obtain ⟨wB, E7, E8, gA, cA, gB, cB, rfl, rfl, h2o, hra, hrb, hbe, hne⟩ := hcut
    have hkp := h2o.kp
    have hbc : Below w2.heap.size w2 wc := ⟨hkp.os.trans hbe.os, hkp.tape.trans hbe.tape, hkp.output.trans hbe.output, Nat.le_trans hbe.size hkp.size, fun k hk => (hkp.block k (Nat.lt_of_lt_of_le hk hbe.size) ⟨by omega, by omega⟩).trans (hbe.block k hk)⟩
    have HBC := Lib.hid hbc
    have HX7 := Lib.hid (Bx5.of h2o.h7)
    have HX8 := Lib.hid (Bx5.of h2o.h8)
    have HX0 := Lib.hid ((HX.out.below HK2.out).below hbc)
    have HY0 := Lib.hid ((HY.out.below HK2.out).below hbc)
    have HPX := Lib.hid ((H1.out.below HK2.out).below hbc)
    have HPY := Lib.hid ((H2.out.below HK2.out).below hbc)
    have HPA := Lib.hid (show PR wc (.slice (some ⟨gA, 0, none⟩) (x.props.length + 12) cA) (x.props ++ mksP) from (PR.of_own hra).keep hkp (fun _ g hg _ => by injection hg with hg; subst hg; exact ⟨hne.2.2.2.1, hne.2.2.2.2.1⟩))
    have HPB := Lib.hid (show PR wc (.slice (some ⟨gB, 0, none⟩) (y.props.length + 12) cB) (y.props ++ mksP) from (PR.of_own hrb).keep hkp (fun _ g hg _ => by injection hg with hg; subst hg; exact ⟨hne.2.2.2.2.2.1, hne.2.2.2.2.2.2⟩))
    have HCA := Lib.hid (own_room hra)
    have HCB := Lib.hid (own_room hrb)
    have HTC := Lib.hid (HT0.out.trans ((HK2.out.trans (hbc.mono HK2.out.size)).mono HT0.out.size))
    clear h2o hra hrb hbe hne hkp hbc HX HY H1 H2 HBD B0 BA D1 D2 BS F1 F2 HK2
    have HQA := Lib.hid (show PR wc (.slice (some ⟨gA, 0, none⟩) x.props.length cA) x.props by
      have h := HPA.out.take (show x.props.length ≤ x.props.length + 12 by omega)
      rwa [List.take_left' rfl] at h)
    have HQB := Lib.hid (show PR wc (.slice (some ⟨gB, 0, none⟩) y.props.length cB) y.props by
      have h := HPB.out.take (show y.props.length ≤ y.props.length + 12 by omega)
      rwa [List.take_left' rfl] at h)
    obtain ⟨⟨⟨va, vb, vc⟩, is⟩, hpv⟩ : ∃ q, propOf key x.props = q := ⟨_, rfl⟩
    have f12 := fun W (hW : Below wc.heap.size wc W) => prop_any key (x := x) (HQA.out.below hW) (by omega)
    have f13 := fun W (hW : Below wc.heap.size wc W) => rProp_any key (x := x) (HPX.out.below hW) (by omega)
    unfold PropR at f12 f13
    rw [hpv] at f12 f13
    unfold Ed.v at f12 f13
    simp only at f12 f13
    have F12 := Lib.hid f12
    have F13 := Lib.hid f13
    clear f12 f13 hpv
    have B0 := Lib.hid (Below.refl wc.heap.size wc)
    obtain ⟨a0, a1, a2, a3, a4, _⟩ := HX7.out
    go_upto_region 5 with (go_at_call 12; refine (F12.out _ B0.out).mono ?_; clear F12; rintro z w4 ⟨hz, hw⟩; subst hz; have B4 := Lib.hid (B0.out.trans (hw.mono B0.out.size)); clear hw)
    clear a0 a1 a2 a3 a4
    have hV := heap_alloc_new w4 (.cells #[.int .i64 va, .int .i64 vb, .string vc] 31)
    have HB5 := Lib.hid (show Below wc.heap.size wc (w4.alloc (.cells #[.int .i64 va, .int .i64 vb, .string vc] 31)) from B4.out.alloc B4.out.size _)
    have HV := Lib.hid hV
    clear hV B4
    generalize w4.alloc (.cells #[.int .i64 va, .int .i64 vb, .string vc] 31) = w5 at HB5 HV ⊢
    generalize w4.heap.size = e9 at HV ⊢
    obtain ⟨a0, a1, a2, a3, a4, _⟩ := HX0.out.below HB5.out
    go_upto_region 6 with (go_at_call 13; refine (F13.out _ HB5.out).mono ?_; clear F13; rintro z w6 ⟨hz, hw⟩; subst hz; have B6 := Lib.hid (HB5.out.trans (hw.mono HB5.out.size)); have HV6 := Lib.hid (heap_keep hw HV.out); clear hw)
    clear a0 a1 a2 a3 a4
    have hU := heap_alloc_new w6 (.cells #[.int .i64 va, .int .i64 vb, .string vc] 31)
    have HB7 := Lib.hid (show Below wc.heap.size wc (w6.alloc (.cells #[.int .i64 va, .int .i64 vb, .string vc] 31)) from B6.out.alloc B6.out.size _)
    have HU := Lib.hid hU
    have HV7 := Lib.hid (heap_keep ((Below.refl w6.heap.size w6).alloc (Nat.le_refl _) (.cells #[.int .i64 va, .int .i64 vb, .string vc] 31)) HV6.out)
    clear hU B6 HV6 HV
    generalize w6.alloc (.cells #[.int .i64 va, .int .i64 vb, .string vc] 31) = w7 at HB7 HU HV7 ⊢
    generalize w6.heap.size = e11 at HU ⊢
    have f14 := fun W (hW : Below wc.heap.size wc W) => put_any (e := x) (HQA.out.below hW) HSX.out
    have f15 := fun W (hW : Below wc.heap.size wc W) => rPut_any (e := x) (HPX.out.below hW) HSX.out
    unfold PutsR Ed.v at f14 f15
    obtain ⟨cc, hcc⟩ : ∃ c, checkE x = c := ⟨_, rfl⟩
    have HPL := Lib.hid (show (putB x).length ≤ 600 by
      unfold putB
      split
      · rename_i h0; exact putE_len h0
      · simp)
    obtain ⟨L, hL⟩ : ∃ L, putB x = L := ⟨_, rfl⟩
    rw [hcc, hL] at f14 f15
    rw [hL] at HPL
    have HCC := Lib.hid hcc
    have F14 := Lib.hid f14
    have F15 := Lib.hid f15
    clear f14 f15 hcc hL
    obtain ⟨a0, a1, a2, a3, a4, _⟩ := HX7.out.below HB7.out
    go_upto_region 7 with (go_at_call 14; refine (F14.out _ HB7.out).mono ?_; clear F14; rintro z w8 ⟨p1, hz, hb1, hw⟩; subst hz; have HB8 := Lib.hid (HB7.out.trans (hw.mono HB7.out.size)); have HV8 := Lib.hid (heap_keep hw HV7.out); have HU8 := Lib.hid (heap_keep hw HU.out); have HP1 := Lib.hid hb1; clear hw hb1)
    clear a0 a1 a2 a3 a4 HV7 HU HB7
    obtain ⟨a0, a1, a2, a3, a4, _⟩ := HX0.out.below HB8.out
    go_upto_region 8 with (go_at_call 15; refine (F15.out _ HB8.out).mono ?_; clear F15; rintro z w9 ⟨p2, hz, hb2, hw⟩; subst hz; have HB9 := Lib.hid (HB8.out.trans (hw.mono HB8.out.size)); have HV9 := Lib.hid (heap_keep hw HV8.out); have HU9 := Lib.hid (heap_keep hw HU8.out); have HP1' := Lib.hid (HP1.out.below hw); have HP2 := Lib.hid hb2; clear hw hb2)
    clear a0 a1 a2 a3 a4 HV8 HU8 HB8 HP1
    obtain ⟨cm, hcm⟩ : ∃ c, cmpK x.key y.key = c := ⟨_, rfl⟩
    obtain ⟨lk, hlk⟩ : ∃ c, decide (cm = 0) = c := ⟨_, rfl⟩
    have BW : Hid (∀ d os, Below wc.heap.size wc (Sort.grow (redrawn w9 d) os)) := fun d os => HB9.out.trans ((below_regrown w9 d os).mono HB9.out.size)
    have cK := fun d os => Calls.regrown_of (by have h := check_any (e := x) (HQA.out.below (BW.out d os)) HSX.out; unfold CheckR Ed.v at h; rw [HCC.out] at h; exact h)
    have cR := fun d os => Calls.regrown_of (by have h := (rCheck_any (e := x) (HPX.out.below (BW.out d os)) HSX.out).mono (fun e w' (h : RCheckR x _ e w') => (⟨h.1, h.2.below⟩ : _ ∧ Below _ _ w')); unfold Ed.v at h; rw [HCC.out] at h; exact h)
    have cC := fun d os => Calls.regrown_of (by have h := (compare_gr x.key y.key (.slice (some ⟨gA, 0, none⟩) x.props.length cA) (.slice (some ⟨gB, 0, none⟩) y.props.length cB) (Sort.grow (redrawn w9 d) os)).mono (fun e w' (h : _ ∧ _) => (⟨h.1, h.2.below⟩ : _ ∧ Below _ _ w')); unfold eV at h; rw [hcm] at h; exact h)
    have cD := fun d os => Calls.regrown_of (by have h := (rCompare_gr x.key y.key (.slice A1 n1 c1) (.slice A2 n2 c2) (Sort.grow (redrawn w9 d) os)).mono (fun e w' (h : _ ∧ _) => (⟨h.1, h.2.below⟩ : _ ∧ Below _ _ w')); unfold eV at h; rw [hcm] at h; exact h)
    have cL := fun d os => Calls.regrown_of (by have h := (like_gr x.key y.key (.slice (some ⟨gA, 0, none⟩) x.props.length cA) (.slice (some ⟨gB, 0, none⟩) y.props.length cB) (Sort.grow (redrawn w9 d) os)).mono (fun e w' (h : _ ∧ _) => (⟨h.1, h.2.below⟩ : _ ∧ Below _ _ w')); unfold eV at h; rw [hcm, hlk] at h; exact h)
    have cM := fun d os => Calls.regrown_of (by have h := (rLike_gr x.key y.key (.slice A1 n1 c1) (.slice A2 n2 c2) (Sort.grow (redrawn w9 d) os)).mono (fun e w' (h : _ ∧ _) => (⟨h.1, h.2.below⟩ : _ ∧ Below _ _ w')); unfold eV at h; rw [hcm, hlk] at h; exact h)
    unfold Ed.key at cC cD cL cM
    simp only at cC cD cL cM
    obtain ⟨p0, p1', p2', p3, p4, _⟩ := HX7.out.below HB9.out
    obtain ⟨q0, q1, q2, q3, q4, _⟩ := HX8.out.below HB9.out
    obtain ⟨r0, r1, r2, r3, r4, _⟩ := HX0.out.below HB9.out
    obtain ⟨s0, s1, s2, s3, s4, _⟩ := HY0.out.below HB9.out
    have p0 := cell_regrown p0; have p1' := cell_regrown p1'; have p2' := cell_regrown p2'; have p3 := cell_regrown p3; have p4 := cell_regrown p4
    have q0 := cell_regrown q0; have q1 := cell_regrown q1; have q2 := cell_regrown q2; have q3 := cell_regrown q3; have q4 := cell_regrown q4
    have r0 := cell_regrown r0; have r1 := cell_regrown r1; have r2 := cell_regrown r2; have r3 := cell_regrown r3; have r4 := cell_regrown r4
    have s0 := cell_regrown s0; have s1 := cell_regrown s1; have s2 := cell_regrown s2; have s3 := cell_regrown s3; have s4 := cell_regrown s4
    clear hcm hlk
    refine wp_region_quiet_below (by kernel_rfl) (by kernel_rfl) ?_
    repeat (first | go_big_quiet_skip | (go_big_quiet_want; go_big_quiet_op; first | go_big_quiet_on | go_big_quiet_call (first | exact cK _ _ | exact cR _ _ | exact cC _ _ | exact cD _ _ | exact cL _ _ | exact cM _ _)) | quiet_step (first | exact cK _ _ | exact cR _ _ | exact cC _ _ | exact cD _ _ | exact cL _ _ | exact cM _ _))
    refine wpQuiet_nil ?_
    intro _ hw'
    obtain ⟨⟨dq, osq⟩, hw''⟩ := hw'
    subst hw''
    have HBA := Lib.hid (BW.out dq osq)
    have HVA := Lib.hid (heap_keep (below_regrown w9 dq osq) HV9.out)
    have HUA := Lib.hid (heap_keep (below_regrown w9 dq osq) HU9.out)
    have HPA1 := Lib.hid (HP1'.out.below (below_regrown w9 dq osq))
    have HPA2 := Lib.hid (HP2.out.below (below_regrown w9 dq osq))
    clear cK cR cC cD cL cM p0 p1' p2' p3 p4 q0 q1 q2 q3 q4 r0 r1 r2 r3 r4 s0 s1 s2 s3 s4 BW HV9 HU9 HP1' HP2 HB9
    generalize Sort.grow (redrawn w9 dq) osq = wA at HBA HVA HUA HPA1 HPA2 ⊢
    have hEQ := fun W => eq31_eq W va vb vc
    have d0 := cell_of_row _ _ 0 _ 31 (0, 0) HVA.out
    have d1 := cell_of_row _ _ 1 _ 31 (0, 0) HVA.out
    have d2 := cell_of_row _ _ 2 _ 31 (0, 0) HVA.out
    have u0 := cell_of_row _ _ 0 _ 31 (0, 0) HUA.out
    have u1 := cell_of_row _ _ 1 _ 31 (0, 0) HUA.out
    have u2 := cell_of_row _ _ 2 _ 31 (0, 0) HUA.out
    have F22 := Lib.hid ((sameB_any HPA1.out HPA2.out (by have := HPL.out; omega)).mono (fun e w' (h : e = .returned (.bool (decide (L = L))) ∧ Gr wA w') => (⟨by rw [h.1, decide_eq_true rfl], h.2.below⟩ : e = .returned (.bool true) ∧ Below wA.heap.size wA w')))
    have f23 := fun W (hW : Below wc.heap.size wc W) => (keptE_any (x := x) (HPA.out.below hW) (by omega) HCA.out (HPX.out.below hW) HMX.out).mono (fun e w' (h : _ ∧ Gr W w') => (⟨h.1, h.2.below⟩ : _ ∧ Below W.heap.size W w'))
    have g23 := fun W (hW : Below wc.heap.size wc W) => (keptE_any (x := y) (HPB.out.below hW) (by omega) HCB.out (HPY.out.below hW) HMY.out).mono (fun e w' (h : _ ∧ Gr W w') => (⟨h.1, h.2.below⟩ : _ ∧ Below W.heap.size W w'))
    unfold Ed.v at f23 g23
    have F23 := Lib.hid f23
    have G23 := Lib.hid g23
    clear f23 g23 HVA HUA HPA1 HPA2 HPL HPA HPB HPX HPY HCA HCB HQA HQB
    go_wp2_with (first
      | (go_at_call 22; refine F22.out.mono ?_; clear F22; rintro z wD ⟨hz, hw⟩; subst hz; have HBD := Lib.hid (HBA.out.trans (hw.mono HBA.out.size)); clear hw; obtain ⟨p0, p1', p2', p3, p4, _⟩ := HX7.out.below HBD.out; obtain ⟨r0, r1, r2, r3, r4, _⟩ := HX0.out.below HBD.out)
      | (go_at_call 23; refine (F23.out _ HBD.out).mono ?_; clear F23; rintro z wE ⟨hz, hw⟩; subst hz; have HBE := Lib.hid (HBD.out.trans (hw.mono HBD.out.size)); clear hw; obtain ⟨q0, q1, q2, q3, q4, _⟩ := HX8.out.below HBE.out; obtain ⟨s0, s1, s2, s3, s4, _⟩ := HY0.out.below HBE.out)
      | (go_at_call 23; refine (G23.out _ HBE.out).mono ?_; clear G23; rintro z wF ⟨hz, hw⟩; subst hz; have HBF := Lib.hid (HBE.out.trans (hw.mono HBE.out.size)); clear hw)
      | (go_at_call 10; refine (awake_any _).mono ?_; rintro z wG ⟨hz, hw⟩; subst hz; have HBG := Lib.hid (HBF.out.trans (hw.mono HBF.out.size)); clear hw)
      | fail)
    go_ret
    exact ⟨rfl, HTC.out.trans (HBG.out.mono HTC.out.size)⟩
end Go.Proofs.Ytpoefcpgcojppaa
