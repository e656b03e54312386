/- Texts VG, VJ, VI, QC, QD, UR, one behind the other. -/
import Derived.Test.YtpoefcpgcojppaaM0
import Derived.Test.YtpoefcpgcojppaaM1
import Derived.Test.YtpoefcpgcojppaaM2
import Derived.Test.YtpoefcpgcojppaaM3
import Derived.Test.YtpoefcpgcojppaaM4
import Derived.Test.YtpoefcpgcojppaaM5
import Derived.Test.YtpoefcpgcojppaaM6
import Derived.Test.YtpoefcpgcojppaaM7
import Derived.Test.YtpoefcpgcojppaaM8
import Derived.Test.YtpoefcpgcojppaaM9
import Derived.Test.YtpoefcpgcojppaaM10
import Derived.Test.YtpoefcpgcojppaaM11
import Derived.Deep.RegionHeld3
import Derived.IntWalk
import Derived.Lib.QuietBelow
import Derived.LaidMore
import Derived.OpenShut
import Derived.SevenTiedAt
import Derived.MakeChecks
import Derived.Lib.LaidTab
import Derived.Deep.Slices
import Derived.Deep.Strs
import Derived.SliceStrings
import Derived.SizedLaws
import Derived.Carry
import Derived.Lib.SmallJoins
set_option linter.unusedSimpArgs false
namespace Go.Proofs.Ytpoefcpgcojppaa
open Go.ChangeShapes Go.WideShapes Go.ChangeAt Go.RowKit
set_option linter.unusedVariables false

/-- the block E holds the edge x, its props lie in g -/
structure BxE (w : World) (M E : Nat) (x : Ed) (g c : Nat) : Prop where
  ge : M ≤ E
  eb : EB w E x.src x.dst x.lab x.time (.slice (some ⟨g, 0, none⟩) 2 c)
  ok : EOk w M (x, .slice (some ⟨g, 0, none⟩) 2 c)
theorem BxE.below {w w' : World} {M E g c : Nat} {x : Ed} (h : BxE w M E x g c) (hb : Below w.heap.size w w') : BxE w' M E x g c := ⟨h.ge, heap_keep hb h.eb, h.ok.below hb⟩
theorem BxE.pr {w : World} {M E g c : Nat} {x : Ed} (h : BxE w M E x g c) : PR w (.slice (some ⟨g, 0, none⟩) 2 c) x.props := h.ok.2.2.pr
theorem BxE.new {wr w2 : World} {M g c : Nat} (hM : M ≤ wr.heap.size) (hb : Below wr.heap.size wr w2) (h : w2.ownsRow wr.heap.size 53 4 (.slice (some ⟨g, 0, none⟩) 2 c) 2 (flatP gP)) : BxE (w2.alloc (.cells #[.string ⟨#[97, 49]⟩, .string ⟨#[55]⟩, .string ⟨#[120, 95, 121]⟩, .int .i64 258, .slice (some ⟨g, 0, none⟩) 2 c] 24)) M w2.heap.size gE g c :=
  ⟨Nat.le_trans hM hb.size, heap_alloc_new w2 _, (good_ok (own_lower h hM)).below ((Below.refl _ _).alloc (Nat.le_refl _) _)⟩
theorem EB.setOther {w : World} {E g j : Nat} {s d l : ByteArray} {t : Int} {pv u : Value} {cur : Array Value} {ty : TypeId} (h : EB w E s d l t pv) (hg : w.heap[g]? = some (.cells cur ty (0, 0))) (ht : ty ≠ 24) : EB (w.setCell ⟨g, j, none⟩ u) E s d l t pv := by
  have hne : E ≠ g := by
    rintro rfl
    unfold EB at h
    rw [hg] at h
    injection h with h
    injection h with _ h
    exact ht h
  exact ((set1_keep w g j u).block E (Array.getElem?_eq_some_iff.1 h).1 hne).trans h
theorem BxE.setP {w : World} {M E g c g' j : Nat} {x : Ed} {u : Value} {cur : Array Value} (h : BxE w M E x g c) (hg : w.heap[g']? = some (.cells cur 53 (0, 0))) (hf : Fits j u) : ∃ x', BxE (w.setCell ⟨g', j, none⟩ u).drew M E x' g c := by
  obtain ⟨ps, h1⟩ := h.ok.set (g := g') hf
  exact ⟨⟨x.src, x.dst, x.lab, x.time, ps⟩, h.ge, heap_keep (Below.refl _ _).drew (h.eb.setOther hg (by decide)), h1.below (Below.refl _ _).drew⟩
theorem BxE.setP' {w : World} {M E g c g' j : Nat} {x : Ed} {u : Value} {cur : Array Value} (h : BxE w M E x g c) (hg : w.heap[g']? = some (.cells cur 53 (0, 0))) (hf : Fits j u) : ∃ x', BxE (w.setCell ⟨g', j, none⟩ u) M E x' g c := by
  obtain ⟨ps, h1⟩ := h.ok.set (g := g') hf
  exact ⟨⟨x.src, x.dst, x.lab, x.time, ps⟩, h.ge, h.eb.setOther hg (by decide), h1⟩
theorem BxE.setT {w : World} {M E g c : Nat} {x : Ed} (h : BxE w M E x g c) (t : Int) : ∃ x', BxE (w.setCell ⟨E, 3, none⟩ (.int .i64 t)) M E x' g c := by
  refine ⟨⟨x.src, x.dst, x.lab, t, x.props⟩, h.ge, ?_, ⟨h.ok.1.1, h.ok.1.2.1, h.ok.1.2.2.1, h.ok.1.2.2.2.1, h.ok.1.2.2.2.2⟩, h.ok.2.1, ?_⟩
  · have := Go.Joins.block_setCell (i := 3) h.eb (.int .i64 t)
    unfold EB
    simpa using this
  · show World.ownsRow _ M 53 4 _ _ _
    have h3 := h.ok.2.2
    unfold Own53 at h3
    rcases own_setAny (g := E) (j := 3) h3 (.int .i64 t) with h1 | ⟨c', e, _⟩
    · exact h1
    · exfalso
      injection e with e1 _ _
      injection e1 with e1
      injection e1 with e1
      subst e1
      obtain ⟨_, _, cur, e2, hh, _⟩ := h.ok.pblock
      injection e2 with e2 _ _
      injection e2 with e2
      injection e2 with e2
      subst e2
      have h9 := h.eb
      unfold EB at h9
      rw [hh] at h9
      injection h9 with h9
      injection h9 with _ h9
      exact absurd h9 (by decide)
theorem BxE.at {w : World} {M E g c : Nat} {x : Ed} (h : BxE w M E x g c) : ∃ cur, w.heap[g]? = some (.cells cur 53 (0, 0)) ∧ 8 ≤ cur.size ∧ M ≤ g := by
  obtain ⟨g1, c1, cur, e, h1, h2, h3, _⟩ := h.ok.pblock
  injection e with e1 _ _
  injection e1 with e1
  injection e1 with e1
  subst e1
  exact ⟨cur, h1, h2, h3⟩
/-- the block E holds an edge whose props grow -/
structure BzE (w : World) (M E n : Nat) (v : Value) (R : List Pt) : Prop where
  ge : M ≤ E
  eb : EB w E ⟨#[97]⟩ ⟨#[98]⟩ ⟨#[99]⟩ 0 v
  own : w.ownsRow M 53 4 v n (flatP R)
  len : R.length = n
  each : ∀ p ∈ R, SmP p
theorem BzE.below {w w' : World} {M E n : Nat} {v : Value} {R : List Pt} (h : BzE w M E n v R) (hb : Below w.heap.size w w') : BzE w' M E n v R := ⟨h.ge, heap_keep hb h.eb, own_below h.own hb, h.len, h.each⟩
theorem BzE.new {W0 wr : World} {M : Nat} (h : Below M W0 wr) (hM : M ≤ wr.heap.size) : BzE (wr.alloc (.cells #[.string ⟨#[97]⟩, .string ⟨#[98]⟩, .string ⟨#[99]⟩, .int .i64 0, .slice none 0 0] 24)) M wr.heap.size 0 (.slice none 0 0) [] :=
  ⟨hM, heap_alloc_new wr _, World.ownsRow_nil _ M 53 4, rfl, fun p h => absurd h (by simp)⟩
theorem BzE.pr {w : World} {M E n : Nat} {v : Value} {R : List Pt} (h : BzE w M E n v R) : PR w v R := PR.of_own h.own
theorem BzE.sm {w : World} {M E n : Nat} {v : Value} {R : List Pt} (h : BzE w M E n v R) (hn : n ≤ 1000) : SmE ⟨⟨#[97]⟩, ⟨#[98]⟩, ⟨#[99]⟩, 0, R⟩ := ⟨(by decide : ByteArray.size ⟨#[97]⟩ ≤ 1000), (by decide : ByteArray.size ⟨#[98]⟩ ≤ 1000), (by decide : ByteArray.size ⟨#[99]⟩ ≤ 1000), by show R.length ≤ 1000; rw [h.len]; exact hn, h.each⟩
theorem BzE.app {W w4 : World} {M E n : Nat} {v v' : Value} {R : List Pt} {p : Pt} (h : BzE W M E n v R) (hp : SmP p) (ho : w4.ownsRow M 53 4 v' (n + 1) (flatP R ++ flatP [p])) (hg : W.grownBy w4 v.ownBlock) : EB w4 E ⟨#[97]⟩ ⟨#[98]⟩ ⟨#[99]⟩ 0 v ∧ BzE (w4.setCell ⟨E, 4, none⟩ v') M E (n + 1) v' (R ++ [p]) := by
  have hEB : EB w4 E ⟨#[97]⟩ ⟨#[98]⟩ ⟨#[99]⟩ 0 v := by
    refine (hg.block E (Array.getElem?_eq_some_iff.1 h.eb).1 ?_).trans h.eb
    intro e
    rcases h.own.2 with ⟨e2, _⟩ | ⟨g', cap', cur', e2, _, hh', _⟩
    · subst e2
      simp [Value.ownBlock] at e
    · subst e2
      simp [Value.ownBlock] at e
      subst e
      have h9 := h.eb
      unfold EB at h9
      rw [hh'] at h9
      injection h9 with h9
      injection h9 with _ h9
      exact absurd h9 (by decide)
  refine ⟨hEB, h.ge, ?_, ?_, by rw [List.length_append, h.len]; rfl, fun q hq => ?_⟩
  · have := Go.Joins.block_setCell (i := 4) hEB v'
    unfold EB
    simpa using this
  · have e0 : flatP (R ++ [p]) = flatP R ++ flatP [p] := by simp [flatP]
    rw [e0]
    rcases own_setAny (g := E) (j := 4) ho v' with h1 | ⟨c', e, _⟩
    · exact h1
    · exfalso
      rcases ho.2 with ⟨e2, _⟩ | ⟨g', cap', cur', e2, _, hh', _⟩
      · rw [e2] at e; cases e
      · rw [e2] at e
        injection e with e1 _ _
        injection e1 with e1
        injection e1 with e1
        subst e1
        unfold EB at hEB
        rw [hh'] at hEB
        injection hEB with hEB
        injection hEB with _ hEB
        exact absurd hEB (by decide)
  · rcases List.mem_append.1 hq with hq | hq
    · exact h.each q hq
    · rw [List.mem_singleton.1 hq]; exact hp
theorem key_conv (w : World) {q : Nat} (hq : q < 10) : ∃ s : ByteArray, s.size ≤ 1000 ∧ (convert 34 9 (.slice (some ⟨w.heap.size, 0, none⟩) 1 1)).run Try.prog (w.alloc (.cells #[.int .u8 (97 + (q : Int))] 5)) = .ok (.string s) (w.alloc (.cells #[.int .u8 (97 + (q : Int))] 5)) := by
  refine ⟨⟨[UInt8.ofNat (97 + q)].toArray⟩, (by show (#[UInt8.ofNat (97 + q)] : Array UInt8).size ≤ 1000; simp), run_convert_bytes_back (P := Try.prog) _ 34 9 5 ⟨w.heap.size, 0, none⟩ 1 [UInt8.ofNat (97 + q)] Try.underlying34 Try.underlying5 Try.underlying9 (fun j hj => ?_)⟩
  obtain rfl : j = 0 := by simpa using hj
  have e : (⟨w.heap.size, 0, none⟩ : Addr).add 0 = ⟨w.heap.size, 0, none⟩ := rfl
  rw [e, cell_of_row _ _ _ _ _ _ (heap_alloc_new w _)]
  match q, hq with
  | 0, _ | 1, _ | 2, _ | 3, _ | 4, _ | 5, _ | 6, _ | 7, _ | 8, _ | 9, _ => rfl
theorem good_rput {W : World} {b1 b2 bp bg bn bt : Nat} (h : Gd W b1 b2 bp bg bn bt) : Calls Try.prog 15 #[.agg #[.string ⟨#[97, 49]⟩, .string ⟨#[55]⟩, .string ⟨#[120, 95, 121]⟩, .int .i64 258, .slice (some ⟨bp, 0, none⟩) 2 2]] W fun e w' => ∃ (v : Value) (L : List UInt8), e = .returned (.tuple #[v, .int .i64 0]) ∧ 1 ≤ L.length ∧ L.length ≤ 1000 ∧ w'.ownsRow W.heap.size 5 1 v L.length (byC L) ∧ Below W.heap.size W w' := by
  have hc : checkE gE = 0 := by
    rw [check_ok]
    refine ⟨⟨by decide +kernel, by decide +kernel, by decide +kernel, ?_⟩, by decide +kernel⟩
    refine ⟨by decide, fun k h => ?_⟩
    have h2 : gE.props.length = 2 := rfl
    rcases (show k = 0 ∨ k = 1 by omega) with rfl | rfl
    · refine ⟨show freB ⟨#[107]⟩ = true by decide +kernel, show rightV (1, -3, ⟨#[]⟩) = true by decide +kernel, fun h => absurd h (by omega)⟩
    · refine ⟨show freB ⟨#[108]⟩ = true by decide +kernel, show rightV (2, 0, ⟨#[113, 32, 114]⟩) = true by decide +kernel, fun h => ?_⟩
      show cmpB ⟨#[107]⟩ ⟨#[108]⟩ = -1
      decide +kernel
  refine (rPut_own (e := gE) h.pr gE_sm.sz).mono ?_
  rintro e w' ⟨v, rfl, ho, hb⟩
  refine ⟨v, putB gE, by rw [hc], (by unfold putB; rw [if_pos hc]; unfold putE; simp only [List.length_append, List.length_singleton]; omega), (by unfold putB; rw [if_pos hc]; have := putE_len hc; omega), ho, hb⟩
end Go.Proofs.Ytpoefcpgcojppaa

namespace Go.Proofs.Ytpoefcpgcojppaa
open Go.ChangeShapes Go.WideShapes Go.ChangeAt Go.RowKit
set_option linter.unusedVariables false

theorem own_form {w : World} {base n : Nat} {t : TypeId} {v : Value} {xs : List Value} (h : w.ownsRow base t 1 v n xs) (hn : 1 ≤ n) : ∃ g c cur, v = .slice (some ⟨g, 0, none⟩) n c ∧ base ≤ g ∧ w.heap[g]? = some (.cells cur t (0, 0)) ∧ n ≤ c ∧ c ≤ maxLen ∧ cur.size = c := by
  rcases h.2 with ⟨_, e⟩ | ⟨g, cap, cur, e, hb, hh, h1, h2, h3, _⟩
  · omega
  · exact ⟨g, cap, cur, e, hb, hh, h1, h2, by omega⟩
theorem br_take {w : World} {g c n p : Nat} {L : List UInt8} (h : BR w (.slice (some ⟨g, 0, none⟩) n c) L) (hp : p ≤ n) : BR w (.slice (some ⟨g, 0, none⟩) p c) (L.take p) := by
  obtain ⟨A, c', e, hc⟩ := h
  injection e with e1 e2 e3
  subst e1 e3
  refine ⟨_, c, by rw [List.length_take, Nat.min_eq_left (by omega)], fun h0 => ?_⟩
  rw [List.length_take] at h0
  obtain ⟨ad, ea, hb, hcc⟩ := hc (by omega)
  refine ⟨ad, ea, hb, fun j u hj => hcc j u ?_⟩
  have e0 : byC (L.take p) = (byC L).take p := by simp [byC, List.map_take]
  rw [e0, List.getElem?_take] at hj
  split at hj
  · exact hj
  · cases hj
theorem cap_take {A : Addr} {p c : Nat} (h : p ≤ c) : CapOk (.slice (some A) p c) := by
  intro A' n c' e
  injection e with e1 e2 e3
  subst e1 e2 e3
  exact ⟨h, fun h => by cases h⟩
theorem byC_set (L : List UInt8) (p : Nat) (x : UInt8) : (byC L).set p (.int .u8 x.toNat) = byC (L.set p x) := by simp [byC, List.map_set]
theorem lit8 (w : World) {q : Nat} (hq : q < 8) : ∃ x : UInt8, (w.alloc (.cells #[.int .u8 0, .int .u8 1, .int .u8 2, .int .u8 3, .int .u8 34, .int .u8 127, .int .u8 128, .int .u8 255] 5)).cell? ⟨w.heap.size, q, none⟩ = some (.int .u8 (x.toNat : Int)) := by
  rw [cell_of_row _ _ _ _ _ _ (heap_alloc_new w _)]
  match q, hq with
  | 0, _ => exact ⟨0, rfl⟩
  | 1, _ => exact ⟨1, rfl⟩
  | 2, _ => exact ⟨2, rfl⟩
  | 3, _ => exact ⟨3, rfl⟩
  | 4, _ => exact ⟨34, rfl⟩
  | 5, _ => exact ⟨127, rfl⟩
  | 6, _ => exact ⟨128, rfl⟩
  | 7, _ => exact ⟨255, rfl⟩
end Go.Proofs.Ytpoefcpgcojppaa

namespace Go.Proofs.Ytpoefcpgcojppaa
open Go.ChangeShapes Go.WideShapes Go.ChangeAt Go.RowKit
set_option linter.unusedVariables false

set_option maxHeartbeats 4000000 in
set_option maxRecDepth 100000 in
theorem ends_any (w : World) : Calls Try.prog 6 #[] w fun e w' => e = .returned (.bool true) ∧ Below w.heap.size w w' := by
  obtain ⟨i9, hi9, hz9, hs9, hb9⟩ := info_parts24
  obtain ⟨p9, hp9, hzp, hsp, hbp⟩ := info_parts53
  have HGD := Lib.hid (gd_new w)
  obtain ⟨W0, hW0⟩ : ∃ W, gd0 w = W := ⟨_, rfl⟩
  rw [hW0] at HGD
  unfold gd0 at hW0
  go_enter Try.func6, Try.ntmps6
  go_wp2_with fail
  clear hW0
  generalize w.heap.size + 1 + 1 + 1 + 1 + 1 = bt at HGD ⊢
  generalize w.heap.size + 1 + 1 + 1 + 1 = bn at HGD ⊢
  generalize w.heap.size + 1 + 1 + 1 = bg at HGD ⊢
  generalize w.heap.size + 1 + 1 = bp at HGD ⊢
  generalize w.heap.size + 1 = b2 at HGD ⊢
  have HG := Lib.hid HGD.out.1
  have HB0 := Lib.hid HGD.out.2.1
  clear HGD
  obtain ⟨M, hM⟩ : ∃ M, W0.heap.size = M := ⟨_, rfl⟩
  have HM := Lib.hid hM
  clear hM
  have hGD : ∀ W, Below M W0 W → Gd W w.heap.size b2 bp bg bn bt := fun W h => HG.out.below (by rw [HM.out]; exact h)
  have HGD := Lib.hid hGD
  clear hGD
  go_loopw [6] (fun i wr => ∃ k : Nat, k ≤ 10 ∧ i = .int .i64 k ∧ Below M W0 wr) (fun i _ => 10 - (Lib.intOf i).toNat)
  case atStart => exact ⟨0, Nat.zero_le _, rfl, Below.refl _ _⟩
  case round =>
    obtain ⟨k, hk, rfl, hbe⟩ := hrel
    have HBE := Lib.hid hbe
    by_cases hlt : k < 10
    · clear hbe
      have hk10 : (k : Int) < 10 := by omega
      go_wp2_with fail
      go_loopw [7, 8] (fun v i wr => ∃ (j : Nat) (Q : List Ev), j ≤ 6 ∧ i = .int .i64 j ∧ Hid (ROk wr M v j Q ∧ Below M W0 wr)) (fun _ i _ => 6 - (Lib.intOf i).toNat)
      case atStart => exact ⟨0, [], Nat.zero_le _, rfl, ⟨rfl, World.ownsRow_nil _ M 24 5, fun p h => absurd h (by simp)⟩, HBE.out⟩
      case round =>
        obtain ⟨j, Q, hj, rfl, HI⟩ := hrel
        have HGW := Lib.hid (HGD.out _ HI.out.2)
        by_cases hlt2 : j < 6
        · have hj6 : (j : Int) < 6 := by omega
          obtain ⟨q0, q1, q2, q3, q4⟩ := HGW.out.cg.at5
          have F35 := Lib.hid (good_copy HGW.out)
          have hMr : M ≤ wr.heap.size := by have := HI.out.2.size; have := HM.out; omega
          have HMR := Lib.hid hMr
          clear hMr
          go_upto_region 12 with (fail)
          go_wp2_with (first
            | (go_at_call 35; refine F35.out.mono ?_; clear F35; rintro z w2 ⟨g2, c2, hz, hown, hw⟩; subst hz; have HO2 := Lib.hid hown; have HB2 := Lib.hid hw; have HAL := Lib.hid ((Below.refl w2.heap.size w2).alloc (Nat.le_refl _) (.cells #[.string ⟨#[97, 49]⟩, .string ⟨#[55]⟩, .string ⟨#[120, 95, 121]⟩, .int .i64 258, .slice (some ⟨g2, 0, none⟩) 2 c2] 24)); have HRW := Lib.hid ((HI.out.1.below HB2.out).below HAL.out); have hs2 : M ≤ w2.heap.size := Nat.le_trans HMR.out HB2.out.size; have HPB := Lib.hid (show PR w2 (.slice (some ⟨g2, 0, none⟩) 2 c2) gP from PR.of_own HO2.out); clear hown hw q0 q1 q2 q3 q4)
            | (at_builtin; refine wpList_append_er rfl _ _ rfl (base := M) Try.underlying26 hi9 hz9 hs9 hb9 rfl HRW.out.own rfl (ER.one w2 ⟨#[97, 49]⟩ ⟨#[55]⟩ ⟨#[120, 95, 121]⟩ 258 gP (.slice (some ⟨g2, 0, none⟩) 2 c2) HPB.out) (by simp; omega) (by simp; omega) ?_; intro v' w4 hown' hgrow hloc; have HO4 := Lib.hid hown'; have HB4 := Lib.hid (show Below M w2 w4 from (HAL.out.mono hs2).grown hgrow (by simp; omega) (fun g hg => own_base HRW.out.own g hg)); have HG4 := Lib.hid hgrow; clear hown' hgrow hloc))
          have HR4 := Lib.hid (HRW.out.app ((good_ok (own_lower HO2.out HMR.out)).below HAL.out) HO4.out HG4.out)
          have HBN := Lib.hid ((HI.out.2.trans (HB2.out.mono HMR.out)).trans HB4.out)
          go_roundw
          case measure => simp [Lib.intOf]; omega
          case rel => exact ⟨j + 1, _, by omega, by go_num, HR4.out, HBN.out⟩
        · have HI := Lib.hid (show ROk wr M u7 6 Q ∧ Below M W0 wr by rw [show 6 = j by omega]; exact HI.out)
          obtain ⟨g, c, rfl⟩ : ∃ g c, u7 = .slice (some ⟨g, 0, none⟩) 6 c := ownsRow_succ (k := 5) HI.out.1.own
          clear hi9 hz9 hs9 hb9 hj
          have HLT := Lib.hid hlt
          obtain ⟨s, hs, HQN⟩ := nm_all HGD.out HLT.out
          have HS := Lib.hid hs
          clear hs HGW
          obtain ⟨⟨y1, q0⟩, f0⟩ := at_x HI.out.1 0 0 0 rfl (by omega) (by omega)
          have qn := HQN.out _ HI.out.2
          go_upto_region 14 with (fail)
          obtain ⟨Q1, HI1⟩ := st_x HI.out (u := .string s) 0 0 0 rfl (by omega) (.inl ⟨by omega, s, HS.out, rfl⟩)
          clear qn q0 f0 HI
          generalize wr.setCell ⟨g, 0, none⟩ (.string s) = wr1 at HI1 ⊢
          obtain ⟨⟨y2, q0⟩, f0⟩ := at_x HI1.out.1 6 1 1 rfl (by omega) (by omega)
          have qn := HQN.out _ HI1.out.2
          go_upto_region 15 with (fail)
          obtain ⟨Q2, HI2⟩ := st_x HI1.out (u := .string s) 6 1 1 rfl (by omega) (.inl ⟨by omega, s, HS.out, rfl⟩)
          clear qn q0 f0 HI1
          generalize wr1.setCell ⟨g, 6, none⟩ (.string s) = wr2 at HI2 ⊢
          obtain ⟨⟨y3, q0⟩, f0⟩ := at_x HI2.out.1 12 2 2 rfl (by omega) (by omega)
          have qn := HQN.out _ HI2.out.2
          go_upto_region 16 with (fail)
          obtain ⟨Q3, HI3⟩ := st_x HI2.out (u := .string s) 12 2 2 rfl (by omega) (.inl ⟨by omega, s, HS.out, rfl⟩)
          clear qn q0 f0 HI2
          generalize wr2.setCell ⟨g, 12, none⟩ (.string s) = wr3 at HI3 ⊢
          obtain ⟨h4, ch, cur, q0, hh, hc, hM⟩ := pk_x HI3.out.1 19 3 rfl (by omega)
          obtain ⟨⟨y4, q1⟩, f1⟩ := at_p (j := 0) hh hc (by omega)
          have qn := HQN.out _ HI3.out.2
          obtain ⟨Q4, HI4⟩ := st_p HI3.out (u := .string s) (j := 0) hh hM (.inl ⟨rfl, s, HS.out, rfl⟩)
          clear hh hc hM
          go_region
          clear qn q0 q1 f1 HI3
          generalize (wr3.setCell ⟨h4, 0, none⟩ (.string s)).drew = wr4 at HI4 ⊢
          go_wp2_with fail
          obtain ⟨h5, ch, cur, q0, hh, hc, hM⟩ := pk_x HI4.out.1 24 4 rfl (by omega)
          obtain ⟨⟨y5, q1⟩, f1⟩ := at_p (j := 7) hh hc (by omega)
          have qn := HQN.out _ HI4.out.2
          obtain ⟨Q5, HI5⟩ := st_p HI4.out (u := .string s) (j := 7) hh hM (.inr (.inr ⟨rfl, s, HS.out, rfl⟩))
          clear hh hc hM
          go_region
          clear qn q0 q1 f1 HI4
          generalize (wr4.setCell ⟨h5, 7, none⟩ (.string s)).drew = wr5 at HI5 ⊢
          go_wp2_with fail
          obtain ⟨h6, ch, cur, q0, hh, hc, hM⟩ := pk_x HI5.out.1 29 5 rfl (by omega)
          obtain ⟨⟨y6, q1⟩, f1⟩ := at_p (j := 4) hh hc (by omega)
          have qn := HQN.out _ HI5.out.2
          obtain ⟨Q6, HI6⟩ := st_p HI5.out (u := .string s) (j := 4) hh hM (.inl ⟨rfl, s, HS.out, rfl⟩)
          clear hh hc hM
          go_region
          clear qn q0 q1 f1 HI5
          generalize (wr5.setCell ⟨h6, 4, none⟩ (.string s)).drew = wr6 at HI6 ⊢
          go_wp2_with fail
          go_loopw [9] (fun i wr => ∃ (q : Nat) (Q : List Ev), q ≤ 6 ∧ i = .int .i64 q ∧ Hid (ROk wr M (.slice (some ⟨g, 0, none⟩) 6 c) 6 Q ∧ Below M W0 wr)) (fun i _ => 6 - (Lib.intOf i).toNat)
          case atStart => exact ⟨0, Q6, Nat.zero_le _, rfl, HI6.out⟩
          case round =>
            clear HI6
            obtain ⟨q, Q, hq, rfl, HI⟩ := hrel
            by_cases hlt3 : q < 6
            · obtain ⟨m, hm6, htm⟩ := nextm hlt3
              obtain ⟨r, hr7, htr⟩ := modm HLT.out
              have hMr : M ≤ wr.heap.size := by have := HI.out.2.size; have := HM.out; omega
              have HMR := Lib.hid hMr
              obtain ⟨x, gx, cx, hx1, hx2, hxc, hxp⟩ := ex_at HI.out.1 q hlt3
              obtain ⟨y, gy, cy, hy1, hy2, hyc, hyp⟩ := ex_at HI.out.1 m hm6
              have HGW := Lib.hid (HGD.out _ HI.out.2)
              have FA := does2 (key := s) hxp HGW.out.pr hx1 gE_sm
              have FB := does2 (key := ⟨#[107]⟩) HGW.out.pr hxp gE_sm hx1
              have FS := sorts4 HGW.out.pr hxp hyp hx2 hy2
              have qn := HQN.out _ HI.out.2
              have HBD := Lib.hid (fun W (hW : Below wr.heap.size wr W) => And.intro (show W.cell? ⟨g, q * 5, none⟩ = some (.string x.src) ∧ W.cell? ⟨g, q * 5 + 1, none⟩ = some (.string x.dst) ∧ W.cell? ⟨g, q * 5 + 2, none⟩ = some (.string x.lab) ∧ W.cell? ⟨g, q * 5 + 3, none⟩ = some (.int .i64 x.time) ∧ W.cell? ⟨g, q * 5 + 4, none⟩ = some (.slice (some ⟨gx, 0, none⟩) 2 cx) from ⟨cell_keep hW hxc.1, cell_keep hW hxc.2.1, cell_keep hW hxc.2.2.1, cell_keep hW hxc.2.2.2.1, cell_keep hW hxc.2.2.2.2⟩) (And.intro (show W.cell? ⟨g, m * 5, none⟩ = some (.string y.src) ∧ W.cell? ⟨g, m * 5 + 1, none⟩ = some (.string y.dst) ∧ W.cell? ⟨g, m * 5 + 2, none⟩ = some (.string y.lab) ∧ W.cell? ⟨g, m * 5 + 3, none⟩ = some (.int .i64 y.time) ∧ W.cell? ⟨g, m * 5 + 4, none⟩ = some (.slice (some ⟨gy, 0, none⟩) 2 cy) from ⟨cell_keep hW hyc.1, cell_keep hW hyc.2.1, cell_keep hW hyc.2.2.1, cell_keep hW hyc.2.2.2.1, cell_keep hW hyc.2.2.2.2⟩) (And.intro (HGW.out.below hW).cg.at5 (show W.cell? ⟨bn, k, none⟩ = some (.string s) from cell_keep hW qn))))
              obtain ⟨xs, xd, xl, xt, xp⟩ := x
              obtain ⟨ys, yd, yl, yt, yp⟩ := y
              have hw1 : IntKind.i64.wrap ((q : Int) + 1) = (q : Int) + 1 := IntWalk.i64_in _ (by omega)
              have hw2 : IntKind.i64.wrap (m : Int) = (m : Int) := IntWalk.i64_in _ (by omega)
              have hq0 : (0 : Int) ≤ (q : Int) := by omega
              have hq6 : (q : Int) < 6 := by omega
              have hm0 : (0 : Int) ≤ (m : Int) := by omega
              have hm6i : (m : Int) < 6 := by omega
              have hk0 : (0 : Int) ≤ (k : Int) := by omega
              have hki : (k : Int) < 10 := by omega
              have B0 := Lib.hid ((Below.refl wr.heap.size wr).drew)
              have BA : Hid (∀ W o, Below wr.heap.size wr W → Below wr.heap.size wr (W.alloc o)) := fun W o h => h.alloc h.size o
              clear hxc hyc hxp hyp hx1 hx2 hy1 hy2 qn hMr
              simp only at FA FB FS HBD
              go_wp2_with fail
              go_region_held3 (fun W => (W.cell? ⟨g, q * 5, none⟩ = some (.string xs) ∧ W.cell? ⟨g, q * 5 + 1, none⟩ = some (.string xd) ∧ W.cell? ⟨g, q * 5 + 2, none⟩ = some (.string xl) ∧ W.cell? ⟨g, q * 5 + 3, none⟩ = some (.int .i64 xt) ∧ W.cell? ⟨g, q * 5 + 4, none⟩ = some (.slice (some ⟨gx, 0, none⟩) 2 cx)) ∧ (W.cell? ⟨g, m * 5, none⟩ = some (.string ys) ∧ W.cell? ⟨g, m * 5 + 1, none⟩ = some (.string yd) ∧ W.cell? ⟨g, m * 5 + 2, none⟩ = some (.string yl) ∧ W.cell? ⟨g, m * 5 + 3, none⟩ = some (.int .i64 yt) ∧ W.cell? ⟨g, m * 5 + 4, none⟩ = some (.slice (some ⟨gy, 0, none⟩) 2 cy)) ∧ (W.cell? ⟨bg, 0, none⟩ = some (.string ⟨#[97, 49]⟩) ∧ W.cell? ⟨bg, 1, none⟩ = some (.string ⟨#[55]⟩) ∧ W.cell? ⟨bg, 2, none⟩ = some (.string ⟨#[120, 95, 121]⟩) ∧ W.cell? ⟨bg, 3, none⟩ = some (.int .i64 258) ∧ W.cell? ⟨bg, 4, none⟩ = some (.slice (some ⟨bp, 0, none⟩) 2 2)) ∧ W.cell? ⟨bn, k, none⟩ = some (.string s)) (first | with_reducible exact HBD.out _ B0.out | with_reducible exact HBD.out _ B1.out | with_reducible exact HBD.out _ B2.out | with_reducible exact HBD.out _ (BA.out _ _ B2.out) | with_reducible exact HBD.out _ B3.out) (first
                | (go_at_call 3; refine (FA.out _ B0.out).mono ?_; clear FA; rintro z wA ⟨hz, hw⟩; subst hz; have B1 := Lib.hid (B0.out.trans (hw.mono B0.out.size)); clear hw)
                | (go_at_call 3; refine (FB.out _ B1.out).mono ?_; clear FB; rintro z wB ⟨hz, hw⟩; subst hz; have B2 := Lib.hid (B1.out.trans (hw.mono B1.out.size)); clear hw)
                | (go_at_call 5; refine (FS.out _ B2.out).mono ?_; clear FS; rintro z wC ⟨hz, hw⟩; subst hz; have B3 := Lib.hid ((BA.out _ _ B2.out).trans (hw.mono (BA.out _ _ B2.out).size)); clear hw))
              have HI7 := Lib.hid (And.intro (HI.out.1.below B3.out) (HI.out.2.trans (B3.out.mono HMR.out)))
              clear HBD B0 B1 B2 B3 BA HI HGW hw1 hw2 hm0 hm6i htm hq0
              obtain ⟨t, HT⟩ := tm_all HGD.out hr7
              have qt := HT.out _ HI7.out.2
              obtain ⟨⟨yt, q0⟩, f0⟩ := at_x HI7.out.1 (q * 5 + 3) q 3 rfl hlt3 (by omega)
              have hr0 : (0 : Int) ≤ (r : Int) := by omega
              have hr7i : (r : Int) < 7 := by omega
              go_upto_region 25 with (fail)
              obtain ⟨Q8, HI8⟩ := st_x HI7.out (u := .int .i64 t) (q * 5 + 3) q 3 rfl hlt3 (.inr ⟨rfl, t, rfl⟩)
              clear qt q0 f0 HI7 hr0 hr7i htr
              generalize wC.setCell ⟨g, q * 5 + 3, none⟩ (.int .i64 t) = wD at HI8 ⊢
              obtain ⟨x, gx, cx, hx1, hx2, hxc, hxp⟩ := ex_at HI8.out.1 q hlt3
              obtain ⟨y, gy, cy, hy1, hy2, hyc, hyp⟩ := ex_at HI8.out.1 0 (by omega)
              have FC := does2 (key := ⟨#[108]⟩) hxp hyp hx1 hy1
              have cD := fun dd os => Calls.regrown_of (FC.out _ (below_regrown wD dd os))
              have cS := fun dd os => Calls.regrown_of (sorts_any (HI8.out.1.er.below (below_regrown wD dd os)) (ex_len HI8.out.1 (Nat.le_refl _)).1 (ex_len HI8.out.1 (Nat.le_refl _)).2)
              obtain ⟨q0, q1, q2, q3, q4⟩ := hxc
              obtain ⟨r0, r1, r2, r3, r4⟩ := hyc
              simp only [Nat.zero_mul, Nat.zero_add] at r0 r1 r2 r3 r4
              have q0 := cell_regrown q0; have q1 := cell_regrown q1; have q2 := cell_regrown q2; have q3 := cell_regrown q3; have q4 := cell_regrown q4
              have r0 := cell_regrown r0; have r1 := cell_regrown r1; have r2 := cell_regrown r2; have r3 := cell_regrown r3; have r4 := cell_regrown r4
              have hq0 : (0 : Int) ≤ (q : Int) := by omega
              clear FC hxp hyp hx1 hx2 hy1 hy2
              refine wp_region_quiet_below (by kernel_rfl) (by kernel_rfl) ?_
              repeat (first | go_big_quiet_skip | (go_big_quiet_want; go_big_quiet_op; first | go_big_quiet_on | go_big_quiet_call (first | exact cD _ _ | exact cS _ _)) | quiet_step (first | exact cD _ _ | exact cS _ _))
              refine wpQuiet_nil ?_
              intro _ hw'
              obtain ⟨⟨dq, osq⟩, hw''⟩ := hw'
              subst hw''
              have HI9 := Lib.hid (And.intro (HI8.out.1.below (below_regrown wD dq osq)) (HI8.out.2.trans ((below_regrown wD dq osq).mono (show M ≤ wD.heap.size by have := HI8.out.2.size; have := HM.out; omega))))
              clear cD cS q0 q1 q2 q3 q4 r0 r1 r2 r3 r4 HI8
              generalize Sort.grow (redrawn wD dq) osq = WT at HI9 ⊢
              go_wp2_with fail
              go_roundw
              case rel => exact ⟨q + 1, Q8, by omega, by go_num, HI9.out⟩
              case measure => simp [Lib.intOf]; omega
            · obtain rfl : q = 6 := by omega
              go_wp2_with fail
              go_roundw
              case rel => exact ⟨k + 1, by have := HLT.out; omega, by go_num, HI.out.2⟩
              case measure => have := HLT.out; simp [Lib.intOf]; omega
    · clear hk
      clear hbe
      go_wp2_with fail
      go_loopw [10] (fun i wr => ∃ j : Nat, j ≤ 7 ∧ i = .int .i64 j ∧ Below M W0 wr) (fun i _ => 7 - (Lib.intOf i).toNat)
      case atStart => exact ⟨0, Nat.zero_le _, rfl, HBE.out⟩
      case round =>
        clear HBE
        obtain ⟨j, hj, rfl, hv⟩ := hrel
        have HV1 := Lib.hid hv
        clear hv
        by_cases hlt : j < 7
        · obtain ⟨t, HT⟩ := tm_all HGD.out hlt
          have hj7 : (j : Int) < 7 := by omega
          have HGW1 := Lib.hid (HGD.out _ HV1.out)
          have HMR1 := Lib.hid (show M ≤ wr.heap.size by have := HV1.out.size; have := HM.out; omega)
          obtain ⟨q0, q1, q2, q3, q4⟩ := HGW1.out.cg.at5
          have F35 := Lib.hid (good_copy HGW1.out)
          go_upto_region 31 with (go_at_call 35; refine F35.out.mono ?_; clear F35; rintro z w2 ⟨g1, c1, hz, hown, hw⟩; subst hz; have HO := Lib.hid hown; have HB := Lib.hid hw; clear hown hw q0 q1 q2 q3 q4)
          have HX1 := Lib.hid (BxE.new HMR1.out HB.out HO.out)
          have HAL := Lib.hid (show Below wr.heap.size wr (w2.alloc (.cells #[.string ⟨#[97, 49]⟩, .string ⟨#[55]⟩, .string ⟨#[120, 95, 121]⟩, .int .i64 258, .slice (some ⟨g1, 0, none⟩) 2 c1] 24)) from HB.out.alloc HB.out.size _)
          have HVn := Lib.hid (HV1.out.trans (HAL.out.mono HMR1.out))
          clear HO HB
          generalize w2.alloc (.cells #[.string ⟨#[97, 49]⟩, .string ⟨#[55]⟩, .string ⟨#[120, 95, 121]⟩, .int .i64 258, .slice (some ⟨g1, 0, none⟩) 2 c1] 24) = wa1 at HX1 HAL HVn ⊢
          generalize w2.heap.size = E1 at HX1 ⊢
          have qt := HT.out _ HVn.out
          obtain ⟨b0, b1, b2', b3, b4⟩ := HX1.out.eb.at5
          have f3 := HX1.out.eb.fz.2.2.2.1
          go_upto_region 32 with (fail)
          obtain ⟨x1, hx1⟩ := HX1.out.setT t
          have HY1 := Lib.hid hx1
          have HV2 := Lib.hid (HVn.out.setCell (p := ⟨E1, 3, none⟩) HX1.out.ge (.int .i64 t))
          clear qt b0 b1 b2' b3 b4 f3 hx1 HX1 HVn HAL HGW1 HMR1 HV1
          generalize wa1.setCell ⟨E1, 3, none⟩ (.int .i64 t) = wv2 at HY1 HV2 ⊢
          have HGW2 := Lib.hid (HGD.out _ HV2.out)
          have HMR2 := Lib.hid (show M ≤ wv2.heap.size by have := HV2.out.size; have := HM.out; omega)
          obtain ⟨q0, q1, q2, q3, q4⟩ := HGW2.out.cg.at5
          have F35 := Lib.hid (good_copy HGW2.out)
          go_upto_region 33 with (go_at_call 35; refine F35.out.mono ?_; clear F35; rintro z w2 ⟨g2, c2, hz, hown, hw⟩; subst hz; have HO := Lib.hid hown; have HB := Lib.hid hw; clear hown hw q0 q1 q2 q3 q4)
          have HX2 := Lib.hid (BxE.new HMR2.out HB.out HO.out)
          have HAL := Lib.hid (show Below wv2.heap.size wv2 (w2.alloc (.cells #[.string ⟨#[97, 49]⟩, .string ⟨#[55]⟩, .string ⟨#[120, 95, 121]⟩, .int .i64 258, .slice (some ⟨g2, 0, none⟩) 2 c2] 24)) from HB.out.alloc HB.out.size _)
          have HVn := Lib.hid (HV2.out.trans (HAL.out.mono HMR2.out))
          clear HO HB
          generalize w2.alloc (.cells #[.string ⟨#[97, 49]⟩, .string ⟨#[55]⟩, .string ⟨#[120, 95, 121]⟩, .int .i64 258, .slice (some ⟨g2, 0, none⟩) 2 c2] 24) = wa2 at HX2 HAL HVn ⊢
          generalize w2.heap.size = E2 at HX2 ⊢
          have HY1b := Lib.hid (HY1.out.below HAL.out)
          have qt := HT.out _ HVn.out
          have b4 := HX2.out.eb.at5.2.2.2.2
          obtain ⟨cur, hh, hc, hM2⟩ := HX2.out.at
          obtain ⟨⟨y9, q1⟩, f1⟩ := at_p (j := 2) hh hc (by omega)
          obtain ⟨x1b, hx1⟩ := HY1b.out.setP (j := 2) (u := .int .i64 t) hh (.inr (.inl ⟨.inr rfl, t, rfl⟩))
          obtain ⟨x2, hx2⟩ := HX2.out.setP (j := 2) (u := .int .i64 t) hh (.inr (.inl ⟨.inr rfl, t, rfl⟩))
          have HZ1 := Lib.hid hx1
          have HZ2 := Lib.hid hx2
          have HV3 := Lib.hid (HVn.out.setCell (p := ⟨g2, 2, none⟩) hM2 (.int .i64 t)).drew
          clear hh hc hM2 hx1 hx2
          go_region
          clear qt q1 f1 b4 HY1 HY1b HX2 HVn HAL HGW2 HMR2 HV2
          generalize (wa2.setCell ⟨g2, 2, none⟩ (.int .i64 t)).drew = wv3 at HZ1 HZ2 HV3 ⊢
          have HGW3 := Lib.hid (HGD.out _ HV3.out)
          have HMR3 := Lib.hid (show M ≤ wv3.heap.size by have := HV3.out.size; have := HM.out; omega)
          obtain ⟨q0, q1, q2, q3, q4⟩ := HGW3.out.cg.at5
          have F35 := Lib.hid (good_copy HGW3.out)
          go_upto_region 35 with (go_at_call 35; refine F35.out.mono ?_; clear F35; rintro z w2 ⟨g3, c3, hz, hown, hw⟩; subst hz; have HO := Lib.hid hown; have HB := Lib.hid hw; clear hown hw q0 q1 q2 q3 q4)
          have HX3 := Lib.hid (BxE.new HMR3.out HB.out HO.out)
          have HAL := Lib.hid (show Below wv3.heap.size wv3 (w2.alloc (.cells #[.string ⟨#[97, 49]⟩, .string ⟨#[55]⟩, .string ⟨#[120, 95, 121]⟩, .int .i64 258, .slice (some ⟨g3, 0, none⟩) 2 c3] 24)) from HB.out.alloc HB.out.size _)
          have HVn := Lib.hid (HV3.out.trans (HAL.out.mono HMR3.out))
          clear HO HB
          generalize w2.alloc (.cells #[.string ⟨#[97, 49]⟩, .string ⟨#[55]⟩, .string ⟨#[120, 95, 121]⟩, .int .i64 258, .slice (some ⟨g3, 0, none⟩) 2 c3] 24) = wa3 at HX3 HAL HVn ⊢
          generalize w2.heap.size = E3 at HX3 ⊢
          have HA1 := Lib.hid (HZ1.out.below HAL.out)
          have HA2 := Lib.hid (HZ2.out.below HAL.out)
          have b4 := HX3.out.eb.at5.2.2.2.2
          obtain ⟨cur, hh, hc, hM3⟩ := HX3.out.at
          obtain ⟨⟨y8, q1⟩, f1⟩ := at_p (j := 5) hh hc (by omega)
          have hjw : IntKind.i64.wrap ((j : Int) - 2) = (j : Int) - 2 := IntWalk.i64_in _ (by omega)
          obtain ⟨x1c, hx1⟩ := HA1.out.setP' (j := 5) (u := .int .i64 ((j : Int) - 2)) hh (.inr (.inl ⟨.inl rfl, _, rfl⟩))
          obtain ⟨x2c, hx2⟩ := HA2.out.setP' (j := 5) (u := .int .i64 ((j : Int) - 2)) hh (.inr (.inl ⟨.inl rfl, _, rfl⟩))
          obtain ⟨x3c, hx3⟩ := HX3.out.setP' (j := 5) (u := .int .i64 ((j : Int) - 2)) hh (.inr (.inl ⟨.inl rfl, _, rfl⟩))
          have HC1 := Lib.hid hx1
          have HC2 := Lib.hid hx2
          have HC3 := Lib.hid hx3
          have HV4 := Lib.hid (HVn.out.setCell (p := ⟨g3, 5, none⟩) hM3 (.int .i64 ((j : Int) - 2)))
          clear hh hc hM3 hx1 hx2 hx3
          go_upto_region 36 with (fail)
          clear q1 f1 b4 hjw HA1 HA2 HZ1 HZ2 HX3 HVn HAL HGW3 HMR3 HV3
          generalize wa3.setCell ⟨g3, 5, none⟩ (.int .i64 ((j : Int) - 2)) = wv4 at HC1 HC2 HC3 HV4 ⊢
          have FA := does2 (key := ⟨#[107]⟩) HC1.out.pr HC2.out.pr HC1.out.ok.1 HC2.out.ok.1
          have FB := does2 (key := ⟨#[108]⟩) HC2.out.pr HC3.out.pr HC2.out.ok.1 HC3.out.ok.1
          have FC := does2 (key := ⟨#[109]⟩) HC3.out.pr HC1.out.pr HC3.out.ok.1 HC1.out.ok.1
          have HBC := Lib.hid (fun W (hW : Below wv4.heap.size wv4 W) => And.intro (HC1.out.below hW).eb.at5 (And.intro (HC2.out.below hW).eb.at5 (HC3.out.below hW).eb.at5))
          have HMR4 := Lib.hid (show M ≤ wv4.heap.size by have := HV4.out.size; have := HM.out; omega)
          clear HC1 HC2 HC3
          have B0 := Lib.hid (Below.refl wv4.heap.size wv4)
          obtain ⟨⟨p0, p1, p2, p3, p4⟩, ⟨q0, q1, q2, q3, q4⟩, _⟩ := HBC.out _ B0.out
          go_wp2_with (first
            | (go_at_call 3; refine (FA.out _ B0.out).mono ?_; clear FA; rintro z wA ⟨hz, hw⟩; subst hz; have B1 := Lib.hid (B0.out.trans (hw.mono B0.out.size)); clear hw p0 p1 p2 p3 p4 q0 q1 q2 q3 q4; obtain ⟨_, ⟨p0, p1, p2, p3, p4⟩, ⟨q0, q1, q2, q3, q4⟩⟩ := HBC.out _ B1.out)
            | (go_at_call 3; refine (FB.out _ B1.out).mono ?_; clear FB; rintro z wB ⟨hz, hw⟩; subst hz; have B2 := Lib.hid (B1.out.trans (hw.mono B1.out.size)); clear hw p0 p1 p2 p3 p4 q0 q1 q2 q3 q4; obtain ⟨⟨p0, p1, p2, p3, p4⟩, _, ⟨q0, q1, q2, q3, q4⟩⟩ := HBC.out _ B2.out)
            | (go_at_call 3; refine (FC.out _ B2.out).mono ?_; clear FC; rintro z wC ⟨hz, hw⟩; subst hz; have B3 := Lib.hid (B2.out.trans (hw.mono B2.out.size)); clear hw p0 p1 p2 p3 p4 q0 q1 q2 q3 q4))
          have HVE := Lib.hid (HV4.out.trans (B3.out.mono HMR4.out))
          go_roundw
          case rel => exact ⟨j + 1, by omega, by go_num, HVE.out⟩
          case measure => simp [Lib.intOf]; omega
        · clear hj
          go_wp2_with fail
          have HBZ := Lib.hid (BzE.new HV1.out (show M ≤ wr.heap.size by have := HV1.out.size; have := HM.out; omega))
          have HMS := Lib.hid (show M ≤ wr.heap.size by have := HV1.out.size; have := HM.out; omega)
          have HVS := Lib.hid (HV1.out.alloc HMS.out (.cells #[.string ⟨#[97]⟩, .string ⟨#[98]⟩, .string ⟨#[99]⟩, .int .i64 0, .slice none 0 0] 24))
          generalize wr.alloc (.cells #[.string ⟨#[97]⟩, .string ⟨#[98]⟩, .string ⟨#[99]⟩, .int .i64 0, .slice none 0 0] 24) = wS at HBZ HVS ⊢
          generalize wr.heap.size = E14 at HBZ ⊢
          clear HMS HV1
          go_loopw [15] (fun i wr => ∃ (q : Nat) (v : Value) (R : List Pt), q ≤ 10 ∧ i = .int .i64 q ∧ Hid (BzE wr M E14 q v R ∧ Below M W0 wr)) (fun i _ => 10 - (Lib.intOf i).toNat)
          case atStart => exact ⟨0, .slice none 0 0, [], Nat.zero_le _, rfl, HBZ.out, HVS.out⟩
          case round =>
            clear HBZ HVS
            obtain ⟨q, v, R, hq, rfl, HZ⟩ := hrel
            by_cases hlt5 : q < 10
            · have HGW := Lib.hid (HGD.out _ HZ.out.2)
              have HMR := Lib.hid (show M ≤ wr.heap.size by have := HZ.out.2.size; have := HM.out; omega)
              obtain ⟨p0, p1, p2, p3, p4⟩ := HZ.out.1.eb.at5
              obtain ⟨q0, q1, q2, q3, q4⟩ := HGW.out.cg.at5
              have FA := does2 (x := ⟨⟨#[97]⟩, ⟨#[98]⟩, ⟨#[99]⟩, 0, R⟩) (key := ⟨#[104]⟩) HZ.out.1.pr HGW.out.pr (HZ.out.1.sm (by omega)) gE_sm
              have hq10 : (q : Int) < 10 := by omega
              go_upto_region 44 with (go_at_call 3; refine (FA.out _ (Below.refl _ _)).mono ?_; clear FA; rintro z wA ⟨hz, hw⟩; subst hz; have HBA := Lib.hid hw; clear hw p0 p1 p2 p3 p4 q0 q1 q2 q3 q4)
              have HZA := Lib.hid (And.intro (HZ.out.1.below HBA.out) (HZ.out.2.trans (HBA.out.mono HMR.out)))
              have HMA := Lib.hid (show M ≤ wA.heap.size by have := HZA.out.2.size; have := HM.out; omega)
              clear HZ HBA HMR HGW
              have p4 := HZA.out.1.eb.at5.2.2.2.2
              have f4 := HZA.out.1.eb.fz.2.2.2.2
              have c2 := (HGD.out _ HZA.out.2).c2
              have d0 := cell_of_row _ _ 0 _ 31 (0, 0) c2
              have d1 := cell_of_row _ _ 1 _ 31 (0, 0) c2
              have d2 := cell_of_row _ _ 2 _ 31 (0, 0) c2
              have hwq : IntKind.i64.wrap (97 + (q : Int)) = 97 + (q : Int) := IntWalk.i64_in _ (by omega)
              have hwu : IntKind.u8.wrap (97 + (q : Int)) = 97 + (q : Int) := by rw [IntKind.wrap_u8]; omega
              go_wp2_with fail
              obtain ⟨sk, hsk, hcv⟩ := key_conv wA hlt5
              have HSK := Lib.hid hsk
              have hal : Below wA.heap.size wA (wA.alloc (.cells #[.int .u8 (97 + (q : Int))] 5)) := (Below.refl _ _).alloc (Nat.le_refl _) _
              have HZ1 := Lib.hid (And.intro (HZA.out.1.below hal) (HZA.out.2.trans (hal.mono HMA.out)))
              have HM1 := Lib.hid (Nat.le_trans HMA.out hal.size)
              rw [hcv]
              clear hal hcv hsk p4 f4 c2 d0 d1 d2 HZA
              generalize wA.alloc (.cells #[.int .u8 (97 + (q : Int))] 5) = W1 at HZ1 HM1 ⊢
              have c2 := (HGD.out _ HZ1.out.2).c2
              have d0 := cell_of_row _ _ 0 _ 31 (0, 0) c2
              have d1 := cell_of_row _ _ 1 _ 31 (0, 0) c2
              have d2 := cell_of_row _ _ 2 _ 31 (0, 0) c2
              clear c2
              have hal : Below W1.heap.size W1 (W1.alloc (.cells #[.string sk, .int .i64 2, .int .i64 0, .string ⟨#[113, 32, 114]⟩] 53)) := (Below.refl _ _).alloc (Nat.le_refl _) _
              have HZ2 := Lib.hid (HZ1.out.1.below hal)
              have HB2 := Lib.hid (HZ1.out.2.trans (hal.mono HM1.out))
              have HM2 := Lib.hid (Nat.le_trans HM1.out hal.size)
              clear hal
              go_wp2_with (at_builtin; refine wpList_append_pr (v := v) rfl _ _ rfl (base := M) Try.underlying22 hp9 hzp hsp hbp rfl HZ2.out.own rfl (PR.one W1 (sk, 2, 0, ⟨#[113, 32, 114]⟩) 53) (by simp; omega) HM2.out ?_; intro v' w4 hown1 hgrow hloc; have hown' : w4.ownsRow M 53 4 v' (q + 1) (flatP R ++ flatP [(sk, 2, 0, ⟨#[113, 32, 114]⟩)]) := hown1; clear hown1; obtain ⟨A', c', rfl⟩ := row_form4 hown'; have HA4 := Lib.hid (HZ2.out.app (p := (sk, 2, 0, ⟨#[113, 32, 114]⟩)) ⟨HSK.out, by show ByteArray.size ⟨#[113, 32, 114]⟩ ≤ 1000; decide⟩ hown' hgrow); have HB4 := Lib.hid (HB2.out.grown hgrow (by have := HM.out; have := HB2.out.size; omega) (fun g hg => own_base HZ2.out.own g hg)); clear hown' hgrow hloc; have q4 := HA4.out.1.at5.2.2.2.2; have f4 := HA4.out.1.fz.2.2.2.2)
              have HB5 := Lib.hid (HB4.out.setCell (p := ⟨E14, 4, none⟩) HZ1.out.1.ge (.slice A' (q + 1) c'))
              have HA5 := Lib.hid HA4.out.2
              clear q4 f4 HA4 HB4 HZ2 HB2 HZ1
              generalize w4.setCell ⟨E14, 4, none⟩ (.slice A' (q + 1) c') = w5 at HB5 HA5 ⊢
              go_roundw
              case rel => exact ⟨q + 1, _, _, by omega, by go_num, HA5.out, HB5.out⟩
              case measure => simp [Lib.intOf]; omega
            · clear hq
              have HGW := Lib.hid (HGD.out _ HZ.out.2)
              have HMR := Lib.hid (show M ≤ wr.heap.size by have := HZ.out.2.size; have := HM.out; omega)
              have HVR := Lib.hid HZ.out.2
              clear HZ
              obtain ⟨q0, q1, q2, q3, q4⟩ := HGW.out.cg.at5
              have F15 := Lib.hid (good_rput HGW.out)
              go_upto_region 46 with (go_at_call 15; refine F15.out.mono ?_; clear F15; rintro z wB ⟨vb, L, hz, hcc, hL, hown, hw⟩; subst hz; have HO := Lib.hid (own_lower hown HMR.out); have HVB := Lib.hid (HVR.out.trans (hw.mono HMR.out)); have HL := Lib.hid hL; clear hown hw q0 q1 q2 q3 q4 hL)
              have h1L : 1 ≤ L.length := hcc
              have hnL : L.length ≤ 1000 := HL.out
              obtain ⟨gb, cb, curb, rfl, hgb, hhb, hnc, hcm, hcs⟩ := own_form HO.out h1L
              have HCV := Lib.hid (cap_own HO.out)
              obtain ⟨n, hn⟩ : ∃ n, L.length = n := ⟨_, rfl⟩
              have HN := Lib.hid hn
              rw [hn] at h1L hnL hnc HCV HO ⊢
              clear hn hcc HL hgb hhb hcs curb HVR HMR HGW
              have HCM := Lib.hid hcm
              clear hcm
              have HMB := Lib.hid (show M ≤ wB.heap.size by have := HVB.out.size; have := HM.out; omega)
              obtain ⟨i5, hi5, hz5, hs5, hb5⟩ := info_parts5
              have HI5 := Lib.hid (And.intro hi5 (And.intro hz5 (And.intro hs5 hb5)))
              clear hi5 hz5 hs5 hb5
              go_wp2_with fail
              go_loopw [18] (fun i wr => ∃ p : Nat, p ≤ n + 1 ∧ i = .int .i64 p ∧ Below wB.heap.size wB wr) (fun i _ => n + 1 - (Lib.intOf i).toNat)
              case atStart => exact ⟨0, Nat.zero_le _, rfl, Below.refl _ _⟩
              case round =>
                obtain ⟨p, hp, rfl, hb⟩ := hrel
                have HB6 := Lib.hid hb
                clear hb
                by_cases hlt6 : p ≤ n
                · have hp0 : (0 : Int) ≤ (p : Int) := by omega
                  have hpn : (p : Int) ≤ (n : Int) := by omega
                  have hpc : (p : Int) ≤ (cb : Int) := by omega
                  have HOW := Lib.hid (own_below HO.out HB6.out)
                  have F4 := Lib.hid (parses_any (br_take (BR.of_own HOW.out) hlt6) (cap_take (by omega)) (by rw [List.length_take]; omega))
                  go_upto_region 51 with (go_at_call 4; refine F4.out.mono ?_; clear F4; rintro z w7 ⟨hz, hw⟩; subst hz; have HB7 := Lib.hid (HB6.out.trans (hw.mono HB6.out.size)); clear hw)
                  clear HOW HB6
                  go_wp2_with fail
                  go_loopw [19] (fun i wr => ∃ q : Nat, q ≤ 8 ∧ i = .int .i64 q ∧ Below wB.heap.size wB wr) (fun i _ => 8 - (Lib.intOf i).toNat)
                  case atStart => exact ⟨0, Nat.zero_le _, rfl, HB7.out⟩
                  case round =>
                    clear HB7
                    obtain ⟨q, hq, rfl, hb⟩ := hrel
                    have HB8 := Lib.hid hb
                    clear hb
                    by_cases hlt7 : q < 8
                    · have hq8 : (q : Int) < 8 := by omega
                      by_cases hlt8 : p < n
                      · have hpni : (p : Int) < (n : Int) := by omega
                        have HO8 := Lib.hid (own_below HO.out HB8.out)
                        have hal : Below wr.heap.size wr (wr.alloc (.cells #[] 5)) := (Below.refl _ _).alloc (Nat.le_refl _) _
                        have HAL := Lib.hid hal
                        have HE0 := Lib.hid (World.ownsRow_lit (base := wr.heap.size) (e := 5) (size := 1) wr #[] 0 (Nat.le_refl _) (by unfold maxLen; omega) rfl)
                        have HBR := Lib.hid (BR.of_own (own_below HO8.out hal))
                        clear hal
                        go_upto_region 55 with (at_builtin; refine wpList_append_br (v := .slice (some ⟨wr.heap.size, 0, none⟩) 0 0) rfl _ _ rfl (base := wr.heap.size) Try.underlying34 HI5.out.1 HI5.out.2.1 HI5.out.2.2.1 HI5.out.2.2.2 rfl HE0.out rfl HBR.out (by rw [HN.out]; omega) HAL.out.size ?_; intro v' w9 hown' hgrow hloc; have HO9 := Lib.hid (show w9.ownsRow wr.heap.size 5 1 v' n (byC L) by have h := hown'; rw [Nat.zero_add, HN.out] at h; exact h); have HB9 := Lib.hid (show Below wr.heap.size wr w9 from HAL.out.grown hgrow HAL.out.size (fun g hg => own_base HE0.out g hg)); clear hown' hgrow hloc)
                        obtain ⟨gv, cv, curv, rfl, hgv, hhv, hnv, hcv, hcs⟩ := own_form HO9.out h1L
                        clear HO8 HAL HE0 HBR
                        have h1 : Below w9.heap.size w9 (w9.alloc (.cells #[.int .u8 0, .int .u8 1, .int .u8 2, .int .u8 3, .int .u8 34, .int .u8 127, .int .u8 128, .int .u8 255] 5)) := (Below.refl _ _).alloc (Nat.le_refl _) _
                        obtain ⟨x8, qx⟩ := lit8 w9 hlt7
                        have hh9 := heap_keep h1 hhv
                        obtain ⟨yv, qv⟩ := cell_some (j := p) hh9 (by omega)
                        have fv := Go.Joins.unfrozen_of_block hh9 p
                        have HO10 := Lib.hid (own_setCell (j := p) (own_below HO9.out h1) (.int .u8 (x8.toNat : Int)))
                        have HB10 := Lib.hid (HB8.out.trans (((HB9.out.trans (h1.mono HB9.out.size)).setCell (p := ⟨gv, p, none⟩) hgv (.int .u8 (x8.toNat : Int))).mono HB8.out.size))
                        clear h1 hh9 hhv HO9 HB9 hgv hcv hcs
                        go_upto_region 56 with (fail)
                        clear qx qv fv
                        generalize (w9.alloc (.cells #[.int .u8 0, .int .u8 1, .int .u8 2, .int .u8 3, .int .u8 34, .int .u8 127, .int .u8 128, .int .u8 255] 5)).setCell ⟨gv, p, none⟩ (.int .u8 (x8.toNat : Int)) = w10 at HO10 HB10 ⊢
                        have hbr : BR w10 (.slice (some ⟨gv, 0, none⟩) n cv) (L.set p x8) := BR.of_own (by rw [← byC_set]; exact HO10.out)
                        have F4 := Lib.hid (parses_any hbr (cap_take hnv) (by rw [List.length_set, HN.out]; omega))
                        clear hbr
                        go_wp2_with (go_at_call 4; refine F4.out.mono ?_; clear F4; rintro z w11 ⟨hz, hw⟩; subst hz; have HB11 := Lib.hid (HB10.out.trans (hw.mono HB10.out.size)); clear hw)
                        go_roundw
                        case rel => exact ⟨q + 1, by omega, by go_num, HB11.out⟩
                        case measure => simp [Lib.intOf]; omega
                      · have hpni : (n : Int) ≤ (p : Int) := by omega
                        go_wp2_with fail
                        go_roundw
                        case rel => exact ⟨p + 1, by omega, by go_num, HB8.out⟩
                        case measure => simp [Lib.intOf]; omega
                    · clear hq
                      go_wp2_with fail
                      go_roundw
                      case rel => exact ⟨p + 1, by omega, by go_num, HB8.out⟩
                      case measure => simp [Lib.intOf]; omega
                · clear hp
                  have HO8 := Lib.hid (own_below HO.out HB6.out)
                  have hal : Below wr.heap.size wr (wr.alloc (.cells #[.int .u8 0] 5)) := (Below.refl _ _).alloc (Nat.le_refl _) _
                  have HAL := Lib.hid hal
                  have HRW := Lib.hid (own_below HO8.out hal)
                  have HMR := Lib.hid (show M ≤ wr.heap.size from Nat.le_trans HMB.out HB6.out.size)
                  have HBR := Lib.hid (show BR (wr.alloc (.cells #[.int .u8 0] 5)) (.slice (some ⟨wr.heap.size, 0, none⟩) 1 1) [0] from BR.of_own (World.ownsRow_lit (base := wr.heap.size) (e := 5) (size := 1) wr #[.int .u8 0] 1 (Nat.le_refl _) (by unfold maxLen; omega) rfl))
                  clear hal
                  go_wp2_with (first
                    | (at_builtin; refine wpList_append_br (v := .slice (some ⟨gb, 0, none⟩) n cb) rfl _ _ rfl (base := M) Try.underlying34 HI5.out.1 HI5.out.2.1 HI5.out.2.2.1 HI5.out.2.2.2 rfl HRW.out rfl HBR.out (by simp; omega) (Nat.le_trans HMR.out HAL.out.size) ?_; intro v' w9 hown' hgrow hloc; have hO9 : w9.ownsRow M 5 1 v' (n + 1) (byC (L ++ [0])) := (by rw [byC_app]; exact hown'); have HB9 := Lib.hid (show Below M wr w9 from (HAL.out.mono HMR.out).grown hgrow (Nat.le_trans HMR.out HAL.out.size) (fun g hg => own_base HRW.out g hg)); have F4 := Lib.hid (parses_any (BR.of_own hO9) (cap_own hO9) (by rw [List.length_append, HN.out, List.length_singleton]; omega)); clear hown' hgrow hloc hO9)
                    | (go_at_call 4; refine F4.out.mono ?_; clear F4; rintro z w11 ⟨hz, hw⟩; subst hz; have HB11 := Lib.hid (HB9.out.trans (hw.mono (Nat.le_trans HMR.out HB9.out.size))); clear hw)
                    | (go_at_call 10; refine (awake_any _).mono ?_; rintro z w12 ⟨hz, hw⟩; subst hz; have HB12 := Lib.hid (HB11.out.trans (hw.mono (Nat.le_trans HMR.out HB11.out.size))); clear hw))
                  go_ret
                  have hwM : w.heap.size ≤ M := by have := HM.out; have := HB0.out.size; omega
                  exact ⟨rfl, HB0.out.trans (((HVB.out.trans ((HB6.out.mono HMB.out).trans HB12.out))).mono hwM)⟩
end Go.Proofs.Ytpoefcpgcojppaa

namespace Go.Proofs.Ytpoefcpgcojppaa
open Go.ChangeShapes Go.WideShapes Go.ChangeAt Go.RowKit Go.Deep Go.Joins
set_option linter.unusedVariables false

theorem own : ownKnob Try.prog.godebug = none := by kernel_rfl
theorem laidB : laidOutB Try.prog = true := by kernel_rfl
theorem cells3 : Try.prog.cellsOf 3 = 1 := by kernel_rfl
theorem cells5 : Try.prog.cellsOf 5 = 1 := by kernel_rfl
theorem cells9 : Try.prog.cellsOf 9 = 1 := by kernel_rfl
theorem cells22 : Try.prog.cellsOf 22 = 1 := by kernel_rfl
theorem cells24 : Try.prog.cellsOf 24 = 5 := by kernel_rfl
theorem cells31 : Try.prog.cellsOf 31 = 3 := by kernel_rfl
theorem cells53 : Try.prog.cellsOf 53 = 4 := by kernel_rfl
theorem read24 : Try.prog.readableRec 24 = true := by kernel_rfl
theorem read34 : Try.prog.readableRec 34 = true := by kernel_rfl
theorem lt24 : 24 < Try.prog.types.size := of_decide_eq_true (by kernel_rfl)
theorem lt34 : 34 < Try.prog.types.size := of_decide_eq_true (by kernel_rfl)
theorem bytes53 : Try.prog.bytesOf 53 = 48 := by kernel_rfl
theorem bytes5 : Try.prog.bytesOf 5 = 1 := by kernel_rfl
theorem cells29 : Try.prog.cellsOf 29 = 1 := by kernel_rfl
theorem weightsAll_mem {H : Type} {P : Program} {e : TypeId} : ∀ {ds : List (DataW H)} {d : DataW H} {n : Nat}, d ∈ ds → n ∈ d.weights P e → n ∈ DataW.weightsAll P e ds
  | x :: r, d, n, hd, hn => by
    simp only [DataW.weightsAll, List.mem_append]
    rcases List.mem_cons.1 hd with rfl | hd
    · exact .inl hn
    · exact .inr (weightsAll_mem hd hn)
theorem len3 {α : Type} {cs : List α} (h : cs.length = 3) : ∃ v0 v1 v2, cs = [v0, v1, v2] := by
  match cs, h with
  | [a, b, c], _ => exact ⟨a, b, c, rfl⟩
theorem len4 {α : Type} {cs : List α} (h : cs.length = 4) : ∃ v0 v1 v2 v3, cs = [v0, v1, v2, v3] := by
  match cs, h with
  | [a, b, c, d], _ => exact ⟨a, b, c, d, rfl⟩
theorem len5 {α : Type} {cs : List α} (h : cs.length = 5) : ∃ v0 v1 v2 v3 v4, cs = [v0, v1, v2, v3, v4] := by
  match cs, h with
  | [a, b, c, d, e], _ => exact ⟨a, b, c, d, e, rfl⟩

section
variable {H : Type} {enc : TypeId × Value → H} {P : Program} {w : World} {base : Nat} {spare : Nat → Bool} {held : Bool}
theorem trod_struct5 {t : TypeId} {f0 f1 f2 f3 f4 : Field} {fuel : Nat} {cs : List Value} {x : DataW H × List MemPlace} (ht : P.underlying t = some (.struct #[f0, f1, f2, f3, f4])) (h : DataW.trod enc P w base spare held fuel t cs = some x) :
    ∃ y0 y1 y2 y3 y4 n, x = (.agg [y0.1, y1.1, y2.1, y3.1, y4.1], y0.2 ++ (y1.2 ++ (y2.2 ++ (y3.2 ++ y4.2)))) ∧ cs.length = P.cellsOf t ∧ DataW.trod enc P w base spare held n f0.type ((cs.drop f0.offset).take (P.cellsOf f0.type)) = some y0 ∧
      DataW.trod enc P w base spare held n f1.type ((cs.drop f1.offset).take (P.cellsOf f1.type)) = some y1 ∧ DataW.trod enc P w base spare held n f2.type ((cs.drop f2.offset).take (P.cellsOf f2.type)) = some y2 ∧
      DataW.trod enc P w base spare held n f3.type ((cs.drop f3.offset).take (P.cellsOf f3.type)) = some y3 ∧ DataW.trod enc P w base spare held n f4.type ((cs.drop f4.offset).take (P.cellsOf f4.type)) = some y4 := by
  obtain ⟨xs, n, _, rfl, hl, hlen, hf⟩ := DataW.trod_struct ht h
  match xs, hlen with
  | [y0, y1, y2, y3, y4], _ => exact ⟨y0, y1, y2, y3, y4, n, by simp, hl, by simpa using hf 0 f0 rfl, by simpa using hf 1 f1 rfl, by simpa using hf 2 f2 rfl, by simpa using hf 3 f3 rfl, by simpa using hf 4 f4 rfl⟩
theorem array5 {α : Type} {cs : Array α} (h : cs.size = 5) : ∃ c0 c1 c2 c3 c4, cs = #[c0, c1, c2, c3, c4] := by
  obtain ⟨l⟩ := cs
  match l, h with
  | [c0, c1, c2, c3, c4], _ => exact ⟨c0, c1, c2, c3, c4, rfl⟩
theorem open_agg5 {r : Reach} {b0 : Nat} {t : TypeId} {f0 f1 f2 f3 f4 : Field} {v : Value} {d : DataW H} {p : List MemPlace} (hs : P.underlying t = some (.struct #[f0, f1, f2, f3, f4])) (hone : oneCellFields P #[f0, f1, f2, f3, f4] = true) (hC : P.cellsOf t = 5)
    (hv : Value.okWide P w r b0 t v) (h : DataW.Trod enc P w base spare held t v d p) :
    ∃ (v0 v1 v2 v3 v4 : Value) (y0 y1 y2 y3 y4 : DataW H × List MemPlace) (n : Nat), v = .agg #[v0, v1, v2, v3, v4] ∧ d = .agg [y0.1, y1.1, y2.1, y3.1, y4.1] ∧ p = y0.2 ++ (y1.2 ++ (y2.2 ++ (y3.2 ++ y4.2))) ∧
      DataW.trod enc P w base spare held n f0.type [v0] = some y0 ∧ DataW.trod enc P w base spare held n f1.type [v1] = some y1 ∧ DataW.trod enc P w base spare held n f2.type [v2] = some y2 ∧ DataW.trod enc P w base spare held n f3.type [v3] = some y3 ∧ DataW.trod enc P w base spare held n f4.type [v4] = some y4 := by
  obtain ⟨cs, rfl, hsz⟩ := okWide_struct hs hv
  obtain ⟨c0, c1, c2, c3, c4, rfl⟩ := array5 (hsz.trans hC)
  obtain ⟨fuel, hf⟩ := h
  obtain ⟨y0, y1, y2, y3, y4, n, hx, _, h0, h1, h2, h3, h4⟩ := trod_struct5 hs hf
  obtain ⟨o0, k0⟩ := hone_of hone 0 f0 rfl
  obtain ⟨o1, k1⟩ := hone_of hone 1 f1 rfl
  obtain ⟨o2, k2⟩ := hone_of hone 2 f2 rfl
  obtain ⟨o3, k3⟩ := hone_of hone 3 f3 rfl
  obtain ⟨o4, k4⟩ := hone_of hone 4 f4 rfl
  simp only [Prod.mk.injEq] at hx
  exact ⟨c0, c1, c2, c3, c4, y0, y1, y2, y3, y4, n, rfl, hx.1, hx.2, by simpa [Value.cells, o0, k0] using h0, by simpa [Value.cells, o1, k1] using h1, by simpa [Value.cells, o2, k2] using h2, by simpa [Value.cells, o3, k3] using h3, by simpa [Value.cells, o4, k4] using h4⟩
end

theorem PR.mk4 {w : World} {A : Option Addr} {c : Nat} {l : List Pt} (h : 0 < l.length → ∃ ad, A = some ad ∧ ad.block < w.heap.size ∧ ∀ k (hk : k < l.length), w.cell? (ad.add (k * 4)) = some (.string l[k].1) ∧ w.cell? (ad.add (k * 4 + 1)) = some (.int .i64 l[k].2.1) ∧ w.cell? (ad.add (k * 4 + 2)) = some (.int .i64 l[k].2.2.1) ∧ w.cell? (ad.add (k * 4 + 3)) = some (.string l[k].2.2.2)) : PR w (.slice A l.length c) l := by
  refine ⟨A, c, rfl, fun hn => ?_⟩
  obtain ⟨ad, h1, h2, h3⟩ := h hn
  refine ⟨ad, h1, h2, fun j u hj => ?_⟩
  have hlt := (List.getElem?_eq_some_iff.1 hj).1
  rw [flatP_len] at hlt
  have hk : j / 4 < l.length := by omega
  obtain ⟨e0, e1, e2, e3⟩ := h3 _ hk
  obtain ⟨f0, f1, f2, f3⟩ := flatP_at l _ hk
  have hr : j % 4 = 0 ∨ j % 4 = 1 ∨ j % 4 = 2 ∨ j % 4 = 3 := by omega
  rcases hr with hr | hr | hr | hr
  · have ej : j / 4 * 4 = j := by omega
    rw [ej] at f0 e0
    rw [f0] at hj
    injection hj with hj
    exact hj ▸ e0
  · have ej : j / 4 * 4 + 1 = j := by omega
    rw [ej] at f1 e1
    rw [f1] at hj
    injection hj with hj
    exact hj ▸ e1
  · have ej : j / 4 * 4 + 2 = j := by omega
    rw [ej] at f2 e2
    rw [f2] at hj
    injection hj with hj
    exact hj ▸ e2
  · have ej : j / 4 * 4 + 3 = j := by omega
    rw [ej] at f3 e3
    rw [f3] at hj
    injection hj with hj
    exact hj ▸ e3

theorem open_prop {H : Type} {enc : TypeId × Value → H} {w : World} {n : Nat} {ad : Addr} {cs : List Value} {x : DataW H × List MemPlace} (hc : w.cells? 0 ad 4 = some cs) (h : DataW.trod enc Try.prog w 0 (fun _ => true) true n 53 cs = some x) :
    ∃ y : Pt, (w.cell? (ad.add 0) = some (.string y.1) ∧ w.cell? (ad.add 1) = some (.int .i64 y.2.1) ∧ w.cell? (ad.add 2) = some (.int .i64 y.2.2.1) ∧ w.cell? (ad.add 3) = some (.string y.2.2.2)) ∧ ((∀ n ∈ x.1.weights Try.prog 53, n ≤ reachBytes) → y.1.size ≤ reachBytes ∧ y.2.2.2.size ≤ reachBytes) := by
  obtain ⟨y0, y1, k, hx, hl, h0, h1⟩ := trod_struct2 Try.underlying53 h
  obtain ⟨_, hlen, hcell⟩ := World.cells?_some hc
  obtain ⟨v0, v1, v2, v3, rfl⟩ : ∃ v0 v1 v2 v3, cs = [v0, v1, v2, v3] := len4 hlen
  have e0 := hcell 0 (by omega)
  have e1 := hcell 1 (by omega)
  have e2 := hcell 2 (by omega)
  have e3 := hcell 3 (by omega)
  simp only [cells9, cells31, List.drop_zero, List.drop_succ_cons, List.take_succ_cons, List.take_zero] at h0 h1
  obtain ⟨z0, z1, z2, k', hx1, hl1, g0, g1, g2⟩ := trod_struct3 Try.underlying31 h1
  simp only [cells3, cells9, cells29, List.drop_zero, List.drop_succ_cons, List.take_succ_cons, List.take_zero] at g0 g1 g2
  obtain ⟨s0, f0, t0, _⟩ := DataW.trod_string Try.underlying9 h0
  obtain ⟨k1, f1, t1, _⟩ := DataW.trod_int Try.underlying29 g0
  obtain ⟨k2, f2, t2, _⟩ := DataW.trod_int Try.underlying3 g1
  obtain ⟨s3, f3, t3, _⟩ := DataW.trod_string Try.underlying9 g2
  injection f0 with f0
  injection f1 with f1
  injection f2 with f2
  injection f3 with f3
  refine ⟨(s0, k1, k2, s3), ⟨?_, ?_, ?_, ?_⟩, fun hw => ⟨?_, ?_⟩⟩
  · rw [e0, ← f0]; rfl
  · rw [e1, ← f1]; rfl
  · rw [e2, ← f2]; rfl
  · rw [e3, ← f3]; rfl
  · have := hw s0.data.toList.length (by rw [hx]; simp [DataW.weights, Try.underlying53, DataW.weightsEach, t0])
    rw [Array.length_toList] at this
    exact this
  · have := hw s3.data.toList.length (by rw [hx, hx1]; simp [DataW.weights, Try.underlying53, Try.underlying31, DataW.weightsEach, t3])
    rw [Array.length_toList] at this
    exact this

theorem open_props {H : Type} {enc : TypeId × Value → H} {w : World} {n : Nat} {V : Value} {x : DataW H × List MemPlace} (h : DataW.trod enc Try.prog w 0 (fun _ => true) true n 22 [V] = some x) :
    ∃ l, PR w V l ∧ ((∀ n ∈ x.1.weights Try.prog 22, n ≤ reachBytes) → l.length ≤ reachBytes ∧ ∀ p ∈ l, p.1.size ≤ reachBytes ∧ p.2.2.2.size ≤ reachBytes) := by
  rcases open_slice Try.underlying22 h with ⟨hcs, hx⟩ | ⟨a, len, cap, m, n', D, Pl, hcs, _, hl, hm, hmm, hx, hi⟩
  · obtain rfl : V = .slice none 0 0 := by simpa using hcs
    exact ⟨[], PR.nil _ _ _, fun _ => ⟨Nat.zero_le _, fun p hp => by cases hp⟩⟩
  · obtain rfl : V = .slice (some a) len cap := by simpa using hcs
    simp only [if_true] at hmm
    subst hmm
    rw [cells53] at hi
    obtain ⟨Lf, hLf⟩ := choose_lt (α := Pt) (p := fun i y => (w.cell? (a.add (i * 4)) = some (.string y.1) ∧ w.cell? (a.add (i * 4 + 1)) = some (.int .i64 y.2.1) ∧ w.cell? (a.add (i * 4 + 2)) = some (.int .i64 y.2.2.1) ∧ w.cell? (a.add (i * 4 + 3)) = some (.string y.2.2.2)) ∧ ((∀ n ∈ (D i).weights Try.prog 53, n ≤ reachBytes) → y.1.size ≤ reachBytes ∧ y.2.2.2.size ≤ reachBytes)) (n := len)
      (fun i hi' => by
        obtain ⟨cs', h1, h2⟩ := hi i (by omega)
        obtain ⟨y, ⟨y1, y2, y3, y4⟩, y5⟩ := open_prop h1 h2
        rw [add_of_add] at y1 y2 y3 y4
        exact ⟨y, ⟨y1, y2, y3, y4⟩, y5⟩)
    have hlen : ((List.range len).map Lf).length = len := by simp
    refine ⟨(List.range len).map Lf, ?_, fun hw => ⟨?_, fun p hp => ?_⟩⟩
    · have := PR.mk4 (w := w) (A := some a) (c := m) (l := (List.range len).map Lf) (fun hn => ⟨a, rfl, ?_, fun k hk => ?_⟩)
      · rwa [hlen] at this
      · rw [hlen] at hn
        have := World.block_lt_of_cell? _ _ (hLf 0 hn).1.1
        rwa [block_add] at this
      · rw [hlen] at hk
        simp only [List.getElem_map, List.getElem_range]
        exact (hLf k hk).1
    · have h1 := hw ((((List.range len).map D).length + ((List.range (m - len)).map fun j => D (len + j)).length) * Try.prog.bytesOf 53) (by rw [hx]; simp [DataW.weights, Try.underlying22])
      rw [bytes53] at h1
      simp at h1
      rw [hlen]
      omega
    · obtain ⟨i, hi', rfl⟩ := List.mem_map.1 hp
      rw [List.mem_range] at hi'
      refine (hLf i hi').2 fun n hn => hw n ?_
      rw [hx]
      simp only [DataW.weights, Try.underlying22, List.mem_cons, List.mem_append]
      exact .inr (.inl (weightsAll_mem (List.mem_map.2 ⟨i, List.mem_range.2 hi', rfl⟩) hn))

def SzB (e : Ed) : Prop := e.src.size ≤ reachBytes ∧ e.dst.size ≤ reachBytes ∧ e.lab.size ≤ reachBytes ∧ e.props.length ≤ reachBytes ∧ ∀ p ∈ e.props, p.1.size ≤ reachBytes ∧ p.2.2.2.size ≤ reachBytes

set_option maxRecDepth 100000 in
/-- an edge among the arguments -/
theorem open_edge {H : Type} {enc : TypeId × Value → H} {W : World} {v : Value} {d : DataW H} {p : List MemPlace} {base : Nat} (hv : Value.okWide Try.prog W .any base 24 v) (h : DataW.Trod enc Try.prog W 0 (fun _ => true) true 24 v d p) :
    ∃ (x : Ed) (pv : Value), v = x.v pv ∧ PR W pv x.props ∧ ((∀ n ∈ d.weights Try.prog 24, n ≤ reachBytes) → SzB x) := by
  obtain ⟨v0, v1, v2, v3, v4, y0, y1, y2, y3, y4, n, rfl, rfl, rfl, h0, h1, h2, h3, h4⟩ := open_agg5 Try.underlying24 (by kernel_rfl) cells24 hv h
  obtain ⟨s0, f0, t0, _⟩ := DataW.trod_string Try.underlying9 h0
  obtain ⟨s1, f1, t1, _⟩ := DataW.trod_string Try.underlying9 h1
  obtain ⟨s2, f2, t2, _⟩ := DataW.trod_string Try.underlying9 h2
  obtain ⟨k3, f3, t3, _⟩ := DataW.trod_int Try.underlying3 h3
  obtain ⟨l, hl, hw4⟩ := open_props h4
  injection f0 with f0
  injection f1 with f1
  injection f2 with f2
  injection f3 with f3
  subst f0 f1 f2 f3
  refine ⟨⟨s0, s1, s2, k3, l⟩, v4, rfl, hl, fun hw => ?_⟩
  have hh4 := hw4 (fun n hn => hw n (by simp only [DataW.weights, Try.underlying24]; simp [DataW.weightsEach, hn]))
  refine ⟨?_, ?_, ?_, hh4.1, hh4.2⟩
  · have := hw s0.data.toList.length (by simp only [DataW.weights, Try.underlying24]; simp [DataW.weightsEach, t0, DataW.weights])
    rw [Array.length_toList] at this
    exact this
  · have := hw s1.data.toList.length (by simp only [DataW.weights, Try.underlying24]; simp [DataW.weightsEach, t1, DataW.weights])
    rw [Array.length_toList] at this
    exact this
  · have := hw s2.data.toList.length (by simp only [DataW.weights, Try.underlying24]; simp [DataW.weightsEach, t2, DataW.weights])
    rw [Array.length_toList] at this
    exact this
end Go.Proofs.Ytpoefcpgcojppaa

namespace Go.Proofs.Ytpoefcpgcojppaa
open Go.ChangeShapes Go.WideShapes Go.ChangeAt Go.RowKit Go.Deep Go.Joins
set_option linter.unusedVariables false

theorem open_bytes {H : Type} {enc : TypeId × Value → H} {w : World} {n : Nat} {V : Value} {x : DataW H × List MemPlace} (h : DataW.trod enc Try.prog w 0 (fun _ => true) true n 34 [V] = some x) :
    ∃ l, BR w V l ∧ CapOk V ∧ ((∀ n ∈ x.1.weights Try.prog 34, n ≤ reachBytes) → l.length ≤ reachBytes) := by
  rcases open_slice1 Try.underlying34 cells5 h with ⟨hcs, hx⟩ | ⟨a, len, cap, m, n', Vs, D, Pl, hcs, _, hl, hm, hmm, rfl, hx⟩
  · obtain rfl : V = .slice none 0 0 := by simpa using hcs
    exact ⟨[], BR.nil _ _ _, cap_nil, fun _ => Nat.zero_le _⟩
  · obtain rfl : V = .slice (some a) len cap := by simpa using hcs
    simp only [if_true] at hmm
    subst hmm
    obtain ⟨Lf, hLf⟩ := choose_lt (α := UInt8) (p := fun i b => Vs i = .int .u8 (b.toNat : Int)) (n := len) (fun i hi => by
      obtain ⟨k0, f0, g0, h0⟩ := DataW.trod_int Try.underlying5 (hx i (by omega)).2
      injection f0 with f0
      simp only [Lit.wf, Bool.and_eq_true, decide_eq_true_eq, show IntKind.u8.min = 0 from rfl, show IntKind.u8.max = 255 from rfl] at h0
      refine ⟨UInt8.ofNat k0.toNat, ?_⟩
      rw [f0, UInt8.toNat_ofNat']
      congr 1
      omega)
    have hlen : ((List.range len).map Lf).length = len := by simp
    refine ⟨(List.range len).map Lf, ⟨some a, m, by rw [hlen], fun hn => ⟨a, rfl, ?_, fun j u hj => ?_⟩⟩, ?_, fun hw => ?_⟩
    · rw [hlen] at hn
      have := World.block_lt_of_cell? _ _ (hx 0 (by omega)).1
      rwa [block_add] at this
    · have hj' := (List.getElem?_eq_some_iff.1 hj).1
      rw [byC_len, hlen] at hj'
      rw [(hx j (by omega)).1, hLf j hj', ← hj]
      simp [byC, hj']
    · intro A n c e
      injection e with e1 e2 e3
      subst e1 e2 e3
      exact ⟨hl, fun h => by cases h⟩
    · have h1 := hw (((List.map D (List.range len)).length + (List.map (fun j => D (len + j)) (List.range (m - len))).length) * Try.prog.bytesOf 5) (by simp [DataW.weights, Try.underlying34])
      rw [bytes5] at h1
      simp at h1
      rw [hlen]
      omega

/-- arguments that are only read, a plain result -/
theorem post_read {H : Type} {enc : TypeId × Value → H} {P : Program} {f : Func} {s : ChangeSpec} {W W' : World} {args : Array Value} {v : Value} {ds gs : List (DataW H)} {before pa pv : List MemPlace}
    (hW : DataW.Whole enc P f.params.toList s.vars false W args.toList ds gs before)
    (hres : ∀ (b : Nat) (sp : Nat → Bool) (hd : Bool), DataW.TrodAll enc P W' b sp hd f.resultTypes.toList (v.resultList f.resultTypes.size) (s.fn H (ds ++ gs)).results [])
    (hargs : DataW.TrodAll enc P W' 0 (fun b => decide (b < W.heap.size)) true f.params.toList args.toList (s.fn H (ds ++ gs)).args pa)
    (hvars : DataW.TrodVars enc P W' (fun b => decide (b < W.heap.size)) s.vars (s.fn H (ds ++ gs)).vars pv)
    (hps : before = pa ++ pv) (hb : Below W.heap.size W W') : s.post enc P f false true false false W args v W' := by
  refine ⟨ds, gs, before, [], pa, pv, hW, hres _ _ _, hargs, hvars, World.keptBut_mono (fun p hp => ⟨hp, ?_⟩) (hb.frame (· ∈ before)), fun h => by cases h⟩
  rw [hps, List.mem_append] at hp
  exact .inr hp
theorem sz_of {e : Ed} (h : SzB e) : SzE e := by
  have hr := reachBytes_lt
  obtain ⟨h1, h2, h3, h4, h5⟩ := h
  exact ⟨by omega, by omega, by omega, by omega, fun p hp => ⟨by have := (h5 p hp).1; omega, by have := (h5 p hp).2; omega⟩⟩
end Go.Proofs.Ytpoefcpgcojppaa

namespace Go.Proofs.Ytpoefcpgcojppaa
open Go.ChangeShapes Go.WideShapes Go.ChangeAt Go.RowKit Go.Deep Go.Joins
set_option linter.unusedVariables false

theorem read26 : Try.prog.readableRec 26 = true := by kernel_rfl
theorem lt26 : 26 < Try.prog.types.size := of_decide_eq_true (by kernel_rfl)
theorem bytes24 : Try.prog.bytesOf 24 = 80 := by kernel_rfl
theorem cells26 : Try.prog.cellsOf 26 = 1 := by kernel_rfl

theorem ER.mk5 {w : World} {A : Option Addr} {c : Nat} {l : List Ev} (h : 0 < l.length → ∃ ad, A = some ad ∧ ad.block < w.heap.size ∧ ∀ k (hk : k < l.length), w.cell? (ad.add (k * 5)) = some (.string l[k].1.src) ∧ w.cell? (ad.add (k * 5 + 1)) = some (.string l[k].1.dst) ∧ w.cell? (ad.add (k * 5 + 2)) = some (.string l[k].1.lab) ∧ w.cell? (ad.add (k * 5 + 3)) = some (.int .i64 l[k].1.time) ∧ w.cell? (ad.add (k * 5 + 4)) = some l[k].2) (he : ∀ p ∈ l, PR w p.2 p.1.props) : ER w (.slice A l.length c) l := by
  refine ⟨⟨A, c, rfl, fun hn => ?_⟩, he⟩
  obtain ⟨ad, h1, h2, h3⟩ := h hn
  refine ⟨ad, h1, h2, fun j u hj => ?_⟩
  have hlt := (List.getElem?_eq_some_iff.1 hj).1
  rw [flatX_len] at hlt
  have hk : j / 5 < l.length := by omega
  obtain ⟨e0, e1, e2, e3, e4⟩ := h3 _ hk
  obtain ⟨f0, f1, f2, f3, f4⟩ := flatX_at l _ hk
  have hr : j % 5 = 0 ∨ j % 5 = 1 ∨ j % 5 = 2 ∨ j % 5 = 3 ∨ j % 5 = 4 := by omega
  rcases hr with hr | hr | hr | hr | hr
  · have ej : j / 5 * 5 = j := by omega
    rw [ej] at f0 e0
    rw [f0] at hj
    injection hj with hj
    exact hj ▸ e0
  · have ej : j / 5 * 5 + 1 = j := by omega
    rw [ej] at f1 e1
    rw [f1] at hj
    injection hj with hj
    exact hj ▸ e1
  · have ej : j / 5 * 5 + 2 = j := by omega
    rw [ej] at f2 e2
    rw [f2] at hj
    injection hj with hj
    exact hj ▸ e2
  · have ej : j / 5 * 5 + 3 = j := by omega
    rw [ej] at f3 e3
    rw [f3] at hj
    injection hj with hj
    exact hj ▸ e3
  · have ej : j / 5 * 5 + 4 = j := by omega
    rw [ej] at f4 e4
    rw [f4] at hj
    injection hj with hj
    exact hj ▸ e4

set_option maxRecDepth 100000 in
theorem open_cells5 {H : Type} {enc : TypeId × Value → H} {w : World} {n : Nat} {ad : Addr} {cs : List Value} {x : DataW H × List MemPlace} (hc : w.cells? 0 ad 5 = some cs) (h : DataW.trod enc Try.prog w 0 (fun _ => true) true n 24 cs = some x) :
    ∃ y : Ev, (w.cell? (ad.add 0) = some (.string y.1.src) ∧ w.cell? (ad.add 1) = some (.string y.1.dst) ∧ w.cell? (ad.add 2) = some (.string y.1.lab) ∧ w.cell? (ad.add 3) = some (.int .i64 y.1.time) ∧ w.cell? (ad.add 4) = some y.2) ∧ PR w y.2 y.1.props ∧ ((∀ n ∈ x.1.weights Try.prog 24, n ≤ reachBytes) → SzB y.1) := by
  obtain ⟨y0, y1, y2, y3, y4, k, hx, hl, h0, h1, h2, h3, h4⟩ := trod_struct5 Try.underlying24 h
  obtain ⟨_, hlen, hcell⟩ := World.cells?_some hc
  obtain ⟨v0, v1, v2, v3, v4, rfl⟩ : ∃ v0 v1 v2 v3 v4, cs = [v0, v1, v2, v3, v4] := len5 hlen
  have e0 := hcell 0 (by omega)
  have e1 := hcell 1 (by omega)
  have e2 := hcell 2 (by omega)
  have e3 := hcell 3 (by omega)
  have e4 := hcell 4 (by omega)
  simp only [cells9, cells3, cells22, List.drop_zero, List.drop_succ_cons, List.take_succ_cons, List.take_zero] at h0 h1 h2 h3 h4
  obtain ⟨s0, f0, t0, _⟩ := DataW.trod_string Try.underlying9 h0
  obtain ⟨s1, f1, t1, _⟩ := DataW.trod_string Try.underlying9 h1
  obtain ⟨s2, f2, t2, _⟩ := DataW.trod_string Try.underlying9 h2
  obtain ⟨k3, f3, t3, _⟩ := DataW.trod_int Try.underlying3 h3
  obtain ⟨l, hpr, hw4⟩ := open_props h4
  injection f0 with f0
  injection f1 with f1
  injection f2 with f2
  injection f3 with f3
  refine ⟨(⟨s0, s1, s2, k3, l⟩, v4), ⟨?_, ?_, ?_, ?_, ?_⟩, hpr, fun hw => ?_⟩
  · rw [e0, ← f0]; rfl
  · rw [e1, ← f1]; rfl
  · rw [e2, ← f2]; rfl
  · rw [e3, ← f3]; rfl
  · rw [e4]; rfl
  · rw [hx] at hw
    have hh4 := hw4 (fun n hn => hw n (by simp only [DataW.weights, Try.underlying24]; simp [DataW.weightsEach, hn]))
    refine ⟨?_, ?_, ?_, hh4.1, hh4.2⟩
    · have := hw s0.data.toList.length (by simp only [DataW.weights, Try.underlying24]; simp [DataW.weightsEach, t0, DataW.weights])
      rw [Array.length_toList] at this
      exact this
    · have := hw s1.data.toList.length (by simp only [DataW.weights, Try.underlying24]; simp [DataW.weightsEach, t1, DataW.weights])
      rw [Array.length_toList] at this
      exact this
    · have := hw s2.data.toList.length (by simp only [DataW.weights, Try.underlying24]; simp [DataW.weightsEach, t2, DataW.weights])
      rw [Array.length_toList] at this
      exact this

theorem open_edges {H : Type} {enc : TypeId × Value → H} {w : World} {n : Nat} {V : Value} {x : DataW H × List MemPlace} (h : DataW.trod enc Try.prog w 0 (fun _ => true) true n 26 [V] = some x) :
    ∃ l : List Ev, ER w V l ∧ ((∀ n ∈ x.1.weights Try.prog 26, n ≤ reachBytes) → l.length ≤ reachBytes ∧ ∀ p ∈ l, SzB p.1) := by
  rcases open_slice Try.underlying26 h with ⟨hcs, hx⟩ | ⟨a, len, cap, m, n', D, Pl, hcs, _, hl, hm, hmm, hx, hi⟩
  · obtain rfl : V = .slice none 0 0 := by simpa using hcs
    exact ⟨[], ⟨⟨none, 0, rfl, fun h0 => absurd h0 (by simp)⟩, by simp⟩, fun _ => ⟨Nat.zero_le _, fun p hp => by cases hp⟩⟩
  · obtain rfl : V = .slice (some a) len cap := by simpa using hcs
    simp only [if_true] at hmm
    subst hmm
    rw [cells24] at hi
    have hch : ∀ i, i < len → ∃ y : Ev, (w.cell? (a.add (i * 5)) = some (.string y.1.src) ∧ w.cell? (a.add (i * 5 + 1)) = some (.string y.1.dst) ∧ w.cell? (a.add (i * 5 + 2)) = some (.string y.1.lab) ∧ w.cell? (a.add (i * 5 + 3)) = some (.int .i64 y.1.time) ∧ w.cell? (a.add (i * 5 + 4)) = some y.2) ∧ PR w y.2 y.1.props ∧ ((∀ n ∈ (D i).weights Try.prog 24, n ≤ reachBytes) → SzB y.1) := fun i hi' => by
      obtain ⟨cs', h1, h2⟩ := hi i (by omega)
      obtain ⟨y, ⟨y1, y2, y3, y4, y5⟩, y6, y7⟩ := open_cells5 h1 h2
      rw [add_of_add] at y1 y2 y3 y4 y5
      exact ⟨y, ⟨y1, y2, y3, y4, y5⟩, y6, y7⟩
    let Lf : Nat → Ev := fun i => if h : i < len then (hch i h).choose else (⟨⟨#[]⟩, ⟨#[]⟩, ⟨#[]⟩, 0, []⟩, .slice none 0 0)
    have hLf : ∀ i, i < len → (w.cell? (a.add (i * 5)) = some (.string (Lf i).1.src) ∧ w.cell? (a.add (i * 5 + 1)) = some (.string (Lf i).1.dst) ∧ w.cell? (a.add (i * 5 + 2)) = some (.string (Lf i).1.lab) ∧ w.cell? (a.add (i * 5 + 3)) = some (.int .i64 (Lf i).1.time) ∧ w.cell? (a.add (i * 5 + 4)) = some (Lf i).2) ∧ PR w (Lf i).2 (Lf i).1.props ∧ ((∀ n ∈ (D i).weights Try.prog 24, n ≤ reachBytes) → SzB (Lf i).1) := fun i h => by
      show _ ∧ _
      simp only [Lf, dif_pos h]
      exact (hch i h).choose_spec
    have hlen : ((List.range len).map Lf).length = len := by simp
    refine ⟨(List.range len).map Lf, ?_, fun hw => ⟨?_, fun p hp => ?_⟩⟩
    · have := ER.mk5 (w := w) (A := some a) (c := m) (l := (List.range len).map Lf) (fun hn => ⟨a, rfl, ?_, fun k hk => ?_⟩) (fun p hp => ?_)
      · rwa [hlen] at this
      · rw [hlen] at hn
        have := World.block_lt_of_cell? _ _ (hLf 0 hn).1.1
        rwa [block_add] at this
      · rw [hlen] at hk
        simp only [List.getElem_map, List.getElem_range]
        exact (hLf k hk).1
      · obtain ⟨i, hi', rfl⟩ := List.mem_map.1 hp
        exact (hLf i (List.mem_range.1 hi')).2.1
    · have h1 := hw ((((List.range len).map D).length + ((List.range (m - len)).map fun j => D (len + j)).length) * Try.prog.bytesOf 24) (by rw [hx]; simp [DataW.weights, Try.underlying26])
      rw [bytes24] at h1
      simp at h1
      rw [hlen]
      omega
    · obtain ⟨i, hi', rfl⟩ := List.mem_map.1 hp
      rw [List.mem_range] at hi'
      refine (hLf i hi').2.2 fun n hn => hw n ?_
      rw [hx]
      simp only [DataW.weights, Try.underlying26, List.mem_cons, List.mem_append]
      exact .inr (.inl (weightsAll_mem (List.mem_map.2 ⟨i, List.mem_range.2 hi', rfl⟩) hn))
end Go.Proofs.Ytpoefcpgcojppaa
