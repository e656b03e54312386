/- The closes, as they are gone through: clock.Closes, the reference's list. -/
import Derived.Test.YtdkdklaoljmpgaaC
import Derived.RangeFuncBox
import Derived.RangeFuncNested
import Derived.RangeFuncLeaves
import Derived.Shelf.Abstract
import Derived.OwnWalkIn
import Derived.TacticsInMore
import Derived.LoopNIn
import Derived.LoopIn
import Derived.Maps.AppendAt
namespace Go.Proofs.Ytdkdklaoljmpgaa
open Go.ChangeShapes Go.WideShapes Go.ChangeAt Go.RowKit Go.Shelf

attribute [local go_sem] Oper.semAt_some

/-- the first k of numbers that begin at a, each s above the one ahead -/
def stp (a s : Int) (k : Nat) : List Int := (List.range k).map fun i : Nat => a + (i : Int) * s
theorem stp_len (a s : Int) (k : Nat) : (stp a s k).length = k := by simp [stp]
theorem stp_succ (a s : Int) (k : Nat) : stp a s (k + 1) = stp a s k ++ [a + (k : Int) * s] := by simp [stp, List.range_succ]
theorem stp_get (a s : Int) (k i : Nat) (h : i < (stp a s k).length) : (stp a s k)[i] = a + (i : Int) * s := by simp [stp]
theorem stp_take (a s : Int) {k n : Nat} (h : k ≤ n) : (stp a s n).take k = stp a s k := by
  simp [stp, ← List.map_take, List.take_range, Nat.min_eq_left h]
theorem stp_pre (a s : Int) {k n : Nat} (h : k ≤ n) : stp a s k <+: stp a s n := by rw [← stp_take a s h]; exact List.take_prefix _ _

theorem box0 (w : World) (v : Value) (t : TypeId) : (w.alloc (.cells #[v] t)).cell? ⟨w.heap.size, 0, none⟩ = some v := by simp
theorem bcell {W w1 : World} (hb : Below W.heap.size W w1) : (∀ b o, b < W.heap.size → w1.cell? ⟨b, o, none⟩ = W.cell? ⟨b, o, none⟩) ∧ (∀ b o, b < W.heap.size → w1.frozen? ⟨b, o, none⟩ = W.frozen? ⟨b, o, none⟩) :=
  ⟨fun b o h => hb.cell (p := ⟨b, o, none⟩) h, fun b o h => hb.frozen (p := ⟨b, o, none⟩) h⟩

set_option maxRecDepth 100000 in
set_option maxHeartbeats 1000000 in
theorem closes1_in (F : Fence) (n : Nat) (h32 : F.fn 32) (hro : F.round = none) (hn : 1 ≤ n) (l bn bf bs : Nat) (Kp : World → World → Prop) (a s : Int) (N : Nat) (J Jx : List Int → World → Prop)
    (hN : N ≤ 1099511627776) (hKf : ∀ A B : World, Kp A B → B.cell? ⟨bf, 0, none⟩ = A.cell? ⟨bf, 0, none⟩) (hKs : ∀ A B : World, Kp A B → B.cell? ⟨bs, 0, none⟩ = A.cell? ⟨bs, 0, none⟩)
    (hb : ∀ i : Nat, i < N → 0 ≤ (i : Int) * s ∧ (i : Int) * s ≤ 1099511627776 ∧ 0 ≤ a ∧ a ≤ 1099511627776)
    (hY : ∀ pre x W, J pre W → pre.length < (stp a s N).length → YieldAt F (n - 1) Try.prog l #[.int .i64 x] W fun e W' =>
      (e = .returned (.bool true) ∧ J (pre ++ [x]) W' ∧ Kp W W') ∨ (e = .returned (.bool false) ∧ Jx (pre ++ [x]) W'))
    (W : World) (cn : W.cell? ⟨bn, 0, none⟩ = some (.int .i64 N)) (cf : W.cell? ⟨bf, 0, none⟩ = some (.int .i64 a)) (cs : W.cell? ⟨bs, 0, none⟩ = some (.int .i64 s)) (h0 : J [] W) :
    CallsIn F n Try.prog 32 #[.func (.yield l) #[] #[], .pointer (some ⟨bn, 0, none⟩), .pointer (some ⟨bf, 0, none⟩), .pointer (some ⟨bs, 0, none⟩)] W fun e W' => (∃ v, e = .returned v) ∧
      ((∃ ys, ys = stp a s N ∧ J ys W') ∨ (∃ pre, pre <+: stp a s N ∧ Jx pre W')) := by
  have HB := Lib.hid hb
  have HY := Lib.hid hY
  have HKf := Lib.hid hKf
  have HKs := Lib.hid hKs
  clear hb hY hKf hKs
  refine callsIn_of_wp Try.func32 rfl h32 ?_ hro
  simp only [Try.ntmps32, List.size_toArray, List.length_cons, List.length_nil, Nat.reduceAdd, Nat.reduceSub, Array.replicate_succ, Array.replicate_zero, List.push_toArray, List.append_toArray, List.nil_append, List.cons_append]
  gi_wp2
  gi_loopw [7] (fun c wr => ∃ k : Nat, k ≤ N ∧ c = .int .i64 k ∧ wr.cell? ⟨bf, 0, none⟩ = some (.int .i64 a) ∧ wr.cell? ⟨bs, 0, none⟩ = some (.int .i64 s) ∧ J (stp a s k) wr) (fun c _ => N - (intOf c).toNat)
  case atStart =>
    exact ⟨0, Nat.zero_le _, rfl, cf, cs, h0⟩
  case round =>
    obtain ⟨k, hk, rfl, cf', cs', hJs⟩ := hrel
    by_cases hlt : k < N
    · obtain ⟨m1, m2, m3, m4⟩ := HB.out k hlt
      obtain ⟨fn, tmps, assign, body, hy, hR⟩ := HY.out (stp a s k) (a + (k : Int) * s) wr hJs (by rw [stp_len, stp_len]; exact hlt)
      gi_wp2
      refine hR.mono ?_
      rintro e W3 (⟨rfl, hJ3, hk3⟩ | ⟨rfl, hJx3⟩)
      · have cf3 := (HKf.out _ _ hk3).trans cf'
        have cs3 := (HKs.out _ _ hk3).trans cs'
        gi_wp2
        go_roundw
        case rel => exact ⟨k + 1, by omega, by go_num, cf3, cs3, by rw [stp_succ]; exact hJ3⟩
        case measure => simp [intOf]; omega
      · gi_wp2
        refine bodyPost_ret (results_none rfl _ _ _) rfl ?_
        exact ⟨⟨_, rfl⟩, .inr ⟨_, by rw [← stp_succ]; exact stp_pre a s (by omega), hJx3⟩⟩
    · have : k = N := by omega
      subst this
      gi_wp2
      go_end0
      exact ⟨⟨_, rfl⟩, .inl ⟨_, rfl, hJs⟩⟩

/-- what Closes hands back: a closure over three variables -/
def Cls (f t s : Int) (w : World) (e : Ending) (w' : World) : Prop :=
  ∃ bn bf bs : Nat, e = .returned (.func (.func 32) #[] #[.pointer (some ⟨bn, 0, none⟩), .pointer (some ⟨bf, 0, none⟩), .pointer (some ⟨bs, 0, none⟩)]) ∧
    (w.heap.size ≤ bn ∧ bn < w'.heap.size) ∧ (w.heap.size ≤ bf ∧ bf < w'.heap.size) ∧ (w.heap.size ≤ bs ∧ bs < w'.heap.size) ∧ w'.cell? ⟨bn, 0, none⟩ = some (.int .i64 (countV f t s).1) ∧ w'.cell? ⟨bf, 0, none⟩ = some (.int .i64 (nextV f s).1) ∧
    w'.cell? ⟨bs, 0, none⟩ = some (.int .i64 s) ∧ Below w.heap.size w w'

theorem closes_any (f t s : Int) (w : World) : Calls Try.prog 31 #[.int .i64 f, .int .i64 t, .int .i64 s] w (Cls f t s w) := by
  go_enter Try.func31, Try.ntmps31
  go_wp2_with fail
  refine (count_any f t s _).mono ?_
  rintro e w1 ⟨rfl, hb1⟩
  have hz1 : w.heap.size < w1.heap.size := by have := hb1.size; simp at this; omega
  have hc1 := (hb1.cell (p := ⟨w.heap.size, 0, none⟩) (by simp)).trans (box0 w (.int .i64 s) 3)
  have hB1 : Below w.heap.size w w1 := ((Below.refl _ w).alloc (Nat.le_refl _) _).trans (hb1.mono (by simp))
  go_wp2_with fail
  refine (next_any f s _).mono ?_
  rintro e w2 ⟨rfl, hb2⟩
  have hz2 : w1.heap.size < w2.heap.size := by have := hb2.size; simp at this; omega
  have hc2 := (hb2.cell (p := ⟨w.heap.size, 0, none⟩) (by simp; omega)).trans ((World.cell?_alloc_lt (a := ⟨w.heap.size, 0, none⟩) _ _ (by simp; omega)).trans hc1)
  have hc3 := (hb2.cell (p := ⟨w1.heap.size, 0, none⟩) (by simp)).trans (box0 w1 (.int .i64 (countV f t s).1) 3)
  have hB2 : Below w.heap.size w w2 := (hB1.alloc (by omega) _).trans (hb2.mono (by simp; omega))
  go_wp2_with fail
  go_ret
  refine ⟨w1.heap.size, w2.heap.size, w.heap.size, rfl, by simp; omega, by simp; omega, by simp; omega, ?_, ?_, ?_, hB2.alloc (by omega) _⟩
  · exact (World.cell?_alloc_lt _ _ _ (by simp; omega)).trans hc3
  · exact box0 w2 (.int .i64 (nextV f s).1) 3
  · exact (World.cell?_alloc_lt _ _ _ (by simp; omega)).trans hc2
end Go.Proofs.Ytdkdklaoljmpgaa
