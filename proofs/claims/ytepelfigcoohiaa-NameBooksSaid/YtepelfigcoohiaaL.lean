/- What is gone through: the book's All, and the law's list of it. -/
import Derived.Test.YtepelfigcoohiaaJ
import Derived.RangeFuncBox
import Derived.RangeFuncNested
import Derived.RangeFuncLeaves
import Derived.Shelf.Abstract
import Derived.OwnWalkIn
import Derived.TacticsInMore
import Derived.LoopNIn
import Derived.LoopIn
namespace Go.Proofs.Ytepelfigcoohiaa
open Go.ChangeShapes Go.WideShapes Go.ChangeAt Go.RowKit Go.Maps Go.Shelf
set_option linter.unusedVariables false

attribute [local go_sem] Oper.semAt_some

/-- a text with its number, as values -/
def enc2 (x : ByteArray × Nat) : Array Value := #[.int .i64 x.2, .string x.1]

theorem zip_succ (L : List ByteArray) (k : Nat) (h : k < L.length) : L.zipIdx.take (k + 1) = L.zipIdx.take k ++ [(L[k], k)] := by
  rw [List.take_succ_eq_append_getElem (by simpa using h)]
  simp

set_option maxRecDepth 100000 in
set_option maxHeartbeats 1000000 in
theorem all1_in (n : Nat) (hn : 1 ≤ n) (l bb b m : Nat) (sv : Value) (L : List ByteArray) (Kp : World → World → Prop) (J Jx : List (ByteArray × Nat) → World → Prop) (hL : L.length ≤ 1000000)
    (hKp : ∀ A B : World, Kp A B → ∀ g, sv.ownBlock = some g → B.heap[g]? = A.heap[g]?) (hKt : ∀ {A B C : World}, Kp A B → Kp B C → Kp A C)
    (hY : ∀ pre x W, J pre W → pre.length < L.zipIdx.length → YieldAt Fence.wide (n - 1) Try.prog l (enc2 x) W fun e W' =>
      (e = .returned (.bool true) ∧ J (pre ++ [x]) W' ∧ Kp W W') ∨ (e = .returned (.bool false) ∧ Jx (pre ++ [x]) W'))
    (W : World) (hB : Bk W b m sv L) (cb : W.cell? ⟨bb, 0, none⟩ = some (.pointer (some ⟨b, 0, none⟩))) (h0 : J [] W) :
    CallsIn Fence.wide n Try.prog 40 #[.func (.yield l) #[] #[], .pointer (some ⟨bb, 0, none⟩)] W fun e W' => (∃ v, e = .returned v) ∧
      ((∃ ys, ys = L.zipIdx ∧ J ys W') ∨ (∃ pre, pre <+: L.zipIdx ∧ Jx pre W')) := by
  have HY := Lib.hid hY
  have HK := Lib.hid hKp
  have HB := Lib.hid hB
  obtain ⟨c0, c1, c2, f2⟩ := hB.cells
  obtain ⟨A, q, rfl, hsr⟩ := hB.sr
  have HSR := Lib.hid hsr
  clear hY hKp hB hsr
  refine callsIn_of_wp Try.func40 rfl trivial ?_ rfl
  simp only [Try.ntmps40, List.size_toArray, List.length_cons, List.length_nil, Nat.reduceAdd, Nat.reduceSub, Array.replicate_succ, Array.replicate_zero, List.push_toArray, List.append_toArray, List.nil_append, List.cons_append]
  gi_wp2
  refine ⟨trivial, ?_⟩
  refine (callsIn_wide.2 (made_yes HB.out)).mono ?_
  rintro e w' ⟨rfl, rfl⟩
  gi_wp2
  gi_loopw [13] (fun c wr => ∃ k : Nat, k ≤ L.length ∧ c = .int .i64 k ∧ (∀ g, (Value.slice A L.length q).ownBlock = some g → wr.heap[g]? = W.heap[g]?) ∧ J (L.zipIdx.take k) wr) (fun c _ => L.length - (intOf c).toNat)
  case atStart =>
    exact ⟨0, Nat.zero_le _, rfl, fun _ _ => rfl, h0⟩
  case round =>
    obtain ⟨k, hk, rfl, hrow, hJs⟩ := hrel
    have HROW := Lib.hid hrow
    clear hrow
    by_cases hlt : k < L.length
    · obtain ⟨ad, rfl, hg, hc⟩ := HSR.out (by omega)
      have hck : wr.cell? (ad.add k) = some (.string L[k]) := (World.cell?_of_block (a := ad.add k) (by rw [block_add]; exact HROW.out _ rfl)).trans (hc k hlt)
      have hzs := zip_succ L k hlt
      obtain ⟨s, hs⟩ : ∃ s, L[k] = s := ⟨_, rfl⟩
      rw [hs] at hck hzs
      have HZS := Lib.hid hzs
      clear hc hzs hs
      obtain ⟨fn, tmps, assign, body, hy, hR⟩ := HY.out (L.zipIdx.take k) (s, k) wr hJs (by simp; omega)
      simp only [enc2] at hy
      gi_wp2
      refine hR.mono ?_
      rintro e W3 (⟨rfl, hJ3, hk3⟩ | ⟨rfl, hJx3⟩)
      · have hr3 := Lib.hid (fun g hg => (HK.out _ _ hk3 g hg).trans (HROW.out g hg))
        gi_wp2
        go_roundw
        case rel => exact ⟨k + 1, by omega, by go_num, hr3.out, by rw [HZS.out]; exact hJ3⟩
        case measure => simp [intOf]; omega
      · gi_wp2
        refine bodyPost_ret (results_none rfl _ _ _) rfl ?_
        exact ⟨⟨_, rfl⟩, .inr ⟨_, by rw [← HZS.out]; exact List.take_prefix _ _, hJx3⟩⟩
    · obtain rfl : k = L.length := by omega
      gi_wp2
      go_end0
      rw [List.take_of_length_le (by simp)] at hJs
      exact ⟨⟨_, rfl⟩, .inl ⟨_, rfl, hJs⟩⟩
end Go.Proofs.Ytepelfigcoohiaa
