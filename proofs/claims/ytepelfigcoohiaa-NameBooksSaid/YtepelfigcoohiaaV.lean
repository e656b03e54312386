/- Rows that are written over. -/
import Derived.Test.YtepelfigcoohiaaU
namespace Go.Proofs.Ytepelfigcoohiaa
open Go.ChangeShapes Go.WideShapes Go.ChangeAt Go.RowKit Go.Maps Go.Shelf
set_option linter.unusedVariables false

theorem set_blk {w : World} {g k c t : Nat} {cur : Array Value} (h : w.heap[g]? = some (.cells cur t (0, 0))) (hc : cur.size = c) (v : Value) : ∃ cur' : Array Value, cur'.size = c ∧ (w.setCell ⟨g, k, none⟩ v).heap[g]? = some (.cells cur' t (0, 0)) :=
  ⟨cur.setIfInBounds k v, by simpa using hc, by simp [World.setCell, Array.getElem?_modify, h]⟩

def OverR (g : Nat) (w : World) (e : Ending) (w' : World) : Prop := e = .returned (.tuple #[]) ∧ Keep (fun k => k ≠ g) w w'

set_option maxHeartbeats 1000000 in
theorem overT_any (g n c : Nat) (cur : Array Value) (w : World) (hg : w.heap[g]? = some (.cells cur 9 (0, 0))) (hc : cur.size = c) (hnc : n + 12 ≤ c) (hn : n ≤ 900) (hcm : c ≤ maxLen) :
    Calls Try.prog 24 #[.slice (some ⟨g, 0, none⟩) n c] w (OverR g w) := by
  unfold maxLen at hcm
  have HG := Lib.hid hg
  have HC := Lib.hid hc
  clear hg hc
  obtain ⟨q, hq⟩ : ∃ q, q = n + 12 := ⟨_, rfl⟩
  have HQ := Lib.hid hq
  have hmin : min (c : Int) ((n : Int) + 12) = (q : Int) := by rw [Int.min_eq_right (by omega)]; omega
  have hqc : q ≤ c := by omega
  have hq9 : q ≤ 912 := by omega
  clear hq
  go_enter Try.func24, Try.ntmps24
  go_wp2_with fail
  clear hmin
  go_loopw [3] (fun i wr => ∃ k : Nat, k ≤ q ∧ i = .int .i64 k ∧ Keep (fun k => k ≠ g) w wr ∧ ∃ cur' : Array Value, cur'.size = c ∧ wr.heap[g]? = some (.cells cur' 9 (0, 0))) (fun i _ => q - (intOf i).toNat)
  case atStart => exact ⟨0, Nat.zero_le _, rfl, Keep.refl _ _, cur, HC.out, HG.out⟩
  case round =>
    obtain ⟨k, hk, rfl, hkp, cur', hcs, hcur⟩ := hrel
    have HKP := Lib.hid hkp
    have HCS := Lib.hid hcs
    have HCUR := Lib.hid hcur
    clear hkp hcs hcur
    by_cases hlt : k < q
    · go_wp2_with fail
      refine (markText_any 2 k _ (by omega) (by omega) (by omega) (by omega)).mono ?_
      rintro e w2 ⟨rfl, hb2⟩
      have hgl := (Array.getElem?_eq_some_iff.1 HCUR.out).1
      have h2 := (hb2.block g hgl).trans HCUR.out
      have HB2 := Lib.hid hb2
      have H2 := Lib.hid h2
      obtain ⟨y, gk⟩ : ∃ y, w2.cell? ⟨g, k, none⟩ = some y := ⟨cur'[k]'(by rw [HCS.out]; omega), by rw [cell_of_row w2 g k cur' 9 (0, 0) h2]; simp⟩
      have gf : w2.frozen? ⟨g, k, none⟩ = false := by simp [World.frozen?, h2]
      obtain ⟨t, ht⟩ : ∃ t, mT 2 (k : Int) = t := ⟨_, rfl⟩
      rw [ht]
      clear hb2 h2 ht
      go_wp2_with fail
      go_roundw
      case rel => exact ⟨k + 1, by omega, by go_num, (HKP.out.trans (q := fun _ => True) (Keep.of_below HB2.out) fun _ _ _ => trivial).setCell _ _ fun k hk hp => hp, set_blk H2.out HCS.out _⟩
      case measure => simp [intOf]; omega
    · obtain rfl : k = q := by omega
      go_wp2_with fail
      go_end0
      exact ⟨rfl, HKP.out⟩

set_option maxHeartbeats 1000000 in
theorem overI_nil (w : World) : Calls Try.prog 25 #[.slice none 0 0] w fun e w' => e = .returned (.tuple #[]) ∧ Keep (fun _ => True) w w' := by
  go_enter Try.func25, Try.ntmps25
  go_wp2_with fail
  refine wp_loop_rounds 1 ?_
  rw [rounds_succ]
  go_wp2_with fail
  go_end0
  exact ⟨rfl, Keep.refl _ _⟩

set_option maxHeartbeats 1000000 in
theorem overI_any (g n c : Nat) (cur : Array Value) (w : World) (hg : w.heap[g]? = some (.cells cur 3 (0, 0))) (hc : cur.size = c) (hnc : n ≤ c) (hn : n ≤ 900) (hcm : c ≤ maxLen) :
    Calls Try.prog 25 #[.slice (some ⟨g, 0, none⟩) n c] w (OverR g w) := by
  unfold maxLen at hcm
  have HG := Lib.hid hg
  have HC := Lib.hid hc
  clear hg hc
  obtain ⟨q, hq⟩ : ∃ q, q = min c (n + 12) := ⟨_, rfl⟩
  have hmin : min (c : Int) ((n : Int) + 12) = (q : Int) := by omega
  have hqc : q ≤ c := by omega
  have hq9 : q ≤ 912 := by omega
  clear hq
  go_enter Try.func25, Try.ntmps25
  go_wp2_with fail
  clear hmin
  go_loopw [3] (fun i wr => ∃ k : Nat, k ≤ q ∧ i = .int .i64 k ∧ Keep (fun k => k ≠ g) w wr ∧ ∃ cur' : Array Value, cur'.size = c ∧ wr.heap[g]? = some (.cells cur' 3 (0, 0))) (fun i _ => q - (intOf i).toNat)
  case atStart => exact ⟨0, Nat.zero_le _, rfl, Keep.refl _ _, cur, HC.out, HG.out⟩
  case round =>
    obtain ⟨k, hk, rfl, hkp, cur', hcs, hcur⟩ := hrel
    have HKP := Lib.hid hkp
    have HCS := Lib.hid hcs
    have HCUR := Lib.hid hcur
    clear hkp hcs
    by_cases hlt : k < q
    · obtain ⟨y, gk⟩ : ∃ y, wr.cell? ⟨g, k, none⟩ = some y := ⟨cur'[k]'(by rw [HCS.out]; omega), by rw [cell_of_row wr g k cur' 3 (0, 0) hcur]; simp⟩
      have gf : wr.frozen? ⟨g, k, none⟩ = false := by simp [World.frozen?, hcur]
      clear hcur
      go_wp2_with fail
      refine (mark_any 2 k _).mono ?_
      rintro e w2 ⟨⟨x, rfl⟩, rfl⟩
      go_wp2_with fail
      go_roundw
      case rel => exact ⟨k + 1, by omega, by go_num, HKP.out.setCell _ _ fun k hk hp => hp, set_blk HCUR.out HCS.out _⟩
      case measure => simp [intOf]; omega
    · obtain rfl : k = q := by omega
      clear hcur
      go_wp2_with fail
      go_end0
      exact ⟨rfl, HKP.out⟩

/-- the numbers that were told are written over: their own row alone turns -/
theorem overI_own {w : World} {base n : Nat} {v : Value} {xs : List Value} (h : w.ownsRow base 3 1 v n xs) (hn : n ≤ 900) :
    Calls Try.prog 25 #[v] w fun e w' => e = .returned (.tuple #[]) ∧ Keep (fun k => v.ownBlock ≠ some k) w w' := by
  rcases h.2 with ⟨rfl, rfl⟩ | ⟨g, cap, cur, rfl, _, hh, hnc, hcm, hcs, _⟩
  · exact (overI_nil w).mono fun e w' ⟨he, hk⟩ => ⟨he, hk.mono fun _ _ _ => trivial⟩
  · exact (overI_any g n cap cur w hh (by simpa using hcs) hnc hn hcm).mono fun e w' ⟨he, hk⟩ => ⟨he, hk.mono fun k _ hp e => hp (by simp [Value.ownBlock, e])⟩
end Go.Proofs.Ytepelfigcoohiaa
